/-
  alt of the specification. Nothing is assumed.
-/
import Derived.Test.YtlonddlemlkhoaaDoorRfD
namespace Go.Proofs.YtlonddlemlkhoaaDoor

section
open Go.RowKit

theorem rinfoTree : (Tryd.prog.info? 33).map (fun i => (i.zero, i.size, i.bytes)) = some (some (.agg #[.int .i64 0, .int .u64 0, .int .u64 0, .int .u64 0, .int .u64 0, .slice none 0 0]), 6, 64) := by kernel_rfl
/-- The slice value holds the list, in blocks from base on; its own row can be appended to. -/
def AccR (w : World) (base : Nat) (sl : Value) (l : List PT) : Prop :=
  ∃ ps : List (PT × Value), ps.map (·.1) = l ∧ w.ownsRow base 33 6 sl ps.length (flatP ps) ∧ ∀ p, p ∈ ps → HT w (Off base w.heap.size sl.ownBlock) p.2 p.1.l
theorem AccR.nil (w : World) (base : Nat) : AccR w base (.slice none 0 0) [] := ⟨[], rfl, ⟨rfl, .inl ⟨rfl, rfl⟩⟩, fun p hp => by cases hp⟩
theorem AccR.form {w : World} {base : Nat} {sl : Value} {l : List PT} (h : AccR w base sl l) : ∃ oc cc, sl = .slice oc l.length cc := by
  obtain ⟨ps, rfl, ho, -⟩ := h
  rw [List.length_map]
  rcases ho.2 with ⟨h1, h2⟩ | ⟨g, cap, cur, h1, _⟩
  · exact ⟨none, 0, by rw [h1, h2]⟩
  · exact ⟨_, _, h1⟩
theorem AccR.kp {w w' : World} {base N : Nat} {sl : Value} {l : List PT} {X : Nat → Prop} (h : AccR w base sl l) (hk : Kp N X w w') (hN : w.heap.size ≤ N) (hX : ∀ k, base ≤ k → ¬ X k) : AccR w' base sl l := by
  obtain ⟨ps, hp, ho, hr⟩ := h
  refine ⟨ps, hp, owns_kp ho hk hN hX, fun p hp => (hr p hp).later (fun b hb => ⟨⟨hb.1.1, Nat.lt_of_lt_of_le hb.1.2 hk.size⟩, hb.2⟩) fun b hb o => hk.cell (p := ⟨b, o, none⟩) (Nat.lt_of_lt_of_le hb.1.2 hN) (hX b hb.1.1)⟩
theorem AccR.alloc {w : World} {base : Nat} {sl : Value} {l : List PT} (h : AccR w base sl l) (o : Obj) : AccR (w.alloc o) base sl l := h.kp (X := fun _ => False) (.of (below1 w o) (Nat.le_refl _)) (Nat.le_refl _) fun _ _ h => h
theorem AccR.drewN {w : World} {base : Nat} {sl : Value} {l : List PT} (h : AccR w base sl l) (m : Nat) : AccR (w.drewN m) base sl l := h.kp (X := fun _ => False) ((Kp.refl w.heap.size _ w).drewN m) (Nat.le_refl _) fun _ _ h => h
theorem AccR.repS {w : World} {base : Nat} {sl : Value} {l : List PT} (h : AccR w base sl l) (hm : l.length ≤ 1000000) : HT w (Btw base w.heap.size) sl l := by
  obtain ⟨ps, rfl, ho, hr⟩ := h
  rw [List.length_map] at hm
  exact HT.of_owns ho (fun p hp => (hr p hp).later (fun b hb => hb.1) fun _ _ _ => rfl) (by omega) (fun g h1 h2 => ⟨h1, h2⟩)
/-- One element more. -/
theorem AccR.snoc {w w1 : World} {base e g cap : Nat} {sl slv : Value} {v : PT} {ps : List (PT × Value)} {H : Nat} (_ho : w.ownsRow base e 6 sl ps.length (flatP ps)) (hr : ∀ p, p ∈ ps → HT w (Off base w.heap.size sl.ownBlock) p.2 p.1.l)
    (hv : HT w (Btw H w.heap.size) slv v.l) (hH : base ≤ H) (hlt : ∀ q, sl.ownBlock = some q → q < H)
    (hown : w1.ownsRow base 33 6 (.slice (some ⟨g, 0, none⟩) (ps.length + 1) cap) (ps.length + 1) (flatP ps ++ v.cs slv)) (hg : w.grownBy w1 sl.ownBlock) (hat : sl.ownBlock = some g ∨ g = w.heap.size) (_hgl : g < w1.heap.size) :
    AccR w1 base (.slice (some ⟨g, 0, none⟩) (ps.length + 1) cap) (ps.map (·.1) ++ [v]) := by
  have hs := hg.size
  refine ⟨ps ++ [(v, slv)], by simp, ?_, fun p hp => ?_⟩
  · rw [List.length_append, flatP_snoc]
    exact hown
  · rcases List.mem_append.1 hp with hp | hp
    · refine (hr p hp).later (fun q hq => ⟨⟨hq.1.1, Nat.lt_of_lt_of_le hq.1.2 hs⟩, ?_⟩) (fun q hq o => hg.cell_far ⟨q, o, none⟩ hq.1.2 (Ne.symm hq.2))
      simp only [Value.ownBlock, ne_eq, Option.some.injEq]
      rintro rfl
      rcases hat with h | h
      · exact hq.2 h
      · have := hq.1.2; omega
    · obtain rfl := List.mem_singleton.1 hp
      refine hv.later (fun q hq => ⟨⟨Nat.le_trans hH hq.1, Nat.lt_of_lt_of_le hq.2 hs⟩, ?_⟩) (fun q hq o => hg.cell_far ⟨q, o, none⟩ hq.2 (fun e => by have := hlt q e.symm; have := hq.1; omega))
      simp only [Value.ownBlock, ne_eq, Option.some.injEq]
      rintro rfl
      rcases hat with h | h
      · have := hlt _ h; have := hq.1; omega
      · have := hq.2; omega
end

section
open Go.RowKit

set_option maxRecDepth 100000 in
set_option maxHeartbeats 6400000 in
theorem rAlt_any (s : ByteArray) (one : Nat → PR PT) (d i : Nat) (hi : i ≤ s.size) (hs : s.size ≤ 100) (hd : s.size < i + (d + 1)) (hgd : Good s.data.toList one) (hone : ∀ (w' : World) (j : Nat), j ≤ s.size → s.size < j + (d + 1) → Calls Tryd.prog 58 #[.string s, .int .i64 (j : Int)] w' (OutR w' (one j))) (w : World) :
    Calls Tryd.prog 29 #[.string s, .int .i64 (i : Int)] w (OutR w ((sevL (one) (sepP s.data.toList) (s.data.toList.length + 1) [] i).map (joinT 5))) := by
  obtain ⟨i0, hi0, hz0, hz1, hz2⟩ := info_parts rinfoTree
  obtain ⟨RES, hRES⟩ : ∃ RES, RES = (sevL one (sepP s.data.toList) (s.data.toList.length + 1) [] i).map (joinT 5) := ⟨_, rfl⟩
  rw [← hRES]
  rw [sevL, if_pos (show ([] : List PT).length = 0 from rfl), lt_len] at hRES
  have HE0 := Lib.hid hRES
  obtain ⟨w1, hw1⟩ : ∃ w1, w1 = w.alloc (.cells #[.int .i64 0, .int .u64 0, .int .u64 0, .int .u64 0, .int .u64 0, .slice none 0 0] 33) := ⟨_, rfl⟩
  have HW1 := Lib.hid hw1
  have hs1 : w1.heap.size = w.heap.size + 1 := by rw [hw1]; simp
  have hb1 : Below w.heap.size w w1 := by rw [hw1]; exact below1 _ _
  have HZ1 : Hid (Z6 w1 w.heap.size) := Lib.hid (by rw [hw1]; exact Box6.new _ _ _ _ _ _ _ rfl)
  have HB1 := Lib.hid hb1
  have HGD := Lib.hid hgd
  have HONE := Lib.hid hone
  clear hw1 hb1 hgd hone hRES
  go_enter Tryd.func29, Tryd.ntmps29
  go_wp2_with fail
  rw [← HW1.out]
  go_loopw [1, 7] (fun v1 v7 wr => ∃ (acc : List PT) (oc : Option Addr) (cc ii g : Nat), v1 = .int .i64 (ii : Int) ∧ v7 = .slice oc acc.length cc ∧ ii ≤ s.size ∧ i ≤ ii ∧ s.size ≤ ii + g ∧ acc.length + i ≤ ii ∧ Hid (AccR wr (w.heap.size + 1) (.slice oc acc.length cc) acc) ∧ Hid (Z6 wr w.heap.size) ∧ Hid (Below w.heap.size w wr) ∧ w.heap.size + 1 ≤ wr.heap.size ∧ Hid (RES = ((one ii).bind fun t m => sevL one (sepP s.data.toList) g (acc ++ [t]) m).map (joinT 5))) (fun v1 _ _ => s.size + 1 - (intOf v1).toNat)
  case atStart => exact ⟨[], none, 0, i, s.size, rfl, rfl, hi, Nat.le_refl _, by omega, by simp, Lib.hid (AccR.nil _ _), HZ1, HB1, by omega, HE0⟩
  case round =>
    obtain ⟨acc, oc, cc, ii, g, rfl, rfl, hii, hi0i, hfu, hai, HAc, HZ, HB, hwr, HE⟩ := hrel
    clear HZ1 HB1 HE0
    have HC := Lib.hid (HONE.out wr ii hii (by omega))
    have hg := (HGD.out ii (by rw [lt_len]; exact hii)).1
    cases hq : one ii with
    | bad m =>
      rw [hq] at HC HE
      have HF : Hid (RES = .bad m) := Lib.hid HE.out
      clear HE hq hg HAc
      go_wp2_with fail
      refine HC.out.mono ?_
      rintro e w4 ⟨rfl, hb4⟩
      have hz5 := (HZ.out.later hb4 (by omega)).later (below1 w4 (.cells #[.int .i64 0, .int .u64 0, .int .u64 0, .int .u64 0, .int .u64 0, .slice none 0 0] 33)) (by have := hb4.size; omega)
      have hs4 := hb4.size
      have HB5 := Lib.hid ((HB.out.trans (hb4.mono (by omega))).trans ((below1 w4 (.cells #[.int .i64 0, .int .u64 0, .int .u64 0, .int .u64 0, .int .u64 0, .slice none 0 0] 33)).mono (by omega)))
      obtain ⟨z0, z1, z2, z3, z4, z5, zf⟩ := hz5
      clear hb4
      unfold zeroR
      go_wp2_with fail
      refine bodyPost_ret (v := .tuple #[zeroR, .int .i64 ((m : Nat) : Int), .bool false]) (by simp [results, Tryd.results29, go_sem, zeroR, *]) rfl ?_
      rw [HF.out]
      exact ⟨rfl, below6 HB5.out (Nat.le_refl _) _ _ _ _ _ _⟩
    | ok t m =>
      rw [hq] at HC HE hg
      have him : ii < m ∧ m ≤ s.size := by have := hg; rw [lt_len] at this; exact this
      obtain ⟨g, rfl⟩ : ∃ g', g = g' + 1 := ⟨g - 1, by omega⟩
      have hne : (acc ++ [t]).length ≠ 0 := by simp
      have HE1 : Hid (RES = (match sepP s.data.toList m with | none => PR.ok (acc ++ [t]) m | some j => (one j).bind fun t' m' => sevL one (sepP s.data.toList) g (acc ++ [t] ++ [t']) m').map (joinT 5)) := Lib.hid (by
        have h := HE.out
        rw [show ((PR.ok t m : PR PT).bind fun t m => sevL one (sepP s.data.toList) (g + 1) (acc ++ [t]) m) = sevL one (sepP s.data.toList) (g + 1) (acc ++ [t]) m from rfl, sevL, if_neg hne] at h
        exact h)
      have HA3 := Lib.hid (rAt_any s m)
      have hwm : IntKind.i64.wrap ((m : Int) + 1) = ((m + 1 : Nat) : Int) := by rw [IntWalk.i64_in _ (by omega)]; omega
      clear HE hq hg hne
      unfold sepP at HE1
      by_cases h124 : pk s.data.toList m = 124
      · have h124b : (((pk s.data.toList m : Nat) : Int) != 124) = false := by rw [bne_eq_false_iff_eq]; omega
        have hm1 : m + 1 ≤ s.size := by have := pk_is h124 (by decide); rw [lt_len] at this; omega
        have HE2 : Hid (RES = ((one (m + 1)).bind fun t' m' => sevL one (sepP s.data.toList) g (acc ++ [t] ++ [t']) m').map (joinT 5)) := Lib.hid (by
          have h := HE1.out
          rw [if_pos h124] at h
          exact h)
        clear HE1 h124
        go_wp2_with fail
        refine HC.out.mono ?_
        rintro e w4 ⟨⟨oe, ce, rfl, hT⟩, hb4⟩
        clear HC
        have hs4 := hb4.size
        have hsz2 : ((w4.alloc (.cells #[.int .i64 t.k, .int .u64 t.s.a, .int .u64 t.s.b, .int .u64 t.s.c, .int .u64 t.s.d, (.slice oe t.l.length ce)] 33)).alloc (.cells #[.int .i64 t.k, .int .u64 t.s.a, .int .u64 t.s.b, .int .u64 t.s.c, .int .u64 t.s.d, (.slice oe t.l.length ce)] 33)).heap.size = w4.heap.size + 2 := by simp
        have HX : Hid (Below wr.heap.size wr ((w4.alloc (.cells #[.int .i64 t.k, .int .u64 t.s.a, .int .u64 t.s.b, .int .u64 t.s.c, .int .u64 t.s.d, (.slice oe t.l.length ce)] 33)).alloc (.cells #[.int .i64 t.k, .int .u64 t.s.a, .int .u64 t.s.b, .int .u64 t.s.c, .int .u64 t.s.d, (.slice oe t.l.length ce)] 33))) := Lib.hid (hb4.trans ((below2 w4 _ _).mono hs4))
        have HBX := Lib.hid (HB.out.trans (HX.out.mono (by omega)))
        have HZX := Lib.hid (HZ.out.later HX.out (by omega))
        have HNW : Hid (((w4.alloc (.cells #[.int .i64 t.k, .int .u64 t.s.a, .int .u64 t.s.b, .int .u64 t.s.c, .int .u64 t.s.d, (.slice oe t.l.length ce)] 33)).alloc (.cells #[.int .i64 t.k, .int .u64 t.s.a, .int .u64 t.s.b, .int .u64 t.s.c, .int .u64 t.s.d, (.slice oe t.l.length ce)] 33)).heap[w4.heap.size + 1]? = some (.cells #[.int .i64 t.k, .int .u64 t.s.a, .int .u64 t.s.b, .int .u64 t.s.c, .int .u64 t.s.d, (.slice oe t.l.length ce)] 33 (0, 0))) := Lib.hid (two_new' _ _ _)
        have HRp5 := Lib.hid ((hT.more (.cells #[.int .i64 t.k, .int .u64 t.s.a, .int .u64 t.s.b, .int .u64 t.s.c, .int .u64 t.s.d, (.slice oe t.l.length ce)] 33)).more (.cells #[.int .i64 t.k, .int .u64 t.s.a, .int .u64 t.s.b, .int .u64 t.s.c, .int .u64 t.s.d, (.slice oe t.l.length ce)] 33))
        clear hb4 hT
        unfold PT.val
        obtain ⟨ps, hps, ho4, hr4⟩ := HAc.out.kp (X := fun _ => False) (.of HX.out (Nat.le_refl _)) (Nat.le_refl _) (fun _ _ h => h)
        have hpl : ps.length = acc.length := by rw [← hps, List.length_map]
        have hol : ∀ q, (Value.slice oc acc.length cc).ownBlock = some q → q < wr.heap.size := fun q hq => by
          obtain ⟨ps', hps', ho', -⟩ := HAc.out
          exact (own_lt ho' q hq).2
        have hn1 : ps.length + 1 ≤ maxLen := by unfold maxLen; omega
        have hby : (ps.length + 1) * 64 ≤ 140737488355328 := by omega
        rw [← hpl] at ho4 hr4
        rw [← hpl] at *
        have HOL := Lib.hid hol
        have HO5 := Lib.hid (show (((w4.alloc (.cells #[.int .i64 t.k, .int .u64 t.s.a, .int .u64 t.s.b, .int .u64 t.s.c, .int .u64 t.s.d, (.slice oe t.l.length ce)] 33)).alloc (.cells #[.int .i64 t.k, .int .u64 t.s.a, .int .u64 t.s.b, .int .u64 t.s.c, .int .u64 t.s.d, (.slice oe t.l.length ce)] 33))).ownsRow (w.heap.size + 1) 33 6 (.slice oc ps.length cc) ps.length (flatP ps) from ho4)
        have HRs5 := Lib.hid hr4
        have hps2 : ps.map (·.1) = acc := hps
        clear ho4 hr4 hol HAc
        go_wp2_with (at_builtin; refine wpList_append_lies _ rfl _ _ _ rfl (w.heap.size + 1) 33 i0 _ 6 64 Tryd.underlying31 hi0 hz0 hz1 hz2 rfl (by omega) (.slice oc ps.length cc) ps.length (flatP ps) rfl HO5.out ⟨w4.heap.size + 1, 0, none⟩ 1 1 [.int .i64 t.k, .int .u64 t.s.a, .int .u64 t.s.b, .int .u64 t.s.c, .int .u64 t.s.d, (.slice oe t.l.length ce)] rfl rfl (World.news_of_block (cs := #[.int .i64 t.k, .int .u64 t.s.a, .int .u64 t.s.b, .int .u64 t.s.c, .int .u64 t.s.d, (.slice oe t.l.length ce)]) (t := 33) (fr := (0, 0)) HNW.out) (by simp [Value.oneCell']) (by omega) hn1 hby (by simp; omega) (w4.heap.size + 2) hsz2 ?_)
        intro gg cap2 w7 hown7 hgrow hat hgl
        have HA7 : Hid (AccR w7 (w.heap.size + 1) (.slice (some ⟨gg, 0, none⟩) (ps.length + 1) cap2) (acc ++ [t])) := Lib.hid (by
          rw [← hps2]
          exact AccR.snoc HO5.out HRs5.out HRp5.out (by omega) HOL.out hown7 hgrow (by rw [hsz2]; exact hat) hgl)
        have HK7 : Hid (Below w.heap.size w w7) := Lib.hid (HBX.out.trans ⟨hgrow.os, hgrow.tape, hgrow.output, hgrow.size, fun q hq => hgrow.block q (by rw [hsz2]; omega) (fun e => by have := (own_lt HO5.out q e.symm).1; omega)⟩)
        have HZ7 : Hid (Z6 w7 w.heap.size) := Lib.hid (Box6.of_block HZX.out (hgrow.block w.heap.size (by rw [hsz2]; omega) (fun e => by have := (own_lt HO5.out w.heap.size e.symm).1; omega)))
        have hw7 : w.heap.size + 1 ≤ w7.heap.size := by have := hgrow.size; rw [hsz2] at this; omega
        clear hown7 hgrow hat hgl HO5 HRs5 HRp5 HX HBX HZX HNW HOL
        have hpl2 : acc.length = ps.length := by rw [← hps2, List.length_map]
        have HPL2 := Lib.hid hpl2
        clear hpl2 hps2
        go_wp2_with fail
        refine (HA3.out w7).mono ?_
        rintro e w9 ⟨rfl, h9⟩; subst w9
        go_wp2_with fail
        have hpl2 := HPL2.out
        go_roundw
        case measure => simp [intOf]; omega
        case rel => exact ⟨acc ++ [t], some ⟨gg, 0, none⟩, cap2, m + 1, g, by first | rfl | go_num, by rw [List.length_append, hpl2]; rfl, hm1, by omega, by omega, by rw [List.length_append, hpl2]; show ps.length + 1 + i ≤ m + 1; omega, by rw [List.length_append, hpl2]; exact HA7, HZ7, HK7, hw7, HE2⟩
      · have h124b : (((pk s.data.toList m : Nat) : Int) != 124) = true := by rw [bne_iff_ne]; omega
        have HN : Hid (RES = .ok (joinT 5 (acc ++ [t])) m) := Lib.hid (by
          have h := HE1.out
          rw [if_neg h124] at h
          exact h)
        clear HE1 h124
        go_wp2_with fail
        refine HC.out.mono ?_
        rintro e w4 ⟨⟨oe, ce, rfl, hT⟩, hb4⟩
        clear HC
        have hs4 := hb4.size
        have hsz2 : ((w4.alloc (.cells #[.int .i64 t.k, .int .u64 t.s.a, .int .u64 t.s.b, .int .u64 t.s.c, .int .u64 t.s.d, (.slice oe t.l.length ce)] 33)).alloc (.cells #[.int .i64 t.k, .int .u64 t.s.a, .int .u64 t.s.b, .int .u64 t.s.c, .int .u64 t.s.d, (.slice oe t.l.length ce)] 33)).heap.size = w4.heap.size + 2 := by simp
        have HX : Hid (Below wr.heap.size wr ((w4.alloc (.cells #[.int .i64 t.k, .int .u64 t.s.a, .int .u64 t.s.b, .int .u64 t.s.c, .int .u64 t.s.d, (.slice oe t.l.length ce)] 33)).alloc (.cells #[.int .i64 t.k, .int .u64 t.s.a, .int .u64 t.s.b, .int .u64 t.s.c, .int .u64 t.s.d, (.slice oe t.l.length ce)] 33))) := Lib.hid (hb4.trans ((below2 w4 _ _).mono hs4))
        have HBX := Lib.hid (HB.out.trans (HX.out.mono (by omega)))
        have HZX := Lib.hid (HZ.out.later HX.out (by omega))
        have HNW : Hid (((w4.alloc (.cells #[.int .i64 t.k, .int .u64 t.s.a, .int .u64 t.s.b, .int .u64 t.s.c, .int .u64 t.s.d, (.slice oe t.l.length ce)] 33)).alloc (.cells #[.int .i64 t.k, .int .u64 t.s.a, .int .u64 t.s.b, .int .u64 t.s.c, .int .u64 t.s.d, (.slice oe t.l.length ce)] 33)).heap[w4.heap.size + 1]? = some (.cells #[.int .i64 t.k, .int .u64 t.s.a, .int .u64 t.s.b, .int .u64 t.s.c, .int .u64 t.s.d, (.slice oe t.l.length ce)] 33 (0, 0))) := Lib.hid (two_new' _ _ _)
        have HRp5 := Lib.hid ((hT.more (.cells #[.int .i64 t.k, .int .u64 t.s.a, .int .u64 t.s.b, .int .u64 t.s.c, .int .u64 t.s.d, (.slice oe t.l.length ce)] 33)).more (.cells #[.int .i64 t.k, .int .u64 t.s.a, .int .u64 t.s.b, .int .u64 t.s.c, .int .u64 t.s.d, (.slice oe t.l.length ce)] 33))
        clear hb4 hT
        unfold PT.val
        obtain ⟨ps, hps, ho4, hr4⟩ := HAc.out.kp (X := fun _ => False) (.of HX.out (Nat.le_refl _)) (Nat.le_refl _) (fun _ _ h => h)
        have hpl : ps.length = acc.length := by rw [← hps, List.length_map]
        have hol : ∀ q, (Value.slice oc acc.length cc).ownBlock = some q → q < wr.heap.size := fun q hq => by
          obtain ⟨ps', hps', ho', -⟩ := HAc.out
          exact (own_lt ho' q hq).2
        have hn1 : ps.length + 1 ≤ maxLen := by unfold maxLen; omega
        have hby : (ps.length + 1) * 64 ≤ 140737488355328 := by omega
        rw [← hpl] at ho4 hr4
        rw [← hpl] at *
        have HOL := Lib.hid hol
        have HO5 := Lib.hid (show (((w4.alloc (.cells #[.int .i64 t.k, .int .u64 t.s.a, .int .u64 t.s.b, .int .u64 t.s.c, .int .u64 t.s.d, (.slice oe t.l.length ce)] 33)).alloc (.cells #[.int .i64 t.k, .int .u64 t.s.a, .int .u64 t.s.b, .int .u64 t.s.c, .int .u64 t.s.d, (.slice oe t.l.length ce)] 33))).ownsRow (w.heap.size + 1) 33 6 (.slice oc ps.length cc) ps.length (flatP ps) from ho4)
        have HRs5 := Lib.hid hr4
        have hps2 : ps.map (·.1) = acc := hps
        clear ho4 hr4 hol HAc
        go_wp2_with (at_builtin; refine wpList_append_lies _ rfl _ _ _ rfl (w.heap.size + 1) 33 i0 _ 6 64 Tryd.underlying31 hi0 hz0 hz1 hz2 rfl (by omega) (.slice oc ps.length cc) ps.length (flatP ps) rfl HO5.out ⟨w4.heap.size + 1, 0, none⟩ 1 1 [.int .i64 t.k, .int .u64 t.s.a, .int .u64 t.s.b, .int .u64 t.s.c, .int .u64 t.s.d, (.slice oe t.l.length ce)] rfl rfl (World.news_of_block (cs := #[.int .i64 t.k, .int .u64 t.s.a, .int .u64 t.s.b, .int .u64 t.s.c, .int .u64 t.s.d, (.slice oe t.l.length ce)]) (t := 33) (fr := (0, 0)) HNW.out) (by simp [Value.oneCell']) (by omega) hn1 hby (by simp; omega) (w4.heap.size + 2) hsz2 ?_)
        intro gg cap2 w7 hown7 hgrow hat hgl
        have HA7 : Hid (AccR w7 (w.heap.size + 1) (.slice (some ⟨gg, 0, none⟩) (ps.length + 1) cap2) (acc ++ [t])) := Lib.hid (by
          rw [← hps2]
          exact AccR.snoc HO5.out HRs5.out HRp5.out (by omega) HOL.out hown7 hgrow (by rw [hsz2]; exact hat) hgl)
        have HK7 : Hid (Below w.heap.size w w7) := Lib.hid (HBX.out.trans ⟨hgrow.os, hgrow.tape, hgrow.output, hgrow.size, fun q hq => hgrow.block q (by rw [hsz2]; omega) (fun e => by have := (own_lt HO5.out q e.symm).1; omega)⟩)
        have HZ7 : Hid (Z6 w7 w.heap.size) := Lib.hid (Box6.of_block HZX.out (hgrow.block w.heap.size (by rw [hsz2]; omega) (fun e => by have := (own_lt HO5.out w.heap.size e.symm).1; omega)))
        have hw7 : w.heap.size + 1 ≤ w7.heap.size := by have := hgrow.size; rw [hsz2] at this; omega
        clear hown7 hgrow hat hgl HO5 HRs5 HRp5 HX HBX HZX HNW HOL
        have hpl2 : acc.length = ps.length := by rw [← hps2, List.length_map]
        have HPL2 := Lib.hid hpl2
        clear hpl2 hps2
        go_wp2_with fail
        refine (HA3.out w7).mono ?_
        rintro e w9 ⟨rfl, h9⟩; subst w9
        by_cases hl1 : ps.length = 0
        · have hl1b : (((ps.length : Int) + 1) == 1) = true := by rw [beq_iff_eq]; omega
          obtain rfl : acc = [] := List.eq_nil_of_length_eq_zero (by have := HPL2.out; omega)
          have hht := HA7.out.repS (by simp)
          obtain ⟨gb, off, oe9, ce9, hgb0, hgb, hT9, c0, c1, c2, c3, c4, c5⟩ := hht.at_ (i := 0) (v := t) rfl
          cases hgb0
          have HT9 := Lib.hid hT9
          obtain ⟨z0, z1, z2, z3, z4, z5, zf⟩ := HZ7.out
          have hgb1 : w.heap.size + 1 ≤ gg := hgb.1
          simp only [Nat.zero_mul, Nat.zero_add] at c0 c1 c2 c3 c4 c5
          clear hht hT9 hgb
          go_wp2_with fail
          refine bodyPost_ret (v := .tuple #[t.val (.slice oe9 t.l.length ce9), .int .i64 (m : Int), .bool true]) (by simp [results, Tryd.results29, go_sem, PT.val, *]) rfl ?_
          rw [HN.out]
          exact ⟨⟨oe9, ce9, rfl, HT9.out.six (by omega) (by omega) _ _ _ _ _ _⟩, below6 HK7.out (Nat.le_refl _) _ _ _ _ _ _⟩
        · have hl1b : (((ps.length : Int) + 1) == 1) = false := by rw [beq_eq_false_iff_ne]; omega
          have hps9 : ps.length ≤ 100 := by have := HPL2.out; omega
          have HL2 : Hid ((acc ++ [t]).length = ps.length + 1) := Lib.hid (by rw [List.length_append, HPL2.out]; rfl)
          have hj : joinT 5 (acc ++ [t]) = .mk 5 .zero (acc ++ [t]) := by
            have h2 := HL2.out
            match hac : acc ++ [t] with
            | [] => rw [hac] at h2; simp at h2
            | [x] => rw [hac] at h2; simp at h2; exact absurd (by rw [h2]; rfl) hl1
            | _ :: _ :: _ => rfl
          have HN2 : Hid (RES = .ok (.mk 5 .zero (acc ++ [t])) m) := Lib.hid (by rw [HN.out, hj])
          have HT9 := Lib.hid (HA7.out.repS (by have := HL2.out; omega))
          obtain ⟨z0, z1, z2, z3, z4, z5, zf⟩ := HZ7.out
          clear HN hj HA7
          go_wp2_with fail
          refine bodyPost_ret (v := .tuple #[.agg #[.int .i64 5, .int .u64 0, .int .u64 0, .int .u64 0, .int .u64 0, .slice (some ⟨gg, 0, none⟩) (ps.length + 1) cap2], .int .i64 (m : Int), .bool true]) (by simp [results, Tryd.results29, go_sem, *]) rfl ?_
          rw [HN2.out]
          have h9 := HT9.out.six (n := w.heap.size) (lo' := w.heap.size) (by omega) (by omega) (.int .i64 5) (.int .u64 0) (.int .u64 0) (.int .u64 0) (.int .u64 0) (.slice (some ⟨gg, 0, none⟩) (ps.length + 1) cap2)
          refine ⟨⟨some ⟨gg, 0, none⟩, cap2, ?_, ?_⟩, below6 HK7.out (Nat.le_refl _) _ _ _ _ _ _⟩
          · show _ = Ending.returned (.tuple #[PT.val _ (.slice _ (acc ++ [t]).length cap2), _, _])
            rw [HL2.out]; rfl
          · show HT _ _ (.slice _ (acc ++ [t]).length cap2) (acc ++ [t])
            rw [HL2.out]; exact h9
end

end Go.Proofs.YtlonddlemlkhoaaDoor
