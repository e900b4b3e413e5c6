/-
  Parse of the specification. Nothing is assumed.
-/
import Derived.Test.YtaipaddfehpmgaaDoorRfD
namespace Go.Proofs.YtaipaddfehpmgaaDoor

section
section
open Go.RowKit

theorem rinfoTree : (Tryd.prog.info? 60).map (fun i => (i.zero, i.size, i.bytes)) = some (some (.agg #[.int .i64 0, .int .u64 0, .int .u64 0, .int .u64 0, .int .u64 0, .slice none 0 0]), 6, 64) := by kernel_rfl
/-- The slice value holds the list, in blocks from base on; its own row can be appended to. -/
def AccR (w : World) (base : Nat) (sl : Value) (l : List PT) : Prop :=
  ∃ ps : List (PT × Value), ps.map (·.1) = l ∧ w.ownsRow base 60 6 sl ps.length (flatP ps) ∧ ∀ p, p ∈ ps → HT w (Off base w.heap.size sl.ownBlock) p.2 p.1.l
theorem AccR.nil (w : World) (base : Nat) : AccR w base (.slice none 0 0) [] := ⟨[], rfl, ⟨rfl, .inl ⟨rfl, rfl⟩⟩, fun p hp => by cases hp⟩
theorem AccR.form {w : World} {base : Nat} {sl : Value} {l : List PT} (h : AccR w base sl l) : ∃ oc cc, sl = .slice oc l.length cc := by
  obtain ⟨ps, rfl, ho, -⟩ := h
  rw [List.length_map]
  rcases ho.2 with ⟨h1, h2⟩ | ⟨g, cap, cur, h1, _⟩
  · exact ⟨none, 0, by rw [h1, h2]⟩
  · exact ⟨_, _, h1⟩
theorem AccR.kp {w w' : World} {base N : Nat} {sl : Value} {l : List PT} {X : Nat → Prop} (h : AccR w base sl l) (hk : Kp N X w w') (hN : w.heap.size ≤ N) (hX : ∀ k, base ≤ k → ¬ X k) : AccR w' base sl l := by
  obtain ⟨ps, hp, ho, hr⟩ := h
  refine ⟨ps, hp, owns_kp ho hk hN hX, fun p hp => (hr p hp).later (fun b hb => ⟨⟨hb.1.1, Nat.lt_of_lt_of_le hb.1.2 hk.size⟩, hb.2⟩) fun b hb o => hk.cell (p := ⟨b, o, none⟩) (Nat.lt_of_lt_of_le hb.1.2 hN) (hX b hb.1.1)⟩
theorem AccR.alloc {w : World} {base : Nat} {sl : Value} {l : List PT} (h : AccR w base sl l) (o : Obj) : AccR (w.alloc o) base sl l := h.kp (X := fun _ => False) (.of (below1 w o) (Nat.le_refl _)) (Nat.le_refl _) fun _ _ h => h
theorem AccR.drewN {w : World} {base : Nat} {sl : Value} {l : List PT} (h : AccR w base sl l) (m : Nat) : AccR (w.drewN m) base sl l := h.kp (X := fun _ => False) ((Kp.refl w.heap.size _ w).drewN m) (Nat.le_refl _) fun _ _ h => h
theorem AccR.repS {w : World} {base : Nat} {sl : Value} {l : List PT} (h : AccR w base sl l) (hm : l.length ≤ 1000000) : HT w (Btw base w.heap.size) sl l := by
  obtain ⟨ps, rfl, ho, hr⟩ := h
  rw [List.length_map] at hm
  exact HT.of_owns ho (fun p hp => (hr p hp).later (fun b hb => hb.1) fun _ _ _ => rfl) (by omega) (fun g h1 h2 => ⟨h1, h2⟩)
/-- One element more. -/
theorem AccR.snoc {w w1 : World} {base e g cap : Nat} {sl slv : Value} {v : PT} {ps : List (PT × Value)} {H : Nat} (_ho : w.ownsRow base e 6 sl ps.length (flatP ps)) (hr : ∀ p, p ∈ ps → HT w (Off base w.heap.size sl.ownBlock) p.2 p.1.l)
    (hv : HT w (Btw H w.heap.size) slv v.l) (hH : base ≤ H) (hlt : ∀ q, sl.ownBlock = some q → q < H)
    (hown : w1.ownsRow base 60 6 (.slice (some ⟨g, 0, none⟩) (ps.length + 1) cap) (ps.length + 1) (flatP ps ++ v.cs slv)) (hg : w.grownBy w1 sl.ownBlock) (hat : sl.ownBlock = some g ∨ g = w.heap.size) (_hgl : g < w1.heap.size) :
    AccR w1 base (.slice (some ⟨g, 0, none⟩) (ps.length + 1) cap) (ps.map (·.1) ++ [v]) := by
  have hs := hg.size
  refine ⟨ps ++ [(v, slv)], by simp, ?_, fun p hp => ?_⟩
  · rw [List.length_append, flatP_snoc]
    exact hown
  · rcases List.mem_append.1 hp with hp | hp
    · refine (hr p hp).later (fun q hq => ⟨⟨hq.1.1, Nat.lt_of_lt_of_le hq.1.2 hs⟩, ?_⟩) (fun q hq o => hg.cell_far ⟨q, o, none⟩ hq.1.2 (Ne.symm hq.2))
      simp only [Value.ownBlock, ne_eq, Option.some.injEq]
      rintro rfl
      rcases hat with h | h
      · exact hq.2 h
      · have := hq.1.2; omega
    · obtain rfl := List.mem_singleton.1 hp
      refine hv.later (fun q hq => ⟨⟨Nat.le_trans hH hq.1, Nat.lt_of_lt_of_le hq.2 hs⟩, ?_⟩) (fun q hq o => hg.cell_far ⟨q, o, none⟩ hq.2 (fun e => by have := hlt q e.symm; have := hq.1; omega))
      simp only [Value.ownBlock, ne_eq, Option.some.injEq]
      rintro rfl
      rcases hat with h | h
      · have := hlt _ h; have := hq.1; omega
      · have := hq.2; omega
end

section
open Go.RowKit

set_option maxRecDepth 100000 in
set_option maxHeartbeats 6400000 in
theorem rAlt_any (s : ByteArray) (one : Nat → PR PT) (d i : Nat) (hi : i ≤ s.size) (hs : s.size ≤ 100) (hd : s.size < i + (d + 1)) (hgd : Good s.data.toList one) (hone : ∀ (w' : World) (j : Nat), j ≤ s.size → s.size < j + (d + 1) → Calls Tryd.prog 67 #[.string s, .int .i64 (j : Int)] w' (OutR w' (one j))) (w : World) :
    Calls Tryd.prog 47 #[.string s, .int .i64 (i : Int)] w (OutR w ((sevL (one) (sepP s.data.toList) (s.data.toList.length + 1) [] i).map (joinT 5))) := by
  obtain ⟨i0, hi0, hz0, hz1, hz2⟩ := info_parts rinfoTree
  obtain ⟨RES, hRES⟩ : ∃ RES, RES = (sevL one (sepP s.data.toList) (s.data.toList.length + 1) [] i).map (joinT 5) := ⟨_, rfl⟩
  rw [← hRES]
  rw [sevL, if_pos (show ([] : List PT).length = 0 from rfl), lt_len] at hRES
  have HE0 := Lib.hid hRES
  obtain ⟨w1, hw1⟩ : ∃ w1, w1 = w.alloc (.cells #[.int .i64 0, .int .u64 0, .int .u64 0, .int .u64 0, .int .u64 0, .slice none 0 0] 60) := ⟨_, rfl⟩
  have HW1 := Lib.hid hw1
  have hs1 : w1.heap.size = w.heap.size + 1 := by rw [hw1]; simp
  have hb1 : Below w.heap.size w w1 := by rw [hw1]; exact below1 _ _
  have HZ1 : Hid (Z6 w1 w.heap.size) := Lib.hid (by rw [hw1]; exact Box6.new _ _ _ _ _ _ _ rfl)
  have HB1 := Lib.hid hb1
  have HGD := Lib.hid hgd
  have HONE := Lib.hid hone
  clear hw1 hb1 hgd hone hRES
  go_enter Tryd.func47, Tryd.ntmps47
  go_wp2_with fail
  rw [← HW1.out]
  go_loopw [1, 7] (fun v1 v7 wr => ∃ (acc : List PT) (oc : Option Addr) (cc ii g : Nat), v1 = .int .i64 (ii : Int) ∧ v7 = .slice oc acc.length cc ∧ ii ≤ s.size ∧ i ≤ ii ∧ s.size ≤ ii + g ∧ acc.length + i ≤ ii ∧ Hid (AccR wr (w.heap.size + 1) (.slice oc acc.length cc) acc) ∧ Hid (Z6 wr w.heap.size) ∧ Hid (Below w.heap.size w wr) ∧ w.heap.size + 1 ≤ wr.heap.size ∧ Hid (RES = ((one ii).bind fun t m => sevL one (sepP s.data.toList) g (acc ++ [t]) m).map (joinT 5))) (fun v1 _ _ => s.size + 1 - (intOf v1).toNat)
  case atStart => exact ⟨[], none, 0, i, s.size, rfl, rfl, hi, Nat.le_refl _, by omega, by simp, Lib.hid (AccR.nil _ _), HZ1, HB1, by omega, HE0⟩
  case round =>
    obtain ⟨acc, oc, cc, ii, g, rfl, rfl, hii, hi0i, hfu, hai, HAc, HZ, HB, hwr, HE⟩ := hrel
    clear HZ1 HB1 HE0
    have HC := Lib.hid (HONE.out wr ii hii (by omega))
    have hg := (HGD.out ii (by rw [lt_len]; exact hii)).1
    cases hq : one ii with
    | bad m =>
      rw [hq] at HC HE
      have HF : Hid (RES = .bad m) := Lib.hid HE.out
      clear HE hq hg HAc
      go_wp2_with fail
      refine HC.out.mono ?_
      rintro e w4 ⟨rfl, hb4⟩
      have hz5 := (HZ.out.later hb4 (by omega)).later (below1 w4 (.cells #[.int .i64 0, .int .u64 0, .int .u64 0, .int .u64 0, .int .u64 0, .slice none 0 0] 60)) (by have := hb4.size; omega)
      have hs4 := hb4.size
      have HB5 := Lib.hid ((HB.out.trans (hb4.mono (by omega))).trans ((below1 w4 (.cells #[.int .i64 0, .int .u64 0, .int .u64 0, .int .u64 0, .int .u64 0, .slice none 0 0] 60)).mono (by omega)))
      obtain ⟨z0, z1, z2, z3, z4, z5, zf⟩ := hz5
      clear hb4
      unfold zeroR
      go_wp2_with fail
      refine bodyPost_ret (v := .tuple #[zeroR, .int .i64 ((m : Nat) : Int), .bool false]) (by simp [results, Tryd.results47, go_sem, zeroR, *]) rfl ?_
      rw [HF.out]
      exact ⟨rfl, below6 HB5.out (Nat.le_refl _) _ _ _ _ _ _⟩
    | ok t m =>
      rw [hq] at HC HE hg
      have him : ii < m ∧ m ≤ s.size := by have := hg; rw [lt_len] at this; exact this
      obtain ⟨g, rfl⟩ : ∃ g', g = g' + 1 := ⟨g - 1, by omega⟩
      have hne : (acc ++ [t]).length ≠ 0 := by simp
      have HE1 : Hid (RES = (match sepP s.data.toList m with | none => PR.ok (acc ++ [t]) m | some j => (one j).bind fun t' m' => sevL one (sepP s.data.toList) g (acc ++ [t] ++ [t']) m').map (joinT 5)) := Lib.hid (by
        have h := HE.out
        rw [show ((PR.ok t m : PR PT).bind fun t m => sevL one (sepP s.data.toList) (g + 1) (acc ++ [t]) m) = sevL one (sepP s.data.toList) (g + 1) (acc ++ [t]) m from rfl, sevL, if_neg hne] at h
        exact h)
      have HA3 := Lib.hid (rAt_any s m)
      have hwm : IntKind.i64.wrap ((m : Int) + 1) = ((m + 1 : Nat) : Int) := by rw [IntWalk.i64_in _ (by omega)]; omega
      clear HE hq hg hne
      unfold sepP at HE1
      by_cases h124 : pk s.data.toList m = 124
      · have h124b : (((pk s.data.toList m : Nat) : Int) != 124) = false := by rw [bne_eq_false_iff_eq]; omega
        have hm1 : m + 1 ≤ s.size := by have := pk_is h124 (by decide); rw [lt_len] at this; omega
        have HE2 : Hid (RES = ((one (m + 1)).bind fun t' m' => sevL one (sepP s.data.toList) g (acc ++ [t] ++ [t']) m').map (joinT 5)) := Lib.hid (by
          have h := HE1.out
          rw [if_pos h124] at h
          exact h)
        clear HE1 h124
        go_wp2_with fail
        refine HC.out.mono ?_
        rintro e w4 ⟨⟨oe, ce, rfl, hT⟩, hb4⟩
        clear HC
        have hs4 := hb4.size
        have hsz2 : ((w4.alloc (.cells #[.int .i64 t.k, .int .u64 t.s.a, .int .u64 t.s.b, .int .u64 t.s.c, .int .u64 t.s.d, (.slice oe t.l.length ce)] 60)).alloc (.cells #[.int .i64 t.k, .int .u64 t.s.a, .int .u64 t.s.b, .int .u64 t.s.c, .int .u64 t.s.d, (.slice oe t.l.length ce)] 60)).heap.size = w4.heap.size + 2 := by simp
        have HX : Hid (Below wr.heap.size wr ((w4.alloc (.cells #[.int .i64 t.k, .int .u64 t.s.a, .int .u64 t.s.b, .int .u64 t.s.c, .int .u64 t.s.d, (.slice oe t.l.length ce)] 60)).alloc (.cells #[.int .i64 t.k, .int .u64 t.s.a, .int .u64 t.s.b, .int .u64 t.s.c, .int .u64 t.s.d, (.slice oe t.l.length ce)] 60))) := Lib.hid (hb4.trans ((below2 w4 _ _).mono hs4))
        have HBX := Lib.hid (HB.out.trans (HX.out.mono (by omega)))
        have HZX := Lib.hid (HZ.out.later HX.out (by omega))
        have HNW : Hid (((w4.alloc (.cells #[.int .i64 t.k, .int .u64 t.s.a, .int .u64 t.s.b, .int .u64 t.s.c, .int .u64 t.s.d, (.slice oe t.l.length ce)] 60)).alloc (.cells #[.int .i64 t.k, .int .u64 t.s.a, .int .u64 t.s.b, .int .u64 t.s.c, .int .u64 t.s.d, (.slice oe t.l.length ce)] 60)).heap[w4.heap.size + 1]? = some (.cells #[.int .i64 t.k, .int .u64 t.s.a, .int .u64 t.s.b, .int .u64 t.s.c, .int .u64 t.s.d, (.slice oe t.l.length ce)] 60 (0, 0))) := Lib.hid (two_new' _ _ _)
        have HRp5 := Lib.hid ((hT.more (.cells #[.int .i64 t.k, .int .u64 t.s.a, .int .u64 t.s.b, .int .u64 t.s.c, .int .u64 t.s.d, (.slice oe t.l.length ce)] 60)).more (.cells #[.int .i64 t.k, .int .u64 t.s.a, .int .u64 t.s.b, .int .u64 t.s.c, .int .u64 t.s.d, (.slice oe t.l.length ce)] 60))
        clear hb4 hT
        unfold PT.val
        obtain ⟨ps, hps, ho4, hr4⟩ := HAc.out.kp (X := fun _ => False) (.of HX.out (Nat.le_refl _)) (Nat.le_refl _) (fun _ _ h => h)
        have hpl : ps.length = acc.length := by rw [← hps, List.length_map]
        have hol : ∀ q, (Value.slice oc acc.length cc).ownBlock = some q → q < wr.heap.size := fun q hq => by
          obtain ⟨ps', hps', ho', -⟩ := HAc.out
          exact (own_lt ho' q hq).2
        have hn1 : ps.length + 1 ≤ maxLen := by unfold maxLen; omega
        have hby : (ps.length + 1) * 64 ≤ 140737488355328 := by omega
        rw [← hpl] at ho4 hr4
        rw [← hpl] at *
        have HOL := Lib.hid hol
        have HO5 := Lib.hid (show (((w4.alloc (.cells #[.int .i64 t.k, .int .u64 t.s.a, .int .u64 t.s.b, .int .u64 t.s.c, .int .u64 t.s.d, (.slice oe t.l.length ce)] 60)).alloc (.cells #[.int .i64 t.k, .int .u64 t.s.a, .int .u64 t.s.b, .int .u64 t.s.c, .int .u64 t.s.d, (.slice oe t.l.length ce)] 60))).ownsRow (w.heap.size + 1) 60 6 (.slice oc ps.length cc) ps.length (flatP ps) from ho4)
        have HRs5 := Lib.hid hr4
        have hps2 : ps.map (·.1) = acc := hps
        clear ho4 hr4 hol HAc
        go_wp2_with (at_builtin; refine wpList_append_lies _ rfl _ _ _ rfl (w.heap.size + 1) 60 i0 _ 6 64 Tryd.underlying58 hi0 hz0 hz1 hz2 rfl (by omega) (.slice oc ps.length cc) ps.length (flatP ps) rfl HO5.out ⟨w4.heap.size + 1, 0, none⟩ 1 1 [.int .i64 t.k, .int .u64 t.s.a, .int .u64 t.s.b, .int .u64 t.s.c, .int .u64 t.s.d, (.slice oe t.l.length ce)] rfl rfl (World.news_of_block (cs := #[.int .i64 t.k, .int .u64 t.s.a, .int .u64 t.s.b, .int .u64 t.s.c, .int .u64 t.s.d, (.slice oe t.l.length ce)]) (t := 60) (fr := (0, 0)) HNW.out) (by simp [Value.oneCell']) (by omega) hn1 hby (by simp; omega) (w4.heap.size + 2) hsz2 ?_)
        intro gg cap2 w7 hown7 hgrow hat hgl
        have HA7 : Hid (AccR w7 (w.heap.size + 1) (.slice (some ⟨gg, 0, none⟩) (ps.length + 1) cap2) (acc ++ [t])) := Lib.hid (by
          rw [← hps2]
          exact AccR.snoc HO5.out HRs5.out HRp5.out (by omega) HOL.out hown7 hgrow (by rw [hsz2]; exact hat) hgl)
        have HK7 : Hid (Below w.heap.size w w7) := Lib.hid (HBX.out.trans ⟨hgrow.os, hgrow.tape, hgrow.output, hgrow.size, fun q hq => hgrow.block q (by rw [hsz2]; omega) (fun e => by have := (own_lt HO5.out q e.symm).1; omega)⟩)
        have HZ7 : Hid (Z6 w7 w.heap.size) := Lib.hid (Box6.of_block HZX.out (hgrow.block w.heap.size (by rw [hsz2]; omega) (fun e => by have := (own_lt HO5.out w.heap.size e.symm).1; omega)))
        have hw7 : w.heap.size + 1 ≤ w7.heap.size := by have := hgrow.size; rw [hsz2] at this; omega
        clear hown7 hgrow hat hgl HO5 HRs5 HRp5 HX HBX HZX HNW HOL
        have hpl2 : acc.length = ps.length := by rw [← hps2, List.length_map]
        have HPL2 := Lib.hid hpl2
        clear hpl2 hps2
        go_wp2_with fail
        refine (HA3.out w7).mono ?_
        rintro e w9 ⟨rfl, h9⟩; subst w9
        go_wp2_with fail
        have hpl2 := HPL2.out
        go_roundw
        case measure => simp [intOf]; omega
        case rel => exact ⟨acc ++ [t], some ⟨gg, 0, none⟩, cap2, m + 1, g, by first | rfl | go_num, by rw [List.length_append, hpl2]; rfl, hm1, by omega, by omega, by rw [List.length_append, hpl2]; show ps.length + 1 + i ≤ m + 1; omega, by rw [List.length_append, hpl2]; exact HA7, HZ7, HK7, hw7, HE2⟩
      · have h124b : (((pk s.data.toList m : Nat) : Int) != 124) = true := by rw [bne_iff_ne]; omega
        have HN : Hid (RES = .ok (joinT 5 (acc ++ [t])) m) := Lib.hid (by
          have h := HE1.out
          rw [if_neg h124] at h
          exact h)
        clear HE1 h124
        go_wp2_with fail
        refine HC.out.mono ?_
        rintro e w4 ⟨⟨oe, ce, rfl, hT⟩, hb4⟩
        clear HC
        have hs4 := hb4.size
        have hsz2 : ((w4.alloc (.cells #[.int .i64 t.k, .int .u64 t.s.a, .int .u64 t.s.b, .int .u64 t.s.c, .int .u64 t.s.d, (.slice oe t.l.length ce)] 60)).alloc (.cells #[.int .i64 t.k, .int .u64 t.s.a, .int .u64 t.s.b, .int .u64 t.s.c, .int .u64 t.s.d, (.slice oe t.l.length ce)] 60)).heap.size = w4.heap.size + 2 := by simp
        have HX : Hid (Below wr.heap.size wr ((w4.alloc (.cells #[.int .i64 t.k, .int .u64 t.s.a, .int .u64 t.s.b, .int .u64 t.s.c, .int .u64 t.s.d, (.slice oe t.l.length ce)] 60)).alloc (.cells #[.int .i64 t.k, .int .u64 t.s.a, .int .u64 t.s.b, .int .u64 t.s.c, .int .u64 t.s.d, (.slice oe t.l.length ce)] 60))) := Lib.hid (hb4.trans ((below2 w4 _ _).mono hs4))
        have HBX := Lib.hid (HB.out.trans (HX.out.mono (by omega)))
        have HZX := Lib.hid (HZ.out.later HX.out (by omega))
        have HNW : Hid (((w4.alloc (.cells #[.int .i64 t.k, .int .u64 t.s.a, .int .u64 t.s.b, .int .u64 t.s.c, .int .u64 t.s.d, (.slice oe t.l.length ce)] 60)).alloc (.cells #[.int .i64 t.k, .int .u64 t.s.a, .int .u64 t.s.b, .int .u64 t.s.c, .int .u64 t.s.d, (.slice oe t.l.length ce)] 60)).heap[w4.heap.size + 1]? = some (.cells #[.int .i64 t.k, .int .u64 t.s.a, .int .u64 t.s.b, .int .u64 t.s.c, .int .u64 t.s.d, (.slice oe t.l.length ce)] 60 (0, 0))) := Lib.hid (two_new' _ _ _)
        have HRp5 := Lib.hid ((hT.more (.cells #[.int .i64 t.k, .int .u64 t.s.a, .int .u64 t.s.b, .int .u64 t.s.c, .int .u64 t.s.d, (.slice oe t.l.length ce)] 60)).more (.cells #[.int .i64 t.k, .int .u64 t.s.a, .int .u64 t.s.b, .int .u64 t.s.c, .int .u64 t.s.d, (.slice oe t.l.length ce)] 60))
        clear hb4 hT
        unfold PT.val
        obtain ⟨ps, hps, ho4, hr4⟩ := HAc.out.kp (X := fun _ => False) (.of HX.out (Nat.le_refl _)) (Nat.le_refl _) (fun _ _ h => h)
        have hpl : ps.length = acc.length := by rw [← hps, List.length_map]
        have hol : ∀ q, (Value.slice oc acc.length cc).ownBlock = some q → q < wr.heap.size := fun q hq => by
          obtain ⟨ps', hps', ho', -⟩ := HAc.out
          exact (own_lt ho' q hq).2
        have hn1 : ps.length + 1 ≤ maxLen := by unfold maxLen; omega
        have hby : (ps.length + 1) * 64 ≤ 140737488355328 := by omega
        rw [← hpl] at ho4 hr4
        rw [← hpl] at *
        have HOL := Lib.hid hol
        have HO5 := Lib.hid (show (((w4.alloc (.cells #[.int .i64 t.k, .int .u64 t.s.a, .int .u64 t.s.b, .int .u64 t.s.c, .int .u64 t.s.d, (.slice oe t.l.length ce)] 60)).alloc (.cells #[.int .i64 t.k, .int .u64 t.s.a, .int .u64 t.s.b, .int .u64 t.s.c, .int .u64 t.s.d, (.slice oe t.l.length ce)] 60))).ownsRow (w.heap.size + 1) 60 6 (.slice oc ps.length cc) ps.length (flatP ps) from ho4)
        have HRs5 := Lib.hid hr4
        have hps2 : ps.map (·.1) = acc := hps
        clear ho4 hr4 hol HAc
        go_wp2_with (at_builtin; refine wpList_append_lies _ rfl _ _ _ rfl (w.heap.size + 1) 60 i0 _ 6 64 Tryd.underlying58 hi0 hz0 hz1 hz2 rfl (by omega) (.slice oc ps.length cc) ps.length (flatP ps) rfl HO5.out ⟨w4.heap.size + 1, 0, none⟩ 1 1 [.int .i64 t.k, .int .u64 t.s.a, .int .u64 t.s.b, .int .u64 t.s.c, .int .u64 t.s.d, (.slice oe t.l.length ce)] rfl rfl (World.news_of_block (cs := #[.int .i64 t.k, .int .u64 t.s.a, .int .u64 t.s.b, .int .u64 t.s.c, .int .u64 t.s.d, (.slice oe t.l.length ce)]) (t := 60) (fr := (0, 0)) HNW.out) (by simp [Value.oneCell']) (by omega) hn1 hby (by simp; omega) (w4.heap.size + 2) hsz2 ?_)
        intro gg cap2 w7 hown7 hgrow hat hgl
        have HA7 : Hid (AccR w7 (w.heap.size + 1) (.slice (some ⟨gg, 0, none⟩) (ps.length + 1) cap2) (acc ++ [t])) := Lib.hid (by
          rw [← hps2]
          exact AccR.snoc HO5.out HRs5.out HRp5.out (by omega) HOL.out hown7 hgrow (by rw [hsz2]; exact hat) hgl)
        have HK7 : Hid (Below w.heap.size w w7) := Lib.hid (HBX.out.trans ⟨hgrow.os, hgrow.tape, hgrow.output, hgrow.size, fun q hq => hgrow.block q (by rw [hsz2]; omega) (fun e => by have := (own_lt HO5.out q e.symm).1; omega)⟩)
        have HZ7 : Hid (Z6 w7 w.heap.size) := Lib.hid (Box6.of_block HZX.out (hgrow.block w.heap.size (by rw [hsz2]; omega) (fun e => by have := (own_lt HO5.out w.heap.size e.symm).1; omega)))
        have hw7 : w.heap.size + 1 ≤ w7.heap.size := by have := hgrow.size; rw [hsz2] at this; omega
        clear hown7 hgrow hat hgl HO5 HRs5 HRp5 HX HBX HZX HNW HOL
        have hpl2 : acc.length = ps.length := by rw [← hps2, List.length_map]
        have HPL2 := Lib.hid hpl2
        clear hpl2 hps2
        go_wp2_with fail
        refine (HA3.out w7).mono ?_
        rintro e w9 ⟨rfl, h9⟩; subst w9
        by_cases hl1 : ps.length = 0
        · have hl1b : (((ps.length : Int) + 1) == 1) = true := by rw [beq_iff_eq]; omega
          obtain rfl : acc = [] := List.eq_nil_of_length_eq_zero (by have := HPL2.out; omega)
          have hht := HA7.out.repS (by simp)
          obtain ⟨gb, off, oe9, ce9, hgb0, hgb, hT9, c0, c1, c2, c3, c4, c5⟩ := hht.at_ (i := 0) (v := t) rfl
          cases hgb0
          have HT9 := Lib.hid hT9
          obtain ⟨z0, z1, z2, z3, z4, z5, zf⟩ := HZ7.out
          have hgb1 : w.heap.size + 1 ≤ gg := hgb.1
          simp only [Nat.zero_mul, Nat.zero_add] at c0 c1 c2 c3 c4 c5
          clear hht hT9 hgb
          go_wp2_with fail
          refine bodyPost_ret (v := .tuple #[t.val (.slice oe9 t.l.length ce9), .int .i64 (m : Int), .bool true]) (by simp [results, Tryd.results47, go_sem, PT.val, *]) rfl ?_
          rw [HN.out]
          exact ⟨⟨oe9, ce9, rfl, HT9.out.six (by omega) (by omega) _ _ _ _ _ _⟩, below6 HK7.out (Nat.le_refl _) _ _ _ _ _ _⟩
        · have hl1b : (((ps.length : Int) + 1) == 1) = false := by rw [beq_eq_false_iff_ne]; omega
          have hps9 : ps.length ≤ 100 := by have := HPL2.out; omega
          have HL2 : Hid ((acc ++ [t]).length = ps.length + 1) := Lib.hid (by rw [List.length_append, HPL2.out]; rfl)
          have hj : joinT 5 (acc ++ [t]) = .mk 5 .zero (acc ++ [t]) := by
            have h2 := HL2.out
            match hac : acc ++ [t] with
            | [] => rw [hac] at h2; simp at h2
            | [x] => rw [hac] at h2; simp at h2; exact absurd (by rw [h2]; rfl) hl1
            | _ :: _ :: _ => rfl
          have HN2 : Hid (RES = .ok (.mk 5 .zero (acc ++ [t])) m) := Lib.hid (by rw [HN.out, hj])
          have HT9 := Lib.hid (HA7.out.repS (by have := HL2.out; omega))
          obtain ⟨z0, z1, z2, z3, z4, z5, zf⟩ := HZ7.out
          clear HN hj HA7
          go_wp2_with fail
          refine bodyPost_ret (v := .tuple #[.agg #[.int .i64 5, .int .u64 0, .int .u64 0, .int .u64 0, .int .u64 0, .slice (some ⟨gg, 0, none⟩) (ps.length + 1) cap2], .int .i64 (m : Int), .bool true]) (by simp [results, Tryd.results47, go_sem, *]) rfl ?_
          rw [HN2.out]
          have h9 := HT9.out.six (n := w.heap.size) (lo' := w.heap.size) (by omega) (by omega) (.int .i64 5) (.int .u64 0) (.int .u64 0) (.int .u64 0) (.int .u64 0) (.slice (some ⟨gg, 0, none⟩) (ps.length + 1) cap2)
          refine ⟨⟨some ⟨gg, 0, none⟩, cap2, ?_, ?_⟩, below6 HK7.out (Nat.le_refl _) _ _ _ _ _ _⟩
          · show _ = Ending.returned (.tuple #[PT.val _ (.slice _ (acc ++ [t]).length cap2), _, _])
            rw [HL2.out]; rfl
          · show HT _ _ (.slice _ (acc ++ [t]).length cap2) (acc ++ [t])
            rw [HL2.out]; exact h9
end
end

section
open Go.RowKit

theorem begA_yes {c : Nat} (h : begA c = true) : inA c = true ∧ ((c : Int) == 41) = false ∧ ((c : Int) == 124) = false ∧ ((c : Int) == 42) = false ∧ ((c : Int) == 93) = false := by
  have h1 := begA_lt h
  have h2 : inA c = true := by unfold inA; simp; omega
  refine ⟨h2, ?_, ?_, ?_, ?_⟩ <;> rw [beq_eq_false_iff_ne] <;> intro e
  all_goals
    unfold begA isPl isSp spec8 at h
    simp at h
    omega
theorem begA_no {c : Nat} (h : begA c = false) : inA c = false ∨ (inA c = true ∧ ((c : Int) == 41) = true) ∨ (inA c = true ∧ ((c : Int) == 41) = false ∧ ((c : Int) == 124) = true) ∨ (inA c = true ∧ ((c : Int) == 41) = false ∧ ((c : Int) == 124) = false ∧ ((c : Int) == 42) = true) ∨ (inA c = true ∧ ((c : Int) == 41) = false ∧ ((c : Int) == 124) = false ∧ ((c : Int) == 42) = false ∧ ((c : Int) == 93) = true) := by
  cases hin : inA c
  · exact .inl rfl
  · right
    by_cases h1 : c = 41
    · exact .inl ⟨rfl, by rw [beq_iff_eq]; omega⟩
    by_cases h2 : c = 124
    · exact .inr (.inl ⟨rfl, by rw [beq_eq_false_iff_ne]; omega, by rw [beq_iff_eq]; omega⟩)
    by_cases h3 : c = 42
    · exact .inr (.inr (.inl ⟨rfl, by rw [beq_eq_false_iff_ne]; omega, by rw [beq_eq_false_iff_ne]; omega, by rw [beq_iff_eq]; omega⟩))
    by_cases h4 : c = 93
    · exact .inr (.inr (.inr ⟨rfl, by rw [beq_eq_false_iff_ne]; omega, by rw [beq_eq_false_iff_ne]; omega, by rw [beq_eq_false_iff_ne]; omega, by rw [beq_iff_eq]; omega⟩))
    exfalso
    unfold begA isPl isSp spec8 at h
    rw [hin] at h
    simp at h
    omega
theorem HT.after6 {w5 : World} {n lo : Nat} {x : Value} {l : List PT} (h : HT w5 (Btw lo n) x l) (hn : n < w5.heap.size) (a b c d e f : Value) :
    HT ((((((w5.setCell ⟨n, 0, none⟩ a).setCell ⟨n, 1, none⟩ b).setCell ⟨n, 2, none⟩ c).setCell ⟨n, 3, none⟩ d).setCell ⟨n, 4, none⟩ e).setCell ⟨n, 5, none⟩ f) (Btw lo ((((((w5.setCell ⟨n, 0, none⟩ a).setCell ⟨n, 1, none⟩ b).setCell ⟨n, 2, none⟩ c).setCell ⟨n, 3, none⟩ d).setCell ⟨n, 4, none⟩ e).setCell ⟨n, 5, none⟩ f).heap.size) x l :=
  (kpset6 (Kp.refl w5.heap.size (Is n) w5) rfl a b c d e f).rep h (by omega) (fun k _ h2 h => by unfold Is at h; omega) (Nat.le_refl _) (by rw [size6]; omega)

set_option maxRecDepth 100000 in
set_option maxHeartbeats 6400000 in
theorem rCat_any (s : ByteArray) (pat : Nat → PR PT) (d i : Nat) (hi : i ≤ s.size) (hs : s.size ≤ 100) (hd : s.size < i + (d + 1)) (hgd : Good s.data.toList (atomL pat s.data.toList)) (hone : ∀ (w' : World) (j : Nat), j ≤ s.size → s.size < j + (d + 1) → Calls Tryd.prog 81 #[.string s, .int .i64 (j : Int)] w' (OutR w' (atomL pat s.data.toList j))) (w : World) :
    Calls Tryd.prog 67 #[.string s, .int .i64 (i : Int)] w (OutR w ((sevL (repL pat s.data.toList) (sepC s.data.toList) (s.data.toList.length + 1) [] i).map (joinT 4))) := by
  obtain ⟨i0, hi0, hz0, hz1, hz2⟩ := info_parts rinfoTree
  obtain ⟨RES, hRES⟩ : ∃ RES, RES = (sevL (repL pat s.data.toList) (sepC s.data.toList) (s.data.toList.length + 1) [] i).map (joinT 4) := ⟨_, rfl⟩
  rw [← hRES]
  rw [sevL, if_pos (show ([] : List PT).length = 0 from rfl), lt_len] at hRES
  have HE0 := Lib.hid hRES
  obtain ⟨w1, hw1⟩ : ∃ w1, w1 = w.alloc (.cells #[.int .i64 0, .int .u64 0, .int .u64 0, .int .u64 0, .int .u64 0, .slice none 0 0] 60) := ⟨_, rfl⟩
  have HW1 := Lib.hid hw1
  have hs1 : w1.heap.size = w.heap.size + 1 := by rw [hw1]; simp
  have hb1 : Below w.heap.size w w1 := by rw [hw1]; exact below1 _ _
  have HZ1 : Hid (Z6 w1 w.heap.size) := Lib.hid (by rw [hw1]; exact Box6.new _ _ _ _ _ _ _ rfl)
  have HB1 := Lib.hid hb1
  have HGD := Lib.hid hgd
  have HONE := Lib.hid hone
  clear hw1 hb1 hgd hone hRES
  go_enter Tryd.func67, Tryd.ntmps67
  go_wp2_with fail
  rw [← HW1.out]
  go_loopw [1, 7] (fun v1 v7 wr => ∃ (acc : List PT) (oc : Option Addr) (cc ii g : Nat), v1 = .int .i64 (ii : Int) ∧ v7 = .slice oc acc.length cc ∧ ii ≤ s.size ∧ i ≤ ii ∧ s.size ≤ ii + g ∧ acc.length + i ≤ ii ∧ Hid (AccR wr (w.heap.size + 1) (.slice oc acc.length cc) acc) ∧ Hid (Z6 wr w.heap.size) ∧ Hid (Below w.heap.size w wr) ∧ w.heap.size + 1 ≤ wr.heap.size ∧ Hid (RES = ((repL pat s.data.toList ii).bind fun t m => sevL (repL pat s.data.toList) (sepC s.data.toList) g (acc ++ [t]) m).map (joinT 4))) (fun v1 _ _ => s.size + 1 - (intOf v1).toNat)
  case atStart => exact ⟨[], none, 0, i, s.size, rfl, rfl, hi, Nat.le_refl _, by omega, by simp, Lib.hid (AccR.nil _ _), HZ1, HB1, by omega, HE0⟩
  case round =>
    obtain ⟨acc, oc, cc, ii, g, rfl, rfl, hii, hi0i, hfu, hai, HAc, HZ, HB, hwr, HE⟩ := hrel
    clear HZ1 HB1 HE0
    have HC := Lib.hid (HONE.out wr ii hii (by omega))
    have hg := (HGD.out ii (by rw [lt_len]; exact hii)).1
    replace HE : Hid (RES = (((atomL pat s.data.toList ii).bind fun t m => if pk s.data.toList m = 42 then .ok (.mk 6 .zero [t]) (m + 1) else .ok t m).bind fun t m => sevL (repL pat s.data.toList) (sepC s.data.toList) g (acc ++ [t]) m).map (joinT 4)) := HE
    cases hq : atomL pat s.data.toList ii with
    | bad m =>
      rw [hq] at HC HE
      have HF : Hid (RES = .bad m) := Lib.hid HE.out
      clear HE hq hg HAc
      go_wp2_with fail
      refine HC.out.mono ?_
      rintro e w4 ⟨rfl, hb4⟩
      have hz5 := (HZ.out.later hb4 (by omega)).later (below1 w4 (.cells #[.int .i64 0, .int .u64 0, .int .u64 0, .int .u64 0, .int .u64 0, .slice none 0 0] 60)) (by have := hb4.size; omega)
      have hs4 := hb4.size
      have HB5 := Lib.hid ((HB.out.trans (hb4.mono (by omega))).trans ((below1 w4 (.cells #[.int .i64 0, .int .u64 0, .int .u64 0, .int .u64 0, .int .u64 0, .slice none 0 0] 60)).mono (by omega)))
      obtain ⟨z0, z1, z2, z3, z4, z5, zf⟩ := hz5
      clear hb4
      unfold zeroR
      go_wp2_with fail
      refine bodyPost_ret (v := .tuple #[zeroR, .int .i64 ((m : Nat) : Int), .bool false]) (by simp [results, Tryd.results67, go_sem, zeroR, *]) rfl ?_
      rw [HF.out]
      exact ⟨rfl, below6 HB5.out (Nat.le_refl _) _ _ _ _ _ _⟩
    | ok t m =>
      rw [hq] at HC HE hg
      have him : ii < m ∧ m ≤ s.size := by have := hg; rw [lt_len] at this; exact this
      obtain ⟨g, rfl⟩ : ∃ g', g = g' + 1 := ⟨g - 1, by omega⟩
      have HA3 := Lib.hid (rAt_any s m)
      have hwm : IntKind.i64.wrap ((m : Int) + 1) = ((m + 1 : Nat) : Int) := by rw [IntWalk.i64_in _ (by omega)]; omega
      replace HE : Hid (RES = ((if pk s.data.toList m = 42 then .ok (.mk 6 .zero [t]) (m + 1) else .ok t m : PR PT).bind fun t m => sevL (repL pat s.data.toList) (sepC s.data.toList) (g + 1) (acc ++ [t]) m).map (joinT 4)) := HE
      clear hq hg
      go_wp2_with fail
      refine HC.out.mono ?_
      rintro e w4 ⟨⟨oe, ce, rfl, hT⟩, hb4⟩
      clear HC
      by_cases h42 : pk s.data.toList m = 42
      · have h42b : (((pk s.data.toList m : Nat) : Int) == 42) = true := by rw [beq_iff_eq]; omega
        have hm1 : m + 1 ≤ s.size := by have := pk_is h42 (by decide); rw [lt_len] at this; omega
        have hs4 := hb4.size
        obtain ⟨w5, hw5⟩ : ∃ w5, w5 = w4.alloc (.cells #[.int .i64 t.k, .int .u64 t.s.a, .int .u64 t.s.b, .int .u64 t.s.c, .int .u64 t.s.d, (.slice oe t.l.length ce)] 60) := ⟨_, rfl⟩
        have HW5 := Lib.hid hw5
        have hs5 : w5.heap.size = w4.heap.size + 1 := by rw [hw5]; simp
        have HBx : Hid (Box6 w5 w4.heap.size (.int .i64 t.k) (.int .u64 t.s.a) (.int .u64 t.s.b) (.int .u64 t.s.c) (.int .u64 t.s.d) (.slice oe t.l.length ce)) := Lib.hid (by rw [hw5]; exact Box6.new _ _ _ _ _ _ _ rfl)
        have hb5 : Below wr.heap.size wr w5 := hb4.trans (by rw [hw5]; exact (below1 w4 _).mono hs4)
        have hVs : ((((((w5.setCell ⟨w4.heap.size, 0, none⟩ (.int .i64 6)).setCell ⟨w4.heap.size, 1, none⟩ (.int .u64 0)).setCell ⟨w4.heap.size, 2, none⟩ (.int .u64 0)).setCell ⟨w4.heap.size, 3, none⟩ (.int .u64 0)).setCell ⟨w4.heap.size, 4, none⟩ (.int .u64 0)).setCell ⟨w4.heap.size, 5, none⟩ (.slice (some ⟨w4.heap.size + 1, 0, none⟩) 1 1)).heap.size = w4.heap.size + 1 := by rw [size6, hs5]
        have hT5 : HT w5 (Btw wr.heap.size w4.heap.size) (.slice oe t.l.length ce) t.l := hT.later (fun _ h => h) (fun b hb o => by rw [hw5]; exact (below1 w4 _).cell (p := ⟨b, o, none⟩) hb.2)
        have hT6 := ((hT5.after6 (by omega) (.int .i64 6) (.int .u64 0) (.int .u64 0) (.int .u64 0) (.int .u64 0) (.slice (some ⟨w4.heap.size + 1, 0, none⟩) 1 1)).more (.cells #[.int .i64 t.k, .int .u64 t.s.a, .int .u64 t.s.b, .int .u64 t.s.c, .int .u64 t.s.d, (.slice oe t.l.length ce)] 60)).more (.cells #[.int .i64 6, .int .u64 0, .int .u64 0, .int .u64 0, .int .u64 0, (.slice (some ⟨w4.heap.size + 1, 0, none⟩) 1 1)] 60)
        have hsz2 : ((((((((w5.setCell ⟨w4.heap.size, 0, none⟩ (.int .i64 6)).setCell ⟨w4.heap.size, 1, none⟩ (.int .u64 0)).setCell ⟨w4.heap.size, 2, none⟩ (.int .u64 0)).setCell ⟨w4.heap.size, 3, none⟩ (.int .u64 0)).setCell ⟨w4.heap.size, 4, none⟩ (.int .u64 0)).setCell ⟨w4.heap.size, 5, none⟩ (.slice (some ⟨w4.heap.size + 1, 0, none⟩) 1 1)).alloc (.cells #[.int .i64 t.k, .int .u64 t.s.a, .int .u64 t.s.b, .int .u64 t.s.c, .int .u64 t.s.d, (.slice oe t.l.length ce)] 60)).alloc (.cells #[.int .i64 6, .int .u64 0, .int .u64 0, .int .u64 0, .int .u64 0, (.slice (some ⟨w4.heap.size + 1, 0, none⟩) 1 1)] 60)).heap.size = w4.heap.size + 3 := by rw [World.size_alloc, World.size_alloc, hVs]
        have hHX : Below wr.heap.size wr ((((((((w5.setCell ⟨w4.heap.size, 0, none⟩ (.int .i64 6)).setCell ⟨w4.heap.size, 1, none⟩ (.int .u64 0)).setCell ⟨w4.heap.size, 2, none⟩ (.int .u64 0)).setCell ⟨w4.heap.size, 3, none⟩ (.int .u64 0)).setCell ⟨w4.heap.size, 4, none⟩ (.int .u64 0)).setCell ⟨w4.heap.size, 5, none⟩ (.slice (some ⟨w4.heap.size + 1, 0, none⟩) 1 1)).alloc (.cells #[.int .i64 t.k, .int .u64 t.s.a, .int .u64 t.s.b, .int .u64 t.s.c, .int .u64 t.s.d, (.slice oe t.l.length ce)] 60)).alloc (.cells #[.int .i64 6, .int .u64 0, .int .u64 0, .int .u64 0, .int .u64 0, (.slice (some ⟨w4.heap.size + 1, 0, none⟩) 1 1)] 60)) := ((below6 hb5 hs4 _ _ _ _ _ _).alloc (by rw [hVs]; omega) _).alloc (by rw [World.size_alloc, hVs]; omega) _
        have hTB : Box6 ((((((((w5.setCell ⟨w4.heap.size, 0, none⟩ (.int .i64 6)).setCell ⟨w4.heap.size, 1, none⟩ (.int .u64 0)).setCell ⟨w4.heap.size, 2, none⟩ (.int .u64 0)).setCell ⟨w4.heap.size, 3, none⟩ (.int .u64 0)).setCell ⟨w4.heap.size, 4, none⟩ (.int .u64 0)).setCell ⟨w4.heap.size, 5, none⟩ (.slice (some ⟨w4.heap.size + 1, 0, none⟩) 1 1)).alloc (.cells #[.int .i64 t.k, .int .u64 t.s.a, .int .u64 t.s.b, .int .u64 t.s.c, .int .u64 t.s.d, (.slice oe t.l.length ce)] 60)).alloc (.cells #[.int .i64 6, .int .u64 0, .int .u64 0, .int .u64 0, .int .u64 0, (.slice (some ⟨w4.heap.size + 1, 0, none⟩) 1 1)] 60)) (w4.heap.size + 1) (.int .i64 t.k) (.int .u64 t.s.a) (.int .u64 t.s.b) (.int .u64 t.s.c) (.int .u64 t.s.d) (.slice oe t.l.length ce) := (Box6.new (w := ((((((w5.setCell ⟨w4.heap.size, 0, none⟩ (.int .i64 6)).setCell ⟨w4.heap.size, 1, none⟩ (.int .u64 0)).setCell ⟨w4.heap.size, 2, none⟩ (.int .u64 0)).setCell ⟨w4.heap.size, 3, none⟩ (.int .u64 0)).setCell ⟨w4.heap.size, 4, none⟩ (.int .u64 0)).setCell ⟨w4.heap.size, 5, none⟩ (.slice (some ⟨w4.heap.size + 1, 0, none⟩) 1 1))) (n := w4.heap.size + 1) _ _ _ _ _ _ 60 hVs).later (below1 _ _) (by rw [World.size_alloc, hVs]; omega)
        have HRp5 : Hid (HT ((((((((w5.setCell ⟨w4.heap.size, 0, none⟩ (.int .i64 6)).setCell ⟨w4.heap.size, 1, none⟩ (.int .u64 0)).setCell ⟨w4.heap.size, 2, none⟩ (.int .u64 0)).setCell ⟨w4.heap.size, 3, none⟩ (.int .u64 0)).setCell ⟨w4.heap.size, 4, none⟩ (.int .u64 0)).setCell ⟨w4.heap.size, 5, none⟩ (.slice (some ⟨w4.heap.size + 1, 0, none⟩) 1 1)).alloc (.cells #[.int .i64 t.k, .int .u64 t.s.a, .int .u64 t.s.b, .int .u64 t.s.c, .int .u64 t.s.d, (.slice oe t.l.length ce)] 60)).alloc (.cells #[.int .i64 6, .int .u64 0, .int .u64 0, .int .u64 0, .int .u64 0, (.slice (some ⟨w4.heap.size + 1, 0, none⟩) 1 1)] 60)) (Btw wr.heap.size ((((((((w5.setCell ⟨w4.heap.size, 0, none⟩ (.int .i64 6)).setCell ⟨w4.heap.size, 1, none⟩ (.int .u64 0)).setCell ⟨w4.heap.size, 2, none⟩ (.int .u64 0)).setCell ⟨w4.heap.size, 3, none⟩ (.int .u64 0)).setCell ⟨w4.heap.size, 4, none⟩ (.int .u64 0)).setCell ⟨w4.heap.size, 5, none⟩ (.slice (some ⟨w4.heap.size + 1, 0, none⟩) 1 1)).alloc (.cells #[.int .i64 t.k, .int .u64 t.s.a, .int .u64 t.s.b, .int .u64 t.s.c, .int .u64 t.s.d, (.slice oe t.l.length ce)] 60)).alloc (.cells #[.int .i64 6, .int .u64 0, .int .u64 0, .int .u64 0, .int .u64 0, (.slice (some ⟨w4.heap.size + 1, 0, none⟩) 1 1)] 60)).heap.size) (.slice (some ⟨w4.heap.size + 1, 0, none⟩) 1 1) [t]) := Lib.hid (HT.one ⟨by omega, by rw [hsz2]; omega⟩ (TB.cells hTB) hT6)
        have HNW : Hid (((((((((w5.setCell ⟨w4.heap.size, 0, none⟩ (.int .i64 6)).setCell ⟨w4.heap.size, 1, none⟩ (.int .u64 0)).setCell ⟨w4.heap.size, 2, none⟩ (.int .u64 0)).setCell ⟨w4.heap.size, 3, none⟩ (.int .u64 0)).setCell ⟨w4.heap.size, 4, none⟩ (.int .u64 0)).setCell ⟨w4.heap.size, 5, none⟩ (.slice (some ⟨w4.heap.size + 1, 0, none⟩) 1 1)).alloc (.cells #[.int .i64 t.k, .int .u64 t.s.a, .int .u64 t.s.b, .int .u64 t.s.c, .int .u64 t.s.d, (.slice oe t.l.length ce)] 60)).alloc (.cells #[.int .i64 6, .int .u64 0, .int .u64 0, .int .u64 0, .int .u64 0, (.slice (some ⟨w4.heap.size + 1, 0, none⟩) 1 1)] 60)).heap[w4.heap.size + 1 + 1]? = some (.cells #[.int .i64 6, .int .u64 0, .int .u64 0, .int .u64 0, .int .u64 0, (.slice (some ⟨w4.heap.size + 1, 0, none⟩) 1 1)] 60 (0, 0))) := Lib.hid (by
          have := two_new' ((((((w5.setCell ⟨w4.heap.size, 0, none⟩ (.int .i64 6)).setCell ⟨w4.heap.size, 1, none⟩ (.int .u64 0)).setCell ⟨w4.heap.size, 2, none⟩ (.int .u64 0)).setCell ⟨w4.heap.size, 3, none⟩ (.int .u64 0)).setCell ⟨w4.heap.size, 4, none⟩ (.int .u64 0)).setCell ⟨w4.heap.size, 5, none⟩ (.slice (some ⟨w4.heap.size + 1, 0, none⟩) 1 1)) (.cells #[.int .i64 t.k, .int .u64 t.s.a, .int .u64 t.s.b, .int .u64 t.s.c, .int .u64 t.s.d, (.slice oe t.l.length ce)] 60) (.cells #[.int .i64 6, .int .u64 0, .int .u64 0, .int .u64 0, .int .u64 0, (.slice (some ⟨w4.heap.size + 1, 0, none⟩) 1 1)] 60)
          rwa [hVs] at this)
        have HX := Lib.hid hHX
        have HBX := Lib.hid (HB.out.trans (HX.out.mono (by omega)))
        have HZX := Lib.hid (HZ.out.later HX.out (by omega))
        clear hw5 hb4 hT hT5 hT6 hTB hHX hb5 hVs
        have hne : (acc ++ [(PT.mk 6 .zero [t])]).length ≠ 0 := by simp
        have HE1 : Hid (RES = (match sepC s.data.toList (m + 1) with | none => PR.ok (acc ++ [(PT.mk 6 .zero [t])]) (m + 1) | some j => (repL pat s.data.toList j).bind fun t' m' => sevL (repL pat s.data.toList) (sepC s.data.toList) g (acc ++ [(PT.mk 6 .zero [t])] ++ [t']) m').map (joinT 4)) := Lib.hid (by
          have h := HE.out
          rw [if_pos h42] at h
          rw [show ((PR.ok (PT.mk 6 .zero [t]) (m + 1) : PR PT).bind fun t m => sevL (repL pat s.data.toList) (sepC s.data.toList) (g + 1) (acc ++ [t]) m) = sevL (repL pat s.data.toList) (sepC s.data.toList) (g + 1) (acc ++ [(PT.mk 6 .zero [t])]) (m + 1) from rfl, sevL, if_neg hne] at h
          exact h)
        have HAM := Lib.hid (rAt_any s (m + 1))
        have HIn := Lib.hid (rIn_any (pk s.data.toList (m + 1)))
        clear HE hne
        unfold sepC at HE1
        clear h42
        unfold PT.val
        go_wp2_with fail
        rw [← HW5.out]
        refine (HA3.out _).mono ?_
        rintro e w9 ⟨rfl, h9⟩; subst w9
        obtain ⟨c0, c1, c2, c3, c4, c5, cf⟩ := HBx.out
        by_cases hbeg : begA (pk s.data.toList (m + 1)) = true
        · have HE2 : Hid (RES = ((repL pat s.data.toList (m + 1)).bind fun t' m' => sevL (repL pat s.data.toList) (sepC s.data.toList) g (acc ++ [(PT.mk 6 .zero [t])] ++ [t']) m').map (joinT 4)) := Lib.hid (by
            have h := HE1.out
            rw [if_pos hbeg] at h
            exact h)
          clear HE1
          obtain ⟨ps, hps, ho4, hr4⟩ := HAc.out.kp (X := fun _ => False) (.of HX.out (Nat.le_refl _)) (Nat.le_refl _) (fun _ _ h => h)
          have hpl : ps.length = acc.length := by rw [← hps, List.length_map]
          have hol : ∀ q, (Value.slice oc acc.length cc).ownBlock = some q → q < wr.heap.size := fun q hq => by
            obtain ⟨ps', hps', ho', -⟩ := HAc.out
            exact (own_lt ho' q hq).2
          have hn1 : ps.length + 1 ≤ maxLen := by unfold maxLen; omega
          have hby : (ps.length + 1) * 64 ≤ 140737488355328 := by omega
          rw [← hpl] at ho4 hr4
          rw [← hpl] at *
          have HOL := Lib.hid hol
          have HO5 := Lib.hid (show (((((((((w5.setCell ⟨w4.heap.size, 0, none⟩ (.int .i64 6)).setCell ⟨w4.heap.size, 1, none⟩ (.int .u64 0)).setCell ⟨w4.heap.size, 2, none⟩ (.int .u64 0)).setCell ⟨w4.heap.size, 3, none⟩ (.int .u64 0)).setCell ⟨w4.heap.size, 4, none⟩ (.int .u64 0)).setCell ⟨w4.heap.size, 5, none⟩ (.slice (some ⟨w4.heap.size + 1, 0, none⟩) 1 1)).alloc (.cells #[.int .i64 t.k, .int .u64 t.s.a, .int .u64 t.s.b, .int .u64 t.s.c, .int .u64 t.s.d, (.slice oe t.l.length ce)] 60)).alloc (.cells #[.int .i64 6, .int .u64 0, .int .u64 0, .int .u64 0, .int .u64 0, (.slice (some ⟨w4.heap.size + 1, 0, none⟩) 1 1)] 60))).ownsRow (w.heap.size + 1) 60 6 (.slice oc ps.length cc) ps.length (flatP ps) from ho4)
          have HRs5 := Lib.hid hr4
          have hps2 : ps.map (·.1) = acc := hps
          clear ho4 hr4 hol HAc
          go_wp2_with (at_builtin; refine wpList_append_lies _ rfl _ _ _ rfl (w.heap.size + 1) 60 i0 _ 6 64 Tryd.underlying58 hi0 hz0 hz1 hz2 rfl (by omega) (.slice oc ps.length cc) ps.length (flatP ps) rfl HO5.out ⟨w4.heap.size + 1 + 1, 0, none⟩ 1 1 [.int .i64 6, .int .u64 0, .int .u64 0, .int .u64 0, .int .u64 0, (.slice (some ⟨w4.heap.size + 1, 0, none⟩) 1 1)] rfl rfl (World.news_of_block (cs := #[.int .i64 6, .int .u64 0, .int .u64 0, .int .u64 0, .int .u64 0, (.slice (some ⟨w4.heap.size + 1, 0, none⟩) 1 1)]) (t := 60) (fr := (0, 0)) HNW.out) (by simp [Value.oneCell']) (by omega) hn1 hby (by simp; omega) (w4.heap.size + 3) hsz2 ?_)
          intro gg cap2 w7 hown7 hgrow hat hgl
          have HA7 : Hid (AccR w7 (w.heap.size + 1) (.slice (some ⟨gg, 0, none⟩) (ps.length + 1) cap2) (acc ++ [(PT.mk 6 .zero [t])])) := Lib.hid (by
            rw [← hps2]
            exact AccR.snoc HO5.out HRs5.out HRp5.out (by omega) HOL.out hown7 hgrow (by rw [hsz2]; exact hat) hgl)
          have HK7 : Hid (Below w.heap.size w w7) := Lib.hid (HBX.out.trans ⟨hgrow.os, hgrow.tape, hgrow.output, hgrow.size, fun q hq => hgrow.block q (by rw [hsz2]; omega) (fun e => by have := (own_lt HO5.out q e.symm).1; omega)⟩)
          have HZ7 : Hid (Z6 w7 w.heap.size) := Lib.hid (Box6.of_block HZX.out (hgrow.block w.heap.size (by rw [hsz2]; omega) (fun e => by have := (own_lt HO5.out w.heap.size e.symm).1; omega)))
          have hw7 : w.heap.size + 1 ≤ w7.heap.size := by have := hgrow.size; rw [hsz2] at this; omega
          clear hown7 hgrow hat hgl HO5 HRs5 HRp5 HX HBX HZX HNW HOL
          have hpl2 : acc.length = ps.length := by rw [← hps2, List.length_map]
          have HPL2 := Lib.hid hpl2
          clear hpl2 hps2
          go_wp2_with fail
          refine (HAM.out w7).mono ?_
          rintro e w9 ⟨rfl, h9⟩; subst w9
          obtain ⟨hin, e1, e2, e3, e4⟩ := begA_yes hbeg
          rw [hin] at HIn
          clear hbeg
          go_wp2_with fail
          refine (HIn.out w7).mono ?_
          rintro e w9 ⟨rfl, h9⟩; subst w9
          go_wp2_with fail
          have hpl2 := HPL2.out
          go_roundw
          case measure => simp [intOf]; omega
          case rel => exact ⟨acc ++ [(PT.mk 6 .zero [t])], some ⟨gg, 0, none⟩, cap2, m + 1, g, by first | rfl | go_num, by rw [List.length_append, hpl2]; rfl, by omega, by omega, by omega, by rw [List.length_append, hpl2]; show ps.length + 1 + i ≤ m + 1; omega, by rw [List.length_append, hpl2]; exact HA7, HZ7, HK7, hw7, HE2⟩
        · have HN : Hid (RES = .ok (joinT 4 (acc ++ [(PT.mk 6 .zero [t])])) (m + 1)) := Lib.hid (by
            have h := HE1.out
            rw [if_neg hbeg] at h
            exact h)
          clear HE1
          rw [Bool.not_eq_true] at hbeg
          obtain ⟨ps, hps, ho4, hr4⟩ := HAc.out.kp (X := fun _ => False) (.of HX.out (Nat.le_refl _)) (Nat.le_refl _) (fun _ _ h => h)
          have hpl : ps.length = acc.length := by rw [← hps, List.length_map]
          have hol : ∀ q, (Value.slice oc acc.length cc).ownBlock = some q → q < wr.heap.size := fun q hq => by
            obtain ⟨ps', hps', ho', -⟩ := HAc.out
            exact (own_lt ho' q hq).2
          have hn1 : ps.length + 1 ≤ maxLen := by unfold maxLen; omega
          have hby : (ps.length + 1) * 64 ≤ 140737488355328 := by omega
          rw [← hpl] at ho4 hr4
          rw [← hpl] at *
          have HOL := Lib.hid hol
          have HO5 := Lib.hid (show (((((((((w5.setCell ⟨w4.heap.size, 0, none⟩ (.int .i64 6)).setCell ⟨w4.heap.size, 1, none⟩ (.int .u64 0)).setCell ⟨w4.heap.size, 2, none⟩ (.int .u64 0)).setCell ⟨w4.heap.size, 3, none⟩ (.int .u64 0)).setCell ⟨w4.heap.size, 4, none⟩ (.int .u64 0)).setCell ⟨w4.heap.size, 5, none⟩ (.slice (some ⟨w4.heap.size + 1, 0, none⟩) 1 1)).alloc (.cells #[.int .i64 t.k, .int .u64 t.s.a, .int .u64 t.s.b, .int .u64 t.s.c, .int .u64 t.s.d, (.slice oe t.l.length ce)] 60)).alloc (.cells #[.int .i64 6, .int .u64 0, .int .u64 0, .int .u64 0, .int .u64 0, (.slice (some ⟨w4.heap.size + 1, 0, none⟩) 1 1)] 60))).ownsRow (w.heap.size + 1) 60 6 (.slice oc ps.length cc) ps.length (flatP ps) from ho4)
          have HRs5 := Lib.hid hr4
          have hps2 : ps.map (·.1) = acc := hps
          clear ho4 hr4 hol HAc
          go_wp2_with (at_builtin; refine wpList_append_lies _ rfl _ _ _ rfl (w.heap.size + 1) 60 i0 _ 6 64 Tryd.underlying58 hi0 hz0 hz1 hz2 rfl (by omega) (.slice oc ps.length cc) ps.length (flatP ps) rfl HO5.out ⟨w4.heap.size + 1 + 1, 0, none⟩ 1 1 [.int .i64 6, .int .u64 0, .int .u64 0, .int .u64 0, .int .u64 0, (.slice (some ⟨w4.heap.size + 1, 0, none⟩) 1 1)] rfl rfl (World.news_of_block (cs := #[.int .i64 6, .int .u64 0, .int .u64 0, .int .u64 0, .int .u64 0, (.slice (some ⟨w4.heap.size + 1, 0, none⟩) 1 1)]) (t := 60) (fr := (0, 0)) HNW.out) (by simp [Value.oneCell']) (by omega) hn1 hby (by simp; omega) (w4.heap.size + 3) hsz2 ?_)
          intro gg cap2 w7 hown7 hgrow hat hgl
          have HA7 : Hid (AccR w7 (w.heap.size + 1) (.slice (some ⟨gg, 0, none⟩) (ps.length + 1) cap2) (acc ++ [(PT.mk 6 .zero [t])])) := Lib.hid (by
            rw [← hps2]
            exact AccR.snoc HO5.out HRs5.out HRp5.out (by omega) HOL.out hown7 hgrow (by rw [hsz2]; exact hat) hgl)
          have HK7 : Hid (Below w.heap.size w w7) := Lib.hid (HBX.out.trans ⟨hgrow.os, hgrow.tape, hgrow.output, hgrow.size, fun q hq => hgrow.block q (by rw [hsz2]; omega) (fun e => by have := (own_lt HO5.out q e.symm).1; omega)⟩)
          have HZ7 : Hid (Z6 w7 w.heap.size) := Lib.hid (Box6.of_block HZX.out (hgrow.block w.heap.size (by rw [hsz2]; omega) (fun e => by have := (own_lt HO5.out w.heap.size e.symm).1; omega)))
          have hw7 : w.heap.size + 1 ≤ w7.heap.size := by have := hgrow.size; rw [hsz2] at this; omega
          clear hown7 hgrow hat hgl HO5 HRs5 HRp5 HX HBX HZX HNW HOL
          have hpl2 : acc.length = ps.length := by rw [← hps2, List.length_map]
          have HPL2 := Lib.hid hpl2
          clear hpl2 hps2
          go_wp2_with fail
          refine (HAM.out w7).mono ?_
          rintro e w9 ⟨rfl, h9⟩; subst w9
          rcases begA_no hbeg with hin | ⟨hin, e1⟩ | ⟨hin, e1, e2⟩ | ⟨hin, e1, e2, e3⟩ | ⟨hin, e1, e2, e3, e4⟩
          all_goals
            rw [hin] at HIn
            clear hbeg
            go_wp2_with fail
            refine (HIn.out w7).mono ?_
            rintro e w9 ⟨rfl, h9⟩; subst w9
            by_cases hl1 : ps.length = 0
            · have hl1b : (((ps.length : Int) + 1) == 1) = true := by rw [beq_iff_eq]; omega
              obtain rfl : acc = [] := List.eq_nil_of_length_eq_zero (by have := HPL2.out; omega)
              have hht := HA7.out.repS (by simp)
              obtain ⟨gb, off, oe9, ce9, hgb0, hgb, hT9, c0, c1, c2, c3, c4, c5⟩ := hht.at_ (i := 0) (v := (PT.mk 6 .zero [t])) rfl
              cases hgb0
              have HT9 := Lib.hid hT9
              obtain ⟨z0, z1, z2, z3, z4, z5, zf⟩ := HZ7.out
              have hgb1 : w.heap.size + 1 ≤ gg := hgb.1
              simp only [Nat.zero_mul, Nat.zero_add] at c0 c1 c2 c3 c4 c5
              clear hht hT9 hgb
              go_wp2_with fail
              refine bodyPost_ret (v := .tuple #[(PT.mk 6 .zero [t]).val (.slice oe9 (PT.mk 6 .zero [t]).l.length ce9), .int .i64 ((m + 1 : Nat) : Int), .bool true]) (by simp [results, Tryd.results67, go_sem, PT.val, *]) rfl ?_
              rw [HN.out]
              exact ⟨⟨oe9, ce9, rfl, HT9.out.six (by omega) (by omega) _ _ _ _ _ _⟩, below6 HK7.out (Nat.le_refl _) _ _ _ _ _ _⟩
            · have hl1b : (((ps.length : Int) + 1) == 1) = false := by rw [beq_eq_false_iff_ne]; omega
              have hps9 : ps.length ≤ 100 := by have := HPL2.out; omega
              have HL2 : Hid ((acc ++ [(PT.mk 6 .zero [t])]).length = ps.length + 1) := Lib.hid (by rw [List.length_append, HPL2.out]; rfl)
              have hj : joinT 4 (acc ++ [(PT.mk 6 .zero [t])]) = .mk 4 .zero (acc ++ [(PT.mk 6 .zero [t])]) := by
                have h2 := HL2.out
                match hac : acc ++ [(PT.mk 6 .zero [t])] with
                | [] => rw [hac] at h2; simp at h2
                | [x] => rw [hac] at h2; simp at h2; exact absurd (by rw [h2]; rfl) hl1
                | _ :: _ :: _ => rfl
              have HN2 : Hid (RES = .ok (.mk 4 .zero (acc ++ [(PT.mk 6 .zero [t])])) (m + 1 : Nat)) := Lib.hid (by rw [HN.out, hj])
              have HT9 := Lib.hid (HA7.out.repS (by have := HL2.out; omega))
              obtain ⟨z0, z1, z2, z3, z4, z5, zf⟩ := HZ7.out
              clear HN hj HA7
              go_wp2_with fail
              refine bodyPost_ret (v := .tuple #[.agg #[.int .i64 4, .int .u64 0, .int .u64 0, .int .u64 0, .int .u64 0, .slice (some ⟨gg, 0, none⟩) (ps.length + 1) cap2], .int .i64 ((m + 1 : Nat) : Int), .bool true]) (by simp [results, Tryd.results67, go_sem, *]) rfl ?_
              rw [HN2.out]
              have h9 := HT9.out.six (n := w.heap.size) (lo' := w.heap.size) (by omega) (by omega) (.int .i64 4) (.int .u64 0) (.int .u64 0) (.int .u64 0) (.int .u64 0) (.slice (some ⟨gg, 0, none⟩) (ps.length + 1) cap2)
              refine ⟨⟨some ⟨gg, 0, none⟩, cap2, ?_, ?_⟩, below6 HK7.out (Nat.le_refl _) _ _ _ _ _ _⟩
              · show _ = Ending.returned (.tuple #[PT.val _ (.slice _ (acc ++ [(PT.mk 6 .zero [t])]).length cap2), _, _])
                rw [HL2.out]; rfl
              · show HT _ _ (.slice _ (acc ++ [(PT.mk 6 .zero [t])]).length cap2) (acc ++ [(PT.mk 6 .zero [t])])
                rw [HL2.out]; exact h9
      · have h42b : (((pk s.data.toList m : Nat) : Int) == 42) = false := by rw [beq_eq_false_iff_ne]; omega
        have hs4 := hb4.size
        have hsz2 : ((w4.alloc (.cells #[.int .i64 t.k, .int .u64 t.s.a, .int .u64 t.s.b, .int .u64 t.s.c, .int .u64 t.s.d, (.slice oe t.l.length ce)] 60)).alloc (.cells #[.int .i64 t.k, .int .u64 t.s.a, .int .u64 t.s.b, .int .u64 t.s.c, .int .u64 t.s.d, (.slice oe t.l.length ce)] 60)).heap.size = w4.heap.size + 2 := by simp
        have HX : Hid (Below wr.heap.size wr ((w4.alloc (.cells #[.int .i64 t.k, .int .u64 t.s.a, .int .u64 t.s.b, .int .u64 t.s.c, .int .u64 t.s.d, (.slice oe t.l.length ce)] 60)).alloc (.cells #[.int .i64 t.k, .int .u64 t.s.a, .int .u64 t.s.b, .int .u64 t.s.c, .int .u64 t.s.d, (.slice oe t.l.length ce)] 60))) := Lib.hid (hb4.trans ((below2 w4 _ _).mono hs4))
        have HBX := Lib.hid (HB.out.trans (HX.out.mono (by omega)))
        have HZX := Lib.hid (HZ.out.later HX.out (by omega))
        have HNW : Hid (((w4.alloc (.cells #[.int .i64 t.k, .int .u64 t.s.a, .int .u64 t.s.b, .int .u64 t.s.c, .int .u64 t.s.d, (.slice oe t.l.length ce)] 60)).alloc (.cells #[.int .i64 t.k, .int .u64 t.s.a, .int .u64 t.s.b, .int .u64 t.s.c, .int .u64 t.s.d, (.slice oe t.l.length ce)] 60)).heap[w4.heap.size + 1]? = some (.cells #[.int .i64 t.k, .int .u64 t.s.a, .int .u64 t.s.b, .int .u64 t.s.c, .int .u64 t.s.d, (.slice oe t.l.length ce)] 60 (0, 0))) := Lib.hid (two_new' _ _ _)
        have HRp5 := Lib.hid ((hT.more (.cells #[.int .i64 t.k, .int .u64 t.s.a, .int .u64 t.s.b, .int .u64 t.s.c, .int .u64 t.s.d, (.slice oe t.l.length ce)] 60)).more (.cells #[.int .i64 t.k, .int .u64 t.s.a, .int .u64 t.s.b, .int .u64 t.s.c, .int .u64 t.s.d, (.slice oe t.l.length ce)] 60))
        clear hb4 hT
        unfold PT.val
        have hne : (acc ++ [t]).length ≠ 0 := by simp
        have HE1 : Hid (RES = (match sepC s.data.toList (m) with | none => PR.ok (acc ++ [t]) (m) | some j => (repL pat s.data.toList j).bind fun t' m' => sevL (repL pat s.data.toList) (sepC s.data.toList) g (acc ++ [t] ++ [t']) m').map (joinT 4)) := Lib.hid (by
          have h := HE.out
          rw [if_neg h42] at h
          rw [show ((PR.ok t (m) : PR PT).bind fun t m => sevL (repL pat s.data.toList) (sepC s.data.toList) (g + 1) (acc ++ [t]) m) = sevL (repL pat s.data.toList) (sepC s.data.toList) (g + 1) (acc ++ [t]) (m) from rfl, sevL, if_neg hne] at h
          exact h)
        have HAM := Lib.hid (rAt_any s (m))
        have HIn := Lib.hid (rIn_any (pk s.data.toList (m)))
        clear HE hne
        unfold sepC at HE1
        clear h42
        go_wp2_with fail
        refine (HA3.out _).mono ?_
        rintro e w9 ⟨rfl, h9⟩; subst w9
        by_cases hbeg : begA (pk s.data.toList (m)) = true
        · have HE2 : Hid (RES = ((repL pat s.data.toList (m)).bind fun t' m' => sevL (repL pat s.data.toList) (sepC s.data.toList) g (acc ++ [t] ++ [t']) m').map (joinT 4)) := Lib.hid (by
            have h := HE1.out
            rw [if_pos hbeg] at h
            exact h)
          clear HE1
          obtain ⟨ps, hps, ho4, hr4⟩ := HAc.out.kp (X := fun _ => False) (.of HX.out (Nat.le_refl _)) (Nat.le_refl _) (fun _ _ h => h)
          have hpl : ps.length = acc.length := by rw [← hps, List.length_map]
          have hol : ∀ q, (Value.slice oc acc.length cc).ownBlock = some q → q < wr.heap.size := fun q hq => by
            obtain ⟨ps', hps', ho', -⟩ := HAc.out
            exact (own_lt ho' q hq).2
          have hn1 : ps.length + 1 ≤ maxLen := by unfold maxLen; omega
          have hby : (ps.length + 1) * 64 ≤ 140737488355328 := by omega
          rw [← hpl] at ho4 hr4
          rw [← hpl] at *
          have HOL := Lib.hid hol
          have HO5 := Lib.hid (show (((w4.alloc (.cells #[.int .i64 t.k, .int .u64 t.s.a, .int .u64 t.s.b, .int .u64 t.s.c, .int .u64 t.s.d, (.slice oe t.l.length ce)] 60)).alloc (.cells #[.int .i64 t.k, .int .u64 t.s.a, .int .u64 t.s.b, .int .u64 t.s.c, .int .u64 t.s.d, (.slice oe t.l.length ce)] 60))).ownsRow (w.heap.size + 1) 60 6 (.slice oc ps.length cc) ps.length (flatP ps) from ho4)
          have HRs5 := Lib.hid hr4
          have hps2 : ps.map (·.1) = acc := hps
          clear ho4 hr4 hol HAc
          go_wp2_with (at_builtin; refine wpList_append_lies _ rfl _ _ _ rfl (w.heap.size + 1) 60 i0 _ 6 64 Tryd.underlying58 hi0 hz0 hz1 hz2 rfl (by omega) (.slice oc ps.length cc) ps.length (flatP ps) rfl HO5.out ⟨w4.heap.size + 1, 0, none⟩ 1 1 [.int .i64 t.k, .int .u64 t.s.a, .int .u64 t.s.b, .int .u64 t.s.c, .int .u64 t.s.d, (.slice oe t.l.length ce)] rfl rfl (World.news_of_block (cs := #[.int .i64 t.k, .int .u64 t.s.a, .int .u64 t.s.b, .int .u64 t.s.c, .int .u64 t.s.d, (.slice oe t.l.length ce)]) (t := 60) (fr := (0, 0)) HNW.out) (by simp [Value.oneCell']) (by omega) hn1 hby (by simp; omega) (w4.heap.size + 2) hsz2 ?_)
          intro gg cap2 w7 hown7 hgrow hat hgl
          have HA7 : Hid (AccR w7 (w.heap.size + 1) (.slice (some ⟨gg, 0, none⟩) (ps.length + 1) cap2) (acc ++ [t])) := Lib.hid (by
            rw [← hps2]
            exact AccR.snoc HO5.out HRs5.out HRp5.out (by omega) HOL.out hown7 hgrow (by rw [hsz2]; exact hat) hgl)
          have HK7 : Hid (Below w.heap.size w w7) := Lib.hid (HBX.out.trans ⟨hgrow.os, hgrow.tape, hgrow.output, hgrow.size, fun q hq => hgrow.block q (by rw [hsz2]; omega) (fun e => by have := (own_lt HO5.out q e.symm).1; omega)⟩)
          have HZ7 : Hid (Z6 w7 w.heap.size) := Lib.hid (Box6.of_block HZX.out (hgrow.block w.heap.size (by rw [hsz2]; omega) (fun e => by have := (own_lt HO5.out w.heap.size e.symm).1; omega)))
          have hw7 : w.heap.size + 1 ≤ w7.heap.size := by have := hgrow.size; rw [hsz2] at this; omega
          clear hown7 hgrow hat hgl HO5 HRs5 HRp5 HX HBX HZX HNW HOL
          have hpl2 : acc.length = ps.length := by rw [← hps2, List.length_map]
          have HPL2 := Lib.hid hpl2
          clear hpl2 hps2
          go_wp2_with fail
          refine (HAM.out w7).mono ?_
          rintro e w9 ⟨rfl, h9⟩; subst w9
          obtain ⟨hin, e1, e2, e3, e4⟩ := begA_yes hbeg
          rw [hin] at HIn
          clear hbeg
          go_wp2_with fail
          refine (HIn.out w7).mono ?_
          rintro e w9 ⟨rfl, h9⟩; subst w9
          go_wp2_with fail
          have hpl2 := HPL2.out
          go_roundw
          case measure => simp [intOf]; omega
          case rel => exact ⟨acc ++ [t], some ⟨gg, 0, none⟩, cap2, m, g, by first | rfl | go_num, by rw [List.length_append, hpl2]; rfl, by omega, by omega, by omega, by rw [List.length_append, hpl2]; show ps.length + 1 + i ≤ m; omega, by rw [List.length_append, hpl2]; exact HA7, HZ7, HK7, hw7, HE2⟩
        · have HN : Hid (RES = .ok (joinT 4 (acc ++ [t])) (m)) := Lib.hid (by
            have h := HE1.out
            rw [if_neg hbeg] at h
            exact h)
          clear HE1
          rw [Bool.not_eq_true] at hbeg
          obtain ⟨ps, hps, ho4, hr4⟩ := HAc.out.kp (X := fun _ => False) (.of HX.out (Nat.le_refl _)) (Nat.le_refl _) (fun _ _ h => h)
          have hpl : ps.length = acc.length := by rw [← hps, List.length_map]
          have hol : ∀ q, (Value.slice oc acc.length cc).ownBlock = some q → q < wr.heap.size := fun q hq => by
            obtain ⟨ps', hps', ho', -⟩ := HAc.out
            exact (own_lt ho' q hq).2
          have hn1 : ps.length + 1 ≤ maxLen := by unfold maxLen; omega
          have hby : (ps.length + 1) * 64 ≤ 140737488355328 := by omega
          rw [← hpl] at ho4 hr4
          rw [← hpl] at *
          have HOL := Lib.hid hol
          have HO5 := Lib.hid (show (((w4.alloc (.cells #[.int .i64 t.k, .int .u64 t.s.a, .int .u64 t.s.b, .int .u64 t.s.c, .int .u64 t.s.d, (.slice oe t.l.length ce)] 60)).alloc (.cells #[.int .i64 t.k, .int .u64 t.s.a, .int .u64 t.s.b, .int .u64 t.s.c, .int .u64 t.s.d, (.slice oe t.l.length ce)] 60))).ownsRow (w.heap.size + 1) 60 6 (.slice oc ps.length cc) ps.length (flatP ps) from ho4)
          have HRs5 := Lib.hid hr4
          have hps2 : ps.map (·.1) = acc := hps
          clear ho4 hr4 hol HAc
          go_wp2_with (at_builtin; refine wpList_append_lies _ rfl _ _ _ rfl (w.heap.size + 1) 60 i0 _ 6 64 Tryd.underlying58 hi0 hz0 hz1 hz2 rfl (by omega) (.slice oc ps.length cc) ps.length (flatP ps) rfl HO5.out ⟨w4.heap.size + 1, 0, none⟩ 1 1 [.int .i64 t.k, .int .u64 t.s.a, .int .u64 t.s.b, .int .u64 t.s.c, .int .u64 t.s.d, (.slice oe t.l.length ce)] rfl rfl (World.news_of_block (cs := #[.int .i64 t.k, .int .u64 t.s.a, .int .u64 t.s.b, .int .u64 t.s.c, .int .u64 t.s.d, (.slice oe t.l.length ce)]) (t := 60) (fr := (0, 0)) HNW.out) (by simp [Value.oneCell']) (by omega) hn1 hby (by simp; omega) (w4.heap.size + 2) hsz2 ?_)
          intro gg cap2 w7 hown7 hgrow hat hgl
          have HA7 : Hid (AccR w7 (w.heap.size + 1) (.slice (some ⟨gg, 0, none⟩) (ps.length + 1) cap2) (acc ++ [t])) := Lib.hid (by
            rw [← hps2]
            exact AccR.snoc HO5.out HRs5.out HRp5.out (by omega) HOL.out hown7 hgrow (by rw [hsz2]; exact hat) hgl)
          have HK7 : Hid (Below w.heap.size w w7) := Lib.hid (HBX.out.trans ⟨hgrow.os, hgrow.tape, hgrow.output, hgrow.size, fun q hq => hgrow.block q (by rw [hsz2]; omega) (fun e => by have := (own_lt HO5.out q e.symm).1; omega)⟩)
          have HZ7 : Hid (Z6 w7 w.heap.size) := Lib.hid (Box6.of_block HZX.out (hgrow.block w.heap.size (by rw [hsz2]; omega) (fun e => by have := (own_lt HO5.out w.heap.size e.symm).1; omega)))
          have hw7 : w.heap.size + 1 ≤ w7.heap.size := by have := hgrow.size; rw [hsz2] at this; omega
          clear hown7 hgrow hat hgl HO5 HRs5 HRp5 HX HBX HZX HNW HOL
          have hpl2 : acc.length = ps.length := by rw [← hps2, List.length_map]
          have HPL2 := Lib.hid hpl2
          clear hpl2 hps2
          go_wp2_with fail
          refine (HAM.out w7).mono ?_
          rintro e w9 ⟨rfl, h9⟩; subst w9
          clear h42b
          rcases begA_no hbeg with hin | ⟨hin, e1⟩ | ⟨hin, e1, e2⟩ | ⟨hin, e1, e2, e3⟩ | ⟨hin, e1, e2, e3, e4⟩
          all_goals
            rw [hin] at HIn
            clear hbeg
            go_wp2_with fail
            refine (HIn.out w7).mono ?_
            rintro e w9 ⟨rfl, h9⟩; subst w9
            by_cases hl1 : ps.length = 0
            · have hl1b : (((ps.length : Int) + 1) == 1) = true := by rw [beq_iff_eq]; omega
              obtain rfl : acc = [] := List.eq_nil_of_length_eq_zero (by have := HPL2.out; omega)
              have hht := HA7.out.repS (by simp)
              obtain ⟨gb, off, oe9, ce9, hgb0, hgb, hT9, c0, c1, c2, c3, c4, c5⟩ := hht.at_ (i := 0) (v := t) rfl
              cases hgb0
              have HT9 := Lib.hid hT9
              obtain ⟨z0, z1, z2, z3, z4, z5, zf⟩ := HZ7.out
              have hgb1 : w.heap.size + 1 ≤ gg := hgb.1
              simp only [Nat.zero_mul, Nat.zero_add] at c0 c1 c2 c3 c4 c5
              clear hht hT9 hgb
              go_wp2_with fail
              refine bodyPost_ret (v := .tuple #[t.val (.slice oe9 t.l.length ce9), .int .i64 (m : Int), .bool true]) (by simp [results, Tryd.results67, go_sem, PT.val, *]) rfl ?_
              rw [HN.out]
              exact ⟨⟨oe9, ce9, rfl, HT9.out.six (by omega) (by omega) _ _ _ _ _ _⟩, below6 HK7.out (Nat.le_refl _) _ _ _ _ _ _⟩
            · have hl1b : (((ps.length : Int) + 1) == 1) = false := by rw [beq_eq_false_iff_ne]; omega
              have hps9 : ps.length ≤ 100 := by have := HPL2.out; omega
              have HL2 : Hid ((acc ++ [t]).length = ps.length + 1) := Lib.hid (by rw [List.length_append, HPL2.out]; rfl)
              have hj : joinT 4 (acc ++ [t]) = .mk 4 .zero (acc ++ [t]) := by
                have h2 := HL2.out
                match hac : acc ++ [t] with
                | [] => rw [hac] at h2; simp at h2
                | [x] => rw [hac] at h2; simp at h2; exact absurd (by rw [h2]; rfl) hl1
                | _ :: _ :: _ => rfl
              have HN2 : Hid (RES = .ok (.mk 4 .zero (acc ++ [t])) m) := Lib.hid (by rw [HN.out, hj])
              have HT9 := Lib.hid (HA7.out.repS (by have := HL2.out; omega))
              obtain ⟨z0, z1, z2, z3, z4, z5, zf⟩ := HZ7.out
              clear HN hj HA7
              go_wp2_with fail
              refine bodyPost_ret (v := .tuple #[.agg #[.int .i64 4, .int .u64 0, .int .u64 0, .int .u64 0, .int .u64 0, .slice (some ⟨gg, 0, none⟩) (ps.length + 1) cap2], .int .i64 (m : Int), .bool true]) (by simp [results, Tryd.results67, go_sem, *]) rfl ?_
              rw [HN2.out]
              have h9 := HT9.out.six (n := w.heap.size) (lo' := w.heap.size) (by omega) (by omega) (.int .i64 4) (.int .u64 0) (.int .u64 0) (.int .u64 0) (.int .u64 0) (.slice (some ⟨gg, 0, none⟩) (ps.length + 1) cap2)
              refine ⟨⟨some ⟨gg, 0, none⟩, cap2, ?_, ?_⟩, below6 HK7.out (Nat.le_refl _) _ _ _ _ _ _⟩
              · show _ = Ending.returned (.tuple #[PT.val _ (.slice _ (acc ++ [t]).length cap2), _, _])
                rw [HL2.out]; rfl
              · show HT _ _ (.slice _ (acc ++ [t]).length cap2) (acc ++ [t])
                rw [HL2.out]; exact h9
end

section
open Go.RowKit

theorem rAltAll (s : ByteArray) (hs : s.size ≤ 100) : ∀ (d : Nat) (w : World) (j : Nat), j ≤ s.size → s.size < j + d → Calls Tryd.prog 47 #[.string s, .int .i64 (j : Int)] w (OutR w (patL s.data.toList d j)) := by
  intro d
  induction d with
  | zero => intro w j h1 h2; omega
  | succ d ih =>
    intro w j h1 h2
    exact rAlt_any s (catL (patL s.data.toList d) s.data.toList) d j h1 hs h2 (cat_good (pat_good _ d))
      (fun w' j' h3 h4 => rCat_any s (patL s.data.toList d) d j' h3 hs h4 (atom_good (pat_good _ d))
        (fun w'' j'' h5 h6 => rAtom_any s (patL s.data.toList d) d j'' h5 hs h6 (pat_good _ d) (fun w3 j3 h7 h8 => ih w3 j3 h7 h8) w'') w') w

/-- The fault of a text that is no pattern. -/
def fauP (p : ByteArray) : Nat := if p.size < 1 ∨ 40 < p.size then 0 else match parseT p.data.toList with
  | .bad m => m
  | .ok _ _ => 0
/-- What Parse of the specification returns. -/
def ParR (p : ByteArray) (w : World) (e : Ending) (w' : World) : Prop :=
  (errP p ≠ 0 ∧ ∃ m : Nat, e = .returned (.tuple #[zeroR, .int .i64 (m : Int), .int .i64 (errP p)]) ∧ m = fauP p) ∨
  (errP p = 0 ∧ ∃ (t : PT) (m : Nat) (oe : Option Addr) (ce : Nat), parseT p.data.toList = .ok t m ∧ e = .returned (.tuple #[t.val (.slice oe t.l.length ce), .int .i64 0, .int .i64 0]) ∧ HT w' (Btw w.heap.size w'.heap.size) (.slice oe t.l.length ce) t.l)
set_option maxRecDepth 100000 in
set_option maxHeartbeats 3200000 in
theorem rParse_any (p : ByteArray) (w : World) :
    Calls Tryd.prog 21 #[.string p] w fun e w' => ParR p w e w' ∧ Below w.heap.size w w' := by
  obtain ⟨w1, hw1⟩ : ∃ w1, w1 = w.alloc (.cells #[.int .i64 0, .int .u64 0, .int .u64 0, .int .u64 0, .int .u64 0, .slice none 0 0] 60) := ⟨_, rfl⟩
  have HW1 := Lib.hid hw1
  have hs1 : w1.heap.size = w.heap.size + 1 := by rw [hw1]; simp
  have hb1 : Below w.heap.size w w1 := by rw [hw1]; exact below1 _ _
  have HZ1 : Hid (Z6 w1 w.heap.size) := Lib.hid (by rw [hw1]; exact Box6.new _ _ _ _ _ _ _ rfl)
  have HB1 := Lib.hid hb1
  clear hw1 hb1
  obtain ⟨z0, z1, z2, z3, z4, z5, zf⟩ := HZ1.out
  by_cases h1 : p.size < 1
  · have h1I : (p.size : Int) < 1 := by omega
    have HE : Hid (errP p = 2) := Lib.hid (by unfold errP; rw [if_pos (.inl h1)])
    have HFa : Hid (0 = fauP p) := Lib.hid (by unfold fauP; rw [if_pos (.inl h1)])
    clear h1
    go_enter Tryd.func21, Tryd.ntmps21
    go_wp2_with fail
    rw [← HW1.out]
    refine bodyPost_ret (v := .tuple #[zeroR, .int .i64 ((0 : Nat) : Int), .int .i64 2]) (by simp [results, Tryd.results21, go_sem, zeroR, *]) rfl ?_
    exact ⟨.inl ⟨by rw [HE.out]; decide, 0, by rw [HE.out], HFa.out⟩, HB1.out⟩
  by_cases h40 : 40 < p.size
  · have h1I : ¬ (p.size : Int) < 1 := by omega
    have h40I : (40 : Int) < (p.size : Int) := by omega
    have HE : Hid (errP p = 2) := Lib.hid (by unfold errP; rw [if_pos (.inr h40)])
    have HFa : Hid (0 = fauP p) := Lib.hid (by unfold fauP; rw [if_pos (.inr h40)])
    clear h1 h40
    go_enter Tryd.func21, Tryd.ntmps21
    go_wp2_with fail
    rw [← HW1.out]
    refine bodyPost_ret (v := .tuple #[zeroR, .int .i64 ((0 : Nat) : Int), .int .i64 2]) (by simp [results, Tryd.results21, go_sem, zeroR, *]) rfl ?_
    exact ⟨.inl ⟨by rw [HE.out]; decide, 0, by rw [HE.out], HFa.out⟩, HB1.out⟩
  have h1I : ¬ (p.size : Int) < 1 := by omega
  have h40I : ¬ (40 : Int) < (p.size : Int) := by omega
  have HC := Lib.hid (rAltAll p (by omega) (p.data.toList.length + 1) w1 0 (Nat.zero_le _) (by rw [lt_len]; omega))
  have hsz : ¬ (p.size < 1 ∨ 40 < p.size) := by omega
  have hg := (pat_good p.data.toList (p.data.toList.length + 1) 0 (Nat.zero_le _)).1
  cases hq : patL p.data.toList (p.data.toList.length + 1) 0 with
  | bad m =>
    have hpt : parseT p.data.toList = .bad m := by unfold parseT; rw [hq]; rfl
    have HE : Hid (errP p = 8) := Lib.hid (by unfold errP; rw [if_neg hsz, hpt])
    have HFa : Hid (m = fauP p) := Lib.hid (by unfold fauP; rw [if_neg hsz, hpt])
    rw [hq] at HC
    clear hg hq hpt hsz h1 h40
    go_enter Tryd.func21, Tryd.ntmps21
    go_wp2_with fail
    rw [← HW1.out]
    refine HC.out.mono ?_
    rintro e w4 ⟨rfl, hb4⟩
    have hs4 := hb4.size
    have hz5 := (HZ1.out.later hb4 (by omega)).later (below1 w4 (.cells #[.int .i64 0, .int .u64 0, .int .u64 0, .int .u64 0, .int .u64 0, .slice none 0 0] 60)) (by omega)
    have HB5 := Lib.hid ((HB1.out.trans (hb4.mono (by omega))).trans ((below1 w4 (.cells #[.int .i64 0, .int .u64 0, .int .u64 0, .int .u64 0, .int .u64 0, .slice none 0 0] 60)).mono (by omega)))
    clear z0 z1 z2 z3 z4 z5 zf hb4
    obtain ⟨z0, z1, z2, z3, z4, z5, zf⟩ := hz5
    unfold zeroR
    go_wp2_with fail
    refine bodyPost_ret (v := .tuple #[zeroR, .int .i64 (m : Int), .int .i64 8]) (by simp [results, Tryd.results21, go_sem, zeroR, *]) rfl ?_
    exact ⟨.inl ⟨by rw [HE.out]; decide, m, by rw [HE.out], HFa.out⟩, below6 HB5.out (Nat.le_refl _) _ _ _ _ _ _⟩
  | ok t m =>
    rw [hq] at HC hg
    have hm : m ≤ p.size := by have := hg.2; rwa [lt_len] at this
    by_cases hend : m = p.size
    · have hpt : parseT p.data.toList = .ok t m := by
        unfold parseT
        rw [hq]
        show (if m = p.data.toList.length then PR.ok t m else .bad m) = _
        rw [if_pos (by rw [lt_len]; exact hend)]
      have HPT := Lib.hid hpt
      have HE : Hid (errP p = 0) := Lib.hid (by unfold errP; rw [if_neg hsz, hpt])
      have hmI : ¬ (m : Int) < (p.size : Int) := by omega
      clear hg hq hpt hsz h1 h40 hend hm
      go_enter Tryd.func21, Tryd.ntmps21
      go_wp2_with fail
      rw [← HW1.out]
      refine HC.out.mono ?_
      rintro e w4 ⟨⟨oe, ce, rfl, hT⟩, hb4⟩
      have hs4 := hb4.size
      have hz5 := (HZ1.out.later hb4 (by omega)).later (below1 w4 (.cells #[.int .i64 t.k, .int .u64 t.s.a, .int .u64 t.s.b, .int .u64 t.s.c, .int .u64 t.s.d, .slice oe t.l.length ce] 60)) (by omega)
      have HB5 := Lib.hid ((HB1.out.trans (hb4.mono (by omega))).trans ((below1 w4 (.cells #[.int .i64 t.k, .int .u64 t.s.a, .int .u64 t.s.b, .int .u64 t.s.c, .int .u64 t.s.d, .slice oe t.l.length ce] 60)).mono (by omega)))
      have HT5 := Lib.hid (hT.more (.cells #[.int .i64 t.k, .int .u64 t.s.a, .int .u64 t.s.b, .int .u64 t.s.c, .int .u64 t.s.d, .slice oe t.l.length ce] 60))
      clear z0 z1 z2 z3 z4 z5 zf hb4 hT
      obtain ⟨z0, z1, z2, z3, z4, z5, zf⟩ := hz5
      unfold PT.val
      go_wp2_with fail
      refine bodyPost_ret (v := .tuple #[.agg #[.int .i64 t.k, .int .u64 t.s.a, .int .u64 t.s.b, .int .u64 t.s.c, .int .u64 t.s.d, .slice oe t.l.length ce], .int .i64 0, .int .i64 0]) (by simp [results, Tryd.results21, go_sem, *]) rfl ?_
      exact ⟨.inr ⟨HE.out, t, m, oe, ce, HPT.out, rfl, HT5.out.six (by omega) (by omega) _ _ _ _ _ _⟩, below6 HB5.out (Nat.le_refl _) _ _ _ _ _ _⟩
    · have hpt : parseT p.data.toList = .bad m := by
        unfold parseT
        rw [hq]
        show (if m = p.data.toList.length then PR.ok t m else .bad m) = _
        rw [if_neg (by rw [lt_len]; exact hend)]
      have HE : Hid (errP p = 8) := Lib.hid (by unfold errP; rw [if_neg hsz, hpt])
      have HFa : Hid (m = fauP p) := Lib.hid (by unfold fauP; rw [if_neg hsz, hpt])
      have hmI : (m : Int) < (p.size : Int) := by omega
      clear hg hq hpt hsz h1 h40 hend hm
      go_enter Tryd.func21, Tryd.ntmps21
      go_wp2_with fail
      rw [← HW1.out]
      refine HC.out.mono ?_
      rintro e w4 ⟨⟨oe, ce, rfl, hT⟩, hb4⟩
      have hs4 := hb4.size
      have hz5 := (HZ1.out.later hb4 (by omega)).later (below1 w4 (.cells #[.int .i64 t.k, .int .u64 t.s.a, .int .u64 t.s.b, .int .u64 t.s.c, .int .u64 t.s.d, .slice oe t.l.length ce] 60)) (by omega)
      have HB5 := Lib.hid ((HB1.out.trans (hb4.mono (by omega))).trans ((below1 w4 (.cells #[.int .i64 t.k, .int .u64 t.s.a, .int .u64 t.s.b, .int .u64 t.s.c, .int .u64 t.s.d, .slice oe t.l.length ce] 60)).mono (by omega)))
      clear z0 z1 z2 z3 z4 z5 zf hb4 hT
      obtain ⟨z0, z1, z2, z3, z4, z5, zf⟩ := hz5
      unfold PT.val
      go_wp2_with fail
      refine bodyPost_ret (v := .tuple #[zeroR, .int .i64 (m : Int), .int .i64 8]) (by simp [results, Tryd.results21, go_sem, zeroR, *]) rfl ?_
      exact ⟨.inl ⟨by rw [HE.out]; decide, m, by rw [HE.out], HFa.out⟩, below6 HB5.out (Nat.le_refl _) _ _ _ _ _ _⟩
end

end Go.Proofs.YtaipaddfehpmgaaDoor
