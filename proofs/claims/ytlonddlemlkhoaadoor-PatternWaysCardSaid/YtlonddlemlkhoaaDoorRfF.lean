/-
  cat of the specification. Nothing is assumed.
-/
import Derived.Test.YtlonddlemlkhoaaDoorRfG
namespace Go.Proofs.YtlonddlemlkhoaaDoor
open Go.RowKit

theorem begA_yes {c : Nat} (h : begA c = true) : inA c = true ∧ ((c : Int) == 41) = false ∧ ((c : Int) == 124) = false ∧ ((c : Int) == 42) = false ∧ ((c : Int) == 93) = false := by
  have h1 := begA_lt h
  have h2 : inA c = true := by unfold inA; simp; omega
  refine ⟨h2, ?_, ?_, ?_, ?_⟩ <;> rw [beq_eq_false_iff_ne] <;> intro e
  all_goals
    unfold begA isPl isSp spec8 at h
    simp at h
    omega
theorem begA_no {c : Nat} (h : begA c = false) : inA c = false ∨ (inA c = true ∧ ((c : Int) == 41) = true) ∨ (inA c = true ∧ ((c : Int) == 41) = false ∧ ((c : Int) == 124) = true) ∨ (inA c = true ∧ ((c : Int) == 41) = false ∧ ((c : Int) == 124) = false ∧ ((c : Int) == 42) = true) ∨ (inA c = true ∧ ((c : Int) == 41) = false ∧ ((c : Int) == 124) = false ∧ ((c : Int) == 42) = false ∧ ((c : Int) == 93) = true) := by
  cases hin : inA c
  · exact .inl rfl
  · right
    by_cases h1 : c = 41
    · exact .inl ⟨rfl, by rw [beq_iff_eq]; omega⟩
    by_cases h2 : c = 124
    · exact .inr (.inl ⟨rfl, by rw [beq_eq_false_iff_ne]; omega, by rw [beq_iff_eq]; omega⟩)
    by_cases h3 : c = 42
    · exact .inr (.inr (.inl ⟨rfl, by rw [beq_eq_false_iff_ne]; omega, by rw [beq_eq_false_iff_ne]; omega, by rw [beq_iff_eq]; omega⟩))
    by_cases h4 : c = 93
    · exact .inr (.inr (.inr ⟨rfl, by rw [beq_eq_false_iff_ne]; omega, by rw [beq_eq_false_iff_ne]; omega, by rw [beq_eq_false_iff_ne]; omega, by rw [beq_iff_eq]; omega⟩))
    exfalso
    unfold begA isPl isSp spec8 at h
    rw [hin] at h
    simp at h
    omega
theorem HT.after6 {w5 : World} {n lo : Nat} {x : Value} {l : List PT} (h : HT w5 (Btw lo n) x l) (hn : n < w5.heap.size) (a b c d e f : Value) :
    HT ((((((w5.setCell ⟨n, 0, none⟩ a).setCell ⟨n, 1, none⟩ b).setCell ⟨n, 2, none⟩ c).setCell ⟨n, 3, none⟩ d).setCell ⟨n, 4, none⟩ e).setCell ⟨n, 5, none⟩ f) (Btw lo ((((((w5.setCell ⟨n, 0, none⟩ a).setCell ⟨n, 1, none⟩ b).setCell ⟨n, 2, none⟩ c).setCell ⟨n, 3, none⟩ d).setCell ⟨n, 4, none⟩ e).setCell ⟨n, 5, none⟩ f).heap.size) x l :=
  (kpset6 (Kp.refl w5.heap.size (Is n) w5) rfl a b c d e f).rep h (by omega) (fun k _ h2 h => by unfold Is at h; omega) (Nat.le_refl _) (by rw [size6]; omega)

set_option maxRecDepth 100000 in
set_option maxHeartbeats 6400000 in
theorem rCat_any (s : ByteArray) (pat : Nat → PR PT) (d i : Nat) (hi : i ≤ s.size) (hs : s.size ≤ 100) (hd : s.size < i + (d + 1)) (hgd : Good s.data.toList (atomL pat s.data.toList)) (hone : ∀ (w' : World) (j : Nat), j ≤ s.size → s.size < j + (d + 1) → Calls Tryd.prog 81 #[.string s, .int .i64 (j : Int)] w' (OutR w' (atomL pat s.data.toList j))) (w : World) :
    Calls Tryd.prog 58 #[.string s, .int .i64 (i : Int)] w (OutR w ((sevL (repL pat s.data.toList) (sepC s.data.toList) (s.data.toList.length + 1) [] i).map (joinT 4))) := by
  obtain ⟨i0, hi0, hz0, hz1, hz2⟩ := info_parts rinfoTree
  obtain ⟨RES, hRES⟩ : ∃ RES, RES = (sevL (repL pat s.data.toList) (sepC s.data.toList) (s.data.toList.length + 1) [] i).map (joinT 4) := ⟨_, rfl⟩
  rw [← hRES]
  rw [sevL, if_pos (show ([] : List PT).length = 0 from rfl), lt_len] at hRES
  have HE0 := Lib.hid hRES
  obtain ⟨w1, hw1⟩ : ∃ w1, w1 = w.alloc (.cells #[.int .i64 0, .int .u64 0, .int .u64 0, .int .u64 0, .int .u64 0, .slice none 0 0] 33) := ⟨_, rfl⟩
  have HW1 := Lib.hid hw1
  have hs1 : w1.heap.size = w.heap.size + 1 := by rw [hw1]; simp
  have hb1 : Below w.heap.size w w1 := by rw [hw1]; exact below1 _ _
  have HZ1 : Hid (Z6 w1 w.heap.size) := Lib.hid (by rw [hw1]; exact Box6.new _ _ _ _ _ _ _ rfl)
  have HB1 := Lib.hid hb1
  have HGD := Lib.hid hgd
  have HONE := Lib.hid hone
  clear hw1 hb1 hgd hone hRES
  go_enter Tryd.func58, Tryd.ntmps58
  go_wp2_with fail
  rw [← HW1.out]
  go_loopw [1, 7] (fun v1 v7 wr => ∃ (acc : List PT) (oc : Option Addr) (cc ii g : Nat), v1 = .int .i64 (ii : Int) ∧ v7 = .slice oc acc.length cc ∧ ii ≤ s.size ∧ i ≤ ii ∧ s.size ≤ ii + g ∧ acc.length + i ≤ ii ∧ Hid (AccR wr (w.heap.size + 1) (.slice oc acc.length cc) acc) ∧ Hid (Z6 wr w.heap.size) ∧ Hid (Below w.heap.size w wr) ∧ w.heap.size + 1 ≤ wr.heap.size ∧ Hid (RES = ((repL pat s.data.toList ii).bind fun t m => sevL (repL pat s.data.toList) (sepC s.data.toList) g (acc ++ [t]) m).map (joinT 4))) (fun v1 _ _ => s.size + 1 - (intOf v1).toNat)
  case atStart => exact ⟨[], none, 0, i, s.size, rfl, rfl, hi, Nat.le_refl _, by omega, by simp, Lib.hid (AccR.nil _ _), HZ1, HB1, by omega, HE0⟩
  case round =>
    obtain ⟨acc, oc, cc, ii, g, rfl, rfl, hii, hi0i, hfu, hai, HAc, HZ, HB, hwr, HE⟩ := hrel
    clear HZ1 HB1 HE0
    have HC := Lib.hid (HONE.out wr ii hii (by omega))
    have hg := (HGD.out ii (by rw [lt_len]; exact hii)).1
    replace HE : Hid (RES = (((atomL pat s.data.toList ii).bind fun t m => if pk s.data.toList m = 42 then .ok (.mk 6 .zero [t]) (m + 1) else .ok t m).bind fun t m => sevL (repL pat s.data.toList) (sepC s.data.toList) g (acc ++ [t]) m).map (joinT 4)) := HE
    cases hq : atomL pat s.data.toList ii with
    | bad m =>
      rw [hq] at HC HE
      have HF : Hid (RES = .bad m) := Lib.hid HE.out
      clear HE hq hg HAc
      go_wp2_with fail
      refine HC.out.mono ?_
      rintro e w4 ⟨rfl, hb4⟩
      have hz5 := (HZ.out.later hb4 (by omega)).later (below1 w4 (.cells #[.int .i64 0, .int .u64 0, .int .u64 0, .int .u64 0, .int .u64 0, .slice none 0 0] 33)) (by have := hb4.size; omega)
      have hs4 := hb4.size
      have HB5 := Lib.hid ((HB.out.trans (hb4.mono (by omega))).trans ((below1 w4 (.cells #[.int .i64 0, .int .u64 0, .int .u64 0, .int .u64 0, .int .u64 0, .slice none 0 0] 33)).mono (by omega)))
      obtain ⟨z0, z1, z2, z3, z4, z5, zf⟩ := hz5
      clear hb4
      unfold zeroR
      go_wp2_with fail
      refine bodyPost_ret (v := .tuple #[zeroR, .int .i64 ((m : Nat) : Int), .bool false]) (by simp [results, Tryd.results58, go_sem, zeroR, *]) rfl ?_
      rw [HF.out]
      exact ⟨rfl, below6 HB5.out (Nat.le_refl _) _ _ _ _ _ _⟩
    | ok t m =>
      rw [hq] at HC HE hg
      have him : ii < m ∧ m ≤ s.size := by have := hg; rw [lt_len] at this; exact this
      obtain ⟨g, rfl⟩ : ∃ g', g = g' + 1 := ⟨g - 1, by omega⟩
      have HA3 := Lib.hid (rAt_any s m)
      have hwm : IntKind.i64.wrap ((m : Int) + 1) = ((m + 1 : Nat) : Int) := by rw [IntWalk.i64_in _ (by omega)]; omega
      replace HE : Hid (RES = ((if pk s.data.toList m = 42 then .ok (.mk 6 .zero [t]) (m + 1) else .ok t m : PR PT).bind fun t m => sevL (repL pat s.data.toList) (sepC s.data.toList) (g + 1) (acc ++ [t]) m).map (joinT 4)) := HE
      clear hq hg
      go_wp2_with fail
      refine HC.out.mono ?_
      rintro e w4 ⟨⟨oe, ce, rfl, hT⟩, hb4⟩
      clear HC
      by_cases h42 : pk s.data.toList m = 42
      · have h42b : (((pk s.data.toList m : Nat) : Int) == 42) = true := by rw [beq_iff_eq]; omega
        have hm1 : m + 1 ≤ s.size := by have := pk_is h42 (by decide); rw [lt_len] at this; omega
        have hs4 := hb4.size
        obtain ⟨w5, hw5⟩ : ∃ w5, w5 = w4.alloc (.cells #[.int .i64 t.k, .int .u64 t.s.a, .int .u64 t.s.b, .int .u64 t.s.c, .int .u64 t.s.d, (.slice oe t.l.length ce)] 33) := ⟨_, rfl⟩
        have HW5 := Lib.hid hw5
        have hs5 : w5.heap.size = w4.heap.size + 1 := by rw [hw5]; simp
        have HBx : Hid (Box6 w5 w4.heap.size (.int .i64 t.k) (.int .u64 t.s.a) (.int .u64 t.s.b) (.int .u64 t.s.c) (.int .u64 t.s.d) (.slice oe t.l.length ce)) := Lib.hid (by rw [hw5]; exact Box6.new _ _ _ _ _ _ _ rfl)
        have hb5 : Below wr.heap.size wr w5 := hb4.trans (by rw [hw5]; exact (below1 w4 _).mono hs4)
        have hVs : ((((((w5.setCell ⟨w4.heap.size, 0, none⟩ (.int .i64 6)).setCell ⟨w4.heap.size, 1, none⟩ (.int .u64 0)).setCell ⟨w4.heap.size, 2, none⟩ (.int .u64 0)).setCell ⟨w4.heap.size, 3, none⟩ (.int .u64 0)).setCell ⟨w4.heap.size, 4, none⟩ (.int .u64 0)).setCell ⟨w4.heap.size, 5, none⟩ (.slice (some ⟨w4.heap.size + 1, 0, none⟩) 1 1)).heap.size = w4.heap.size + 1 := by rw [size6, hs5]
        have hT5 : HT w5 (Btw wr.heap.size w4.heap.size) (.slice oe t.l.length ce) t.l := hT.later (fun _ h => h) (fun b hb o => by rw [hw5]; exact (below1 w4 _).cell (p := ⟨b, o, none⟩) hb.2)
        have hT6 := ((hT5.after6 (by omega) (.int .i64 6) (.int .u64 0) (.int .u64 0) (.int .u64 0) (.int .u64 0) (.slice (some ⟨w4.heap.size + 1, 0, none⟩) 1 1)).more (.cells #[.int .i64 t.k, .int .u64 t.s.a, .int .u64 t.s.b, .int .u64 t.s.c, .int .u64 t.s.d, (.slice oe t.l.length ce)] 33)).more (.cells #[.int .i64 6, .int .u64 0, .int .u64 0, .int .u64 0, .int .u64 0, (.slice (some ⟨w4.heap.size + 1, 0, none⟩) 1 1)] 33)
        have hsz2 : ((((((((w5.setCell ⟨w4.heap.size, 0, none⟩ (.int .i64 6)).setCell ⟨w4.heap.size, 1, none⟩ (.int .u64 0)).setCell ⟨w4.heap.size, 2, none⟩ (.int .u64 0)).setCell ⟨w4.heap.size, 3, none⟩ (.int .u64 0)).setCell ⟨w4.heap.size, 4, none⟩ (.int .u64 0)).setCell ⟨w4.heap.size, 5, none⟩ (.slice (some ⟨w4.heap.size + 1, 0, none⟩) 1 1)).alloc (.cells #[.int .i64 t.k, .int .u64 t.s.a, .int .u64 t.s.b, .int .u64 t.s.c, .int .u64 t.s.d, (.slice oe t.l.length ce)] 33)).alloc (.cells #[.int .i64 6, .int .u64 0, .int .u64 0, .int .u64 0, .int .u64 0, (.slice (some ⟨w4.heap.size + 1, 0, none⟩) 1 1)] 33)).heap.size = w4.heap.size + 3 := by rw [World.size_alloc, World.size_alloc, hVs]
        have hHX : Below wr.heap.size wr ((((((((w5.setCell ⟨w4.heap.size, 0, none⟩ (.int .i64 6)).setCell ⟨w4.heap.size, 1, none⟩ (.int .u64 0)).setCell ⟨w4.heap.size, 2, none⟩ (.int .u64 0)).setCell ⟨w4.heap.size, 3, none⟩ (.int .u64 0)).setCell ⟨w4.heap.size, 4, none⟩ (.int .u64 0)).setCell ⟨w4.heap.size, 5, none⟩ (.slice (some ⟨w4.heap.size + 1, 0, none⟩) 1 1)).alloc (.cells #[.int .i64 t.k, .int .u64 t.s.a, .int .u64 t.s.b, .int .u64 t.s.c, .int .u64 t.s.d, (.slice oe t.l.length ce)] 33)).alloc (.cells #[.int .i64 6, .int .u64 0, .int .u64 0, .int .u64 0, .int .u64 0, (.slice (some ⟨w4.heap.size + 1, 0, none⟩) 1 1)] 33)) := ((below6 hb5 hs4 _ _ _ _ _ _).alloc (by rw [hVs]; omega) _).alloc (by rw [World.size_alloc, hVs]; omega) _
        have hTB : Box6 ((((((((w5.setCell ⟨w4.heap.size, 0, none⟩ (.int .i64 6)).setCell ⟨w4.heap.size, 1, none⟩ (.int .u64 0)).setCell ⟨w4.heap.size, 2, none⟩ (.int .u64 0)).setCell ⟨w4.heap.size, 3, none⟩ (.int .u64 0)).setCell ⟨w4.heap.size, 4, none⟩ (.int .u64 0)).setCell ⟨w4.heap.size, 5, none⟩ (.slice (some ⟨w4.heap.size + 1, 0, none⟩) 1 1)).alloc (.cells #[.int .i64 t.k, .int .u64 t.s.a, .int .u64 t.s.b, .int .u64 t.s.c, .int .u64 t.s.d, (.slice oe t.l.length ce)] 33)).alloc (.cells #[.int .i64 6, .int .u64 0, .int .u64 0, .int .u64 0, .int .u64 0, (.slice (some ⟨w4.heap.size + 1, 0, none⟩) 1 1)] 33)) (w4.heap.size + 1) (.int .i64 t.k) (.int .u64 t.s.a) (.int .u64 t.s.b) (.int .u64 t.s.c) (.int .u64 t.s.d) (.slice oe t.l.length ce) := (Box6.new (w := ((((((w5.setCell ⟨w4.heap.size, 0, none⟩ (.int .i64 6)).setCell ⟨w4.heap.size, 1, none⟩ (.int .u64 0)).setCell ⟨w4.heap.size, 2, none⟩ (.int .u64 0)).setCell ⟨w4.heap.size, 3, none⟩ (.int .u64 0)).setCell ⟨w4.heap.size, 4, none⟩ (.int .u64 0)).setCell ⟨w4.heap.size, 5, none⟩ (.slice (some ⟨w4.heap.size + 1, 0, none⟩) 1 1))) (n := w4.heap.size + 1) _ _ _ _ _ _ 33 hVs).later (below1 _ _) (by rw [World.size_alloc, hVs]; omega)
        have HRp5 : Hid (HT ((((((((w5.setCell ⟨w4.heap.size, 0, none⟩ (.int .i64 6)).setCell ⟨w4.heap.size, 1, none⟩ (.int .u64 0)).setCell ⟨w4.heap.size, 2, none⟩ (.int .u64 0)).setCell ⟨w4.heap.size, 3, none⟩ (.int .u64 0)).setCell ⟨w4.heap.size, 4, none⟩ (.int .u64 0)).setCell ⟨w4.heap.size, 5, none⟩ (.slice (some ⟨w4.heap.size + 1, 0, none⟩) 1 1)).alloc (.cells #[.int .i64 t.k, .int .u64 t.s.a, .int .u64 t.s.b, .int .u64 t.s.c, .int .u64 t.s.d, (.slice oe t.l.length ce)] 33)).alloc (.cells #[.int .i64 6, .int .u64 0, .int .u64 0, .int .u64 0, .int .u64 0, (.slice (some ⟨w4.heap.size + 1, 0, none⟩) 1 1)] 33)) (Btw wr.heap.size ((((((((w5.setCell ⟨w4.heap.size, 0, none⟩ (.int .i64 6)).setCell ⟨w4.heap.size, 1, none⟩ (.int .u64 0)).setCell ⟨w4.heap.size, 2, none⟩ (.int .u64 0)).setCell ⟨w4.heap.size, 3, none⟩ (.int .u64 0)).setCell ⟨w4.heap.size, 4, none⟩ (.int .u64 0)).setCell ⟨w4.heap.size, 5, none⟩ (.slice (some ⟨w4.heap.size + 1, 0, none⟩) 1 1)).alloc (.cells #[.int .i64 t.k, .int .u64 t.s.a, .int .u64 t.s.b, .int .u64 t.s.c, .int .u64 t.s.d, (.slice oe t.l.length ce)] 33)).alloc (.cells #[.int .i64 6, .int .u64 0, .int .u64 0, .int .u64 0, .int .u64 0, (.slice (some ⟨w4.heap.size + 1, 0, none⟩) 1 1)] 33)).heap.size) (.slice (some ⟨w4.heap.size + 1, 0, none⟩) 1 1) [t]) := Lib.hid (HT.one ⟨by omega, by rw [hsz2]; omega⟩ (TB.cells hTB) hT6)
        have HNW : Hid (((((((((w5.setCell ⟨w4.heap.size, 0, none⟩ (.int .i64 6)).setCell ⟨w4.heap.size, 1, none⟩ (.int .u64 0)).setCell ⟨w4.heap.size, 2, none⟩ (.int .u64 0)).setCell ⟨w4.heap.size, 3, none⟩ (.int .u64 0)).setCell ⟨w4.heap.size, 4, none⟩ (.int .u64 0)).setCell ⟨w4.heap.size, 5, none⟩ (.slice (some ⟨w4.heap.size + 1, 0, none⟩) 1 1)).alloc (.cells #[.int .i64 t.k, .int .u64 t.s.a, .int .u64 t.s.b, .int .u64 t.s.c, .int .u64 t.s.d, (.slice oe t.l.length ce)] 33)).alloc (.cells #[.int .i64 6, .int .u64 0, .int .u64 0, .int .u64 0, .int .u64 0, (.slice (some ⟨w4.heap.size + 1, 0, none⟩) 1 1)] 33)).heap[w4.heap.size + 1 + 1]? = some (.cells #[.int .i64 6, .int .u64 0, .int .u64 0, .int .u64 0, .int .u64 0, (.slice (some ⟨w4.heap.size + 1, 0, none⟩) 1 1)] 33 (0, 0))) := Lib.hid (by
          have := two_new' ((((((w5.setCell ⟨w4.heap.size, 0, none⟩ (.int .i64 6)).setCell ⟨w4.heap.size, 1, none⟩ (.int .u64 0)).setCell ⟨w4.heap.size, 2, none⟩ (.int .u64 0)).setCell ⟨w4.heap.size, 3, none⟩ (.int .u64 0)).setCell ⟨w4.heap.size, 4, none⟩ (.int .u64 0)).setCell ⟨w4.heap.size, 5, none⟩ (.slice (some ⟨w4.heap.size + 1, 0, none⟩) 1 1)) (.cells #[.int .i64 t.k, .int .u64 t.s.a, .int .u64 t.s.b, .int .u64 t.s.c, .int .u64 t.s.d, (.slice oe t.l.length ce)] 33) (.cells #[.int .i64 6, .int .u64 0, .int .u64 0, .int .u64 0, .int .u64 0, (.slice (some ⟨w4.heap.size + 1, 0, none⟩) 1 1)] 33)
          rwa [hVs] at this)
        have HX := Lib.hid hHX
        have HBX := Lib.hid (HB.out.trans (HX.out.mono (by omega)))
        have HZX := Lib.hid (HZ.out.later HX.out (by omega))
        clear hw5 hb4 hT hT5 hT6 hTB hHX hb5 hVs
        have hne : (acc ++ [(PT.mk 6 .zero [t])]).length ≠ 0 := by simp
        have HE1 : Hid (RES = (match sepC s.data.toList (m + 1) with | none => PR.ok (acc ++ [(PT.mk 6 .zero [t])]) (m + 1) | some j => (repL pat s.data.toList j).bind fun t' m' => sevL (repL pat s.data.toList) (sepC s.data.toList) g (acc ++ [(PT.mk 6 .zero [t])] ++ [t']) m').map (joinT 4)) := Lib.hid (by
          have h := HE.out
          rw [if_pos h42] at h
          rw [show ((PR.ok (PT.mk 6 .zero [t]) (m + 1) : PR PT).bind fun t m => sevL (repL pat s.data.toList) (sepC s.data.toList) (g + 1) (acc ++ [t]) m) = sevL (repL pat s.data.toList) (sepC s.data.toList) (g + 1) (acc ++ [(PT.mk 6 .zero [t])]) (m + 1) from rfl, sevL, if_neg hne] at h
          exact h)
        have HAM := Lib.hid (rAt_any s (m + 1))
        have HIn := Lib.hid (rIn_any (pk s.data.toList (m + 1)))
        clear HE hne
        unfold sepC at HE1
        clear h42
        unfold PT.val
        go_wp2_with fail
        rw [← HW5.out]
        refine (HA3.out _).mono ?_
        rintro e w9 ⟨rfl, h9⟩; subst w9
        obtain ⟨c0, c1, c2, c3, c4, c5, cf⟩ := HBx.out
        by_cases hbeg : begA (pk s.data.toList (m + 1)) = true
        · have HE2 : Hid (RES = ((repL pat s.data.toList (m + 1)).bind fun t' m' => sevL (repL pat s.data.toList) (sepC s.data.toList) g (acc ++ [(PT.mk 6 .zero [t])] ++ [t']) m').map (joinT 4)) := Lib.hid (by
            have h := HE1.out
            rw [if_pos hbeg] at h
            exact h)
          clear HE1
          obtain ⟨ps, hps, ho4, hr4⟩ := HAc.out.kp (X := fun _ => False) (.of HX.out (Nat.le_refl _)) (Nat.le_refl _) (fun _ _ h => h)
          have hpl : ps.length = acc.length := by rw [← hps, List.length_map]
          have hol : ∀ q, (Value.slice oc acc.length cc).ownBlock = some q → q < wr.heap.size := fun q hq => by
            obtain ⟨ps', hps', ho', -⟩ := HAc.out
            exact (own_lt ho' q hq).2
          have hn1 : ps.length + 1 ≤ maxLen := by unfold maxLen; omega
          have hby : (ps.length + 1) * 64 ≤ 140737488355328 := by omega
          rw [← hpl] at ho4 hr4
          rw [← hpl] at *
          have HOL := Lib.hid hol
          have HO5 := Lib.hid (show (((((((((w5.setCell ⟨w4.heap.size, 0, none⟩ (.int .i64 6)).setCell ⟨w4.heap.size, 1, none⟩ (.int .u64 0)).setCell ⟨w4.heap.size, 2, none⟩ (.int .u64 0)).setCell ⟨w4.heap.size, 3, none⟩ (.int .u64 0)).setCell ⟨w4.heap.size, 4, none⟩ (.int .u64 0)).setCell ⟨w4.heap.size, 5, none⟩ (.slice (some ⟨w4.heap.size + 1, 0, none⟩) 1 1)).alloc (.cells #[.int .i64 t.k, .int .u64 t.s.a, .int .u64 t.s.b, .int .u64 t.s.c, .int .u64 t.s.d, (.slice oe t.l.length ce)] 33)).alloc (.cells #[.int .i64 6, .int .u64 0, .int .u64 0, .int .u64 0, .int .u64 0, (.slice (some ⟨w4.heap.size + 1, 0, none⟩) 1 1)] 33))).ownsRow (w.heap.size + 1) 33 6 (.slice oc ps.length cc) ps.length (flatP ps) from ho4)
          have HRs5 := Lib.hid hr4
          have hps2 : ps.map (·.1) = acc := hps
          clear ho4 hr4 hol HAc
          go_wp2_with (at_builtin; refine wpList_append_lies _ rfl _ _ _ rfl (w.heap.size + 1) 33 i0 _ 6 64 Tryd.underlying31 hi0 hz0 hz1 hz2 rfl (by omega) (.slice oc ps.length cc) ps.length (flatP ps) rfl HO5.out ⟨w4.heap.size + 1 + 1, 0, none⟩ 1 1 [.int .i64 6, .int .u64 0, .int .u64 0, .int .u64 0, .int .u64 0, (.slice (some ⟨w4.heap.size + 1, 0, none⟩) 1 1)] rfl rfl (World.news_of_block (cs := #[.int .i64 6, .int .u64 0, .int .u64 0, .int .u64 0, .int .u64 0, (.slice (some ⟨w4.heap.size + 1, 0, none⟩) 1 1)]) (t := 33) (fr := (0, 0)) HNW.out) (by simp [Value.oneCell']) (by omega) hn1 hby (by simp; omega) (w4.heap.size + 3) hsz2 ?_)
          intro gg cap2 w7 hown7 hgrow hat hgl
          have HA7 : Hid (AccR w7 (w.heap.size + 1) (.slice (some ⟨gg, 0, none⟩) (ps.length + 1) cap2) (acc ++ [(PT.mk 6 .zero [t])])) := Lib.hid (by
            rw [← hps2]
            exact AccR.snoc HO5.out HRs5.out HRp5.out (by omega) HOL.out hown7 hgrow (by rw [hsz2]; exact hat) hgl)
          have HK7 : Hid (Below w.heap.size w w7) := Lib.hid (HBX.out.trans ⟨hgrow.os, hgrow.tape, hgrow.output, hgrow.size, fun q hq => hgrow.block q (by rw [hsz2]; omega) (fun e => by have := (own_lt HO5.out q e.symm).1; omega)⟩)
          have HZ7 : Hid (Z6 w7 w.heap.size) := Lib.hid (Box6.of_block HZX.out (hgrow.block w.heap.size (by rw [hsz2]; omega) (fun e => by have := (own_lt HO5.out w.heap.size e.symm).1; omega)))
          have hw7 : w.heap.size + 1 ≤ w7.heap.size := by have := hgrow.size; rw [hsz2] at this; omega
          clear hown7 hgrow hat hgl HO5 HRs5 HRp5 HX HBX HZX HNW HOL
          have hpl2 : acc.length = ps.length := by rw [← hps2, List.length_map]
          have HPL2 := Lib.hid hpl2
          clear hpl2 hps2
          go_wp2_with fail
          refine (HAM.out w7).mono ?_
          rintro e w9 ⟨rfl, h9⟩; subst w9
          obtain ⟨hin, e1, e2, e3, e4⟩ := begA_yes hbeg
          rw [hin] at HIn
          clear hbeg
          go_wp2_with fail
          refine (HIn.out w7).mono ?_
          rintro e w9 ⟨rfl, h9⟩; subst w9
          go_wp2_with fail
          have hpl2 := HPL2.out
          go_roundw
          case measure => simp [intOf]; omega
          case rel => exact ⟨acc ++ [(PT.mk 6 .zero [t])], some ⟨gg, 0, none⟩, cap2, m + 1, g, by first | rfl | go_num, by rw [List.length_append, hpl2]; rfl, by omega, by omega, by omega, by rw [List.length_append, hpl2]; show ps.length + 1 + i ≤ m + 1; omega, by rw [List.length_append, hpl2]; exact HA7, HZ7, HK7, hw7, HE2⟩
        · have HN : Hid (RES = .ok (joinT 4 (acc ++ [(PT.mk 6 .zero [t])])) (m + 1)) := Lib.hid (by
            have h := HE1.out
            rw [if_neg hbeg] at h
            exact h)
          clear HE1
          rw [Bool.not_eq_true] at hbeg
          obtain ⟨ps, hps, ho4, hr4⟩ := HAc.out.kp (X := fun _ => False) (.of HX.out (Nat.le_refl _)) (Nat.le_refl _) (fun _ _ h => h)
          have hpl : ps.length = acc.length := by rw [← hps, List.length_map]
          have hol : ∀ q, (Value.slice oc acc.length cc).ownBlock = some q → q < wr.heap.size := fun q hq => by
            obtain ⟨ps', hps', ho', -⟩ := HAc.out
            exact (own_lt ho' q hq).2
          have hn1 : ps.length + 1 ≤ maxLen := by unfold maxLen; omega
          have hby : (ps.length + 1) * 64 ≤ 140737488355328 := by omega
          rw [← hpl] at ho4 hr4
          rw [← hpl] at *
          have HOL := Lib.hid hol
          have HO5 := Lib.hid (show (((((((((w5.setCell ⟨w4.heap.size, 0, none⟩ (.int .i64 6)).setCell ⟨w4.heap.size, 1, none⟩ (.int .u64 0)).setCell ⟨w4.heap.size, 2, none⟩ (.int .u64 0)).setCell ⟨w4.heap.size, 3, none⟩ (.int .u64 0)).setCell ⟨w4.heap.size, 4, none⟩ (.int .u64 0)).setCell ⟨w4.heap.size, 5, none⟩ (.slice (some ⟨w4.heap.size + 1, 0, none⟩) 1 1)).alloc (.cells #[.int .i64 t.k, .int .u64 t.s.a, .int .u64 t.s.b, .int .u64 t.s.c, .int .u64 t.s.d, (.slice oe t.l.length ce)] 33)).alloc (.cells #[.int .i64 6, .int .u64 0, .int .u64 0, .int .u64 0, .int .u64 0, (.slice (some ⟨w4.heap.size + 1, 0, none⟩) 1 1)] 33))).ownsRow (w.heap.size + 1) 33 6 (.slice oc ps.length cc) ps.length (flatP ps) from ho4)
          have HRs5 := Lib.hid hr4
          have hps2 : ps.map (·.1) = acc := hps
          clear ho4 hr4 hol HAc
          go_wp2_with (at_builtin; refine wpList_append_lies _ rfl _ _ _ rfl (w.heap.size + 1) 33 i0 _ 6 64 Tryd.underlying31 hi0 hz0 hz1 hz2 rfl (by omega) (.slice oc ps.length cc) ps.length (flatP ps) rfl HO5.out ⟨w4.heap.size + 1 + 1, 0, none⟩ 1 1 [.int .i64 6, .int .u64 0, .int .u64 0, .int .u64 0, .int .u64 0, (.slice (some ⟨w4.heap.size + 1, 0, none⟩) 1 1)] rfl rfl (World.news_of_block (cs := #[.int .i64 6, .int .u64 0, .int .u64 0, .int .u64 0, .int .u64 0, (.slice (some ⟨w4.heap.size + 1, 0, none⟩) 1 1)]) (t := 33) (fr := (0, 0)) HNW.out) (by simp [Value.oneCell']) (by omega) hn1 hby (by simp; omega) (w4.heap.size + 3) hsz2 ?_)
          intro gg cap2 w7 hown7 hgrow hat hgl
          have HA7 : Hid (AccR w7 (w.heap.size + 1) (.slice (some ⟨gg, 0, none⟩) (ps.length + 1) cap2) (acc ++ [(PT.mk 6 .zero [t])])) := Lib.hid (by
            rw [← hps2]
            exact AccR.snoc HO5.out HRs5.out HRp5.out (by omega) HOL.out hown7 hgrow (by rw [hsz2]; exact hat) hgl)
          have HK7 : Hid (Below w.heap.size w w7) := Lib.hid (HBX.out.trans ⟨hgrow.os, hgrow.tape, hgrow.output, hgrow.size, fun q hq => hgrow.block q (by rw [hsz2]; omega) (fun e => by have := (own_lt HO5.out q e.symm).1; omega)⟩)
          have HZ7 : Hid (Z6 w7 w.heap.size) := Lib.hid (Box6.of_block HZX.out (hgrow.block w.heap.size (by rw [hsz2]; omega) (fun e => by have := (own_lt HO5.out w.heap.size e.symm).1; omega)))
          have hw7 : w.heap.size + 1 ≤ w7.heap.size := by have := hgrow.size; rw [hsz2] at this; omega
          clear hown7 hgrow hat hgl HO5 HRs5 HRp5 HX HBX HZX HNW HOL
          have hpl2 : acc.length = ps.length := by rw [← hps2, List.length_map]
          have HPL2 := Lib.hid hpl2
          clear hpl2 hps2
          go_wp2_with fail
          refine (HAM.out w7).mono ?_
          rintro e w9 ⟨rfl, h9⟩; subst w9
          rcases begA_no hbeg with hin | ⟨hin, e1⟩ | ⟨hin, e1, e2⟩ | ⟨hin, e1, e2, e3⟩ | ⟨hin, e1, e2, e3, e4⟩
          all_goals
            rw [hin] at HIn
            clear hbeg
            go_wp2_with fail
            refine (HIn.out w7).mono ?_
            rintro e w9 ⟨rfl, h9⟩; subst w9
            by_cases hl1 : ps.length = 0
            · have hl1b : (((ps.length : Int) + 1) == 1) = true := by rw [beq_iff_eq]; omega
              obtain rfl : acc = [] := List.eq_nil_of_length_eq_zero (by have := HPL2.out; omega)
              have hht := HA7.out.repS (by simp)
              obtain ⟨gb, off, oe9, ce9, hgb0, hgb, hT9, c0, c1, c2, c3, c4, c5⟩ := hht.at_ (i := 0) (v := (PT.mk 6 .zero [t])) rfl
              cases hgb0
              have HT9 := Lib.hid hT9
              obtain ⟨z0, z1, z2, z3, z4, z5, zf⟩ := HZ7.out
              have hgb1 : w.heap.size + 1 ≤ gg := hgb.1
              simp only [Nat.zero_mul, Nat.zero_add] at c0 c1 c2 c3 c4 c5
              clear hht hT9 hgb
              go_wp2_with fail
              refine bodyPost_ret (v := .tuple #[(PT.mk 6 .zero [t]).val (.slice oe9 (PT.mk 6 .zero [t]).l.length ce9), .int .i64 ((m + 1 : Nat) : Int), .bool true]) (by simp [results, Tryd.results58, go_sem, PT.val, *]) rfl ?_
              rw [HN.out]
              exact ⟨⟨oe9, ce9, rfl, HT9.out.six (by omega) (by omega) _ _ _ _ _ _⟩, below6 HK7.out (Nat.le_refl _) _ _ _ _ _ _⟩
            · have hl1b : (((ps.length : Int) + 1) == 1) = false := by rw [beq_eq_false_iff_ne]; omega
              have hps9 : ps.length ≤ 100 := by have := HPL2.out; omega
              have HL2 : Hid ((acc ++ [(PT.mk 6 .zero [t])]).length = ps.length + 1) := Lib.hid (by rw [List.length_append, HPL2.out]; rfl)
              have hj : joinT 4 (acc ++ [(PT.mk 6 .zero [t])]) = .mk 4 .zero (acc ++ [(PT.mk 6 .zero [t])]) := by
                have h2 := HL2.out
                match hac : acc ++ [(PT.mk 6 .zero [t])] with
                | [] => rw [hac] at h2; simp at h2
                | [x] => rw [hac] at h2; simp at h2; exact absurd (by rw [h2]; rfl) hl1
                | _ :: _ :: _ => rfl
              have HN2 : Hid (RES = .ok (.mk 4 .zero (acc ++ [(PT.mk 6 .zero [t])])) (m + 1 : Nat)) := Lib.hid (by rw [HN.out, hj])
              have HT9 := Lib.hid (HA7.out.repS (by have := HL2.out; omega))
              obtain ⟨z0, z1, z2, z3, z4, z5, zf⟩ := HZ7.out
              clear HN hj HA7
              go_wp2_with fail
              refine bodyPost_ret (v := .tuple #[.agg #[.int .i64 4, .int .u64 0, .int .u64 0, .int .u64 0, .int .u64 0, .slice (some ⟨gg, 0, none⟩) (ps.length + 1) cap2], .int .i64 ((m + 1 : Nat) : Int), .bool true]) (by simp [results, Tryd.results58, go_sem, *]) rfl ?_
              rw [HN2.out]
              have h9 := HT9.out.six (n := w.heap.size) (lo' := w.heap.size) (by omega) (by omega) (.int .i64 4) (.int .u64 0) (.int .u64 0) (.int .u64 0) (.int .u64 0) (.slice (some ⟨gg, 0, none⟩) (ps.length + 1) cap2)
              refine ⟨⟨some ⟨gg, 0, none⟩, cap2, ?_, ?_⟩, below6 HK7.out (Nat.le_refl _) _ _ _ _ _ _⟩
              · show _ = Ending.returned (.tuple #[PT.val _ (.slice _ (acc ++ [(PT.mk 6 .zero [t])]).length cap2), _, _])
                rw [HL2.out]; rfl
              · show HT _ _ (.slice _ (acc ++ [(PT.mk 6 .zero [t])]).length cap2) (acc ++ [(PT.mk 6 .zero [t])])
                rw [HL2.out]; exact h9
      · have h42b : (((pk s.data.toList m : Nat) : Int) == 42) = false := by rw [beq_eq_false_iff_ne]; omega
        have hs4 := hb4.size
        have hsz2 : ((w4.alloc (.cells #[.int .i64 t.k, .int .u64 t.s.a, .int .u64 t.s.b, .int .u64 t.s.c, .int .u64 t.s.d, (.slice oe t.l.length ce)] 33)).alloc (.cells #[.int .i64 t.k, .int .u64 t.s.a, .int .u64 t.s.b, .int .u64 t.s.c, .int .u64 t.s.d, (.slice oe t.l.length ce)] 33)).heap.size = w4.heap.size + 2 := by simp
        have HX : Hid (Below wr.heap.size wr ((w4.alloc (.cells #[.int .i64 t.k, .int .u64 t.s.a, .int .u64 t.s.b, .int .u64 t.s.c, .int .u64 t.s.d, (.slice oe t.l.length ce)] 33)).alloc (.cells #[.int .i64 t.k, .int .u64 t.s.a, .int .u64 t.s.b, .int .u64 t.s.c, .int .u64 t.s.d, (.slice oe t.l.length ce)] 33))) := Lib.hid (hb4.trans ((below2 w4 _ _).mono hs4))
        have HBX := Lib.hid (HB.out.trans (HX.out.mono (by omega)))
        have HZX := Lib.hid (HZ.out.later HX.out (by omega))
        have HNW : Hid (((w4.alloc (.cells #[.int .i64 t.k, .int .u64 t.s.a, .int .u64 t.s.b, .int .u64 t.s.c, .int .u64 t.s.d, (.slice oe t.l.length ce)] 33)).alloc (.cells #[.int .i64 t.k, .int .u64 t.s.a, .int .u64 t.s.b, .int .u64 t.s.c, .int .u64 t.s.d, (.slice oe t.l.length ce)] 33)).heap[w4.heap.size + 1]? = some (.cells #[.int .i64 t.k, .int .u64 t.s.a, .int .u64 t.s.b, .int .u64 t.s.c, .int .u64 t.s.d, (.slice oe t.l.length ce)] 33 (0, 0))) := Lib.hid (two_new' _ _ _)
        have HRp5 := Lib.hid ((hT.more (.cells #[.int .i64 t.k, .int .u64 t.s.a, .int .u64 t.s.b, .int .u64 t.s.c, .int .u64 t.s.d, (.slice oe t.l.length ce)] 33)).more (.cells #[.int .i64 t.k, .int .u64 t.s.a, .int .u64 t.s.b, .int .u64 t.s.c, .int .u64 t.s.d, (.slice oe t.l.length ce)] 33))
        clear hb4 hT
        unfold PT.val
        have hne : (acc ++ [t]).length ≠ 0 := by simp
        have HE1 : Hid (RES = (match sepC s.data.toList (m) with | none => PR.ok (acc ++ [t]) (m) | some j => (repL pat s.data.toList j).bind fun t' m' => sevL (repL pat s.data.toList) (sepC s.data.toList) g (acc ++ [t] ++ [t']) m').map (joinT 4)) := Lib.hid (by
          have h := HE.out
          rw [if_neg h42] at h
          rw [show ((PR.ok t (m) : PR PT).bind fun t m => sevL (repL pat s.data.toList) (sepC s.data.toList) (g + 1) (acc ++ [t]) m) = sevL (repL pat s.data.toList) (sepC s.data.toList) (g + 1) (acc ++ [t]) (m) from rfl, sevL, if_neg hne] at h
          exact h)
        have HAM := Lib.hid (rAt_any s (m))
        have HIn := Lib.hid (rIn_any (pk s.data.toList (m)))
        clear HE hne
        unfold sepC at HE1
        clear h42
        go_wp2_with fail
        refine (HA3.out _).mono ?_
        rintro e w9 ⟨rfl, h9⟩; subst w9
        by_cases hbeg : begA (pk s.data.toList (m)) = true
        · have HE2 : Hid (RES = ((repL pat s.data.toList (m)).bind fun t' m' => sevL (repL pat s.data.toList) (sepC s.data.toList) g (acc ++ [t] ++ [t']) m').map (joinT 4)) := Lib.hid (by
            have h := HE1.out
            rw [if_pos hbeg] at h
            exact h)
          clear HE1
          obtain ⟨ps, hps, ho4, hr4⟩ := HAc.out.kp (X := fun _ => False) (.of HX.out (Nat.le_refl _)) (Nat.le_refl _) (fun _ _ h => h)
          have hpl : ps.length = acc.length := by rw [← hps, List.length_map]
          have hol : ∀ q, (Value.slice oc acc.length cc).ownBlock = some q → q < wr.heap.size := fun q hq => by
            obtain ⟨ps', hps', ho', -⟩ := HAc.out
            exact (own_lt ho' q hq).2
          have hn1 : ps.length + 1 ≤ maxLen := by unfold maxLen; omega
          have hby : (ps.length + 1) * 64 ≤ 140737488355328 := by omega
          rw [← hpl] at ho4 hr4
          rw [← hpl] at *
          have HOL := Lib.hid hol
          have HO5 := Lib.hid (show (((w4.alloc (.cells #[.int .i64 t.k, .int .u64 t.s.a, .int .u64 t.s.b, .int .u64 t.s.c, .int .u64 t.s.d, (.slice oe t.l.length ce)] 33)).alloc (.cells #[.int .i64 t.k, .int .u64 t.s.a, .int .u64 t.s.b, .int .u64 t.s.c, .int .u64 t.s.d, (.slice oe t.l.length ce)] 33))).ownsRow (w.heap.size + 1) 33 6 (.slice oc ps.length cc) ps.length (flatP ps) from ho4)
          have HRs5 := Lib.hid hr4
          have hps2 : ps.map (·.1) = acc := hps
          clear ho4 hr4 hol HAc
          go_wp2_with (at_builtin; refine wpList_append_lies _ rfl _ _ _ rfl (w.heap.size + 1) 33 i0 _ 6 64 Tryd.underlying31 hi0 hz0 hz1 hz2 rfl (by omega) (.slice oc ps.length cc) ps.length (flatP ps) rfl HO5.out ⟨w4.heap.size + 1, 0, none⟩ 1 1 [.int .i64 t.k, .int .u64 t.s.a, .int .u64 t.s.b, .int .u64 t.s.c, .int .u64 t.s.d, (.slice oe t.l.length ce)] rfl rfl (World.news_of_block (cs := #[.int .i64 t.k, .int .u64 t.s.a, .int .u64 t.s.b, .int .u64 t.s.c, .int .u64 t.s.d, (.slice oe t.l.length ce)]) (t := 33) (fr := (0, 0)) HNW.out) (by simp [Value.oneCell']) (by omega) hn1 hby (by simp; omega) (w4.heap.size + 2) hsz2 ?_)
          intro gg cap2 w7 hown7 hgrow hat hgl
          have HA7 : Hid (AccR w7 (w.heap.size + 1) (.slice (some ⟨gg, 0, none⟩) (ps.length + 1) cap2) (acc ++ [t])) := Lib.hid (by
            rw [← hps2]
            exact AccR.snoc HO5.out HRs5.out HRp5.out (by omega) HOL.out hown7 hgrow (by rw [hsz2]; exact hat) hgl)
          have HK7 : Hid (Below w.heap.size w w7) := Lib.hid (HBX.out.trans ⟨hgrow.os, hgrow.tape, hgrow.output, hgrow.size, fun q hq => hgrow.block q (by rw [hsz2]; omega) (fun e => by have := (own_lt HO5.out q e.symm).1; omega)⟩)
          have HZ7 : Hid (Z6 w7 w.heap.size) := Lib.hid (Box6.of_block HZX.out (hgrow.block w.heap.size (by rw [hsz2]; omega) (fun e => by have := (own_lt HO5.out w.heap.size e.symm).1; omega)))
          have hw7 : w.heap.size + 1 ≤ w7.heap.size := by have := hgrow.size; rw [hsz2] at this; omega
          clear hown7 hgrow hat hgl HO5 HRs5 HRp5 HX HBX HZX HNW HOL
          have hpl2 : acc.length = ps.length := by rw [← hps2, List.length_map]
          have HPL2 := Lib.hid hpl2
          clear hpl2 hps2
          go_wp2_with fail
          refine (HAM.out w7).mono ?_
          rintro e w9 ⟨rfl, h9⟩; subst w9
          obtain ⟨hin, e1, e2, e3, e4⟩ := begA_yes hbeg
          rw [hin] at HIn
          clear hbeg
          go_wp2_with fail
          refine (HIn.out w7).mono ?_
          rintro e w9 ⟨rfl, h9⟩; subst w9
          go_wp2_with fail
          have hpl2 := HPL2.out
          go_roundw
          case measure => simp [intOf]; omega
          case rel => exact ⟨acc ++ [t], some ⟨gg, 0, none⟩, cap2, m, g, by first | rfl | go_num, by rw [List.length_append, hpl2]; rfl, by omega, by omega, by omega, by rw [List.length_append, hpl2]; show ps.length + 1 + i ≤ m; omega, by rw [List.length_append, hpl2]; exact HA7, HZ7, HK7, hw7, HE2⟩
        · have HN : Hid (RES = .ok (joinT 4 (acc ++ [t])) (m)) := Lib.hid (by
            have h := HE1.out
            rw [if_neg hbeg] at h
            exact h)
          clear HE1
          rw [Bool.not_eq_true] at hbeg
          obtain ⟨ps, hps, ho4, hr4⟩ := HAc.out.kp (X := fun _ => False) (.of HX.out (Nat.le_refl _)) (Nat.le_refl _) (fun _ _ h => h)
          have hpl : ps.length = acc.length := by rw [← hps, List.length_map]
          have hol : ∀ q, (Value.slice oc acc.length cc).ownBlock = some q → q < wr.heap.size := fun q hq => by
            obtain ⟨ps', hps', ho', -⟩ := HAc.out
            exact (own_lt ho' q hq).2
          have hn1 : ps.length + 1 ≤ maxLen := by unfold maxLen; omega
          have hby : (ps.length + 1) * 64 ≤ 140737488355328 := by omega
          rw [← hpl] at ho4 hr4
          rw [← hpl] at *
          have HOL := Lib.hid hol
          have HO5 := Lib.hid (show (((w4.alloc (.cells #[.int .i64 t.k, .int .u64 t.s.a, .int .u64 t.s.b, .int .u64 t.s.c, .int .u64 t.s.d, (.slice oe t.l.length ce)] 33)).alloc (.cells #[.int .i64 t.k, .int .u64 t.s.a, .int .u64 t.s.b, .int .u64 t.s.c, .int .u64 t.s.d, (.slice oe t.l.length ce)] 33))).ownsRow (w.heap.size + 1) 33 6 (.slice oc ps.length cc) ps.length (flatP ps) from ho4)
          have HRs5 := Lib.hid hr4
          have hps2 : ps.map (·.1) = acc := hps
          clear ho4 hr4 hol HAc
          go_wp2_with (at_builtin; refine wpList_append_lies _ rfl _ _ _ rfl (w.heap.size + 1) 33 i0 _ 6 64 Tryd.underlying31 hi0 hz0 hz1 hz2 rfl (by omega) (.slice oc ps.length cc) ps.length (flatP ps) rfl HO5.out ⟨w4.heap.size + 1, 0, none⟩ 1 1 [.int .i64 t.k, .int .u64 t.s.a, .int .u64 t.s.b, .int .u64 t.s.c, .int .u64 t.s.d, (.slice oe t.l.length ce)] rfl rfl (World.news_of_block (cs := #[.int .i64 t.k, .int .u64 t.s.a, .int .u64 t.s.b, .int .u64 t.s.c, .int .u64 t.s.d, (.slice oe t.l.length ce)]) (t := 33) (fr := (0, 0)) HNW.out) (by simp [Value.oneCell']) (by omega) hn1 hby (by simp; omega) (w4.heap.size + 2) hsz2 ?_)
          intro gg cap2 w7 hown7 hgrow hat hgl
          have HA7 : Hid (AccR w7 (w.heap.size + 1) (.slice (some ⟨gg, 0, none⟩) (ps.length + 1) cap2) (acc ++ [t])) := Lib.hid (by
            rw [← hps2]
            exact AccR.snoc HO5.out HRs5.out HRp5.out (by omega) HOL.out hown7 hgrow (by rw [hsz2]; exact hat) hgl)
          have HK7 : Hid (Below w.heap.size w w7) := Lib.hid (HBX.out.trans ⟨hgrow.os, hgrow.tape, hgrow.output, hgrow.size, fun q hq => hgrow.block q (by rw [hsz2]; omega) (fun e => by have := (own_lt HO5.out q e.symm).1; omega)⟩)
          have HZ7 : Hid (Z6 w7 w.heap.size) := Lib.hid (Box6.of_block HZX.out (hgrow.block w.heap.size (by rw [hsz2]; omega) (fun e => by have := (own_lt HO5.out w.heap.size e.symm).1; omega)))
          have hw7 : w.heap.size + 1 ≤ w7.heap.size := by have := hgrow.size; rw [hsz2] at this; omega
          clear hown7 hgrow hat hgl HO5 HRs5 HRp5 HX HBX HZX HNW HOL
          have hpl2 : acc.length = ps.length := by rw [← hps2, List.length_map]
          have HPL2 := Lib.hid hpl2
          clear hpl2 hps2
          go_wp2_with fail
          refine (HAM.out w7).mono ?_
          rintro e w9 ⟨rfl, h9⟩; subst w9
          clear h42b
          rcases begA_no hbeg with hin | ⟨hin, e1⟩ | ⟨hin, e1, e2⟩ | ⟨hin, e1, e2, e3⟩ | ⟨hin, e1, e2, e3, e4⟩
          all_goals
            rw [hin] at HIn
            clear hbeg
            go_wp2_with fail
            refine (HIn.out w7).mono ?_
            rintro e w9 ⟨rfl, h9⟩; subst w9
            by_cases hl1 : ps.length = 0
            · have hl1b : (((ps.length : Int) + 1) == 1) = true := by rw [beq_iff_eq]; omega
              obtain rfl : acc = [] := List.eq_nil_of_length_eq_zero (by have := HPL2.out; omega)
              have hht := HA7.out.repS (by simp)
              obtain ⟨gb, off, oe9, ce9, hgb0, hgb, hT9, c0, c1, c2, c3, c4, c5⟩ := hht.at_ (i := 0) (v := t) rfl
              cases hgb0
              have HT9 := Lib.hid hT9
              obtain ⟨z0, z1, z2, z3, z4, z5, zf⟩ := HZ7.out
              have hgb1 : w.heap.size + 1 ≤ gg := hgb.1
              simp only [Nat.zero_mul, Nat.zero_add] at c0 c1 c2 c3 c4 c5
              clear hht hT9 hgb
              go_wp2_with fail
              refine bodyPost_ret (v := .tuple #[t.val (.slice oe9 t.l.length ce9), .int .i64 (m : Int), .bool true]) (by simp [results, Tryd.results58, go_sem, PT.val, *]) rfl ?_
              rw [HN.out]
              exact ⟨⟨oe9, ce9, rfl, HT9.out.six (by omega) (by omega) _ _ _ _ _ _⟩, below6 HK7.out (Nat.le_refl _) _ _ _ _ _ _⟩
            · have hl1b : (((ps.length : Int) + 1) == 1) = false := by rw [beq_eq_false_iff_ne]; omega
              have hps9 : ps.length ≤ 100 := by have := HPL2.out; omega
              have HL2 : Hid ((acc ++ [t]).length = ps.length + 1) := Lib.hid (by rw [List.length_append, HPL2.out]; rfl)
              have hj : joinT 4 (acc ++ [t]) = .mk 4 .zero (acc ++ [t]) := by
                have h2 := HL2.out
                match hac : acc ++ [t] with
                | [] => rw [hac] at h2; simp at h2
                | [x] => rw [hac] at h2; simp at h2; exact absurd (by rw [h2]; rfl) hl1
                | _ :: _ :: _ => rfl
              have HN2 : Hid (RES = .ok (.mk 4 .zero (acc ++ [t])) m) := Lib.hid (by rw [HN.out, hj])
              have HT9 := Lib.hid (HA7.out.repS (by have := HL2.out; omega))
              obtain ⟨z0, z1, z2, z3, z4, z5, zf⟩ := HZ7.out
              clear HN hj HA7
              go_wp2_with fail
              refine bodyPost_ret (v := .tuple #[.agg #[.int .i64 4, .int .u64 0, .int .u64 0, .int .u64 0, .int .u64 0, .slice (some ⟨gg, 0, none⟩) (ps.length + 1) cap2], .int .i64 (m : Int), .bool true]) (by simp [results, Tryd.results58, go_sem, *]) rfl ?_
              rw [HN2.out]
              have h9 := HT9.out.six (n := w.heap.size) (lo' := w.heap.size) (by omega) (by omega) (.int .i64 4) (.int .u64 0) (.int .u64 0) (.int .u64 0) (.int .u64 0) (.slice (some ⟨gg, 0, none⟩) (ps.length + 1) cap2)
              refine ⟨⟨some ⟨gg, 0, none⟩, cap2, ?_, ?_⟩, below6 HK7.out (Nat.le_refl _) _ _ _ _ _ _⟩
              · show _ = Ending.returned (.tuple #[PT.val _ (.slice _ (acc ++ [t]).length cap2), _, _])
                rw [HL2.out]; rfl
              · show HT _ _ (.slice _ (acc ++ [t]).length cap2) (acc ++ [t])
                rw [HL2.out]; exact h9
end Go.Proofs.YtlonddlemlkhoaaDoor
