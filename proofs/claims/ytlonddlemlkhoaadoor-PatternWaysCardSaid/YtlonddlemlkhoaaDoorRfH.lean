/-
  Parse of the specification. Nothing is assumed.
-/
import Derived.Test.YtlonddlemlkhoaaDoorRfF
namespace Go.Proofs.YtlonddlemlkhoaaDoor
open Go.RowKit

theorem rAltAll (s : ByteArray) (hs : s.size ≤ 100) : ∀ (d : Nat) (w : World) (j : Nat), j ≤ s.size → s.size < j + d → Calls Tryd.prog 29 #[.string s, .int .i64 (j : Int)] w (OutR w (patL s.data.toList d j)) := by
  intro d
  induction d with
  | zero => intro w j h1 h2; omega
  | succ d ih =>
    intro w j h1 h2
    exact rAlt_any s (catL (patL s.data.toList d) s.data.toList) d j h1 hs h2 (cat_good (pat_good _ d))
      (fun w' j' h3 h4 => rCat_any s (patL s.data.toList d) d j' h3 hs h4 (atom_good (pat_good _ d))
        (fun w'' j'' h5 h6 => rAtom_any s (patL s.data.toList d) d j'' h5 hs h6 (pat_good _ d) (fun w3 j3 h7 h8 => ih w3 j3 h7 h8) w'') w') w

/-- The fault of a text that is no pattern. -/
def fauP (p : ByteArray) : Nat := if p.size < 1 ∨ 40 < p.size then 0 else match parseT p.data.toList with
  | .bad m => m
  | .ok _ _ => 0
/-- What Parse of the specification returns. -/
def ParR (p : ByteArray) (w : World) (e : Ending) (w' : World) : Prop :=
  (errP p ≠ 0 ∧ ∃ m : Nat, e = .returned (.tuple #[zeroR, .int .i64 (m : Int), .int .i64 (errP p)]) ∧ m = fauP p) ∨
  (errP p = 0 ∧ ∃ (t : PT) (m : Nat) (oe : Option Addr) (ce : Nat), parseT p.data.toList = .ok t m ∧ e = .returned (.tuple #[t.val (.slice oe t.l.length ce), .int .i64 0, .int .i64 0]) ∧ HT w' (Btw w.heap.size w'.heap.size) (.slice oe t.l.length ce) t.l)
set_option maxRecDepth 100000 in
set_option maxHeartbeats 3200000 in
theorem rParse_any (p : ByteArray) (w : World) :
    Calls Tryd.prog 10 #[.string p] w fun e w' => ParR p w e w' ∧ Below w.heap.size w w' := by
  obtain ⟨w1, hw1⟩ : ∃ w1, w1 = w.alloc (.cells #[.int .i64 0, .int .u64 0, .int .u64 0, .int .u64 0, .int .u64 0, .slice none 0 0] 33) := ⟨_, rfl⟩
  have HW1 := Lib.hid hw1
  have hs1 : w1.heap.size = w.heap.size + 1 := by rw [hw1]; simp
  have hb1 : Below w.heap.size w w1 := by rw [hw1]; exact below1 _ _
  have HZ1 : Hid (Z6 w1 w.heap.size) := Lib.hid (by rw [hw1]; exact Box6.new _ _ _ _ _ _ _ rfl)
  have HB1 := Lib.hid hb1
  clear hw1 hb1
  obtain ⟨z0, z1, z2, z3, z4, z5, zf⟩ := HZ1.out
  by_cases h1 : p.size < 1
  · have h1I : (p.size : Int) < 1 := by omega
    have HE : Hid (errP p = 2) := Lib.hid (by unfold errP; rw [if_pos (.inl h1)])
    have HFa : Hid (0 = fauP p) := Lib.hid (by unfold fauP; rw [if_pos (.inl h1)])
    clear h1
    go_enter Tryd.func10, Tryd.ntmps10
    go_wp2_with fail
    rw [← HW1.out]
    refine bodyPost_ret (v := .tuple #[zeroR, .int .i64 ((0 : Nat) : Int), .int .i64 2]) (by simp [results, Tryd.results10, go_sem, zeroR, *]) rfl ?_
    exact ⟨.inl ⟨by rw [HE.out]; decide, 0, by rw [HE.out], HFa.out⟩, HB1.out⟩
  by_cases h40 : 40 < p.size
  · have h1I : ¬ (p.size : Int) < 1 := by omega
    have h40I : (40 : Int) < (p.size : Int) := by omega
    have HE : Hid (errP p = 2) := Lib.hid (by unfold errP; rw [if_pos (.inr h40)])
    have HFa : Hid (0 = fauP p) := Lib.hid (by unfold fauP; rw [if_pos (.inr h40)])
    clear h1 h40
    go_enter Tryd.func10, Tryd.ntmps10
    go_wp2_with fail
    rw [← HW1.out]
    refine bodyPost_ret (v := .tuple #[zeroR, .int .i64 ((0 : Nat) : Int), .int .i64 2]) (by simp [results, Tryd.results10, go_sem, zeroR, *]) rfl ?_
    exact ⟨.inl ⟨by rw [HE.out]; decide, 0, by rw [HE.out], HFa.out⟩, HB1.out⟩
  have h1I : ¬ (p.size : Int) < 1 := by omega
  have h40I : ¬ (40 : Int) < (p.size : Int) := by omega
  have HC := Lib.hid (rAltAll p (by omega) (p.data.toList.length + 1) w1 0 (Nat.zero_le _) (by rw [lt_len]; omega))
  have hsz : ¬ (p.size < 1 ∨ 40 < p.size) := by omega
  have hg := (pat_good p.data.toList (p.data.toList.length + 1) 0 (Nat.zero_le _)).1
  cases hq : patL p.data.toList (p.data.toList.length + 1) 0 with
  | bad m =>
    have hpt : parseT p.data.toList = .bad m := by unfold parseT; rw [hq]; rfl
    have HE : Hid (errP p = 8) := Lib.hid (by unfold errP; rw [if_neg hsz, hpt])
    have HFa : Hid (m = fauP p) := Lib.hid (by unfold fauP; rw [if_neg hsz, hpt])
    rw [hq] at HC
    clear hg hq hpt hsz h1 h40
    go_enter Tryd.func10, Tryd.ntmps10
    go_wp2_with fail
    rw [← HW1.out]
    refine HC.out.mono ?_
    rintro e w4 ⟨rfl, hb4⟩
    have hs4 := hb4.size
    have hz5 := (HZ1.out.later hb4 (by omega)).later (below1 w4 (.cells #[.int .i64 0, .int .u64 0, .int .u64 0, .int .u64 0, .int .u64 0, .slice none 0 0] 33)) (by omega)
    have HB5 := Lib.hid ((HB1.out.trans (hb4.mono (by omega))).trans ((below1 w4 (.cells #[.int .i64 0, .int .u64 0, .int .u64 0, .int .u64 0, .int .u64 0, .slice none 0 0] 33)).mono (by omega)))
    clear z0 z1 z2 z3 z4 z5 zf hb4
    obtain ⟨z0, z1, z2, z3, z4, z5, zf⟩ := hz5
    unfold zeroR
    go_wp2_with fail
    refine bodyPost_ret (v := .tuple #[zeroR, .int .i64 (m : Int), .int .i64 8]) (by simp [results, Tryd.results10, go_sem, zeroR, *]) rfl ?_
    exact ⟨.inl ⟨by rw [HE.out]; decide, m, by rw [HE.out], HFa.out⟩, below6 HB5.out (Nat.le_refl _) _ _ _ _ _ _⟩
  | ok t m =>
    rw [hq] at HC hg
    have hm : m ≤ p.size := by have := hg.2; rwa [lt_len] at this
    by_cases hend : m = p.size
    · have hpt : parseT p.data.toList = .ok t m := by
        unfold parseT
        rw [hq]
        show (if m = p.data.toList.length then PR.ok t m else .bad m) = _
        rw [if_pos (by rw [lt_len]; exact hend)]
      have HPT := Lib.hid hpt
      have HE : Hid (errP p = 0) := Lib.hid (by unfold errP; rw [if_neg hsz, hpt])
      have hmI : ¬ (m : Int) < (p.size : Int) := by omega
      clear hg hq hpt hsz h1 h40 hend hm
      go_enter Tryd.func10, Tryd.ntmps10
      go_wp2_with fail
      rw [← HW1.out]
      refine HC.out.mono ?_
      rintro e w4 ⟨⟨oe, ce, rfl, hT⟩, hb4⟩
      have hs4 := hb4.size
      have hz5 := (HZ1.out.later hb4 (by omega)).later (below1 w4 (.cells #[.int .i64 t.k, .int .u64 t.s.a, .int .u64 t.s.b, .int .u64 t.s.c, .int .u64 t.s.d, .slice oe t.l.length ce] 33)) (by omega)
      have HB5 := Lib.hid ((HB1.out.trans (hb4.mono (by omega))).trans ((below1 w4 (.cells #[.int .i64 t.k, .int .u64 t.s.a, .int .u64 t.s.b, .int .u64 t.s.c, .int .u64 t.s.d, .slice oe t.l.length ce] 33)).mono (by omega)))
      have HT5 := Lib.hid (hT.more (.cells #[.int .i64 t.k, .int .u64 t.s.a, .int .u64 t.s.b, .int .u64 t.s.c, .int .u64 t.s.d, .slice oe t.l.length ce] 33))
      clear z0 z1 z2 z3 z4 z5 zf hb4 hT
      obtain ⟨z0, z1, z2, z3, z4, z5, zf⟩ := hz5
      unfold PT.val
      go_wp2_with fail
      refine bodyPost_ret (v := .tuple #[.agg #[.int .i64 t.k, .int .u64 t.s.a, .int .u64 t.s.b, .int .u64 t.s.c, .int .u64 t.s.d, .slice oe t.l.length ce], .int .i64 0, .int .i64 0]) (by simp [results, Tryd.results10, go_sem, *]) rfl ?_
      exact ⟨.inr ⟨HE.out, t, m, oe, ce, HPT.out, rfl, HT5.out.six (by omega) (by omega) _ _ _ _ _ _⟩, below6 HB5.out (Nat.le_refl _) _ _ _ _ _ _⟩
    · have hpt : parseT p.data.toList = .bad m := by
        unfold parseT
        rw [hq]
        show (if m = p.data.toList.length then PR.ok t m else .bad m) = _
        rw [if_neg (by rw [lt_len]; exact hend)]
      have HE : Hid (errP p = 8) := Lib.hid (by unfold errP; rw [if_neg hsz, hpt])
      have HFa : Hid (m = fauP p) := Lib.hid (by unfold fauP; rw [if_neg hsz, hpt])
      have hmI : (m : Int) < (p.size : Int) := by omega
      clear hg hq hpt hsz h1 h40 hend hm
      go_enter Tryd.func10, Tryd.ntmps10
      go_wp2_with fail
      rw [← HW1.out]
      refine HC.out.mono ?_
      rintro e w4 ⟨⟨oe, ce, rfl, hT⟩, hb4⟩
      have hs4 := hb4.size
      have hz5 := (HZ1.out.later hb4 (by omega)).later (below1 w4 (.cells #[.int .i64 t.k, .int .u64 t.s.a, .int .u64 t.s.b, .int .u64 t.s.c, .int .u64 t.s.d, .slice oe t.l.length ce] 33)) (by omega)
      have HB5 := Lib.hid ((HB1.out.trans (hb4.mono (by omega))).trans ((below1 w4 (.cells #[.int .i64 t.k, .int .u64 t.s.a, .int .u64 t.s.b, .int .u64 t.s.c, .int .u64 t.s.d, .slice oe t.l.length ce] 33)).mono (by omega)))
      clear z0 z1 z2 z3 z4 z5 zf hb4 hT
      obtain ⟨z0, z1, z2, z3, z4, z5, zf⟩ := hz5
      unfold PT.val
      go_wp2_with fail
      refine bodyPost_ret (v := .tuple #[zeroR, .int .i64 (m : Int), .int .i64 8]) (by simp [results, Tryd.results10, go_sem, zeroR, *]) rfl ?_
      exact ⟨.inl ⟨by rw [HE.out]; decide, m, by rw [HE.out], HFa.out⟩, below6 HB5.out (Nat.le_refl _) _ _ _ _ _ _⟩
end Go.Proofs.YtlonddlemlkhoaaDoor
