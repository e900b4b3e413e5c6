/-
  rep of the reader of patterns. Nothing is assumed.
-/
import Derived.Test.YtaipaddfehpmgaaDoorPtAtom
namespace Go.Proofs.YtaipaddfehpmgaaDoor
open Go.RowKit

theorem TB.cells {w : World} {n : Nat} {t : PT} {sl : Value} (h : TB w n t sl) : ∀ (j : Nat) u, (t.cs sl)[j]? = some u → w.cell? ⟨n, j, none⟩ = some u := by
  obtain ⟨c0, c1, c2, c3, c4, c5, -⟩ := h
  intro j u hu
  match j, hu with
  | 0, hu => cases hu; exact c0
  | 1, hu => cases hu; exact c1
  | 2, hu => cases hu; exact c2
  | 3, hu => cases hu; exact c3
  | 4, hu => cases hu; exact c4
  | 5, hu => cases hu; exact c5
  | j + 6, hu => simp [PT.cs] at hu
set_option maxRecDepth 100000 in
set_option maxHeartbeats 1600000 in
theorem rep_any (n : Nat) (w : World) (b : Nat) (s : ByteArray) (i : Nat) (HP : Pat s n) (h : RD w b s i) (hA : AL w) (hi : i ≤ s.size) (hn : s.size < i + (n + 1)) (hs : s.size ≤ 1000000) :
    Calls Tryd.prog 73 #[.pointer (some ⟨b, 0, none⟩)] w (OutT b s w (repL (patL s.data.toList n) s.data.toList i)) := by
  have hblt := h.lt
  obtain ⟨w2, hw2⟩ : ∃ w2, w2 = w.alloc (.cells #[.int .i64 0, .int .u64 0, .int .u64 0, .int .u64 0, .int .u64 0, .slice none 0 0] 36) := ⟨_, rfl⟩
  have HW2 := Lib.hid hw2
  have hs1 : w2.heap.size = w.heap.size + 1 := by rw [hw2]; simp
  have hb2 : Below w.heap.size w w2 := by rw [hw2]; exact below1 _ _
  have HZ2 : Hid (Z6 w2 w.heap.size) := Lib.hid (by rw [hw2]; exact Z6.new _)
  have HK2 : Hid (Kp w.heap.size (Is b) w w2) := Lib.hid (.of hb2 (Nat.le_refl _))
  have HC := Lib.hid (atom_any n w2 b s i HP (h.bel hb2) (hA.later hb2) hi hn hs)
  have hgood := atom_good (pat_good s.data.toList n) i (by rw [lt_len]; exact hi)
  have HE : Hid (repL (patL s.data.toList n) s.data.toList i = (atomL (patL s.data.toList n) s.data.toList i).bind fun t m => if pk s.data.toList m = 42 then .ok (.mk 6 .zero [t]) (m + 1) else .ok t m) := Lib.hid rfl
  generalize repL (patL s.data.toList n) s.data.toList i = RES at *
  clear hw2 h hA HP hb2
  cases hq : atomL (patL s.data.toList n) s.data.toList i with
  | bad m =>
    rw [hq] at HC HE
    have HN : Hid (RES = .bad m) := Lib.hid HE.out
    clear HE hgood hq
    go_enter Tryd.func73, Tryd.ntmps73
    go_wp2_with fail
    rw [← HW2.out]
    refine HC.out.mono ?_
    rintro e w3 ⟨⟨t, oe, nn, ce, rfl⟩, hR3, hK3⟩
    obtain ⟨w4, hw4⟩ : ∃ w4, w4 = w3.alloc (.cells #[.int .i64 t.k, .int .u64 t.s.a, .int .u64 t.s.b, .int .u64 t.s.c, .int .u64 t.s.d, (.slice oe nn ce)] 36) := ⟨_, rfl⟩
    have hb4 : Below w3.heap.size w3 w4 := by rw [hw4]; exact below1 _ _
    have HR3 : Hid (RD (w3.alloc (.cells #[.int .i64 t.k, .int .u64 t.s.a, .int .u64 t.s.b, .int .u64 t.s.c, .int .u64 t.s.d, (.slice oe nn ce)] 36)) b s m) := Lib.hid (RD.alloc hR3 _)
    have HZ3 := HZ2.out.kp hK3 (by omega) (show ¬ Is b w.heap.size by unfold Is; omega)
    obtain ⟨z0, z1, z2, z3, z4, z5, zf⟩ := HZ3.later (below1 _ (.cells #[.int .i64 t.k, .int .u64 t.s.a, .int .u64 t.s.b, .int .u64 t.s.c, .int .u64 t.s.d, (.slice oe nn ce)] 36)) HZ3.lt
    have HK3 : Hid (Kp w.heap.size (Is b) w (w3.alloc (.cells #[.int .i64 t.k, .int .u64 t.s.a, .int .u64 t.s.b, .int .u64 t.s.c, .int .u64 t.s.d, (.slice oe nn ce)] 36))) := Lib.hid ((HK2.out.trans (hK3.less HK2.out.size)).bel (below1 _ _) (by have := hK3.size; omega))
    have hs3 := hK3.size
    clear hR3 hK3 HC HZ3 hw4 hb4
    unfold PT.val
    go_wp2_with fail
    refine bodyPost_ret (v := .tuple #[.agg #[.int .i64 t.k, .int .u64 t.s.a, .int .u64 t.s.b, .int .u64 t.s.c, .int .u64 t.s.d, (.slice oe nn ce)], .bool false]) (by simp [results, Tryd.results73, go_sem, *]) rfl ?_
    rw [HN.out]
    exact ⟨OutE.bad _ _ _ t _ _ _, (at6 (by omega) _ _ _ _ _ _).trans HR3.out, kp6 HK3.out (Nat.le_refl _) _ _ _ _ _ _⟩
  | ok t m =>
    rw [hq] at HC HE hgood
    have him : i < m ∧ m ≤ s.data.toList.length := hgood.1
    rw [lt_len] at him
    have HE2 : Hid (RES = if pk s.data.toList m = 42 then .ok (.mk 6 .zero [t]) (m + 1) else .ok t m) := Lib.hid HE.out
    clear HE hgood hq
    go_enter Tryd.func73, Tryd.ntmps73
    go_wp2_with fail
    rw [← HW2.out]
    refine HC.out.mono ?_
    rintro e w3 ⟨⟨oe, ce, rfl, hT3⟩, hR3, hK3⟩
    have hs3 := hK3.size
    obtain ⟨w4, hw4⟩ : ∃ w4, w4 = w3.alloc (.cells #[.int .i64 t.k, .int .u64 t.s.a, .int .u64 t.s.b, .int .u64 t.s.c, .int .u64 t.s.d, (.slice oe t.l.length ce)] 36) := ⟨_, rfl⟩
    have HW4 := Lib.hid hw4
    have hb4 : Below w3.heap.size w3 w4 := by rw [hw4]; exact below1 _ _
    have hs4 : w4.heap.size = w3.heap.size + 1 := by rw [hw4]; simp
    have HR4 : Hid (RD w4 b s m) := Lib.hid (RD.bel hR3 hb4)
    have HZ4 := Lib.hid ((HZ2.out.kp hK3 (by omega) (show ¬ Is b w.heap.size by unfold Is; omega)).later hb4 (by omega))
    have HK4 : Hid (Kp w.heap.size (Is b) w w4) := Lib.hid ((HK2.out.trans (hK3.less HK2.out.size)).bel hb4 (by omega))
    have HB4 : Hid (TB w4 w3.heap.size t (.slice oe t.l.length ce)) := Lib.hid (by rw [hw4]; exact TB.new _ _ _)
    have HH3 := Lib.hid hT3
    have HX4 : Hid (Kp w3.heap.size (Or b w.heap.size) w3 w4) := Lib.hid (.of hb4 (Nat.le_refl _))
    have HT4 := Lib.hid (take_any w4 b s m 42 HR4.out (by omega) hs (by decide))
    clear hR3 hK3 HC hT3 hw4 hb4 HR4
    by_cases h41 : pk s.data.toList m = 42
    · have HN : Hid (RES = .ok (.mk 6 .zero [t]) (m + 1)) := Lib.hid (by rw [HE2.out, if_pos h41])
      rw [decide_eq_true h41, if_pos h41] at HT4
      clear HE2 h41
      unfold PT.val
      go_wp2_with fail
      rw [← HW4.out]
      refine HT4.out.mono ?_
      rintro e w5 ⟨rfl, hR5, hK5⟩
      have hs5 := hK5.size
      obtain ⟨c0, c1, c2, c3, c4, c5, -⟩ := HB4.out.kp hK5 (by omega) (show ¬ Is b w3.heap.size by unfold Is; omega)
      obtain ⟨w6, hw6⟩ : ∃ w6, w6 = w5.alloc (.cells #[.int .i64 t.k, .int .u64 t.s.a, .int .u64 t.s.b, .int .u64 t.s.c, .int .u64 t.s.d, (.slice oe t.l.length ce)] 36) := ⟨_, rfl⟩
      have hb6 : Below w5.heap.size w5 w6 := by rw [hw6]; exact below1 _ _
      have hs6 : w6.heap.size = w5.heap.size + 1 := by rw [hw6]; simp
      have HR6 : Hid (RD w6 b s (m + 1)) := Lib.hid (RD.bel hR5 hb6)
      obtain ⟨z0, z1, z2, z3, z4, z5, zf⟩ := (HZ4.out.kp hK5 (by omega) (show ¬ Is b w.heap.size by unfold Is; omega)).later hb6 (by omega)
      have HK6 := Lib.hid ((HK4.out.trans (hK5.less HK4.out.size)).bel hb6 (by omega))
      have HX6 : Hid (Kp w3.heap.size (Or b w.heap.size) w3 w6) := Lib.hid (HX4.out.trans ((hK5.mono (by omega) (fun k _ h => .inl h)).trans (.of hb6 (by omega))))
      have HB6 : Hid (TB w6 w5.heap.size t (.slice oe t.l.length ce)) := Lib.hid (by rw [hw6]; exact TB.new _ _ _)
      clear hR5 hK5 HT4 HX4 hb6
      subst hw6
      go_wp2_with fail
      refine bodyPost_ret (v := .tuple #[.agg #[.int .i64 6, .int .u64 0, .int .u64 0, .int .u64 0, .int .u64 0, .slice (some ⟨w5.heap.size, 0, none⟩) 1 1], .bool true]) (by simp [results, Tryd.results73, go_sem, *]) rfl ?_
      rw [HN.out]
      refine ⟨⟨some ⟨w5.heap.size, 0, none⟩, 1, rfl, ?_⟩, (at6 (by omega) _ _ _ _ _ _).trans HR6.out, kp6 HK6.out (Nat.le_refl _) _ _ _ _ _ _⟩
      refine HT.one ⟨by omega, by rw [size6]; omega⟩ (TB.cells (Box6.of_block HB6.out (at6 (by omega) _ _ _ _ _ _))) ?_
      exact (kpset6 HX6.out (.inr rfl) _ _ _ _ _ _).rep HH3.out (Nat.le_refl _) (fun k h1 h2 h => by unfold Or at h; omega) (by omega) (by rw [size6]; omega)
    · have HN : Hid (RES = .ok t m) := Lib.hid (by rw [HE2.out, if_neg h41])
      rw [decide_eq_false h41, if_neg h41] at HT4
      clear HE2 h41
      unfold PT.val
      go_wp2_with fail
      rw [← HW4.out]
      refine HT4.out.mono ?_
      rintro e w5 ⟨rfl, hR5, hK5⟩
      have HR5 := Lib.hid hR5
      obtain ⟨z0, z1, z2, z3, z4, z5, zf⟩ := HZ4.out.kp hK5 (by omega) (show ¬ Is b w.heap.size by unfold Is; omega)
      obtain ⟨c0, c1, c2, c3, c4, c5, -⟩ := HB4.out.kp hK5 (by omega) (show ¬ Is b w3.heap.size by unfold Is; omega)
      have HK5 := Lib.hid (HK4.out.trans (hK5.less HK4.out.size))
      have HX5 : Hid (Kp w3.heap.size (Or b w.heap.size) w3 w5) := Lib.hid (HX4.out.trans (hK5.mono (by omega) (fun k _ h => .inl h)))
      have hs5 := hK5.size
      clear hR5 hK5 HT4 HX4
      go_wp2_with fail
      refine bodyPost_ret (v := .tuple #[.agg #[.int .i64 t.k, .int .u64 t.s.a, .int .u64 t.s.b, .int .u64 t.s.c, .int .u64 t.s.d, (.slice oe t.l.length ce)], .bool true]) (by simp [results, Tryd.results73, go_sem, *]) rfl ?_
      rw [HN.out]
      refine ⟨⟨oe, ce, rfl, ?_⟩, (at6 (by omega) _ _ _ _ _ _).trans HR5.out, kp6 HK5.out (Nat.le_refl _) _ _ _ _ _ _⟩
      exact (kpset6 HX5.out (.inr rfl) _ _ _ _ _ _).rep HH3.out (Nat.le_refl _) (fun k h1 h2 h => by unfold Or at h; omega) (by omega) (by rw [size6]; omega)
end Go.Proofs.YtaipaddfehpmgaaDoor
