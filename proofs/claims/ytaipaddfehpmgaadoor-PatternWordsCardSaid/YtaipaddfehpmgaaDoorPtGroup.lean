/-
  group, atom and rep of the reader of patterns. Nothing is assumed.
-/
import Derived.Test.YtaipaddfehpmgaaDoorPtBrack
namespace Go.Proofs.YtaipaddfehpmgaaDoor
open Go.RowKit

theorem kpset6 {N n : Nat} {X : Nat → Prop} {w w1 : World} (h : Kp N X w w1) (hn : X n) (a b c d e f : Value) : Kp N X w ((((((w1.setCell ⟨n, 0, none⟩ a).setCell ⟨n, 1, none⟩ b).setCell ⟨n, 2, none⟩ c).setCell ⟨n, 3, none⟩ d).setCell ⟨n, 4, none⟩ e).setCell ⟨n, 5, none⟩ f) :=
  (((((h.set ⟨n, 0, none⟩ hn a).set ⟨n, 1, none⟩ hn b).set ⟨n, 2, none⟩ hn c).set ⟨n, 3, none⟩ hn d).set ⟨n, 4, none⟩ hn e).set ⟨n, 5, none⟩ hn f
theorem OutE.bad (w w' : World) (i : Nat) (t : PT) (oe : Option Addr) (n ce : Nat) : OutE w w' (.bad i) (.returned (.tuple #[t.val (.slice oe n ce), .bool false])) := ⟨t, oe, n, ce, rfl⟩
theorem size6 {n : Nat} {w1 : World} (a b c d e f : Value) : ((((((w1.setCell ⟨n, 0, none⟩ a).setCell ⟨n, 1, none⟩ b).setCell ⟨n, 2, none⟩ c).setCell ⟨n, 3, none⟩ d).setCell ⟨n, 4, none⟩ e).setCell ⟨n, 5, none⟩ f).heap.size = w1.heap.size := by simp [World.setCell]
/-- A tree in a block of its own. -/
def TB (w : World) (n : Nat) (t : PT) (sl : Value) : Prop := Box6 w n (.int .i64 t.k) (.int .u64 t.s.a) (.int .u64 t.s.b) (.int .u64 t.s.c) (.int .u64 t.s.d) sl
theorem TB.new (w : World) (t : PT) (sl : Value) : TB (w.alloc (.cells #[.int .i64 t.k, .int .u64 t.s.a, .int .u64 t.s.b, .int .u64 t.s.c, .int .u64 t.s.d, sl] 36)) w.heap.size t sl := Box6.new _ _ _ _ _ _ _ rfl
/-- The contract of pattern, to a depth. -/
def Pat (s : ByteArray) (n : Nat) : Prop := ∀ (w : World) (b j : Nat), RD w b s j → AL w → j ≤ s.size → s.size < j + n →
  Calls Tryd.prog 36 #[.pointer (some ⟨b, 0, none⟩)] w (OutT b s w (patL s.data.toList n j))
set_option maxRecDepth 100000 in
set_option maxHeartbeats 1600000 in
theorem group_any (n : Nat) (w : World) (b : Nat) (s : ByteArray) (i : Nat) (HP : Pat s n) (h : RD w b s i) (hA : AL w) (hi : i < s.size) (hn : s.size < i + 1 + n) (hs : s.size ≤ 1000000) :
    Calls Tryd.prog 93 #[.pointer (some ⟨b, 0, none⟩)] w (OutT b s w (groupL (patL s.data.toList n) s.data.toList i)) := by
  have hblt := h.lt
  have HA := Lib.hid hA
  have HPp := Lib.hid HP
  have HGB := Lib.hid (hA.rd h)
  obtain ⟨w1, hw1⟩ : ∃ w1, w1 = (w.setCell ⟨b, 1, none⟩ (.int .i64 ((i : Int) + 1))).alloc (.cells #[.int .i64 0, .int .u64 0, .int .u64 0, .int .u64 0, .int .u64 0, .slice none 0 0] 36) := ⟨_, rfl⟩
  have HW1 := Lib.hid hw1
  have hs1 : w1.heap.size = w.heap.size + 1 := by rw [hw1]; simp [World.setCell]
  have HR1 : Hid (RD w1 b s (i + 1)) := Lib.hid (by rw [hw1]; exact h.step.alloc _)
  have HZ1 : Hid (Z6 w1 w.heap.size) := Lib.hid (by
    have := Z6.new (w.setCell ⟨b, 1, none⟩ (.int .i64 ((i : Int) + 1)))
    rw [show (w.setCell ⟨b, 1, none⟩ (.int .i64 ((i : Int) + 1))).heap.size = w.heap.size by simp [World.setCell]] at this
    rw [hw1]; exact this)
  have HK1 : Hid (Kp w.heap.size (Is b) w w1) := Lib.hid (by rw [hw1]; exact ((Kp.refl _ _ w).set ⟨b, 1, none⟩ (Is.self b) _).alloc (by simp [World.setCell]) _)
  have h1 := h.at
  have h2 := h.free 1
  have HT := Lib.hid (take_any w1 b s (i + 1) 41 HR1.out (by omega) hs (by decide))
  have HE : Hid (groupL (patL s.data.toList n) s.data.toList i = if pk s.data.toList (i + 1) = 41 then .ok (.mk 2 .zero []) (i + 2) else (patL s.data.toList n (i + 1)).bind fun t m => if pk s.data.toList m = 41 then .ok t (m + 1) else .bad m) := Lib.hid rfl
  generalize groupL (patL s.data.toList n) s.data.toList i = RES at *
  clear hw1 h hA HP
  by_cases h41 : pk s.data.toList (i + 1) = 41
  · have HN : Hid (RES = .ok (.mk 2 .zero []) (i + 2)) := Lib.hid (by rw [HE.out, if_pos h41])
    rw [decide_eq_true h41, if_pos h41] at HT
    clear HE h41
    go_enter Tryd.func93, Tryd.ntmps93
    go_wp2_with fail
    rw [← HW1.out]
    refine HT.out.mono ?_
    rintro e w2 ⟨rfl, hR2, hK2⟩
    have HR2 := Lib.hid hR2
    obtain ⟨z0, z1, z2, z3, z4, z5, zf⟩ := HZ1.out.kp hK2 (by omega) (show ¬ Is b w.heap.size by unfold Is; omega)
    have HK2 := Lib.hid (HK1.out.trans (hK2.less HK1.out.size))
    clear hR2 hK2 HT h1 h2
    go_wp2_with fail
    refine bodyPost_ret (v := .tuple #[.agg #[.int .i64 2, .int .u64 0, .int .u64 0, .int .u64 0, .int .u64 0, .slice none 0 0], .bool true]) (by simp [results, Tryd.results93, go_sem, *]) rfl ?_
    rw [HN.out]
    exact ⟨OutE.leaf _ _ (.mk 2 .zero []) _ rfl, (at6 (by omega) _ _ _ _ _ _).trans HR2.out, kp6 HK2.out (Nat.le_refl _) _ _ _ _ _ _⟩
  · rw [if_neg h41] at HE
    rw [decide_eq_false h41, if_neg h41] at HT
    clear h41
    have hgood := pat_good s.data.toList n (i + 1) (by rw [lt_len]; omega)
    go_enter Tryd.func93, Tryd.ntmps93
    go_wp2_with fail
    rw [← HW1.out]
    refine HT.out.mono ?_
    rintro e w2 ⟨rfl, hR2, hK2⟩
    have HC := Lib.hid (HPp.out w2 b (i + 1) hR2 ((HA.out.kp HK1.out (Nat.le_refl _) HGB.out).kp hK2 (Nat.le_refl _) HGB.out) (by omega) hn)
    have HZ2 := Lib.hid (HZ1.out.kp hK2 (by omega) (show ¬ Is b w.heap.size by unfold Is; omega))
    have HK2 := Lib.hid (HK1.out.trans (hK2.less HK1.out.size))
    have hs2 := hK2.size
    clear hR2 hK2 HT h1 h2 HPp
    cases hq : patL s.data.toList n (i + 1) with
    | bad m =>
      rw [hq] at HC HE
      have HN : Hid (RES = .bad m) := Lib.hid HE.out
      clear HE hgood hq
      go_wp2_with fail
      refine HC.out.mono ?_
      rintro e w3 ⟨⟨t, oe, nn, ce, rfl⟩, hR3, hK3⟩
      have HR3 : Hid (RD (w3.alloc (.cells #[.int .i64 t.k, .int .u64 t.s.a, .int .u64 t.s.b, .int .u64 t.s.c, .int .u64 t.s.d, (.slice oe nn ce)] 36)) b s m) := Lib.hid (RD.alloc hR3 _)
      have HZ3 := HZ2.out.kp hK3 (by omega) (show ¬ Is b w.heap.size by unfold Is; omega)
      obtain ⟨z0, z1, z2, z3, z4, z5, zf⟩ := HZ3.later (below1 _ (.cells #[.int .i64 t.k, .int .u64 t.s.a, .int .u64 t.s.b, .int .u64 t.s.c, .int .u64 t.s.d, (.slice oe nn ce)] 36)) HZ3.lt
      have HK3 : Hid (Kp w.heap.size (Is b) w (w3.alloc (.cells #[.int .i64 t.k, .int .u64 t.s.a, .int .u64 t.s.b, .int .u64 t.s.c, .int .u64 t.s.d, (.slice oe nn ce)] 36))) := Lib.hid ((HK2.out.trans (hK3.less HK2.out.size)).bel (below1 _ _) (by have := hK3.size; omega))
      have hs3 := hK3.size
      clear hR3 hK3 HC HZ3
      unfold PT.val
      go_wp2_with fail
      refine bodyPost_ret (v := .tuple #[.agg #[.int .i64 0, .int .u64 0, .int .u64 0, .int .u64 0, .int .u64 0, .slice none 0 0], .bool false]) (by simp [results, Tryd.results93, go_sem, *]) rfl ?_
      rw [HN.out]
      exact ⟨OutE.bad _ _ _ (.mk 0 .zero []) _ _ _, (at6 (by omega) _ _ _ _ _ _).trans HR3.out, kp6 HK3.out (Nat.le_refl _) _ _ _ _ _ _⟩
    | ok t m =>
      rw [hq] at HC HE hgood
      have him : i + 1 < m ∧ m ≤ s.data.toList.length := hgood.1
      rw [lt_len] at him
      have HE2 : Hid (RES = if pk s.data.toList m = 41 then .ok t (m + 1) else .bad m) := Lib.hid HE.out
      clear HE hgood hq
      go_wp2_with fail
      refine HC.out.mono ?_
      rintro e w3 ⟨⟨oe, ce, rfl, hT3⟩, hR3, hK3⟩
      have hs3 := hK3.size
      obtain ⟨w4, hw4⟩ : ∃ w4, w4 = w3.alloc (.cells #[.int .i64 t.k, .int .u64 t.s.a, .int .u64 t.s.b, .int .u64 t.s.c, .int .u64 t.s.d, (.slice oe t.l.length ce)] 36) := ⟨_, rfl⟩
      have HW4 := Lib.hid hw4
      have hb4 : Below w3.heap.size w3 w4 := by rw [hw4]; exact below1 _ _
      have hs4 : w4.heap.size = w3.heap.size + 1 := by rw [hw4]; simp
      have HR4 : Hid (RD w4 b s m) := Lib.hid (RD.bel hR3 hb4)
      have HZ4 := Lib.hid ((HZ2.out.kp hK3 (by omega) (show ¬ Is b w.heap.size by unfold Is; omega)).later hb4 (by omega))
      have HK4 : Hid (Kp w.heap.size (Is b) w w4) := Lib.hid ((HK2.out.trans (hK3.less HK2.out.size)).bel hb4 (by omega))
      have HB4 : Hid (TB w4 w3.heap.size t (.slice oe t.l.length ce)) := Lib.hid (by rw [hw4]; exact TB.new _ _ _)
      have HH3 := Lib.hid hT3
      have HX4 : Hid (Kp w3.heap.size (Or b w.heap.size) w3 w4) := Lib.hid (.of hb4 (Nat.le_refl _))
      have HT4 := Lib.hid (take_any w4 b s m 41 HR4.out (by omega) hs (by decide))
      clear hR3 hK3 HC hT3 hw4 hb4 HR4
      by_cases h41 : pk s.data.toList m = 41
      · have HN : Hid (RES = .ok t (m + 1)) := Lib.hid (by rw [HE2.out, if_pos h41])
        rw [decide_eq_true h41, if_pos h41] at HT4
        clear HE2 h41
        unfold PT.val
        go_wp2_with fail
        rw [← HW4.out]
        refine HT4.out.mono ?_
        rintro e w5 ⟨rfl, hR5, hK5⟩
        have HR5 := Lib.hid hR5
        obtain ⟨z0, z1, z2, z3, z4, z5, zf⟩ := HZ4.out.kp hK5 (by omega) (show ¬ Is b w.heap.size by unfold Is; omega)
        obtain ⟨c0, c1, c2, c3, c4, c5, -⟩ := HB4.out.kp hK5 (by omega) (show ¬ Is b w3.heap.size by unfold Is; omega)
        have HK5 := Lib.hid (HK4.out.trans (hK5.less HK4.out.size))
        have HX5 : Hid (Kp w3.heap.size (Or b w.heap.size) w3 w5) := Lib.hid (HX4.out.trans (hK5.mono (by omega) (fun k _ h => .inl h)))
        have hs5 := hK5.size
        clear hR5 hK5 HT4 HX4
        go_wp2_with fail
        refine bodyPost_ret (v := .tuple #[.agg #[.int .i64 t.k, .int .u64 t.s.a, .int .u64 t.s.b, .int .u64 t.s.c, .int .u64 t.s.d, (.slice oe t.l.length ce)], .bool true]) (by simp [results, Tryd.results93, go_sem, *]) rfl ?_
        rw [HN.out]
        refine ⟨⟨oe, ce, rfl, ?_⟩, (at6 (by omega) _ _ _ _ _ _).trans HR5.out, kp6 HK5.out (Nat.le_refl _) _ _ _ _ _ _⟩
        exact (kpset6 HX5.out (.inr rfl) _ _ _ _ _ _).rep HH3.out (Nat.le_refl _) (fun k h1 h2 h => by unfold Or at h; omega) (by omega) (by rw [size6]; omega)
      · have HN : Hid (RES = .bad m) := Lib.hid (by rw [HE2.out, if_neg h41])
        rw [decide_eq_false h41, if_neg h41] at HT4
        clear HE2 h41
        unfold PT.val
        go_wp2_with fail
        rw [← HW4.out]
        refine HT4.out.mono ?_
        rintro e w5 ⟨rfl, hR5, hK5⟩
        have HR5 := Lib.hid hR5
        obtain ⟨z0, z1, z2, z3, z4, z5, zf⟩ := HZ4.out.kp hK5 (by omega) (show ¬ Is b w.heap.size by unfold Is; omega)
        have HK5 := Lib.hid (HK4.out.trans (hK5.less HK4.out.size))
        have hs5 := hK5.size
        clear hR5 hK5 HT4 HX4
        go_wp2_with fail
        refine bodyPost_ret (v := .tuple #[.agg #[.int .i64 0, .int .u64 0, .int .u64 0, .int .u64 0, .int .u64 0, .slice none 0 0], .bool false]) (by simp [results, Tryd.results93, go_sem, *]) rfl ?_
        rw [HN.out]
        exact ⟨OutE.bad _ _ _ (.mk 0 .zero []) _ _ _, (at6 (by omega) _ _ _ _ _ _).trans HR5.out, kp6 HK5.out (Nat.le_refl _) _ _ _ _ _ _⟩
end Go.Proofs.YtaipaddfehpmgaaDoor
