/-
  The functions of the cache at nil and at a cache that New did not return; the walk of CacheNil. Nothing is assumed.
-/
import Derived.Test.YtbimpfciadbnjaaCaAwake
import Derived.Test.YtbimpfciadbnjaaCaRef
namespace Go.Proofs.Ytbimpfciadbnjaa
open Go.RowKit

/-- The value is no cache that New returned. -/
def NotMade (w : World) (p : Option Addr) : Prop := ∀ W, Below w.heap.size w W → Calls Try.prog 26 #[.pointer p] W fun e w' => e = .returned (.bool false) ∧ w' = W
theorem NotMade.below {w w' : World} {p : Option Addr} (h : NotMade w p) (hb : Below w.heap.size w w') : NotMade w' p := fun W hW => h W (hb.trans (hW.mono hb.size))
theorem NotMade.nil (w : World) : NotMade w none := fun W _ => made_nil W
theorem NotMade.zero {w : World} {n : Nat} (h : w.cell? ⟨n, 0, none⟩ = some (.pointer none)) (hn : n < w.heap.size) : NotMade w (some ⟨n, 0, none⟩) := fun _ hW => made_zero ((hW.cell (p := ⟨n, 0, none⟩) hn).trans h)

set_option maxHeartbeats 800000 in
theorem put_not {w : World} {p : Option Addr} (h : NotMade w p) (k : ByteArray) (t : Int) (oa : Option Addr) (m c : Nat) : Calls Try.prog 12 #[.pointer p, .string k, .agg #[.int .i64 t, .slice oa m c]] w fun e w' => e = .returned (.int .i64 17) ∧ Below w.heap.size w w' := by
  have hb := below1 w (.cells #[.int .i64 t, .slice oa m c] 36)
  have hm := h _ hb
  clear h
  go_enter Try.func12, Try.ntmps12
  go_wp2_with fail
  refine hm.mono ?_
  rintro e w1 ⟨rfl, h1⟩
  subst w1
  go_wp2_with fail
  go_ret
  exact ⟨rfl, hb⟩
set_option maxHeartbeats 800000 in
theorem get_not {w : World} {p : Option Addr} (h : NotMade w p) (k : ByteArray) : Calls Try.prog 14 #[.pointer p, .string k] w fun e w' => e = .returned (.tuple #[.agg #[.int .i64 0, .slice none 0 0], .bool false]) ∧ Below w.heap.size w w' := by
  have hb := below1 w (.cells #[.int .i64 0, .slice none 0 0] 36)
  have hm := h _ hb
  clear h
  obtain ⟨b0, b1, f0, f1⟩ := zbox w
  go_enter Try.func14, Try.ntmps14
  go_wp2_with fail
  generalize w.alloc (.cells #[.int .i64 0, .slice none 0 0] 36) = W at *
  refine hm.mono ?_
  rintro e w1 ⟨rfl, h1⟩
  subst w1
  go_wp2_with fail
  refine bodyPost_ret (v := .tuple #[.agg #[.int .i64 0, .slice none 0 0], .bool false]) (by simp [results, Try.results14, go_sem, *]) rfl ?_
  exact ⟨rfl, (hb.setCell (p := ⟨w.heap.size, _, none⟩) (Nat.le_refl _) _).setCell (p := ⟨w.heap.size, _, none⟩) (Nat.le_refl _) _⟩
set_option maxHeartbeats 800000 in
theorem peek_not {w : World} {p : Option Addr} (h : NotMade w p) (k : ByteArray) : Calls Try.prog 17 #[.pointer p, .string k] w fun e w' => e = .returned (.tuple #[.agg #[.int .i64 0, .slice none 0 0], .bool false]) ∧ Below w.heap.size w w' := by
  have hb := below1 w (.cells #[.int .i64 0, .slice none 0 0] 36)
  have hm := h _ hb
  clear h
  obtain ⟨b0, b1, f0, f1⟩ := zbox w
  go_enter Try.func17, Try.ntmps17
  go_wp2_with fail
  generalize w.alloc (.cells #[.int .i64 0, .slice none 0 0] 36) = W at *
  refine hm.mono ?_
  rintro e w1 ⟨rfl, h1⟩
  subst w1
  go_wp2_with fail
  refine bodyPost_ret (v := .tuple #[.agg #[.int .i64 0, .slice none 0 0], .bool false]) (by simp [results, Try.results17, go_sem, *]) rfl ?_
  exact ⟨rfl, (hb.setCell (p := ⟨w.heap.size, _, none⟩) (Nat.le_refl _) _).setCell (p := ⟨w.heap.size, _, none⟩) (Nat.le_refl _) _⟩
set_option maxHeartbeats 800000 in
theorem keys_not {w : World} {p : Option Addr} (h : NotMade w p) : Calls Try.prog 22 #[.pointer p] w fun e w' => e = .returned (.slice none 0 0) ∧ Below w.heap.size w w' := by
  have hm := h w (Below.refl _ _)
  clear h
  go_enter Try.func22, Try.ntmps22
  go_wp2_with fail
  refine hm.mono ?_
  rintro e w1 ⟨rfl, h1⟩
  subst w1
  go_wp2_with fail
  go_ret
  exact ⟨rfl, Below.refl _ _⟩
set_option maxHeartbeats 800000 in
theorem stats_not {w : World} {p : Option Addr} (h : NotMade w p) : Calls Try.prog 23 #[.pointer p] w fun e w' => e = .returned (.tuple #[.int .i64 0, .int .i64 0, .int .i64 0]) ∧ Below w.heap.size w w' := by
  have hm := h w (Below.refl _ _)
  clear h
  go_enter Try.func23, Try.ntmps23
  go_wp2_with fail
  refine hm.mono ?_
  rintro e w1 ⟨rfl, h1⟩
  subst w1
  go_wp2_with fail
  refine bodyPost_ret (v := .tuple #[.int .i64 0, .int .i64 0, .int .i64 0]) (by simp [results, Try.results23, go_sem, *]) rfl ?_
  exact ⟨rfl, Below.refl _ _⟩
set_option maxHeartbeats 800000 in
theorem clear_not {w : World} {p : Option Addr} (h : NotMade w p) : Calls Try.prog 19 #[.pointer p] w fun e w' => e = .returned (.tuple #[]) ∧ Below w.heap.size w w' := by
  have hm := h w (Below.refl _ _)
  clear h
  go_enter Try.func19, Try.ntmps19
  go_wp2_with fail
  refine hm.mono ?_
  rintro e w1 ⟨rfl, h1⟩
  subst w1
  go_wp2_with fail
  refine bodyPost_ret (v := .tuple #[]) (by simp [results, Try.results19, go_sem, *]) rfl ?_
  exact ⟨rfl, Below.refl _ _⟩

set_option maxRecDepth 100000 in
set_option maxHeartbeats 3200000 in
theorem lawNil_any (k : ByteArray) (t : T) (sl : Value) (w : World) (hrep : Rep w w.heap.size sl t.l) : Calls Try.prog 6 #[.string k, .agg #[.int .i64 t.r, sl]] w fun e w' => e = .returned (.bool true) ∧ Below w.heap.size w w' := by
  obtain ⟨oa, ca, rfl, _, _⟩ := hrep.form
  have hb1 := below1 w (.cells #[.int .i64 t.r, .slice oa t.l.length ca] 36)
  have HA : Hid (∀ W, Below w.heap.size w W → Calls Try.prog 9 #[] W fun e w' => e = .returned (.bool true) ∧ Below w.heap.size w w') := Lib.hid (fun W hW => (awake_any W).mono fun e w' ⟨h1, h2⟩ => ⟨h1, hW.trans (h2.mono hW.size)⟩)
  have t0 : (w.alloc (.cells #[.int .i64 t.r, .slice oa t.l.length ca] 36)).cell? ⟨w.heap.size, 0, none⟩ = some (.int .i64 t.r) := cell_at _ _ _ _ _ rfl
  have t1 : (w.alloc (.cells #[.int .i64 t.r, .slice oa t.l.length ca] 36)).cell? ⟨w.heap.size, 1, none⟩ = some (.slice oa t.l.length ca) := cell_at _ _ _ _ _ rfl
  by_cases hk : k.size ≤ 60
  case neg =>
    have hk' : (60 : Int) < (k.size : Int) := by omega
    clear hk
    go_enter Try.func6, Try.ntmps6
    go_wp2_with fail
    refine (HA.out _ hb1).mono ?_
    rintro e w2 ⟨rfl, hb2⟩
    go_wp2_with fail
    go_ret
    exact ⟨rfl, hb2⟩
  have hk' : ¬ (60 : Int) < (k.size : Int) := by omega
  have HWT := Lib.hid (within_any t (.slice oa t.l.length ca) _ _ (hrep.later hb1) (by simp))
  by_cases hsz : t.size ≤ 20
  case neg =>
    have hd : decide (t.size ≤ 20) = false := decide_eq_false hsz
    have HWT := HWT.out
    rw [hd] at HWT
    clear hsz hd hk
    go_enter Try.func6, Try.ntmps6
    go_wp2_with fail
    refine HWT.mono ?_
    rintro e w2 ⟨rfl, hb2⟩
    have hb2' := hb1.trans (hb2.mono (by simp))
    go_wp2_with fail
    refine (HA.out _ hb2').mono ?_
    rintro e w3 ⟨rfl, hb3⟩
    go_wp2_with fail
    go_ret
    exact ⟨rfl, hb3⟩
  have hd : decide (t.size ≤ 20) = true := decide_eq_true hsz
  have HWT := HWT.out
  rw [hd] at HWT
  have HBT0 := Lib.hid (Box.new t (.slice oa t.l.length ca) 36 (rfl : w.heap.size = w.heap.size))
  have hz1 : (w.alloc (.cells #[.int .i64 t.r, .slice oa t.l.length ca] 36)).heap.size = w.heap.size + 1 := by simp
  clear hd hk hsz
  go_enter Try.func6, Try.ntmps6
  go_wp2_with fail
  generalize w.alloc (.cells #[.int .i64 t.r, .slice oa t.l.length ca] 36) = w1 at *
  refine HWT.mono ?_
  rintro e w2 ⟨rfl, hb2⟩
  have hs2 := hb2.size
  have hb3 := below1 w2 (.cells #[.pointer none, .int .i64 0, .pointer none, .map none, .int .i64 0, .int .i64 0, .int .i64 0] 60)
  have HB : Hid (Below w.heap.size w (w2.alloc (.cells #[.pointer none, .int .i64 0, .pointer none, .map none, .int .i64 0, .int .i64 0, .int .i64 0] 60))) := Lib.hid (hb1.trans ((hb2.trans (hb3.mono hs2)).mono (by omega)))
  have HBT := Lib.hid (HBT0.out.later (hb2.trans (hb3.mono hs2)) (by omega))
  have hz3 : (w2.alloc (.cells #[.pointer none, .int .i64 0, .pointer none, .map none, .int .i64 0, .int .i64 0, .int .i64 0] 60)).heap.size = w2.heap.size + 1 := by simp
  have d0 : (w2.alloc (.cells #[.pointer none, .int .i64 0, .pointer none, .map none, .int .i64 0, .int .i64 0, .int .i64 0] 60)).cell? ⟨w2.heap.size, 0, none⟩ = some (.pointer none) := cell_at _ _ _ _ _ rfl
  have HNM0 := Lib.hid (NotMade.nil (w2.alloc (.cells #[.pointer none, .int .i64 0, .pointer none, .map none, .int .i64 0, .int .i64 0, .int .i64 0] 60)))
  have HNM1 := Lib.hid (NotMade.zero d0 (by rw [hz3]; omega))
  have hwz : w.heap.size < w2.heap.size := by omega
  clear t0 t1 hb2 hb3 hs2 d0 HBT0
  go_wp2_with fail
  generalize w2.alloc (.cells #[.pointer none, .int .i64 0, .pointer none, .map none, .int .i64 0, .int .i64 0, .int .i64 0] 60) = W at *
  go_loopw [7] (fun i wr => ∃ k : Nat, k ≤ 2 ∧ i = .int .i64 k ∧ Below W.heap.size W wr) (fun i _ => 2 - (intOf i).toNat)
  case atStart => exact ⟨0, by omega, rfl, Below.refl _ _⟩
  case round =>
    obtain ⟨j, hj, rfl, hbr⟩ := hrel
    have HBB := Lib.hid hbr
    clear hbr
    have hc : j = 0 ∨ j = 1 ∨ j = 2 := by omega
    clear hj
    rcases hc with rfl | rfl | rfl
    · simp only [Int.natCast_zero]
      have hnm := HNM0.out.below HBB.out
      have hp := Lib.hid (put_not hnm k t.r oa t.l.length ca)
      have hbt := HBT.out.later HBB.out (by show w.heap.size < W.heap.size; omega)
      obtain ⟨t0, t1⟩ := hbt
      clear hnm
      go_wp2_with fail
      refine hp.out.mono ?_
      rintro e w1 ⟨rfl, hb1⟩
      have HB1 := Lib.hid (HBB.out.trans (hb1.mono HBB.out.size))
      have hg := Lib.hid (get_not (HNM0.out.below HB1.out) k)
      clear hb1 hp t0 t1
      go_wp2_with fail
      refine hg.out.mono ?_
      rintro e w2 ⟨rfl, hb2⟩
      have HB2 := Lib.hid (HB1.out.trans ((hb2.trans ((below1 w2 (.cells #[.int .i64 0, .slice none 0 0] 36)).mono hb2.size)).mono HB1.out.size))
      have hk := Lib.hid (peek_not (HNM0.out.below HB2.out) k)
      clear hb2 hg
      go_wp2_with fail
      refine hk.out.mono ?_
      rintro e w3 ⟨rfl, hb3⟩
      have HB3 := Lib.hid (HB2.out.trans ((hb3.trans ((below1 w3 (.cells #[.int .i64 0, .slice none 0 0] 36)).mono hb3.size)).mono HB2.out.size))
      have hc := Lib.hid (clear_not (HNM0.out.below HB3.out))
      clear hb3 hk
      go_wp2_with fail
      refine hc.out.mono ?_
      rintro e w4 ⟨rfl, hb4⟩
      have HB4 := Lib.hid (HB3.out.trans (hb4.mono HB3.out.size))
      have hs := Lib.hid (stats_not (HNM0.out.below HB4.out))
      clear hb4 hc
      go_wp2_with fail
      refine hs.out.mono ?_
      rintro e w5 ⟨rfl, hb5⟩
      have HB5 := Lib.hid (HB4.out.trans (hb5.mono HB4.out.size))
      have hy := Lib.hid (keys_not (HNM0.out.below HB5.out))
      clear hb5 hs
      go_wp2_with fail
      refine hy.out.mono ?_
      rintro e w6 ⟨rfl, hb6⟩
      have HB6 := Lib.hid (HB5.out.trans (hb6.mono HB5.out.size))
      clear hb6 hy
      go_wp2_with fail
      go_roundw
      case rel => exact ⟨1, by omega, by go_num, HB6.out⟩
      case measure => simp [intOf]
    · simp only [Int.natCast_one]
      have hnm := HNM1.out.below HBB.out
      have hp := Lib.hid (put_not hnm k t.r oa t.l.length ca)
      have hbt := HBT.out.later HBB.out (by show w.heap.size < W.heap.size; omega)
      obtain ⟨t0, t1⟩ := hbt
      clear hnm
      go_wp2_with fail
      refine hp.out.mono ?_
      rintro e w1 ⟨rfl, hb1⟩
      have HB1 := Lib.hid (HBB.out.trans (hb1.mono HBB.out.size))
      have hg := Lib.hid (get_not (HNM1.out.below HB1.out) k)
      clear hb1 hp t0 t1
      go_wp2_with fail
      refine hg.out.mono ?_
      rintro e w2 ⟨rfl, hb2⟩
      have HB2 := Lib.hid (HB1.out.trans ((hb2.trans ((below1 w2 (.cells #[.int .i64 0, .slice none 0 0] 36)).mono hb2.size)).mono HB1.out.size))
      have hk := Lib.hid (peek_not (HNM1.out.below HB2.out) k)
      clear hb2 hg
      go_wp2_with fail
      refine hk.out.mono ?_
      rintro e w3 ⟨rfl, hb3⟩
      have HB3 := Lib.hid (HB2.out.trans ((hb3.trans ((below1 w3 (.cells #[.int .i64 0, .slice none 0 0] 36)).mono hb3.size)).mono HB2.out.size))
      have hc := Lib.hid (clear_not (HNM1.out.below HB3.out))
      clear hb3 hk
      go_wp2_with fail
      refine hc.out.mono ?_
      rintro e w4 ⟨rfl, hb4⟩
      have HB4 := Lib.hid (HB3.out.trans (hb4.mono HB3.out.size))
      have hs := Lib.hid (stats_not (HNM1.out.below HB4.out))
      clear hb4 hc
      go_wp2_with fail
      refine hs.out.mono ?_
      rintro e w5 ⟨rfl, hb5⟩
      have HB5 := Lib.hid (HB4.out.trans (hb5.mono HB4.out.size))
      have hy := Lib.hid (keys_not (HNM1.out.below HB5.out))
      clear hb5 hs
      go_wp2_with fail
      refine hy.out.mono ?_
      rintro e w6 ⟨rfl, hb6⟩
      have HB6 := Lib.hid (HB5.out.trans (hb6.mono HB5.out.size))
      clear hb6 hy
      go_wp2_with fail
      go_roundw
      case rel => exact ⟨2, by omega, by go_num, HB6.out⟩
      case measure => simp [intOf]
    · simp only [Int.cast_ofNat_Int]
      have hbw := HB.out.trans (HBB.out.mono HB.out.size)
      go_wp2_with fail
      refine (HA.out _ hbw).mono ?_
      rintro e w3 ⟨rfl, hb3⟩
      go_wp2_with fail
      go_ret
      exact ⟨rfl, hb3⟩

end Go.Proofs.Ytbimpfciadbnjaa
