/-
  The walk of Compare of the reference.
-/
import Derived.Test.YthnlkijkgnmbhaaDoorCompare
import Derived.StillTailTactics
namespace Go.Proofs.YthnlkijkgnmbhaaDoor
open Go.RowKit

theorem cmpI_eq {a b : Int} (h : a = b) : cmpI a b = 0 := by unfold cmpI; rw [if_neg (by omega), if_neg (by omega)]
theorem cmpI_lt {a b : Int} (h : a < b) : cmpI a b = -1 := if_pos h
theorem cmpI_gt {a b : Int} (h : b < a) : cmpI a b = 1 := by unfold cmpI; rw [if_neg (by omega), if_pos h]

theorem compareBytes_eq : ∀ a b : List UInt8, Lib.compareBytes a b = if a = b then 0 else if Op.bytesLess a b then -1 else 1
  | [], [] => by simp [Lib.compareBytes]
  | [], _ :: _ => by simp [Lib.compareBytes, Op.bytesLess]
  | _ :: _, [] => by simp [Lib.compareBytes, Op.bytesLess]
  | x :: a, y :: b => by
    have ih := compareBytes_eq a b
    unfold Lib.compareBytes Op.bytesLess
    by_cases hxy : x = y
    · subst hxy
      simp [UInt8.lt_irrefl, ih]
    · by_cases hlt : x < y
      · simp [hlt, hxy]
      · have : y < x := UInt8.lt_of_le_of_ne (UInt8.not_lt.1 hlt) (Ne.symm hxy)
        simp [hlt, this, hxy]

theorem cmpS_eq {a b : ByteArray} (h : a = b) : cmpS a b = 0 := by
  subst h; unfold cmpS; rw [compareBytes_eq, if_pos rfl]
theorem data_ne {a b : ByteArray} (h : a ≠ b) : a.data.toList ≠ b.data.toList := fun e => h (str_inj (by rw [ByteArray.toList_eq, ByteArray.toList_eq, e]))
theorem cmpS_lt {a b : ByteArray} (h : a ≠ b) (hl : Op.bytesLess a.toList b.toList = true) : cmpS a b = -1 := by
  rw [ByteArray.toList_eq, ByteArray.toList_eq] at hl
  unfold cmpS; rw [compareBytes_eq, if_neg (data_ne h), if_pos hl]
theorem cmpS_gt {a b : ByteArray} (h : a ≠ b) (hl : Op.bytesLess a.toList b.toList = false) : cmpS a b = 1 := by
  rw [ByteArray.toList_eq, ByteArray.toList_eq] at hl
  unfold cmpS; rw [compareBytes_eq, if_neg (data_ne h), if_neg (by rw [hl]; simp)]

set_option maxHeartbeats 400000 in
theorem sign_t (w : World) : Calls Tryd.prog 42 #[.bool true] w fun e w' => e = .returned (.int .i64 (-1)) ∧ w = w' := by
  go_enter Tryd.func42, Tryd.ntmps42
  go_wp2_with fail
  go_ret
  exact ⟨rfl, rfl⟩
set_option maxHeartbeats 400000 in
theorem sign_f (w : World) : Calls Tryd.prog 42 #[.bool false] w fun e w' => e = .returned (.int .i64 1) ∧ w = w' := by
  go_enter Tryd.func42, Tryd.ntmps42
  go_wp2_with fail
  go_ret
  exact ⟨rfl, rfl⟩

def RefCompareC (a : V) : Prop := ∀ (b : V) (sa sb : Value) (w : World) (B : Nat), Rep w B sa a.l → Rep w B sb b.l → B ≤ w.heap.size →
  Calls Tryd.prog 41 #[.agg #[.int .i64 a.t, .int .i64 a.n, .string a.s, sa], .agg #[.int .i64 b.t, .int .i64 b.n, .string b.s, sb]] w fun e w' =>
    e = .returned (.int .i64 (a.cmp b)) ∧ Below w.heap.size w w'

set_option maxRecDepth 100000 in
set_option maxHeartbeats 800000 in
theorem compareAll_any (l m : List V) (ih : ∀ x, x ∈ l → RefCompareC x) (sa sb : Value) (w : World) (B : Nat) (hra : Rep w B sa l) (hrb : Rep w B sb m) (hB : B ≤ w.heap.size) :
    Calls Tryd.prog 27 #[sa, sb] w fun e w' => e = .returned (.int .i64 (V.cmps l m)) ∧ Below w.heap.size w w' := by
  obtain ⟨oa, ca, rfl, hlc, hm, hel⟩ := hra.slice
  obtain ⟨ob, cb, rfl, hlc', hm', hel'⟩ := hrb.slice
  go_enter Tryd.func27, Tryd.ntmps27
  go_wp2_with fail
  go_loopw [5] (fun i wr => ∃ k : Nat, k ≤ l.length ∧ k ≤ m.length ∧ i = .int .i64 k ∧ Hid (V.cmps (l.drop k) (m.drop k) = V.cmps l m) ∧ Below w.heap.size w wr) (fun i _ => l.length - (intOf i).toNat)
  case atStart => exact ⟨0, Nat.zero_le _, Nat.zero_le _, rfl, rfl, Below.refl _ _⟩
  case round =>
    obtain ⟨k, hk, hk', rfl, HD, hbel⟩ := hrel
    by_cases hlt : k < l.length
    · obtain ⟨b, off, oe, ce, rfl, hb, h0, h1, h2, h3, hr⟩ := hel k _ (List.getElem?_eq_getElem hlt)
      rw [← hbel.cell (p := ⟨b, _, none⟩) (Nat.lt_of_lt_of_le hb hB)] at h0 h1 h2 h3
      have hs := hbel.size
      have HS := Lib.hid (drop_vs l k hlt)
      by_cases hlt' : k < m.length
      · have HS' := Lib.hid (drop_vs m k hlt')
        obtain ⟨b', off', oe', ce', rfl, hb', g0, g1, g2, g3, hr'⟩ := hel' k _ (List.getElem?_eq_getElem hlt')
        rw [← hbel.cell (p := ⟨b', _, none⟩) (Nat.lt_of_lt_of_le hb' hB)] at g0 g1 g2 g3
        clear hel hel'
        have hz1 : (k : Int) < (l.length : Int) := by omega
        have hz2 : (k : Int) < (m.length : Int) := by omega
        go_wp2_with fail
        go_still_tail 8, (by kernel_rfl)
        change wpList _ _ _ _ _ wr.drew
        have hbw := hbel.drew
        have hsw : wr.drew.heap.size = wr.heap.size := rfl
        clear h0 h1 h2 h3 g0 g1 g2 g3
        go_wp2_with fail
        refine (ih _ (List.getElem_mem hlt) m[k] _ _ _ B (hr.later (hbw.mono hB)) (hr'.later (hbw.mono hB)) (by omega)).mono ?_
        rintro e w1 ⟨rfl, hb1⟩
        have hb2 : Below w.heap.size w w1 := hbw.trans (hb1.mono (by omega))
        clear hsw
        by_cases hc : l[k].cmp m[k] = 0
        · have fc := neqf hc
          have HC := Lib.hid hc; clear hc
          go_wp2_with fail
          go_roundw
          case rel => exact ⟨k + 1, hlt, hlt', by go_num, by
            have h := HD.out
            rw [HS.out, HS'.out, V.cmps_cons, if_neg (by rw [HC.out]; simp)] at h
            exact h, hb2⟩
          case measure => simp [intOf]; omega
        · have fc := neqt hc
          have HC := Lib.hid hc; clear hc
          go_wp2_with fail
          go_ret
          exact ⟨ret_int (by rw [← HD.out, HS.out, HS'.out, V.cmps_cons, if_pos HC.out]), hb2⟩
      · have hz1 : (k : Int) < (l.length : Int) := by omega
        have hz2 : ¬ (k : Int) < (m.length : Int) := by omega
        have hz3 : ((l.length : Int) == (m.length : Int)) = false := beq_eq_false_iff_ne.2 (by omega)
        have hz4 : ¬ (l.length : Int) < (m.length : Int) := by omega
        go_wp2_with (go_at_call 42; refine (sign_f _).mono ?_; rintro e w' ⟨rfl, rfl⟩)
        go_ret
        exact ⟨ret_int (by rw [← HD.out, HS.out, List.drop_of_length_le (by omega : m.length ≤ k), V.cmps_cons_nil]), hbel⟩
    · have hz1 : ¬ (k : Int) < (l.length : Int) := by omega
      by_cases hlt' : l.length < m.length
      · have hz3 : ((l.length : Int) == (m.length : Int)) = false := beq_eq_false_iff_ne.2 (by omega)
        have hz4 : (l.length : Int) < (m.length : Int) := by omega
        go_wp2_with (go_at_call 42; refine (sign_t _).mono ?_; rintro e w' ⟨rfl, rfl⟩)
        go_ret
        exact ⟨ret_int (by rw [← HD.out, List.drop_of_length_le (by omega : l.length ≤ k), V.cmps_nil, if_neg (by simp; omega)]), hbel⟩
      · have hk1 : k = l.length := by omega
        by_cases he : l.length = m.length
        · have hz3 : ((l.length : Int) == (m.length : Int)) = true := beq_iff_eq.2 (by omega)
          have HE := Lib.hid he; clear he
          have HK := Lib.hid hk1; clear hk1
          go_wp2_with fail
          go_ret
          exact ⟨ret_int (by rw [← HD.out, List.drop_of_length_le (by omega : l.length ≤ k), V.cmps_nil, if_pos (by have := HE.out; simp; omega)]), hbel⟩
        · exact absurd hk' (by omega)

set_option maxRecDepth 100000 in
set_option maxHeartbeats 1600000 in
theorem refCompare_any (a : V) : RefCompareC a := by
  induction a using V.ind with
  | h a ih =>
  intro b sa sb w B hra hrb hB
  obtain ⟨oa, ca, rfl, _, _, _⟩ := hra.slice
  obtain ⟨ob, cb, rfl, _, _, _⟩ := hrb.slice
  have HZ := Lib.hid (V.cmp_eq a b)
  by_cases h1 : a.t = b.t
  · have f1 := neqf h1
    have H1 : Hid (cmpI a.t b.t = 0) := cmpI_eq h1
    clear h1
    by_cases h2 : a.n = b.n
    · have f2 := neqf h2
      have H2 : Hid (cmpI a.n b.n = 0) := cmpI_eq h2
      clear h2
      by_cases h3 : a.s = b.s
      · have f3 : (a.s.toList == b.s.toList) = true := by rw [h3]; simp
        have H3 : Hid (cmpS a.s b.s = 0) := cmpS_eq h3
        clear h3
        go_enter Tryd.func41, Tryd.ntmps41
        go_wp2_with fail
        refine (compareAll_any a.l b.l ih _ _ _ B (hra.later ((below2 _ _ _).mono hB)) (hrb.later ((below2 _ _ _).mono hB)) (by simp; omega)).mono ?_
        rintro e w1 ⟨rfl, hb1⟩
        go_wp2_with fail
        go_ret
        exact ⟨ret_int (by rw [HZ.out, if_neg (by rw [H1.out]; simp), if_neg (by rw [H2.out]; simp), if_neg (by rw [H3.out]; simp)]), (below2 _ _ _).trans (hb1.mono (by simp; omega))⟩
      · have f3 := str_ne h3
        cases hl : Op.bytesLess a.s.toList b.s.toList
        · have H3 : Hid (cmpS a.s b.s = 1) := cmpS_gt h3 hl
          clear h3
          go_enter Tryd.func41, Tryd.ntmps41
          go_wp2_with (go_at_call 42; refine (sign_f _).mono ?_; rintro e w' ⟨rfl, rfl⟩)
          go_ret
          exact ⟨ret_int (by rw [HZ.out, if_neg (by rw [H1.out]; simp), if_neg (by rw [H2.out]; simp), H3.out]; rfl), below2 _ _ _⟩
        · have H3 : Hid (cmpS a.s b.s = -1) := cmpS_lt h3 hl
          clear h3
          go_enter Tryd.func41, Tryd.ntmps41
          go_wp2_with (go_at_call 42; refine (sign_t _).mono ?_; rintro e w' ⟨rfl, rfl⟩)
          go_ret
          exact ⟨ret_int (by rw [HZ.out, if_neg (by rw [H1.out]; simp), if_neg (by rw [H2.out]; simp), H3.out]; rfl), below2 _ _ _⟩
    · have f2 := neqt h2
      by_cases hl : a.n < b.n
      · have H2 : Hid (cmpI a.n b.n = -1) := cmpI_lt hl
        clear h2
        go_enter Tryd.func41, Tryd.ntmps41
        go_wp2_with (go_at_call 42; refine (sign_t _).mono ?_; rintro e w' ⟨rfl, rfl⟩)
        go_ret
        exact ⟨ret_int (by rw [HZ.out, if_neg (by rw [H1.out]; simp), H2.out]; rfl), below2 _ _ _⟩
      · have H2 : Hid (cmpI a.n b.n = 1) := cmpI_gt (by omega)
        clear h2
        go_enter Tryd.func41, Tryd.ntmps41
        go_wp2_with (go_at_call 42; refine (sign_f _).mono ?_; rintro e w' ⟨rfl, rfl⟩)
        go_ret
        exact ⟨ret_int (by rw [HZ.out, if_neg (by rw [H1.out]; simp), H2.out]; rfl), below2 _ _ _⟩
  · have f1 := neqt h1
    by_cases hl : a.t < b.t
    · have H1 : Hid (cmpI a.t b.t = -1) := cmpI_lt hl
      clear h1
      go_enter Tryd.func41, Tryd.ntmps41
      go_wp2_with (go_at_call 42; refine (sign_t _).mono ?_; rintro e w' ⟨rfl, rfl⟩)
      go_ret
      exact ⟨ret_int (by rw [HZ.out, H1.out]; rfl), below2 _ _ _⟩
    · have H1 : Hid (cmpI a.t b.t = 1) := cmpI_gt (by omega)
      clear h1
      go_enter Tryd.func41, Tryd.ntmps41
      go_wp2_with (go_at_call 42; refine (sign_f _).mono ?_; rintro e w' ⟨rfl, rfl⟩)
      go_ret
      exact ⟨ret_int (by rw [HZ.out, H1.out]; rfl), below2 _ _ _⟩

end Go.Proofs.YthnlkijkgnmbhaaDoor
