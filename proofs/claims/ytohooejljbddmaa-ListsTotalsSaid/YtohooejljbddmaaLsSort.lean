/-
  Reverse, Sort, Max, Min of the package; Max, Min of the reference. Nothing is assumed.
-/
import Derived.Test.YtohooejljbddmaaLsPart
import Derived.Test.YtohooejljbddmaaLsRef2
import Derived.Test.YtohooejljbddmaaShelf
import Derived.Lib.OwnBridge
import Derived.Sort.OwnSortedInts
namespace Go.Proofs.Ytohooejljbddmaa
open Go.RowKit Go.Sort

theorem Own1.holds {w : World} {g : Nat} {l : List Int} (h : Own1 w g l) : Holds (Value.int .i64) w g 0 l.toArray := holds_of_blockI h (by rw [List.take_of_length_le (by simp)])

set_option maxHeartbeats 800000 in
theorem reverse_any (x : Value) (l : List Int) (w : World) (B : Nat) (hx : HoldsI w B x l) (hB : B ≤ w.heap.size) (hl : l.length ≤ 1000) :
    Calls Try.prog 28 #[x] w fun e w' => RetI w.heap.size l.reverse e w' ∧ Below w.heap.size w w' := by
  have HD := Lib.hid (duplicate_any x l w B hx hB hl)
  obtain ⟨oa, ca, rfl, _, _, hel⟩ := hx
  clear hel
  go_enter Try.func28, Try.ntmps28
  go_wp2_with fail
  refine HD.out.mono ?_
  rintro e w1 ⟨⟨g, rfl, hg, ho⟩, hb⟩
  have HR := Lib.hid (Try.slices_Reverse_int g 0 l.length l w1 ho.holds (by omega))
  have HO := Lib.hid ho; clear ho
  go_wp2_with fail
  refine HR.out.mono ?_
  rintro e w2 ⟨rfl, n, hw⟩
  have HW := Lib.hid hw; clear hw
  go_wp2_with fail
  go_ret
  have hw := HW.out
  subst hw
  have h := Lib.ownsRow_putRow (q := n) (HO.out.own hg rfl (by omega)) (ys := l.reverse) (by simp) (Nat.le_refl _)
  refine ⟨⟨_, rfl, ?_⟩, Lib.below_putRow hb hg⟩
  rw [List.take_of_length_le (by simp)] at h
  unfold OwnI
  rw [List.length_reverse]
  exact h

set_option maxHeartbeats 800000 in
theorem sort_any (x : Value) (l : List Int) (w : World) (B : Nat) (hx : HoldsI w B x l) (hB : B ≤ w.heap.size) (hl : l.length ≤ 1000) :
    Calls Try.prog 30 #[x] w fun e w' => RetI w.heap.size (srt l) e w' ∧ Below w.heap.size w w' := by
  have HD := Lib.hid (duplicate_any x l w B hx hB hl)
  obtain ⟨oa, ca, rfl, _, _, hel⟩ := hx
  clear hel
  go_enter Try.func30, Try.ntmps30
  go_wp2_with fail
  refine HD.out.mono ?_
  rintro e w1 ⟨⟨g, rfl, hg, ho⟩, hb⟩
  have hlt : g < w1.heap.size := (Array.getElem?_eq_some_iff.1 ho).1
  have HR := Lib.hid (Try.slices_Sort_int g 0 l.length l w1 ho.holds hlt (by omega))
  have HO := Lib.hid ho; clear ho
  go_wp2_with fail
  refine HR.out.mono ?_
  rintro e w2 ⟨rfl, n, os, hw⟩
  have HW := Lib.hid hw; clear hw
  go_wp2_with fail
  go_ret
  have hw := HW.out
  subst hw
  have hsl := srt_len l
  have h := ownsRow_sortedI (base := w.heap.size) (n := n) (os := os) (ss := l) (ts := srt l) hsl hg HO.out (Nat.le_refl _) (by unfold maxLen; omega) (by simp)
  refine ⟨⟨_, rfl, ?_⟩, hb.grown (grownBy_sortedI _) hb.size (fun q hq => by cases hq; exact hg)⟩
  unfold OwnI
  rw [hsl]
  exact h

theorem max_fold : ∀ (l : List Int) (a : Int), (l.foldl max a = a ∨ l.foldl max a ∈ l) ∧ a ≤ l.foldl max a ∧ ∀ x ∈ l, x ≤ l.foldl max a
  | [], a => by simp
  | y :: l, a => by
    obtain ⟨h1, h2, h3⟩ := max_fold l (max a y)
    rw [List.foldl_cons]
    refine ⟨?_, by omega, fun x hx => ?_⟩
    · rcases h1 with h | h
      · rw [h]
        rcases Int.le_total a y with h' | h'
        · right; rw [Int.max_eq_right h']; simp
        · left; exact Int.max_eq_left h'
      · right; exact List.mem_cons_of_mem _ h
    · rcases List.mem_cons.1 hx with rfl | hx
      · omega
      · exact h3 x hx
theorem min_fold : ∀ (l : List Int) (a : Int), (l.foldl min a = a ∨ l.foldl min a ∈ l) ∧ l.foldl min a ≤ a ∧ ∀ x ∈ l, l.foldl min a ≤ x
  | [], a => by simp
  | y :: l, a => by
    obtain ⟨h1, h2, h3⟩ := min_fold l (min a y)
    rw [List.foldl_cons]
    refine ⟨?_, by omega, fun x hx => ?_⟩
    · rcases h1 with h | h
      · rw [h]
        rcases Int.le_total a y with h' | h'
        · left; exact Int.min_eq_left h'
        · right; rw [Int.min_eq_right h']; simp
      · right; exact List.mem_cons_of_mem _ h
    · rcases List.mem_cons.1 hx with rfl | hx
      · omega
      · exact h3 x hx
theorem maxOf_mx (l : List Int) (h : 0 < l.length) : Lib.maxOf l = mxL l := by
  cases l with
  | nil => simp at h
  | cons y r =>
    obtain ⟨h1, h2, h3⟩ := max_fold (y :: r) y
    refine mx_of ?_ h3
    rcases h1 with h | h
    · show List.foldl max y (y :: r) ∈ _
      rw [h]; simp
    · exact h
theorem minOf_mn (l : List Int) (h : 0 < l.length) : Lib.minOf l = mnL l := by
  cases l with
  | nil => simp at h
  | cons y r =>
    obtain ⟨h1, h2, h3⟩ := min_fold (y :: r) y
    refine mn_of ?_ h3
    rcases h1 with h | h
    · show List.foldl min y (y :: r) ∈ _
      rw [h]; simp
    · exact h

set_option maxHeartbeats 800000 in
theorem max_any (x : Value) (l : List Int) (w : World) (B : Nat) (hx : HoldsI w B x l) (hl : l.length ≤ 1000) :
    Calls Try.prog 19 #[x] w fun e w' => e = .returned (.tuple #[.int .i64 (mxV l), .int .i64 (mxE l)]) ∧ Below w.heap.size w w' := by
  obtain ⟨oa, ca, rfl, _, _, hel⟩ := hx
  by_cases h0 : l.length = 0
  · obtain rfl := List.eq_nil_of_length_eq_zero h0
    have hv : mxV [] = 0 ∧ mxE [] = 7 := by unfold mxV mxE; rw [srt_nil]; exact ⟨rfl, rfl⟩
    have HV := Lib.hid hv
    clear hel hv h0
    go_enter Try.func19, Try.ntmps19
    go_wp2_with fail
    go_ret2
    exact ⟨ret_two HV.out.1.symm HV.out.2.symm, Below.refl _ _⟩
  · have hpos : 0 < l.length := by omega
    obtain ⟨b, off, rfl, hb, _⟩ := hel 0 _ (List.getElem?_eq_getElem hpos)
    have HC := Lib.hid (Try.slices_Max_int b off l.length ca l w hpos (Nat.le_refl _) (by omega) (fun j hj => by
      obtain ⟨b', off', he, _, hc⟩ := hel j _ (List.getElem?_eq_getElem hj)
      cases he
      rw [hc]
      simp [hj]))
    have HM := Lib.hid (maxOf_mx l hpos)
    have HE := Lib.hid (mx_el l hpos)
    have hz : ((l.length : Int) == 0) = false := beq_eq_false_iff_ne.2 (by omega)
    clear hel h0
    go_enter Try.func19, Try.ntmps19
    go_wp2_with fail
    refine HC.out.mono ?_
    rintro e w' ⟨rfl, hw'⟩; obtain rfl := hw'.symm
    go_wp2_with fail
    go_ret2
    refine ⟨ret_two ?_ HE.out.2.symm, Below.refl _ _⟩
    unfold mxV
    rw [HE.out.1]
    exact HM.out

set_option maxHeartbeats 800000 in
theorem rmax_any (x : Value) (l : List Int) (w : World) (B : Nat) (hx : HoldsI w B x l) (hB : B ≤ w.heap.size) (hl : l.length ≤ 60) :
    Calls Try.prog 20 #[x] w fun e w' => e = .returned (.tuple #[.int .i64 (mxV l), .int .i64 (mxE l)]) ∧ Below w.heap.size w w' := by
  have HS := Lib.hid (rsort_any x l w B hx hB hl)
  obtain ⟨oa, ca, rfl, _, _, hel⟩ := hx
  clear hel
  go_enter Try.func20, Try.ntmps20
  go_wp2_with fail
  refine HS.out.mono ?_
  rintro e w1 ⟨⟨v, rfl, ho⟩, hb⟩
  have HC := Lib.hid (relement_any v (srt l) (-1) w1 _ ho.holds (by rw [srt_len]; omega) (by omega) (by omega))
  clear ho
  go_wp2_with fail
  refine HC.out.mono ?_
  rintro e w2 ⟨rfl, hb2⟩
  go_wp2_with fail
  go_ret2
  exact ⟨rfl, hb.trans (hb2.mono hb.size)⟩

set_option maxHeartbeats 800000 in
theorem min_any (x : Value) (l : List Int) (w : World) (B : Nat) (hx : HoldsI w B x l) (hl : l.length ≤ 1000) :
    Calls Try.prog 21 #[x] w fun e w' => e = .returned (.tuple #[.int .i64 (mnV l), .int .i64 (mnE l)]) ∧ Below w.heap.size w w' := by
  obtain ⟨oa, ca, rfl, _, _, hel⟩ := hx
  by_cases h0 : l.length = 0
  · obtain rfl := List.eq_nil_of_length_eq_zero h0
    have hv : mnV [] = 0 ∧ mnE [] = 7 := by unfold mnV mnE; rw [srt_nil]; exact ⟨rfl, rfl⟩
    have HV := Lib.hid hv
    clear hel hv h0
    go_enter Try.func21, Try.ntmps21
    go_wp2_with fail
    go_ret2
    exact ⟨ret_two HV.out.1.symm HV.out.2.symm, Below.refl _ _⟩
  · have hpos : 0 < l.length := by omega
    obtain ⟨b, off, rfl, hb, _⟩ := hel 0 _ (List.getElem?_eq_getElem hpos)
    have HC := Lib.hid (Try.slices_Min_int b off l.length ca l w hpos (Nat.le_refl _) (by omega) (fun j hj => by
      obtain ⟨b', off', he, _, hc⟩ := hel j _ (List.getElem?_eq_getElem hj)
      cases he
      rw [hc]
      simp [hj]))
    have HM := Lib.hid (minOf_mn l hpos)
    have HE := Lib.hid (mn_el l hpos)
    have hz : ((l.length : Int) == 0) = false := beq_eq_false_iff_ne.2 (by omega)
    clear hel h0
    go_enter Try.func21, Try.ntmps21
    go_wp2_with fail
    refine HC.out.mono ?_
    rintro e w' ⟨rfl, hw'⟩; obtain rfl := hw'.symm
    go_wp2_with fail
    go_ret2
    refine ⟨ret_two ?_ HE.out.2.symm, Below.refl _ _⟩
    unfold mnV
    rw [HE.out.1]
    exact HM.out

set_option maxHeartbeats 800000 in
theorem rmin_any (x : Value) (l : List Int) (w : World) (B : Nat) (hx : HoldsI w B x l) (hB : B ≤ w.heap.size) (hl : l.length ≤ 60) :
    Calls Try.prog 22 #[x] w fun e w' => e = .returned (.tuple #[.int .i64 (mnV l), .int .i64 (mnE l)]) ∧ Below w.heap.size w w' := by
  have HS := Lib.hid (rsort_any x l w B hx hB hl)
  obtain ⟨oa, ca, rfl, _, _, hel⟩ := hx
  clear hel
  go_enter Try.func22, Try.ntmps22
  go_wp2_with fail
  refine HS.out.mono ?_
  rintro e w1 ⟨⟨v, rfl, ho⟩, hb⟩
  have HC := Lib.hid (relement_any v (srt l) (0) w1 _ ho.holds (by rw [srt_len]; omega) (by omega) (by omega))
  clear ho
  go_wp2_with fail
  refine HC.out.mono ?_
  rintro e w2 ⟨rfl, hb2⟩
  go_wp2_with fail
  go_ret2
  exact ⟨rfl, hb.trans (hb2.mono hb.size)⟩

end Go.Proofs.Ytohooejljbddmaa
