/-
  The walk of TermSubterms, from what the sorted list is. Nothing is assumed.
-/
import Derived.Test.YtdfhfljmcakilaaTmSubs
import Derived.Test.YtdfhfljmcakilaaTmRSame
import Derived.Test.YtdfhfljmcakilaaTmLaw0
namespace Go.Proofs.Ytdfhfljmcakilaa
open Go.RowKit

theorem last_key {K : List T} {v : T} (h : K.map T.key = v.sub.map T.key) (m : Nat) (hm : K.length = m + 1) (x : T) (hx : K[m]? = some x) : x.cmp v = 0 := by
  obtain ⟨l, hl⟩ := v.sub_last
  have h1 : (K.map T.key)[m]? = some x.key := by rw [List.getElem?_map, hx]; rfl
  have h2 : m = (l.map T.key).length := by
    have := congrArg List.length h
    rw [hl] at this
    simp at this
    simp
    omega
  rw [h, hl, List.map_append, h2, List.getElem?_append_right (Nat.le_refl _)] at h1
  simp at h1
  exact T.cmp_of_key h1.symm

set_option maxRecDepth 100000 in
set_option maxHeartbeats 3200000 in
theorem lawSubterms_any (v : T) (sl : Value) (w : World) (hrep : Rep w w.heap.size sl v.l) (hS : SortedOf v sl) :
    Calls Try.prog 7 #[.agg #[.int .i64 v.r, sl]] w fun e w' => e = .returned (.bool true) ∧ Below w.heap.size w w' := by
  have HREP := Lib.hid hrep
  obtain ⟨oa, ca, rfl, _, _⟩ := hrep.form
  clear hrep
  have HBB : Below w.heap.size w ((w.alloc (.cells #[.int .i64 v.r, .slice oa v.l.length ca] 24)).alloc (.cells #[.int .i64 v.r, .slice oa v.l.length ca] 24)) := below2 _ _ _
  have BA : Box ((w.alloc (.cells #[.int .i64 v.r, .slice oa v.l.length ca] 24)).alloc (.cells #[.int .i64 v.r, .slice oa v.l.length ca] 24)) w.heap.size v (.slice oa v.l.length ca) := (Box.new v _ _ rfl).later (below1 _ _) (by simp)
  have hzz : ((w.alloc (.cells #[.int .i64 v.r, .slice oa v.l.length ca] 24)).alloc (.cells #[.int .i64 v.r, .slice oa v.l.length ca] 24)).heap.size = w.heap.size + 2 := by simp
  have hR1 := Rep.new1 (t := 24) (C := w.heap.size + 2) (HREP.out.later (below1 w (.cells #[.int .i64 v.r, .slice oa v.l.length ca] 24))) (by simp) (n := w.heap.size + 1) (by simp) (by omega)
  have HRA := Lib.hid (HREP.out.later HBB)
  have HSM := Lib.hid (small_any [v] _ _ _ hR1 (by simp))
  rw [small_one] at HSM
  clear hR1
  go_enter Try.func7, Try.ntmps7
  go_wp2_with fail
  generalize (w.alloc (.cells #[.int .i64 v.r, .slice oa v.l.length ca] 24)).alloc (.cells #[.int .i64 v.r, .slice oa v.l.length ca] 24) = W at *
  refine HSM.out.mono ?_
  rintro e w1 ⟨rfl, hb1⟩
  by_cases hs : v.size ≤ 40
  case neg =>
    rw [decide_eq_false hs]
    go_wp2_with fail
    refine (alive_any w1).mono ?_
    rintro e w2 ⟨rfl, hb2⟩
    go_wp2_with fail
    go_ret
    exact ⟨rfl, HBB.trans ((hb1.trans (hb2.mono hb1.size)).mono (by omega))⟩
  rw [decide_eq_true hs]
  have hBW : w.heap.size ≤ W.heap.size := by omega
  obtain ⟨ca0, ca1⟩ := BA.later hb1 (by omega)
  have hs1 := hb1.size
  have HSU := Lib.hid (subterms_any v (.slice oa v.l.length ca) w1 ((HRA.out.later (hb1.mono hBW)).mono (by omega)) (by omega) hS)
  have HB1 := Lib.hid hb1
  clear hb1 HSM hS
  go_wp2_with fail
  refine HSU.out.mono ?_
  rintro e w2 ⟨⟨K, ⟨s2, rfl, hr2⟩, hkey, hks, hkl, hkp⟩, hb2⟩
  obtain ⟨o2, c2, rfl, _, _, hel⟩ := hr2.slice
  obtain ⟨m, hm⟩ : ∃ m, K.length = m + 1 := ⟨K.length - 1, by omega⟩
  have hml : m < K.length := by omega
  obtain ⟨b, off, oe, ce, rfl, hb, d0, d1, hrx⟩ := hel m _ (List.getElem?_eq_getElem hml)
  have hlk := last_key hkey m hm _ (List.getElem?_eq_getElem hml)
  have hx9 : K[m].size ≤ 900 := by have := hks _ (List.getElem_mem hml); omega
  have HB2 : Hid (Below W.heap.size W w2) := Lib.hid (HB1.out.trans (hb2.mono hs1))
  have HR2 := Lib.hid hr2
  have HRX := Lib.hid hrx
  have hs2 := HB2.out.size
  have i0 : (0 : Int) < (K.length : Int) := by omega
  have i0' : 0 < K.length := hkp
  have i1 : (K.length : Int) - 1 = (m : Int) := by omega
  have i2 : IntKind.i64.wrap (m : Int) = (m : Int) := IntWalk.i64_in _ (by omega)
  have i3 : (0 : Int) ≤ (m : Int) := by omega
  have i4 : (m : Int) < (K.length : Int) := by omega
  have HKEEP : Hid (∀ w', Below w2.heap.size w2 w' → w'.cell? ⟨w.heap.size, 0, none⟩ = some (.int .i64 v.r) ∧ w'.cell? ⟨w.heap.size, 1, none⟩ = some (.slice oa v.l.length ca) ∧ w'.cell? ⟨b, off + m * 2, none⟩ = some (.int .i64 K[m].r) ∧ w'.cell? ⟨b, off + m * 2 + 1, none⟩ = some (.slice oe K[m].l.length ce)) :=
    Lib.hid (fun w' hb' => ⟨(BA.later (HB2.out.trans (hb'.mono hs2)) (by omega)).1, (BA.later (HB2.out.trans (hb'.mono hs2)) (by omega)).2, (hb'.cell (p := ⟨b, _, none⟩) hb).trans d0, (hb'.cell (p := ⟨b, _, none⟩) hb).trans d1⟩)
  have HRV : Hid (∀ w', Below w2.heap.size w2 w' → Rep w' w.heap.size (.slice oa v.l.length ca) v.l) := Lib.hid (fun w' hb' => HRA.out.later ((HB2.out.trans (hb'.mono hs2)).mono hBW))
  have HSB : Hid (∀ w', Below w2.heap.size w2 w' → Calls Try.prog 26 #[.agg #[.int .i64 v.r, .slice oa v.l.length ca]] w' fun e w3 => RetL w3 v.sub e ∧ Below w'.heap.size w' w3) :=
    Lib.hid (fun w' hb' => rsubterms_any v _ w' w.heap.size (HRV.out w' hb') (by have := hb'.size; omega) (by omega))
  have HSA : Hid (∀ (y : Value) w', Below w2.heap.size w2 w' → Rep w' w'.heap.size y v.sub → Calls Try.prog 25 #[.slice (some ⟨b, off, none⟩) K.length c2, y] w' fun e w3 => e = .returned (.bool true) ∧ Below w'.heap.size w' w3) :=
    Lib.hid (fun y w' hb' hy => (rsame_any K v.sub _ y w' w'.heap.size ((HR2.out.later hb').mono hb'.size) hy (Nat.le_refl _) (fun t ht => by have := hks t ht; omega) (fun t ht => by have := v.sub_spec.2.2.2 t ht; omega) (by omega)).mono fun e w3 ⟨h1, h2⟩ => ⟨by rw [h1, decide_eq_true hkey], h2⟩)
  have HCP : Hid (∀ w', Below w2.heap.size w2 w' → Calls Try.prog 18 #[.agg #[.int .i64 K[m].r, .slice oe K[m].l.length ce], .agg #[.int .i64 v.r, .slice oa v.l.length ca]] w' fun e w3 => e = .returned (.int .i64 0) ∧ Below w'.heap.size w' w3) :=
    Lib.hid (fun w' hb' => (rcompare_any K[m] v _ _ w' w'.heap.size ((HRX.out.later hb').mono hb'.size) ((HRV.out w' hb').mono (by have := hb'.size; omega)) (Nat.le_refl _) hx9 (by omega)).mono fun e w3 ⟨h1, h2⟩ => ⟨by rw [h1, hlk], h2⟩)
  clear hr2 hkey hks hkl hkp hb2 hel d0 d1 hrx hlk hx9 ca0 ca1
  obtain ⟨ca0, ca1, cb0, cb1⟩ := HKEEP.out w2 (Below.refl _ _)
  have HMM := Lib.hid hm
  have HML := Lib.hid hml
  generalize K[m] = x at *
  clear hm hml hb
  have h2 : Below w2.heap.size w2 w2.drew := (Below.refl _ _).drew
  go_wp2_with fail
  go_region_held_law (fun w' => w'.cell? ⟨w.heap.size, 0, none⟩ = some (.int .i64 v.r) ∧ w'.cell? ⟨w.heap.size, 1, none⟩ = some (.slice oa v.l.length ca) ∧ w'.cell? ⟨b, off + m * 2, none⟩ = some (.int .i64 x.r) ∧ w'.cell? ⟨b, off + m * 2 + 1, none⟩ = some (.slice oe x.l.length ce))
    (exact HKEEP.out _ (by assumption))
    (first
      | (go_simp; go_at_call 26; (with_reducible refine (HSB.out _ (by assumption)).mono ?_); rintro e w3 ⟨⟨s3, rfl, hr3⟩, hb3⟩
         have HR3 := Lib.hid hr3
         have h3 : Below w2.heap.size w2 w3 := h2.trans (hb3.mono h2.size)
         clear h2 hb3 hr3)
      | (go_simp; go_at_call 25; (with_reducible refine (HSA.out _ _ (by assumption) HR3.out).mono ?_); rintro e w4 ⟨rfl, hb4⟩
         have h4 : Below w2.heap.size w2 w4 := h3.trans (hb4.mono h3.size)
         clear h3 hb4)
      | (go_simp; go_at_call 18; (with_reducible refine (HCP.out _ (by assumption)).mono ?_); rintro e w5 ⟨rfl, hb5⟩
         have h5 : Below w2.heap.size w2 w5 := h4.trans (hb5.mono h4.size)
         clear h4 hb5)
      | (go_simp; go_at_call 10; (refine (alive_any _).mono ?_); rintro e w6 ⟨rfl, hb6⟩
         have h6 : Below w2.heap.size w2 w6 := h5.trans (hb6.mono h5.size)
         clear h5 hb6))
  all_goals
    go_wp2_with fail
    go_ret
    exact ⟨rfl, HBB.trans ((HB2.out.trans (h6.mono hs2)).mono (by omega))⟩

end Go.Proofs.Ytdfhfljmcakilaa
