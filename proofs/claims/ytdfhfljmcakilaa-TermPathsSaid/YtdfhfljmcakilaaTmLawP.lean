/-
  The walk of TermPaths. Nothing is assumed.
-/
import Derived.Test.YtdfhfljmcakilaaTmLawS
import Derived.Test.YtdfhfljmcakilaaTmRRepl
namespace Go.Proofs.Ytdfhfljmcakilaa
open Go.RowKit

theorem T.follow_repl (x : T) (p : List Int) : ∀ {v u : T}, v.follow p = some u → (T.repl x v p).follow p = some x := by
  induction p with
  | nil => intro v u _; rw [T.repl, T.follow]
  | cons i p ih =>
    intro v u h
    rw [T.follow_cons] at h
    split at h
    · rename_i hi
      cases hg : v.l[i.toNat]? with
      | none => rw [hg] at h; cases h
      | some y =>
        rw [hg] at h
        have hl := (List.getElem?_eq_some_iff.1 hg).1
        rw [T.repl]
        simp only [hg]
        rw [T.follow_cons, if_pos hi]
        show (match (v.l.set i.toNat (T.repl x y p))[i.toNat]? with | some x => x.follow p | none => none) = some x
        rw [List.getElem?_set_self hl]
        exact ih h
    · cases h
theorem T.repl_back (x : T) (p : List Int) : ∀ {v u : T}, v.follow p = some u → T.repl u (T.repl x v p) p = v := by
  induction p with
  | nil => intro v u h; rw [T.follow] at h; cases h; rw [T.repl]
  | cons i p ih =>
    intro v u h
    rw [T.follow_cons] at h
    split at h
    · rename_i hi
      cases hg : v.l[i.toNat]? with
      | none => rw [hg] at h; cases h
      | some y =>
        rw [hg] at h
        have hl := (List.getElem?_eq_some_iff.1 hg).1
        have e : T.repl x v (i :: p) = .mk v.r (v.l.set i.toNat (T.repl x y p)) := by rw [T.repl]; simp only [hg]
        rw [e, T.repl]
        show (match (v.l.set i.toNat (T.repl x y p))[i.toNat]? with | some z => T.mk v.r ((v.l.set i.toNat (T.repl x y p)).set i.toNat (T.repl u z p)) | none => T.mk v.r (v.l.set i.toNat (T.repl x y p))) = v
        rw [List.getElem?_set_self hl]
        show T.mk v.r ((v.l.set i.toNat (T.repl x y p)).set i.toNat (T.repl u (T.repl x y p) p)) = v
        rw [ih h, List.set_set]
        have hy : v.l[i.toNat] = y := by have := List.getElem?_eq_getElem hl; rw [hg] at this; exact (Option.some.inj this).symm
        rw [← hy, List.set_getElem_self]
        exact v.eta
    · cases h
theorem T.sizes_set (u : T) : ∀ (l : List T) (i : Nat), T.sizes (l.set i u) ≤ T.sizes l + u.size
  | [], i => by simp [T.sizes_nil]
  | a :: l, 0 => by rw [List.set_cons_zero, T.sizes_cons, T.sizes_cons]; omega
  | a :: l, i + 1 => by rw [List.set_cons_succ, T.sizes_cons, T.sizes_cons]; have := T.sizes_set u l i; omega
theorem T.sizes_set' {u : T} : ∀ {l : List T} {i : Nat} {y : T}, l[i]? = some y → T.sizes (l.set i u) + y.size = T.sizes l + u.size
  | [], i, y, h => by simp at h
  | a :: l, 0, y, h => by simp at h; subst h; rw [List.set_cons_zero, T.sizes_cons, T.sizes_cons]; omega
  | a :: l, i + 1, y, h => by rw [List.set_cons_succ, T.sizes_cons, T.sizes_cons]; have := T.sizes_set' (u := u) (l := l) (i := i) (y := y) (by simpa using h); omega
theorem T.repl_size (x : T) (p : List Int) : ∀ (v : T), (T.repl x v p).size ≤ v.size + x.size := by
  induction p with
  | nil => intro v; rw [T.repl]; omega
  | cons i p ih =>
    intro v
    rw [T.repl]
    split
    · rename_i y hg
      rw [T.size_eq, T.size_eq v]
      show 1 + T.sizes (v.l.set i.toNat (T.repl x y p)) ≤ _
      have h1 := T.sizes_set' (u := T.repl x y p) hg
      have h2 := ih y
      omega
    · omega

theorem Box.lt {w : World} {n : Nat} {v : T} {sl : Value} (h : Box w n v sl) : n < w.heap.size := by
  have := World.block_lt_of_cell? _ _ h.1
  simpa using this
theorem Box.on {w w' : World} {n : Nat} {v : T} {sl : Value} (h : Box w n v sl) (hb : Below w.heap.size w w') : Box w' n v sl := h.later hb h.lt
theorem retA_none {w w' : World} {e : Ending} {o : Option T} (h : RetA w w' o e) (ho : o = none) : e = .returned (.tuple #[.agg #[.int .i64 0, .slice none 0 0], .int .i64 7]) := by subst ho; exact h
theorem retA_some {w w' : World} {e : Ending} {o : Option T} {u : T} (h : RetA w w' o e) (ho : o = some u) : ∃ oa ca, e = .returned (.tuple #[.agg #[.int .i64 u.r, .slice oa u.l.length ca], .int .i64 0]) ∧ Rep w' w'.heap.size (.slice oa u.l.length ca) u.l := by
  subst ho
  obtain ⟨sl, he, hF⟩ := h
  obtain ⟨oa, ca, rfl, _, _⟩ := hF.form
  exact ⟨oa, ca, he, hF.rep (fun q hq => hq.2)⟩
theorem zero_r : (T.mk 0 []).r = 0 := rfl

set_option maxRecDepth 100000 in
set_option maxHeartbeats 6400000 in
theorem lawPaths_any (v x : T) (y : Value) (p : List Int) (sv sx : Value) (w : World) (hrv : Rep w w.heap.size sv v.l) (hy : HoldsI w w.heap.size y p) (hrx : Rep w w.heap.size sx x.l) :
    Calls Try.prog 6 #[.agg #[.int .i64 v.r, sv], y, .agg #[.int .i64 x.r, sx]] w fun e w' => e = .returned (.bool true) ∧ Below w.heap.size w w' := by
  obtain ⟨ov, cv, rfl, _, _⟩ := hrv.form
  obtain ⟨ox, cx, rfl, _, _⟩ := hrx.form
  obtain ⟨oy, cy, rfl, _, _⟩ : ∃ oa cap, y = .slice oa p.length cap ∧ p.length ≤ cap ∧ cap ≤ 9223372036854775807 := by obtain ⟨a, b, c, d, e, _⟩ := hy; exact ⟨a, b, c, d, e⟩
  have hW1 : Below w.heap.size w ((w.alloc (.cells #[.int .i64 v.r, .slice ov v.l.length cv] 24)).alloc (.cells #[.int .i64 x.r, .slice ox x.l.length cx] 24)) := below2 _ _ _
  have hW2 : Below w.heap.size w (((w.alloc (.cells #[.int .i64 v.r, .slice ov v.l.length cv] 24)).alloc (.cells #[.int .i64 x.r, .slice ox x.l.length cx] 24)).alloc (.cells #[.int .i64 v.r, .slice ov v.l.length cv, .int .i64 x.r, .slice ox x.l.length cx] 24)) := below3 _ _ _ _
  have Bv : Hid (Box (((w.alloc (.cells #[.int .i64 v.r, .slice ov v.l.length cv] 24)).alloc (.cells #[.int .i64 x.r, .slice ox x.l.length cx] 24)).alloc (.cells #[.int .i64 v.r, .slice ov v.l.length cv, .int .i64 x.r, .slice ox x.l.length cx] 24)) w.heap.size v (.slice ov v.l.length cv)) := Lib.hid (((Box.new v _ _ rfl).later (below1 _ _) (by simp)).later (below1 _ _) (by simp; omega))
  have Bx : Hid (Box (((w.alloc (.cells #[.int .i64 v.r, .slice ov v.l.length cv] 24)).alloc (.cells #[.int .i64 x.r, .slice ox x.l.length cx] 24)).alloc (.cells #[.int .i64 v.r, .slice ov v.l.length cv, .int .i64 x.r, .slice ox x.l.length cx] 24)) (w.heap.size + 1) x (.slice ox x.l.length cx)) := Lib.hid ((Box.new x _ _ (by simp)).later (below1 _ _) (by simp))
  have hR2 := Rep.new2 (w := (w.alloc (.cells #[.int .i64 v.r, .slice ov v.l.length cv] 24)).alloc (.cells #[.int .i64 x.r, .slice ox x.l.length cx] 24)) (B := w.heap.size) (t := 24) (C := w.heap.size + 3) (hrv.later hW1) (hrx.later hW1) (by simp <;> omega) (n := w.heap.size + 2) (by simp) (by omega)
  have HSM := Lib.hid (small_any [v, x] _ _ _ hR2 (by simp))
  rw [small_two] at HSM
  have Rv := Lib.hid ((hrv.later hW2).mono hW2.size)
  have Rx := Lib.hid ((hrx.later hW2).mono hW2.size)
  have HY := Lib.hid ((hy.later hW2).mono hW2.size)
  have HW := Lib.hid hW2
  clear hrv hrx hy hR2 hW1 hW2
  go_enter Try.func6, Try.ntmps6
  go_wp2_with fail
  generalize ((w.alloc (.cells #[.int .i64 v.r, .slice ov v.l.length cv] 24)).alloc (.cells #[.int .i64 x.r, .slice ox x.l.length cx] 24)).alloc (.cells #[.int .i64 v.r, .slice ov v.l.length cv, .int .i64 x.r, .slice ox x.l.length cx] 24) = V0 at *
  refine HSM.out.mono ?_
  rintro e w0 ⟨rfl, hb0⟩
  replace Bv := Lib.hid (Bv.out.on hb0)
  replace Rv := Lib.hid (Rv.out.on hb0)
  replace Bx := Lib.hid (Bx.out.on hb0)
  replace Rx := Lib.hid (Rx.out.on hb0)
  replace HY := Lib.hid (HY.out.on hb0)
  replace HW := Lib.hid (HW.out.trans (hb0.mono HW.out.size))
  clear hb0 HSM
  by_cases hs : v.size ≤ 40 ∧ x.size ≤ 40
  case neg =>
    have hq : (decide (v.size ≤ 40) && decide (x.size ≤ 40)) = false := by
      rw [Bool.eq_false_iff]
      intro h
      simp at h
      exact hs (by omega)
    rw [hq]
    go_wp2_with fail
    refine (alive_any w0).mono ?_
    rintro e w2 ⟨rfl, hb2⟩
    go_wp2_with fail
    go_ret
    exact ⟨rfl, HW.out.trans (hb2.mono HW.out.size)⟩
  have hq : (decide (v.size ≤ 40) && decide (x.size ≤ 40)) = true := by simp; omega
  rw [hq]
  clear hq
  obtain ⟨hsv, hsx⟩ := hs
  by_cases hp : 20 < (p.length : Int)
  · go_wp2_with fail
    refine (alive_any w0).mono ?_
    rintro e w2 ⟨rfl, hb2⟩
    go_wp2_with fail
    go_ret
    exact ⟨rfl, HW.out.trans (hb2.mono HW.out.size)⟩
  cases hf : v.follow p with
  | none =>
    have HF := Lib.hid hf
    have HRO := Lib.hid (replO_none (x := x) hf)
    clear hf
    have hz0 := zero_r
    obtain ⟨cv0, cv1⟩ := Bv.out
    obtain ⟨cx0, cx1⟩ := Bx.out
    go_wp2_with fail
    clear cv0 cv1 cx0 cx1
    refine (at_any v _ _ _ _ _ Rv.out (Nat.le_refl _) HY.out (by omega)).mono ?_
    rintro e w1 ⟨hA, hb1⟩
    obtain rfl := retA_none hA HF.out
    replace Bv := Lib.hid (Bv.out.on hb1)
    replace Rv := Lib.hid (Rv.out.on hb1)
    replace Bx := Lib.hid (Bx.out.on hb1)
    replace Rx := Lib.hid (Rx.out.on hb1)
    replace HY := Lib.hid (HY.out.on hb1)
    replace HW := Lib.hid (HW.out.trans (hb1.mono HW.out.size))
    clear hb1 hA
    have cv0 := fun o => (Bv.out.on (below1 w1 o)).1
    have cv1 := fun o => (Bv.out.on (below1 w1 o)).2
    have cx0 := fun o => (Bx.out.on (below1 w1 o)).1
    have cx1 := fun o => (Bx.out.on (below1 w1 o)).2
    go_wp2_with fail
    clear cv0 cv1 cx0 cx1
    have hbx : Below w1.heap.size w1 (w1.alloc (.cells #[.int .i64 0, .slice none 0 0] 24)) := below1 _ _
    have Ba : Hid (Box (w1.alloc (.cells #[.int .i64 0, .slice none 0 0] 24)) w1.heap.size (T.mk 0 []) (.slice none 0 0)) := Lib.hid (Box.new (T.mk 0 []) _ _ rfl)
    replace Bv := Lib.hid (Bv.out.on hbx)
    replace Rv := Lib.hid (Rv.out.on hbx)
    replace Bx := Lib.hid (Bx.out.on hbx)
    replace Rx := Lib.hid (Rx.out.on hbx)
    replace HY := Lib.hid (HY.out.on hbx)
    replace HW := Lib.hid (HW.out.trans (hbx.mono HW.out.size))
    have Ra : Hid (Rep (w1.alloc (.cells #[.int .i64 0, .slice none 0 0] 24)) (w1.alloc (.cells #[.int .i64 0, .slice none 0 0] 24)).heap.size (.slice none 0 0) (T.mk 0 []).l) := Lib.hid Rep.nil
    generalize w1.alloc (.cells #[.int .i64 0, .slice none 0 0] 24) = V2 at *
    clear hbx
    refine (rat_any _ v _ _ _ _ Rv.out (Nat.le_refl _) HY.out (by omega)).mono ?_
    rintro e w3 ⟨hA, hb3⟩
    obtain rfl := retA_none hA HF.out
    replace Bv := Lib.hid (Bv.out.on hb3)
    replace Rv := Lib.hid (Rv.out.on hb3)
    replace Bx := Lib.hid (Bx.out.on hb3)
    replace Rx := Lib.hid (Rx.out.on hb3)
    replace Ba := Lib.hid (Ba.out.on hb3)
    replace Ra := Lib.hid (Ra.out.on hb3)
    replace HY := Lib.hid (HY.out.on hb3)
    replace HW := Lib.hid (HW.out.trans (hb3.mono HW.out.size))
    clear hb3 hA
    have cv0 := fun o => (Bv.out.on (below1 w3 o)).1
    have cv1 := fun o => (Bv.out.on (below1 w3 o)).2
    have cx0 := fun o => (Bx.out.on (below1 w3 o)).1
    have cx1 := fun o => (Bx.out.on (below1 w3 o)).2
    have ca0 := fun o => (Ba.out.on (below1 w3 o)).1
    have ca1 := fun o => (Ba.out.on (below1 w3 o)).2
    simp only [hz0] at ca0
    go_wp2_with fail
    clear cv0 cv1 cx0 cx1 ca0 ca1
    have hbx : Below w3.heap.size w3 (w3.alloc (.cells #[.int .i64 0, .slice none 0 0] 24)) := below1 _ _
    have Bb : Hid (Box (w3.alloc (.cells #[.int .i64 0, .slice none 0 0] 24)) w3.heap.size (T.mk 0 []) (.slice none 0 0)) := Lib.hid (Box.new (T.mk 0 []) _ _ rfl)
    replace Bv := Lib.hid (Bv.out.on hbx)
    replace Rv := Lib.hid (Rv.out.on hbx)
    replace Bx := Lib.hid (Bx.out.on hbx)
    replace Rx := Lib.hid (Rx.out.on hbx)
    replace Ba := Lib.hid (Ba.out.on hbx)
    replace Ra := Lib.hid (Ra.out.on hbx)
    replace HY := Lib.hid (HY.out.on hbx)
    replace HW := Lib.hid (HW.out.trans (hbx.mono HW.out.size))
    have Rb : Hid (Rep (w3.alloc (.cells #[.int .i64 0, .slice none 0 0] 24)) (w3.alloc (.cells #[.int .i64 0, .slice none 0 0] 24)).heap.size (.slice none 0 0) (T.mk 0 []).l) := Lib.hid Rep.nil
    generalize w3.alloc (.cells #[.int .i64 0, .slice none 0 0] 24) = V4 at *
    clear hbx
    refine (replace_any v x _ _ _ _ _ _ Rv.out Rx.out (Nat.le_refl _) HY.out (by omega) (by omega)).mono ?_
    rintro e w5 ⟨hA, hb5⟩
    obtain rfl := retA_none hA HRO.out
    replace Bv := Lib.hid (Bv.out.on hb5)
    replace Rv := Lib.hid (Rv.out.on hb5)
    replace Bx := Lib.hid (Bx.out.on hb5)
    replace Rx := Lib.hid (Rx.out.on hb5)
    replace Ba := Lib.hid (Ba.out.on hb5)
    replace Ra := Lib.hid (Ra.out.on hb5)
    replace Bb := Lib.hid (Bb.out.on hb5)
    replace Rb := Lib.hid (Rb.out.on hb5)
    replace HY := Lib.hid (HY.out.on hb5)
    replace HW := Lib.hid (HW.out.trans (hb5.mono HW.out.size))
    clear hb5 hA
    have cv0 := fun o => (Bv.out.on (below1 w5 o)).1
    have cv1 := fun o => (Bv.out.on (below1 w5 o)).2
    have cx0 := fun o => (Bx.out.on (below1 w5 o)).1
    have cx1 := fun o => (Bx.out.on (below1 w5 o)).2
    have ca0 := fun o => (Ba.out.on (below1 w5 o)).1
    have ca1 := fun o => (Ba.out.on (below1 w5 o)).2
    have cb0 := fun o => (Bb.out.on (below1 w5 o)).1
    have cb1 := fun o => (Bb.out.on (below1 w5 o)).2
    simp only [hz0] at ca0
    simp only [hz0] at cb0
    go_wp2_with fail
    clear cv0 cv1 cx0 cx1 ca0 ca1 cb0 cb1
    have hbx : Below w5.heap.size w5 (w5.alloc (.cells #[.int .i64 0, .slice none 0 0] 24)) := below1 _ _
    have Bc : Hid (Box (w5.alloc (.cells #[.int .i64 0, .slice none 0 0] 24)) w5.heap.size (T.mk 0 []) (.slice none 0 0)) := Lib.hid (Box.new (T.mk 0 []) _ _ rfl)
    replace Bv := Lib.hid (Bv.out.on hbx)
    replace Rv := Lib.hid (Rv.out.on hbx)
    replace Bx := Lib.hid (Bx.out.on hbx)
    replace Rx := Lib.hid (Rx.out.on hbx)
    replace Ba := Lib.hid (Ba.out.on hbx)
    replace Ra := Lib.hid (Ra.out.on hbx)
    replace Bb := Lib.hid (Bb.out.on hbx)
    replace Rb := Lib.hid (Rb.out.on hbx)
    replace HY := Lib.hid (HY.out.on hbx)
    replace HW := Lib.hid (HW.out.trans (hbx.mono HW.out.size))
    have Rc : Hid (Rep (w5.alloc (.cells #[.int .i64 0, .slice none 0 0] 24)) (w5.alloc (.cells #[.int .i64 0, .slice none 0 0] 24)).heap.size (.slice none 0 0) (T.mk 0 []).l) := Lib.hid Rep.nil
    generalize w5.alloc (.cells #[.int .i64 0, .slice none 0 0] 24) = V6 at *
    clear hbx
    refine (rrepl_any x (by omega) _ v _ _ _ _ _ Rv.out Rx.out (Nat.le_refl _) HY.out (by omega)).mono ?_
    rintro e w7 ⟨hA, hb7⟩
    obtain rfl := retA_none hA HRO.out
    replace Bv := Lib.hid (Bv.out.on hb7)
    replace Rv := Lib.hid (Rv.out.on hb7)
    replace Bx := Lib.hid (Bx.out.on hb7)
    replace Rx := Lib.hid (Rx.out.on hb7)
    replace Ba := Lib.hid (Ba.out.on hb7)
    replace Ra := Lib.hid (Ra.out.on hb7)
    replace Bb := Lib.hid (Bb.out.on hb7)
    replace Rb := Lib.hid (Rb.out.on hb7)
    replace Bc := Lib.hid (Bc.out.on hb7)
    replace Rc := Lib.hid (Rc.out.on hb7)
    replace HY := Lib.hid (HY.out.on hb7)
    replace HW := Lib.hid (HW.out.trans (hb7.mono HW.out.size))
    clear hb7 hA
    have cv0 := fun o => (Bv.out.on (below1 w7 o)).1
    have cv1 := fun o => (Bv.out.on (below1 w7 o)).2
    have cx0 := fun o => (Bx.out.on (below1 w7 o)).1
    have cx1 := fun o => (Bx.out.on (below1 w7 o)).2
    have ca0 := fun o => (Ba.out.on (below1 w7 o)).1
    have ca1 := fun o => (Ba.out.on (below1 w7 o)).2
    have cb0 := fun o => (Bb.out.on (below1 w7 o)).1
    have cb1 := fun o => (Bb.out.on (below1 w7 o)).2
    have cc0 := fun o => (Bc.out.on (below1 w7 o)).1
    have cc1 := fun o => (Bc.out.on (below1 w7 o)).2
    simp only [hz0] at ca0
    simp only [hz0] at cb0
    simp only [hz0] at cc0
    go_wp2_with fail
    clear cv0 cv1 cx0 cx1 ca0 ca1 cb0 cb1 cc0 cc1
    have hbx : Below w7.heap.size w7 (w7.alloc (.cells #[.int .i64 0, .slice none 0 0] 24)) := below1 _ _
    have Bd : Hid (Box (w7.alloc (.cells #[.int .i64 0, .slice none 0 0] 24)) w7.heap.size (T.mk 0 []) (.slice none 0 0)) := Lib.hid (Box.new (T.mk 0 []) _ _ rfl)
    replace Bv := Lib.hid (Bv.out.on hbx)
    replace Rv := Lib.hid (Rv.out.on hbx)
    replace Bx := Lib.hid (Bx.out.on hbx)
    replace Rx := Lib.hid (Rx.out.on hbx)
    replace Ba := Lib.hid (Ba.out.on hbx)
    replace Ra := Lib.hid (Ra.out.on hbx)
    replace Bb := Lib.hid (Bb.out.on hbx)
    replace Rb := Lib.hid (Rb.out.on hbx)
    replace Bc := Lib.hid (Bc.out.on hbx)
    replace Rc := Lib.hid (Rc.out.on hbx)
    replace HY := Lib.hid (HY.out.on hbx)
    replace HW := Lib.hid (HW.out.trans (hbx.mono HW.out.size))
    have Rd : Hid (Rep (w7.alloc (.cells #[.int .i64 0, .slice none 0 0] 24)) (w7.alloc (.cells #[.int .i64 0, .slice none 0 0] 24)).heap.size (.slice none 0 0) (T.mk 0 []).l) := Lib.hid Rep.nil
    generalize w7.alloc (.cells #[.int .i64 0, .slice none 0 0] 24) = V8 at *
    clear hbx
    refine (rcompare_any (T.mk 0 []) (T.mk 0 []) _ _ _ _ Ra.out Rb.out (Nat.le_refl _) (by rw [show (T.mk 0 []).size = 1 from size_c0]; omega) (by rw [show (T.mk 0 []).size = 1 from size_c0]; omega)).mono ?_
    rintro e w9 ⟨rfl, hb9⟩
    rw [T.cmp_self]
    replace Bv := Lib.hid (Bv.out.on hb9)
    replace Rv := Lib.hid (Rv.out.on hb9)
    replace Bx := Lib.hid (Bx.out.on hb9)
    replace Rx := Lib.hid (Rx.out.on hb9)
    replace Ba := Lib.hid (Ba.out.on hb9)
    replace Ra := Lib.hid (Ra.out.on hb9)
    replace Bb := Lib.hid (Bb.out.on hb9)
    replace Rb := Lib.hid (Rb.out.on hb9)
    replace Bc := Lib.hid (Bc.out.on hb9)
    replace Rc := Lib.hid (Rc.out.on hb9)
    replace Bd := Lib.hid (Bd.out.on hb9)
    replace Rd := Lib.hid (Rd.out.on hb9)
    replace HY := Lib.hid (HY.out.on hb9)
    replace HW := Lib.hid (HW.out.trans (hb9.mono HW.out.size))
    clear hb9
    obtain ⟨cv0, cv1⟩ := Bv.out
    obtain ⟨cx0, cx1⟩ := Bx.out
    obtain ⟨ca0, ca1⟩ := Ba.out
    obtain ⟨cb0, cb1⟩ := Bb.out
    obtain ⟨cc0, cc1⟩ := Bc.out
    obtain ⟨cd0, cd1⟩ := Bd.out
    rw [hz0] at ca0 cb0 cc0 cd0
    go_wp2_with fail
    clear cv0 cv1 cx0 cx1 ca0 ca1 cb0 cb1 cc0 cc1 cd0 cd1
    refine (rcompare_any (T.mk 0 []) (T.mk 0 []) _ _ _ _ Rc.out Rd.out (Nat.le_refl _) (by rw [show (T.mk 0 []).size = 1 from size_c0]; omega) (by rw [show (T.mk 0 []).size = 1 from size_c0]; omega)).mono ?_
    rintro e w10 ⟨rfl, hb10⟩
    rw [T.cmp_self]
    replace Bv := Lib.hid (Bv.out.on hb10)
    replace Rv := Lib.hid (Rv.out.on hb10)
    replace Bx := Lib.hid (Bx.out.on hb10)
    replace Rx := Lib.hid (Rx.out.on hb10)
    replace Ba := Lib.hid (Ba.out.on hb10)
    replace Ra := Lib.hid (Ra.out.on hb10)
    replace Bb := Lib.hid (Bb.out.on hb10)
    replace Rb := Lib.hid (Rb.out.on hb10)
    replace Bc := Lib.hid (Bc.out.on hb10)
    replace Rc := Lib.hid (Rc.out.on hb10)
    replace Bd := Lib.hid (Bd.out.on hb10)
    replace Rd := Lib.hid (Rd.out.on hb10)
    replace HY := Lib.hid (HY.out.on hb10)
    replace HW := Lib.hid (HW.out.trans (hb10.mono HW.out.size))
    clear hb10
    go_wp2_with fail
    refine (alive_any _).mono ?_
    rintro e w99 ⟨rfl, hb99⟩
    go_wp2_with fail
    go_ret
    exact ⟨rfl, HW.out.trans (hb99.mono HW.out.size)⟩
  | some u =>
    have hus := T.follow_size p hf
    have hrs := T.repl_size x p v
    have HF := Lib.hid hf
    have HRO := Lib.hid (replO_some (x := x) hf)
    have HFR := Lib.hid (T.follow_repl x p hf)
    have HRB := Lib.hid (T.repl_back x p hf)
    clear hf
    generalize hrr : T.repl x v p = r at *
    have HRR := Lib.hid hrr
    clear hrr
    have HRO2 := Lib.hid ((replO_some (x := u) HFR.out).trans (by rw [HRB.out]))
    obtain ⟨cv0, cv1⟩ := Bv.out
    obtain ⟨cx0, cx1⟩ := Bx.out
    go_wp2_with fail
    clear cv0 cv1 cx0 cx1
    refine (at_any v _ _ _ _ _ Rv.out (Nat.le_refl _) HY.out (by omega)).mono ?_
    rintro e w1 ⟨hA, hb1⟩
    obtain ⟨oa, ca, rfl, hRa⟩ := retA_some hA HF.out
    have HRn := Lib.hid hRa
    replace Bv := Lib.hid (Bv.out.on hb1)
    replace Rv := Lib.hid (Rv.out.on hb1)
    replace Bx := Lib.hid (Bx.out.on hb1)
    replace Rx := Lib.hid (Rx.out.on hb1)
    replace HY := Lib.hid (HY.out.on hb1)
    replace HW := Lib.hid (HW.out.trans (hb1.mono HW.out.size))
    clear hb1 hA hRa
    have cv0 := fun o => (Bv.out.on (below1 w1 o)).1
    have cv1 := fun o => (Bv.out.on (below1 w1 o)).2
    have cx0 := fun o => (Bx.out.on (below1 w1 o)).1
    have cx1 := fun o => (Bx.out.on (below1 w1 o)).2
    go_wp2_with fail
    clear cv0 cv1 cx0 cx1
    have hbx : Below w1.heap.size w1 (w1.alloc (.cells #[.int .i64 u.r, .slice oa u.l.length ca] 24)) := below1 _ _
    have Ba := Lib.hid (Box.new (w := w1) (n := w1.heap.size) u (.slice oa u.l.length ca) 24 rfl)
    have Ra := Lib.hid ((HRn.out).on hbx)
    replace Bv := Lib.hid (Bv.out.on hbx)
    replace Rv := Lib.hid (Rv.out.on hbx)
    replace Bx := Lib.hid (Bx.out.on hbx)
    replace Rx := Lib.hid (Rx.out.on hbx)
    replace HY := Lib.hid (HY.out.on hbx)
    replace HW := Lib.hid (HW.out.trans (hbx.mono HW.out.size))
    generalize w1.alloc (.cells #[.int .i64 u.r, .slice oa u.l.length ca] 24) = V2 at *
    clear hbx
    clear HRn
    refine (rat_any _ v _ _ _ _ Rv.out (Nat.le_refl _) HY.out (by omega)).mono ?_
    rintro e w3 ⟨hA, hb3⟩
    obtain ⟨ob, cb, rfl, hRb⟩ := retA_some hA HF.out
    have HRn := Lib.hid hRb
    replace Bv := Lib.hid (Bv.out.on hb3)
    replace Rv := Lib.hid (Rv.out.on hb3)
    replace Bx := Lib.hid (Bx.out.on hb3)
    replace Rx := Lib.hid (Rx.out.on hb3)
    replace Ba := Lib.hid (Ba.out.on hb3)
    replace Ra := Lib.hid (Ra.out.on hb3)
    replace HY := Lib.hid (HY.out.on hb3)
    replace HW := Lib.hid (HW.out.trans (hb3.mono HW.out.size))
    clear hb3 hA hRb
    have cv0 := fun o => (Bv.out.on (below1 w3 o)).1
    have cv1 := fun o => (Bv.out.on (below1 w3 o)).2
    have cx0 := fun o => (Bx.out.on (below1 w3 o)).1
    have cx1 := fun o => (Bx.out.on (below1 w3 o)).2
    have ca0 := fun o => (Ba.out.on (below1 w3 o)).1
    have ca1 := fun o => (Ba.out.on (below1 w3 o)).2
    go_wp2_with fail
    clear cv0 cv1 cx0 cx1 ca0 ca1
    have hbx : Below w3.heap.size w3 (w3.alloc (.cells #[.int .i64 u.r, .slice ob u.l.length cb] 24)) := below1 _ _
    have Bb := Lib.hid (Box.new (w := w3) (n := w3.heap.size) u (.slice ob u.l.length cb) 24 rfl)
    have Rb := Lib.hid ((HRn.out).on hbx)
    replace Bv := Lib.hid (Bv.out.on hbx)
    replace Rv := Lib.hid (Rv.out.on hbx)
    replace Bx := Lib.hid (Bx.out.on hbx)
    replace Rx := Lib.hid (Rx.out.on hbx)
    replace Ba := Lib.hid (Ba.out.on hbx)
    replace Ra := Lib.hid (Ra.out.on hbx)
    replace HY := Lib.hid (HY.out.on hbx)
    replace HW := Lib.hid (HW.out.trans (hbx.mono HW.out.size))
    generalize w3.alloc (.cells #[.int .i64 u.r, .slice ob u.l.length cb] 24) = V4 at *
    clear hbx
    clear HRn
    refine (replace_any v x _ _ _ _ _ _ Rv.out Rx.out (Nat.le_refl _) HY.out (by omega) (by omega)).mono ?_
    rintro e w5 ⟨hA, hb5⟩
    obtain ⟨oc, cc, rfl, hRc⟩ := retA_some hA HRO.out
    have HRn := Lib.hid hRc
    replace Bv := Lib.hid (Bv.out.on hb5)
    replace Rv := Lib.hid (Rv.out.on hb5)
    replace Bx := Lib.hid (Bx.out.on hb5)
    replace Rx := Lib.hid (Rx.out.on hb5)
    replace Ba := Lib.hid (Ba.out.on hb5)
    replace Ra := Lib.hid (Ra.out.on hb5)
    replace Bb := Lib.hid (Bb.out.on hb5)
    replace Rb := Lib.hid (Rb.out.on hb5)
    replace HY := Lib.hid (HY.out.on hb5)
    replace HW := Lib.hid (HW.out.trans (hb5.mono HW.out.size))
    clear hb5 hA hRc
    have cv0 := fun o => (Bv.out.on (below1 w5 o)).1
    have cv1 := fun o => (Bv.out.on (below1 w5 o)).2
    have cx0 := fun o => (Bx.out.on (below1 w5 o)).1
    have cx1 := fun o => (Bx.out.on (below1 w5 o)).2
    have ca0 := fun o => (Ba.out.on (below1 w5 o)).1
    have ca1 := fun o => (Ba.out.on (below1 w5 o)).2
    have cb0 := fun o => (Bb.out.on (below1 w5 o)).1
    have cb1 := fun o => (Bb.out.on (below1 w5 o)).2
    go_wp2_with fail
    clear cv0 cv1 cx0 cx1 ca0 ca1 cb0 cb1
    have hbx : Below w5.heap.size w5 (w5.alloc (.cells #[.int .i64 r.r, .slice oc r.l.length cc] 24)) := below1 _ _
    have Bc := Lib.hid (Box.new (w := w5) (n := w5.heap.size) r (.slice oc r.l.length cc) 24 rfl)
    have Rc := Lib.hid ((HRn.out).on hbx)
    replace Bv := Lib.hid (Bv.out.on hbx)
    replace Rv := Lib.hid (Rv.out.on hbx)
    replace Bx := Lib.hid (Bx.out.on hbx)
    replace Rx := Lib.hid (Rx.out.on hbx)
    replace Ba := Lib.hid (Ba.out.on hbx)
    replace Ra := Lib.hid (Ra.out.on hbx)
    replace Bb := Lib.hid (Bb.out.on hbx)
    replace Rb := Lib.hid (Rb.out.on hbx)
    replace HY := Lib.hid (HY.out.on hbx)
    replace HW := Lib.hid (HW.out.trans (hbx.mono HW.out.size))
    generalize w5.alloc (.cells #[.int .i64 r.r, .slice oc r.l.length cc] 24) = V6 at *
    clear hbx
    clear HRn
    refine (rrepl_any x (by omega) _ v _ _ _ _ _ Rv.out Rx.out (Nat.le_refl _) HY.out (by omega)).mono ?_
    rintro e w7 ⟨hA, hb7⟩
    obtain ⟨od, cd, rfl, hRd⟩ := retA_some hA HRO.out
    have HRn := Lib.hid hRd
    replace Bv := Lib.hid (Bv.out.on hb7)
    replace Rv := Lib.hid (Rv.out.on hb7)
    replace Bx := Lib.hid (Bx.out.on hb7)
    replace Rx := Lib.hid (Rx.out.on hb7)
    replace Ba := Lib.hid (Ba.out.on hb7)
    replace Ra := Lib.hid (Ra.out.on hb7)
    replace Bb := Lib.hid (Bb.out.on hb7)
    replace Rb := Lib.hid (Rb.out.on hb7)
    replace Bc := Lib.hid (Bc.out.on hb7)
    replace Rc := Lib.hid (Rc.out.on hb7)
    replace HY := Lib.hid (HY.out.on hb7)
    replace HW := Lib.hid (HW.out.trans (hb7.mono HW.out.size))
    clear hb7 hA hRd
    have cv0 := fun o => (Bv.out.on (below1 w7 o)).1
    have cv1 := fun o => (Bv.out.on (below1 w7 o)).2
    have cx0 := fun o => (Bx.out.on (below1 w7 o)).1
    have cx1 := fun o => (Bx.out.on (below1 w7 o)).2
    have ca0 := fun o => (Ba.out.on (below1 w7 o)).1
    have ca1 := fun o => (Ba.out.on (below1 w7 o)).2
    have cb0 := fun o => (Bb.out.on (below1 w7 o)).1
    have cb1 := fun o => (Bb.out.on (below1 w7 o)).2
    have cc0 := fun o => (Bc.out.on (below1 w7 o)).1
    have cc1 := fun o => (Bc.out.on (below1 w7 o)).2
    go_wp2_with fail
    clear cv0 cv1 cx0 cx1 ca0 ca1 cb0 cb1 cc0 cc1
    have hbx : Below w7.heap.size w7 (w7.alloc (.cells #[.int .i64 r.r, .slice od r.l.length cd] 24)) := below1 _ _
    have Bd := Lib.hid (Box.new (w := w7) (n := w7.heap.size) r (.slice od r.l.length cd) 24 rfl)
    have Rd := Lib.hid ((HRn.out).on hbx)
    replace Bv := Lib.hid (Bv.out.on hbx)
    replace Rv := Lib.hid (Rv.out.on hbx)
    replace Bx := Lib.hid (Bx.out.on hbx)
    replace Rx := Lib.hid (Rx.out.on hbx)
    replace Ba := Lib.hid (Ba.out.on hbx)
    replace Ra := Lib.hid (Ra.out.on hbx)
    replace Bb := Lib.hid (Bb.out.on hbx)
    replace Rb := Lib.hid (Rb.out.on hbx)
    replace Bc := Lib.hid (Bc.out.on hbx)
    replace Rc := Lib.hid (Rc.out.on hbx)
    replace HY := Lib.hid (HY.out.on hbx)
    replace HW := Lib.hid (HW.out.trans (hbx.mono HW.out.size))
    generalize w7.alloc (.cells #[.int .i64 r.r, .slice od r.l.length cd] 24) = V8 at *
    clear hbx
    clear HRn
    refine (rcompare_any u u _ _ _ _ Ra.out Rb.out (Nat.le_refl _) (by omega) (by omega)).mono ?_
    rintro e w9 ⟨rfl, hb9⟩
    rw [T.cmp_self]
    replace Bv := Lib.hid (Bv.out.on hb9)
    replace Rv := Lib.hid (Rv.out.on hb9)
    replace Bx := Lib.hid (Bx.out.on hb9)
    replace Rx := Lib.hid (Rx.out.on hb9)
    replace Ba := Lib.hid (Ba.out.on hb9)
    replace Ra := Lib.hid (Ra.out.on hb9)
    replace Bb := Lib.hid (Bb.out.on hb9)
    replace Rb := Lib.hid (Rb.out.on hb9)
    replace Bc := Lib.hid (Bc.out.on hb9)
    replace Rc := Lib.hid (Rc.out.on hb9)
    replace Bd := Lib.hid (Bd.out.on hb9)
    replace Rd := Lib.hid (Rd.out.on hb9)
    replace HY := Lib.hid (HY.out.on hb9)
    replace HW := Lib.hid (HW.out.trans (hb9.mono HW.out.size))
    clear hb9
    obtain ⟨cv0, cv1⟩ := Bv.out
    obtain ⟨cx0, cx1⟩ := Bx.out
    obtain ⟨ca0, ca1⟩ := Ba.out
    obtain ⟨cb0, cb1⟩ := Bb.out
    obtain ⟨cc0, cc1⟩ := Bc.out
    obtain ⟨cd0, cd1⟩ := Bd.out
    go_wp2_with fail
    clear cv0 cv1 cx0 cx1 ca0 ca1 cb0 cb1 cc0 cc1 cd0 cd1
    refine (rcompare_any r r _ _ _ _ Rc.out Rd.out (Nat.le_refl _) (by omega) (by omega)).mono ?_
    rintro e w10 ⟨rfl, hb10⟩
    rw [T.cmp_self]
    replace Bv := Lib.hid (Bv.out.on hb10)
    replace Rv := Lib.hid (Rv.out.on hb10)
    replace Bx := Lib.hid (Bx.out.on hb10)
    replace Rx := Lib.hid (Rx.out.on hb10)
    replace Ba := Lib.hid (Ba.out.on hb10)
    replace Ra := Lib.hid (Ra.out.on hb10)
    replace Bb := Lib.hid (Bb.out.on hb10)
    replace Rb := Lib.hid (Rb.out.on hb10)
    replace Bc := Lib.hid (Bc.out.on hb10)
    replace Rc := Lib.hid (Rc.out.on hb10)
    replace Bd := Lib.hid (Bd.out.on hb10)
    replace Rd := Lib.hid (Rd.out.on hb10)
    replace HY := Lib.hid (HY.out.on hb10)
    replace HW := Lib.hid (HW.out.trans (hb10.mono HW.out.size))
    clear hb10
    obtain ⟨cv0, cv1⟩ := Bv.out
    obtain ⟨cx0, cx1⟩ := Bx.out
    obtain ⟨ca0, ca1⟩ := Ba.out
    obtain ⟨cb0, cb1⟩ := Bb.out
    obtain ⟨cc0, cc1⟩ := Bc.out
    obtain ⟨cd0, cd1⟩ := Bd.out
    go_wp2_with fail
    clear cv0 cv1 cx0 cx1 ca0 ca1 cb0 cb1 cc0 cc1 cd0 cd1
    refine (at_any r _ _ _ _ _ Rc.out (Nat.le_refl _) HY.out (by omega)).mono ?_
    rintro e w11 ⟨hA, hb11⟩
    obtain ⟨oy, cy, rfl, hRy⟩ := retA_some hA HFR.out
    have HRn := Lib.hid hRy
    replace Bv := Lib.hid (Bv.out.on hb11)
    replace Rv := Lib.hid (Rv.out.on hb11)
    replace Bx := Lib.hid (Bx.out.on hb11)
    replace Rx := Lib.hid (Rx.out.on hb11)
    replace Ba := Lib.hid (Ba.out.on hb11)
    replace Ra := Lib.hid (Ra.out.on hb11)
    replace Bb := Lib.hid (Bb.out.on hb11)
    replace Rb := Lib.hid (Rb.out.on hb11)
    replace Bc := Lib.hid (Bc.out.on hb11)
    replace Rc := Lib.hid (Rc.out.on hb11)
    replace Bd := Lib.hid (Bd.out.on hb11)
    replace Rd := Lib.hid (Rd.out.on hb11)
    replace HY := Lib.hid (HY.out.on hb11)
    replace HW := Lib.hid (HW.out.trans (hb11.mono HW.out.size))
    clear hb11 hA hRy
    have cv0 := fun o => (Bv.out.on (below1 w11 o)).1
    have cv1 := fun o => (Bv.out.on (below1 w11 o)).2
    have cx0 := fun o => (Bx.out.on (below1 w11 o)).1
    have cx1 := fun o => (Bx.out.on (below1 w11 o)).2
    have ca0 := fun o => (Ba.out.on (below1 w11 o)).1
    have ca1 := fun o => (Ba.out.on (below1 w11 o)).2
    have cb0 := fun o => (Bb.out.on (below1 w11 o)).1
    have cb1 := fun o => (Bb.out.on (below1 w11 o)).2
    have cc0 := fun o => (Bc.out.on (below1 w11 o)).1
    have cc1 := fun o => (Bc.out.on (below1 w11 o)).2
    have cd0 := fun o => (Bd.out.on (below1 w11 o)).1
    have cd1 := fun o => (Bd.out.on (below1 w11 o)).2
    go_wp2_with fail
    clear cv0 cv1 cx0 cx1 ca0 ca1 cb0 cb1 cc0 cc1 cd0 cd1
    have hbx : Below w11.heap.size w11 (w11.alloc (.cells #[.int .i64 x.r, .slice oy x.l.length cy] 24)) := below1 _ _
    have By := Lib.hid (Box.new (w := w11) (n := w11.heap.size) x (.slice oy x.l.length cy) 24 rfl)
    have Ry := Lib.hid ((HRn.out).on hbx)
    replace Bv := Lib.hid (Bv.out.on hbx)
    replace Rv := Lib.hid (Rv.out.on hbx)
    replace Bx := Lib.hid (Bx.out.on hbx)
    replace Rx := Lib.hid (Rx.out.on hbx)
    replace Ba := Lib.hid (Ba.out.on hbx)
    replace Ra := Lib.hid (Ra.out.on hbx)
    replace Bb := Lib.hid (Bb.out.on hbx)
    replace Rb := Lib.hid (Rb.out.on hbx)
    replace Bc := Lib.hid (Bc.out.on hbx)
    replace Rc := Lib.hid (Rc.out.on hbx)
    replace Bd := Lib.hid (Bd.out.on hbx)
    replace Rd := Lib.hid (Rd.out.on hbx)
    replace HY := Lib.hid (HY.out.on hbx)
    replace HW := Lib.hid (HW.out.trans (hbx.mono HW.out.size))
    generalize w11.alloc (.cells #[.int .i64 x.r, .slice oy x.l.length cy] 24) = V12 at *
    clear hbx
    clear HRn
    refine (replace_any r u _ _ _ _ _ _ Rc.out Ra.out (Nat.le_refl _) HY.out (by omega) (by omega)).mono ?_
    rintro e w13 ⟨hA, hb13⟩
    obtain ⟨oz, cz, rfl, hRz⟩ := retA_some hA HRO2.out
    have HRn := Lib.hid hRz
    replace Bv := Lib.hid (Bv.out.on hb13)
    replace Rv := Lib.hid (Rv.out.on hb13)
    replace Bx := Lib.hid (Bx.out.on hb13)
    replace Rx := Lib.hid (Rx.out.on hb13)
    replace Ba := Lib.hid (Ba.out.on hb13)
    replace Ra := Lib.hid (Ra.out.on hb13)
    replace Bb := Lib.hid (Bb.out.on hb13)
    replace Rb := Lib.hid (Rb.out.on hb13)
    replace Bc := Lib.hid (Bc.out.on hb13)
    replace Rc := Lib.hid (Rc.out.on hb13)
    replace Bd := Lib.hid (Bd.out.on hb13)
    replace Rd := Lib.hid (Rd.out.on hb13)
    replace By := Lib.hid (By.out.on hb13)
    replace Ry := Lib.hid (Ry.out.on hb13)
    replace HY := Lib.hid (HY.out.on hb13)
    replace HW := Lib.hid (HW.out.trans (hb13.mono HW.out.size))
    clear hb13 hA hRz
    have cv0 := fun o => (Bv.out.on (below1 w13 o)).1
    have cv1 := fun o => (Bv.out.on (below1 w13 o)).2
    have cx0 := fun o => (Bx.out.on (below1 w13 o)).1
    have cx1 := fun o => (Bx.out.on (below1 w13 o)).2
    have ca0 := fun o => (Ba.out.on (below1 w13 o)).1
    have ca1 := fun o => (Ba.out.on (below1 w13 o)).2
    have cb0 := fun o => (Bb.out.on (below1 w13 o)).1
    have cb1 := fun o => (Bb.out.on (below1 w13 o)).2
    have cc0 := fun o => (Bc.out.on (below1 w13 o)).1
    have cc1 := fun o => (Bc.out.on (below1 w13 o)).2
    have cd0 := fun o => (Bd.out.on (below1 w13 o)).1
    have cd1 := fun o => (Bd.out.on (below1 w13 o)).2
    have cy0 := fun o => (By.out.on (below1 w13 o)).1
    have cy1 := fun o => (By.out.on (below1 w13 o)).2
    go_wp2_with fail
    clear cv0 cv1 cx0 cx1 ca0 ca1 cb0 cb1 cc0 cc1 cd0 cd1 cy0 cy1
    have hbx : Below w13.heap.size w13 (w13.alloc (.cells #[.int .i64 v.r, .slice oz v.l.length cz] 24)) := below1 _ _
    have Bz := Lib.hid (Box.new (w := w13) (n := w13.heap.size) v (.slice oz v.l.length cz) 24 rfl)
    have Rz := Lib.hid ((HRn.out).on hbx)
    replace Bv := Lib.hid (Bv.out.on hbx)
    replace Rv := Lib.hid (Rv.out.on hbx)
    replace Bx := Lib.hid (Bx.out.on hbx)
    replace Rx := Lib.hid (Rx.out.on hbx)
    replace Ba := Lib.hid (Ba.out.on hbx)
    replace Ra := Lib.hid (Ra.out.on hbx)
    replace Bb := Lib.hid (Bb.out.on hbx)
    replace Rb := Lib.hid (Rb.out.on hbx)
    replace Bc := Lib.hid (Bc.out.on hbx)
    replace Rc := Lib.hid (Rc.out.on hbx)
    replace Bd := Lib.hid (Bd.out.on hbx)
    replace Rd := Lib.hid (Rd.out.on hbx)
    replace By := Lib.hid (By.out.on hbx)
    replace Ry := Lib.hid (Ry.out.on hbx)
    replace HY := Lib.hid (HY.out.on hbx)
    replace HW := Lib.hid (HW.out.trans (hbx.mono HW.out.size))
    generalize w13.alloc (.cells #[.int .i64 v.r, .slice oz v.l.length cz] 24) = V14 at *
    clear hbx
    clear HRn
    refine (rcompare_any x x _ _ _ _ Ry.out Rx.out (Nat.le_refl _) (by omega) (by omega)).mono ?_
    rintro e w15 ⟨rfl, hb15⟩
    rw [T.cmp_self]
    replace Bv := Lib.hid (Bv.out.on hb15)
    replace Rv := Lib.hid (Rv.out.on hb15)
    replace Bx := Lib.hid (Bx.out.on hb15)
    replace Rx := Lib.hid (Rx.out.on hb15)
    replace Ba := Lib.hid (Ba.out.on hb15)
    replace Ra := Lib.hid (Ra.out.on hb15)
    replace Bb := Lib.hid (Bb.out.on hb15)
    replace Rb := Lib.hid (Rb.out.on hb15)
    replace Bc := Lib.hid (Bc.out.on hb15)
    replace Rc := Lib.hid (Rc.out.on hb15)
    replace Bd := Lib.hid (Bd.out.on hb15)
    replace Rd := Lib.hid (Rd.out.on hb15)
    replace By := Lib.hid (By.out.on hb15)
    replace Ry := Lib.hid (Ry.out.on hb15)
    replace Bz := Lib.hid (Bz.out.on hb15)
    replace Rz := Lib.hid (Rz.out.on hb15)
    replace HY := Lib.hid (HY.out.on hb15)
    replace HW := Lib.hid (HW.out.trans (hb15.mono HW.out.size))
    clear hb15
    obtain ⟨cv0, cv1⟩ := Bv.out
    obtain ⟨cx0, cx1⟩ := Bx.out
    obtain ⟨ca0, ca1⟩ := Ba.out
    obtain ⟨cb0, cb1⟩ := Bb.out
    obtain ⟨cc0, cc1⟩ := Bc.out
    obtain ⟨cd0, cd1⟩ := Bd.out
    obtain ⟨cy0, cy1⟩ := By.out
    obtain ⟨cz0, cz1⟩ := Bz.out
    go_wp2_with fail
    clear cv0 cv1 cx0 cx1 ca0 ca1 cb0 cb1 cc0 cc1 cd0 cd1 cy0 cy1 cz0 cz1
    refine (rcompare_any v v _ _ _ _ Rz.out Rv.out (Nat.le_refl _) (by omega) (by omega)).mono ?_
    rintro e w16 ⟨rfl, hb16⟩
    rw [T.cmp_self]
    replace Bv := Lib.hid (Bv.out.on hb16)
    replace Rv := Lib.hid (Rv.out.on hb16)
    replace Bx := Lib.hid (Bx.out.on hb16)
    replace Rx := Lib.hid (Rx.out.on hb16)
    replace Ba := Lib.hid (Ba.out.on hb16)
    replace Ra := Lib.hid (Ra.out.on hb16)
    replace Bb := Lib.hid (Bb.out.on hb16)
    replace Rb := Lib.hid (Rb.out.on hb16)
    replace Bc := Lib.hid (Bc.out.on hb16)
    replace Rc := Lib.hid (Rc.out.on hb16)
    replace Bd := Lib.hid (Bd.out.on hb16)
    replace Rd := Lib.hid (Rd.out.on hb16)
    replace By := Lib.hid (By.out.on hb16)
    replace Ry := Lib.hid (Ry.out.on hb16)
    replace Bz := Lib.hid (Bz.out.on hb16)
    replace Rz := Lib.hid (Rz.out.on hb16)
    replace HY := Lib.hid (HY.out.on hb16)
    replace HW := Lib.hid (HW.out.trans (hb16.mono HW.out.size))
    clear hb16
    go_wp2_with fail
    refine (alive_any _).mono ?_
    rintro e w99 ⟨rfl, hb99⟩
    go_wp2_with fail
    go_ret
    exact ⟨rfl, HW.out.trans (hb99.mono HW.out.size)⟩

end Go.Proofs.Ytdfhfljmcakilaa
