/-
  The walks of the types' names: isType, TypeName, ParseType, Default.
-/
import Derived.Test.YthnlkijkgnmbhaaDoorProg
import Derived.Test.YthnlkijkgnmbhaaDoorRep
import Derived.WalkSpells
import Derived.WalkLawsBesides
import Derived.Lib.Hide
namespace Go.Proofs.YthnlkijkgnmbhaaDoor
open Go.RowKit

/-- The names of the types, in their order; no type: the empty name. -/
def tname (t : Int) : ByteArray :=
  if t = 1 then ⟨#[98, 111, 111, 108]⟩ else if t = 2 then ⟨#[105, 110, 116]⟩ else if t = 3 then ⟨#[116, 101, 120, 116]⟩ else if t = 4 then ⟨#[98, 105, 116, 115]⟩
  else if t = 5 then ⟨#[105, 110, 116, 115]⟩ else if t = 6 then ⟨#[116, 101, 120, 116, 115]⟩ else if t = 7 then ⟨#[116, 97, 98, 108, 101]⟩
  else if t = 8 then ⟨#[112, 97, 116, 116, 101, 114, 110]⟩ else ⟨#[]⟩

/-- What the table of names holds in the world. -/
def Names (w : World) : Prop :=
  w.cell? ⟨0, 0, none⟩ = some (.string ⟨#[]⟩) ∧
  w.cell? ⟨0, 1, none⟩ = some (.string (tname 1)) ∧ w.cell? ⟨0, 2, none⟩ = some (.string (tname 2)) ∧
  w.cell? ⟨0, 3, none⟩ = some (.string (tname 3)) ∧ w.cell? ⟨0, 4, none⟩ = some (.string (tname 4)) ∧
  w.cell? ⟨0, 5, none⟩ = some (.string (tname 5)) ∧ w.cell? ⟨0, 6, none⟩ = some (.string (tname 6)) ∧
  w.cell? ⟨0, 7, none⟩ = some (.string (tname 7)) ∧ w.cell? ⟨0, 8, none⟩ = some (.string (tname 8))

theorem Names.later {w w' : World} (h : Names w) (hb : Below w.heap.size w w') : Names w' := by
  obtain ⟨h0, h1, h2, h3, h4, h5, h6, h7, h8⟩ := h
  have lt : (0 : Nat) < w.heap.size := World.block_lt_of_cell? _ _ h0
  have go := fun o => hb.cell (p := ⟨0, o, none⟩) lt
  exact ⟨(go _).trans h0, (go _).trans h1, (go _).trans h2, (go _).trans h3, (go _).trans h4, (go _).trans h5, (go _).trans h6, (go _).trans h7, (go _).trans h8⟩

def isTy (t : Int) : Bool := decide (1 ≤ t) && decide (t ≤ 8)

set_option maxHeartbeats 400000 in
theorem isType_any (t : Int) (w : World) :
    Calls Tryd.prog 43 #[.int .i64 t] w fun e w' => e = .returned (.bool (isTy t)) ∧ w = w' := by
  by_cases h1 : 1 ≤ t
  · by_cases h8 : t ≤ 8
    all_goals
      go_enter Tryd.func43, Tryd.ntmps43
      go_wp2
      go_ret
      exact ⟨ret_bool (by simp [isTy]; omega), rfl⟩
  · go_enter Tryd.func43, Tryd.ntmps43
    go_wp2
    go_ret
    exact ⟨ret_bool (by simp [isTy]; omega), rfl⟩

theorem isType_yes (t : Int) (w : World) (h1 : 1 ≤ t) (h8 : t ≤ 8) :
    Calls Tryd.prog 43 #[.int .i64 t] w fun e w' => e = .returned (.bool true) ∧ w = w' :=
  (isType_any t w).mono fun _ _ ⟨he, hw⟩ => ⟨he.trans (ret_bool (by simp [isTy]; omega)), hw⟩
theorem isType_no (t : Int) (w : World) (h : t < 1 ∨ 8 < t) :
    Calls Tryd.prog 43 #[.int .i64 t] w fun e w' => e = .returned (.bool false) ∧ w = w' :=
  (isType_any t w).mono fun _ _ ⟨he, hw⟩ => ⟨he.trans (ret_bool (by simp [isTy]; omega)), hw⟩

theorem ty_cases {t : Int} (h1 : 1 ≤ t) (h8 : t ≤ 8) : t = 1 ∨ t = 2 ∨ t = 3 ∨ t = 4 ∨ t = 5 ∨ t = 6 ∨ t = 7 ∨ t = 8 := by omega

theorem tname_no {t : Int} (h : t < 1 ∨ 8 < t) : tname t = ⟨#[]⟩ := by
  unfold tname
  repeat rw [if_neg (by omega)]

set_option maxHeartbeats 800000 in
theorem typeName_any (t : Int) (w : World) (hN : Names w) :
    Calls Tryd.prog 28 #[.int .i64 t] w fun e w' => e = .returned (.string (tname t)) ∧ w = w' := by
  by_cases h : t < 1 ∨ 8 < t
  · have H := Lib.hid (tname_no h)
    go_enter Tryd.func28, Tryd.ntmps28
    go_wp2_with (go_at_call 43; refine (isType_no _ _ h).mono ?_; rintro e w' ⟨rfl, rfl⟩)
    go_ret
    exact ⟨ret_string H.out.symm, rfl⟩
  · obtain ⟨h0, g1, g2, g3, g4, g5, g6, g7, g8⟩ := hN
    rcases ty_cases (t := t) (by omega) (by omega) with rfl | rfl | rfl | rfl | rfl | rfl | rfl | rfl
    all_goals
      go_enter Tryd.func28, Tryd.ntmps28
      go_wp2_with (go_at_call 43; refine (isType_yes _ _ (by decide) (by decide)).mono ?_; rintro e w' ⟨rfl, rfl⟩)
      go_ret
      exact ⟨rfl, rfl⟩

set_option maxHeartbeats 400000 in
theorem names_any (w : World) :
    Calls Tryd.prog 45 #[] w fun e w' => e = .returned (.slice (some ⟨w.heap.size, 0, none⟩) 8 8) ∧
      w' = w.alloc (.cells #[.string (tname 1), .string (tname 2), .string (tname 3), .string (tname 4), .string (tname 5), .string (tname 6), .string (tname 7), .string (tname 8)] 9) := by
  go_enter Tryd.func45, Tryd.ntmps45
  go_wp2
  go_ret
  exact ⟨rfl, rfl⟩

set_option maxHeartbeats 800000 in
theorem refTypeName_any (t : Int) (w : World) :
    Calls Tryd.prog 30 #[.int .i64 t] w fun e w' => e = .returned (.string (tname t)) ∧ Below w.heap.size w w' := by
  by_cases h : t < 1 ∨ 8 < t
  · have H := Lib.hid (tname_no h)
    rcases h with h | h
    · go_enter Tryd.func30, Tryd.ntmps30
      go_wp2_with fail
      go_ret
      exact ⟨ret_string H.out.symm, Below.refl _ _⟩
    · have h' : ¬ t < 1 := by omega
      go_enter Tryd.func30, Tryd.ntmps30
      go_wp2_with fail
      go_ret
      exact ⟨ret_string H.out.symm, Below.refl _ _⟩
  · rcases ty_cases (t := t) (by omega) (by omega) with rfl | rfl | rfl | rfl | rfl | rfl | rfl | rfl
    all_goals
      go_enter Tryd.func30, Tryd.ntmps30
      go_wp2_with (go_at_call 45; refine (names_any _).mono ?_; rintro e w' ⟨rfl, rfl⟩)
      go_ret
      exact ⟨rfl, (Below.refl _ _).alloc (Nat.le_refl _) _⟩

end Go.Proofs.YthnlkijkgnmbhaaDoor
