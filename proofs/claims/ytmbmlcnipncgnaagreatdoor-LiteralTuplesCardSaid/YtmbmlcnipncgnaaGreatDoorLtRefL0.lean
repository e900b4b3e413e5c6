/-
  What the list of the reference hands on. Nothing is assumed.
-/
import Derived.Test.YtmbmlcnipncgnaaGreatDoorLtAcc
import Derived.Test.YtmbmlcnipncgnaaGreatDoorLtRefI
import Derived.Test.YtmbmlcnipncgnaaGreatDoorLtItems1
namespace Go.Proofs.YtmbmlcnipncgnaaGreatDoor
open Go.RowKit

def RLsE (w w' : World) (r : PR (List V)) (e : Ending) : Prop := match r with
  | .bad i => e = .returned (.tuple #[.slice none 0 0, .int .i64 (i : Int), .bool false])
  | .ok l i => ∃ oe ce, e = .returned (.tuple #[.slice oe l.length ce, .int .i64 (i : Int), .bool true]) ∧ RepS w' (Btw w.heap.size w'.heap.size) (.slice oe l.length ce) l
/-- The number of elements of the first element; 0 if there is none. -/
def headC (acc : List V) : Nat := match acc with
  | [] => 0
  | v :: _ => v.l.length
theorem RepS.form {w : World} {S : Nat → Prop} {x : Value} {l : List V} (h : RepS w S x l) : ∃ oe ce, x = .slice oe l.length ce := by
  cases h with
  | empty oa cap => exact ⟨oa, cap, rfl⟩
  | arr b off cap => exact ⟨_, cap, rfl⟩
theorem Acc.head {w : World} {base n : Nat} {oc : Option Addr} {cc : Nat} {v : V} {r : List V} (h : Acc w base (.slice oc n cc) (v :: r)) :
    ∃ g oe ce, oc = some ⟨g, 0, none⟩ ∧ w.cell? ⟨g, 3, none⟩ = some (.slice oe v.l.length ce) := by
  obtain ⟨ps, hp, ho, hr⟩ := h
  cases ps with
  | nil => cases hp
  | cons p ps =>
    simp only [List.map_cons, List.cons.injEq] at hp
    obtain ⟨rfl, -⟩ := hp
    obtain ⟨oe, ce, he⟩ := (hr p (List.mem_cons_self ..)).form
    rcases ho.2 with ⟨_, h2⟩ | ⟨g, cap, cur, h1, hg, hh, _, _, _, htk⟩
    · simp at h2
    · cases h1
      refine ⟨g, oe, ce, rfl, ?_⟩
      have hf : (flat (p :: ps))[3]? = some p.2 := rfl
      rw [← htk, List.getElem?_take] at hf
      rw [if_pos (by simp; omega)] at hf
      unfold World.cell?
      rw [hh, ← he]
      simpa using hf
theorem size_le {w w' : World} {B : Nat} (h : Below B w w') : w.heap.size ≤ w'.heap.size := h.size

end Go.Proofs.YtmbmlcnipncgnaaGreatDoor
