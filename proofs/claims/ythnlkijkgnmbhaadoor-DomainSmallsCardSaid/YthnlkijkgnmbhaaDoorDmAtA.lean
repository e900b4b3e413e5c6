/-
  At of package domain, outside a fence; equality of lists. Nothing is assumed.
-/
import Derived.Test.YthnlkijkgnmbhaaDoorDmRat
import Derived.Test.YthnlkijkgnmbhaaDoorDmAlive
import Derived.Test.YthnlkijkgnmbhaaDoorOrder
namespace Go.Proofs.YthnlkijkgnmbhaaDoor
open Go.RowKit Go.Shelf

theorem V.eqs_self (l : List V) : V.eqs l l = true := by
  have h := V.antis l l (fun x _ b => V.anti x b)
  have h0 : V.cmps l l = 0 := by omega
  unfold V.eqs
  rw [h0]
  rfl
theorem at_any (l : List (List V)) (x : Value) (N : Int) (w : World) (B : Nat) (hx : LAx w B x l) (hB : B ≤ w.heap.size) (hl : l.length ≤ 1000) (hfit : ∀ a, a ∈ l → ∀ v, v ∈ a → v.fits = true) :
    Calls Tryd.prog 20 #[.agg #[x], .int .i64 N] w fun e w' => (∃ sl, e = .returned (.tuple #[sl, .int .i64 (atE l N)]) ∧ Rep w' w'.heap.size sl (atL l N)) ∧ Below w.heap.size w w' :=
  callsIn_wide.1 (at_in 10 (Nat.le_refl _) l x N w B hx hB hl hfit)

end Go.Proofs.YthnlkijkgnmbhaaDoor
