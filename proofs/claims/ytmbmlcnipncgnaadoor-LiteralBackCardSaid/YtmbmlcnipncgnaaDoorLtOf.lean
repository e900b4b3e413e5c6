/-
  The constructors of values of the package. Nothing is assumed.
-/
import Derived.Test.YtmbmlcnipncgnaaDoorProg
import Derived.Test.YtmbmlcnipncgnaaDoorRep
import Derived.WalkSpells
import Derived.WalkLawsBesides
import Derived.Lib.Hide
namespace Go.Proofs.YtmbmlcnipncgnaaDoor
open Go.RowKit

set_option maxHeartbeats 400000 in
theorem ofInt_any (n : Int) (w : World) :
    Calls Tryd.prog 67 #[.int .i64 n] w fun e w' => e = .returned (.agg #[.int .i64 2, .int .i64 n, .string ⟨#[]⟩, .slice none 0 0]) ∧ Below w.heap.size w w' := by
  go_enter Tryd.func67, Tryd.ntmps67
  go_wp2_with fail
  exact bodyPost_ret (v := .agg #[.int .i64 2, .int .i64 n, .string ⟨#[]⟩, .slice none 0 0]) (by simp [results, Tryd.results67, go_sem]) rfl ⟨rfl, by first | exact below1 _ _ | exact below2 _ _ _⟩

set_option maxHeartbeats 400000 in
theorem ofBits_any (n : Int) (w : World) :
    Calls Tryd.prog 71 #[.int .i64 n] w fun e w' => e = .returned (.agg #[.int .i64 4, .int .i64 n, .string ⟨#[]⟩, .slice none 0 0]) ∧ Below w.heap.size w w' := by
  go_enter Tryd.func71, Tryd.ntmps71
  go_wp2_with fail
  exact bodyPost_ret (v := .agg #[.int .i64 4, .int .i64 n, .string ⟨#[]⟩, .slice none 0 0]) (by simp [results, Tryd.results71, go_sem]) rfl ⟨rfl, by first | exact below1 _ _ | exact below2 _ _ _⟩

set_option maxHeartbeats 400000 in
theorem ofText_any (s : ByteArray) (w : World) :
    Calls Tryd.prog 63 #[.string s] w fun e w' => e = .returned (.agg #[.int .i64 3, .int .i64 0, .string s, .slice none 0 0]) ∧ Below w.heap.size w w' := by
  go_enter Tryd.func63, Tryd.ntmps63
  go_wp2_with fail
  exact bodyPost_ret (v := .agg #[.int .i64 3, .int .i64 0, .string s, .slice none 0 0]) (by simp [results, Tryd.results63, go_sem]) rfl ⟨rfl, by first | exact below1 _ _ | exact below2 _ _ _⟩

set_option maxHeartbeats 400000 in
theorem ofPattern_any (s : ByteArray) (w : World) :
    Calls Tryd.prog 64 #[.string s] w fun e w' => e = .returned (.agg #[.int .i64 8, .int .i64 0, .string s, .slice none 0 0]) ∧ Below w.heap.size w w' := by
  go_enter Tryd.func64, Tryd.ntmps64
  go_wp2_with fail
  exact bodyPost_ret (v := .agg #[.int .i64 8, .int .i64 0, .string s, .slice none 0 0]) (by simp [results, Tryd.results64, go_sem]) rfl ⟨rfl, by first | exact below1 _ _ | exact below2 _ _ _⟩

set_option maxHeartbeats 400000 in
theorem ofBool_any (b : Bool) (w : World) :
    Calls Tryd.prog 38 #[.bool b] w fun e w' => e = .returned (.agg #[.int .i64 1, .int .i64 (if b then 1 else 0), .string ⟨#[]⟩, .slice none 0 0]) ∧ Below w.heap.size w w' := by
  cases b
  · go_enter Tryd.func38, Tryd.ntmps38
    go_wp2_with fail
    exact bodyPost_ret (v := .agg #[.int .i64 1, .int .i64 0, .string ⟨#[]⟩, .slice none 0 0]) (by simp [results, Tryd.results38, go_sem]) rfl ⟨rfl, by first | exact below1 _ _ | exact below2 _ _ _⟩
  · go_enter Tryd.func38, Tryd.ntmps38
    go_wp2_with fail
    exact bodyPost_ret (v := .agg #[.int .i64 1, .int .i64 1, .string ⟨#[]⟩, .slice none 0 0]) (by simp [results, Tryd.results38, go_sem]) rfl ⟨rfl, by first | exact below1 _ _ | exact below2 _ _ _⟩

end Go.Proofs.YtmbmlcnipncgnaaDoor
