/-
  Sort of the package. Nothing is assumed.
-/
import Derived.Test.YtampofpllijfhaaTbSwap
import Derived.Test.YtampofpllijfhaaTbSplit
namespace Go.Proofs.Ytampofpllijfhaa
open Go.RowKit

def keyS (k : Nat) (r : Row) : List UInt8 := ((r[k]?).getD ⟨#[]⟩).data.toList
def srtV (t : Tab) (i : Int) : Tab := if locE (chkT t) i (colsT t) = 0 then passes (keyS ((idxO i (colsT t)).getD 0)) t.length t else []
theorem keyS_at {k : Nat} {r : Row} (h : k < r.length) : keyS k r = r[k].data.toList := by unfold keyS; rw [List.getElem?_eq_getElem h]; rfl

set_option maxHeartbeats 800000 in
theorem cmpOne_any (x y : Value) (r q : Row) (k bx : Nat) (w : World) (P : Nat → Prop) (hx : HoldsS w P x r) (hy : HoldsS w P y q) (hr : k < r.length) (hq : k < q.length) (h0 : w.cell? ⟨bx, 0, none⟩ = some (.int .i64 (k : Int))) :
    Calls Try.prog 62 #[x, y, .pointer (some ⟨bx, 0, none⟩)] w fun e w' => e = .returned (.int .i64 (Lib.compareBytes (keyS k r) (keyS k q))) ∧ ∃ n, w' = w.drewN n := by
  obtain ⟨oa, ca, rfl, _, _⟩ := hx.form
  obtain ⟨ob, cb, rfl, _, _⟩ := hy.form
  obtain ⟨b1, f1, rfl, _, c1⟩ := hx.at_ (List.getElem?_eq_getElem hr)
  obtain ⟨b2, f2, rfl, _, c2⟩ := hy.at_ (List.getElem?_eq_getElem hq)
  have HK1 := Lib.hid (keyS_at hr)
  have HK2 := Lib.hid (keyS_at hq)
  have hri : (k : Int) < (r.length : Int) := by omega
  have hqi : (k : Int) < (q.length : Int) := by omega
  have hk0 : (0 : Int) ≤ (k : Int) := by omega
  clear hx hy
  go_enter Try.func62, Try.ntmps62
  go_wp2_with fail
  go_quiet ((go_at_call 63; exact Calls.quiet_of_same (Try.strings_Compare _ _ _)))
  go_wp2_with fail
  go_ret
  exact ⟨ret_int (by rw [HK1.out, HK2.out]), _, rfl⟩

end Go.Proofs.Ytampofpllijfhaa
