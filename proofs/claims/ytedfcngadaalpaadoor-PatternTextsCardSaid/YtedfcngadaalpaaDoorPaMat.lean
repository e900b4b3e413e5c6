/-
  Match of package pattern for any pattern and text. Nothing is assumed.
-/
import Derived.Test.YtedfcngadaalpaaDoorPaAwake
namespace Go.Proofs.YtedfcngadaalpaaDoor
open Go.RowKit

/-- Whether a pattern matches a text; false where it is none. -/
def accZ (p s : ByteArray) : Bool := if errP p = 0 then accS p s else false

set_option maxRecDepth 100000 in
theorem match_bad (p s : ByteArray) (w : World) (hA : AL w) (h0 : errP p ≠ 0) :
    Calls Tryd.prog 14 #[.string p, .string s] w fun e w' => e = .returned (.tuple #[.bool false, .int .i64 (errP p)]) ∧ Below w.heap.size w w' := by
  have HC := Lib.hid (compile_any p w hA)
  have H0 := Lib.hid h0
  have hne : ((errP p != 0) : Bool) = true := by rw [bne_iff_ne]; exact h0
  clear hA h0
  go_enter Tryd.func14, Tryd.ntmps14
  go_wp2_with fail
  refine HC.out.mono ?_
  rintro e w1 ⟨⟨_, rfl⟩ | ⟨t, m, g, cap, h, _⟩, hb1⟩
  · have hb2 := hb1.trans ((below1 w1 (.cells #[.slice none 0 0, .int .u64 0] 46)).mono hb1.size)
    clear hb1
    go_wp2_with fail
    go_ret2
    exact ⟨rfl, hb2⟩
  · exact absurd h H0.out
theorem match_all (p s : ByteArray) (w : World) (hA : AL w) (hs : s.size ≤ 1000) :
    Calls Tryd.prog 14 #[.string p, .string s] w fun e w' => e = .returned (.tuple #[.bool (accZ p s), .int .i64 (errP p)]) ∧ Below w.heap.size w w' := by
  unfold accZ
  by_cases h0 : errP p = 0
  · rw [if_pos h0, h0]
    exact match_any p s w hA h0 hs
  · rw [if_neg h0]
    exact match_bad p s w hA h0
end Go.Proofs.YtedfcngadaalpaaDoor
