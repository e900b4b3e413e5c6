/-
  The frame of the rows of layer 2: what the list of the variables gives; a world for the witness. Nothing is assumed but what each row says.
-/
import Derived.Test.YtmbmlcnipncgnaaGreatDoorLtWrite
import Derived.Test.YtmbmlcnipncgnaaGreatDoorEnd
import Derived.Test.YtmbmlcnipncgnaaGreatDoorCards
import Derived.Test.YtmbmlcnipncgnaaGreatDoorTie
import Derived.Lib.LaidU8
import Derived.Stop.LaidErr
namespace Go.Proofs.YtmbmlcnipncgnaaGreatDoor
open Go.ChangeShapes Go.WideShapes Go.ChangeAt Go.RowKit

theorem gPow : Tryz.prog.globalNamed "internal/strconv.uint64pow10" = some 2 := by kernel_rfl
theorem tPow : (Tryz.prog.globals[2]?).map (·.type) = some 128 := by kernel_rfl
theorem cPow : Tryz.prog.cellsOf 128 = 20 := by kernel_rfl
theorem cU64 : Tryz.prog.cellsOf 122 = 1 := by kernel_rfl
theorem dPow : (Rows.laid_internal_strconv_uint64pow10 : DataW Unit) = Lib.tabData .u64 Lib.pow10Tab := by kernel_rfl
theorem dFirst : (Rows.laid_unicode_utf8_first : DataW Unit) = Lib.firstData := by kernel_rfl
theorem dAccept : (Rows.laid_unicode_utf8_acceptRanges : DataW Unit) = Lib.acceptData := by kernel_rfl
theorem u8x : Go.Proofs.U8Extra Tryz.prog Tryz.lays260_ren := {
  n3 := by kernel_rfl
  n4 := by kernel_rfl
  y3 := by kernel_rfl
  y4 := by kernel_rfl
  c5 := by kernel_rfl
  c119 := by kernel_rfl
  c138 := by kernel_rfl }

theorem pow_later {w w' : World} (ht : Lib.TabIs Tryz.prog w "internal/strconv.uint64pow10" .u64 Lib.pow10Tab) (hb : Below w.heap.size w w') : Lib.TabIs Tryz.prog w' "internal/strconv.uint64pow10" .u64 Lib.pow10Tab := by
  unfold Lib.TabIs World.var? at *
  rw [gPow] at *
  simp only [Option.bind_some] at *
  rw [hb.block]
  · exact ht
  · rcases Nat.lt_or_ge 2 w.heap.size with h | h
    · exact h
    · rw [Array.getElem?_eq_none h] at ht; cases ht
theorem utf_later {a b : Nat} {w w' : World} (h : Lib.Utf8Tabs a b w) (hb : Below w.heap.size w w') : Lib.Utf8Tabs a b w' := by
  obtain ⟨h1, h2⟩ := h
  have go : ∀ (g o : Nat) v, w.cell? ⟨g, o, none⟩ = some v → w'.cell? ⟨g, o, none⟩ = some v := fun g o v hc => (hb.cell (p := ⟨g, o, none⟩) (World.block_lt_of_cell? _ _ hc)).trans hc
  exact ⟨fun c hc => go _ _ _ (h1 c hc), fun i hi => ⟨go _ _ _ (h2 i hi).1, go _ _ _ (h2 i hi).2⟩⟩

theorem tabs_of {W : World} {x y : String × DataW Unit} {rest : List (String × DataW Unit)} (h : laidMet Tryz.prog (x :: y :: ("internal/strconv.uint64pow10", Rows.laid_internal_strconv_uint64pow10) :: ("unicode/utf8.acceptRanges", Rows.laid_unicode_utf8_acceptRanges) :: ("unicode/utf8.first", Rows.laid_unicode_utf8_first) :: rest) W) : TabsB W.heap.size W := by
  have h1 := Lib.laidMet.reads h (n := "unicode/utf8.first") (d := Rows.laid_unicode_utf8_first) (by simp)
  have h3 := Lib.laidMet.reads h (n := "unicode/utf8.acceptRanges") (d := Rows.laid_unicode_utf8_acceptRanges) (by simp)
  rw [dFirst] at h1
  rw [dAccept] at h3
  have hU : Lib.Utf8Tabs 0 1 W := Go.Proofs.utf8Tabs_of_reads Tryz.lays260 u8x h1 h3
  have h2 := laidMet.tail (laidMet.tail h)
  rw [dPow] at h2
  have hP := Lib.tabIs_of_head gPow tPow Tryz.underlying128 Tryz.underlying122 cU64 cPow h2
  exact fun wr hb => ⟨utf_later hU hb, pow_later hP hb⟩

/-- The cells that a datum of numbers, of lists of numbers or of lists of those lays. -/
def dcells0 : DataW Unit → List Value
  | .lit (.int k z) => [.int k z]
  | _ => []
def dcells1 : DataW Unit → List Value
  | .lit (.int k z) => [.int k z]
  | .agg l => l.flatMap dcells0
  | _ => []
def dcells2 : DataW Unit → List Value
  | .lit (.int k z) => [.int k z]
  | .agg l => l.flatMap dcells1
  | _ => []
noncomputable def laid1 (g : Nat) (d : DataW Unit) (w : World) : World :=
  { w with heap := w.heap.modify g fun
      | .cells _ t frozen => .cells (dcells2 d).toArray t frozen
      | o => o }
/-- A world for the witness: the settled one, the tables holding what their initialisers lay. -/
noncomputable def laidWorld (os : Os) : World :=
  laid1 3 Rows.laid_math_bits_deBruijn32tab (laid1 4 Rows.laid_math_bits_deBruijn64tab (laid1 2 Rows.laid_internal_strconv_uint64pow10
    (laid1 1 Rows.laid_unicode_utf8_acceptRanges (laid1 0 Rows.laid_unicode_utf8_first (World.holding Tryz.prog os ⟨#[], #[], []⟩)))))

end Go.Proofs.YtmbmlcnipncgnaaGreatDoor
