/-
  A region's lexical walk, boxed: so that Lean does not reckon through the operations that are passed over. Nothing is assumed.
-/
import Derived.Lib.QuietBelow
import Derived.Deep.QuietTactic
import Derived.Test.YthnlkijkgnmbhaaDoorProg
namespace Go.Proofs.YthnlkijkgnmbhaaDoor
open Go.RowKit

structure WQ (P : Program) (ops : Array Oper) (C : World → Prop) (Q : Act → Prop) (l : List Oper) (a : Act) : Prop where
  out : wpQuiet P ops C Q l a
theorem WQ.step {P : Program} {ops : Array Oper} {C : World → Prop} {Q : Act → Prop} {a : Act} {o : Oper} {rest : List Oper}
    (h : ∀ K : Act → Prop, (∀ a, WQ P ops C Q rest a → K a) → if Region.wanted o (yielded ops a.tmps) then o.quiet P a C K else K (a.put o.dst undef)) : WQ P ops C Q (o :: rest) a :=
  ⟨wpQuiet_step fun K hK => h K fun a h => hK a h.out⟩
theorem WQ.nil {P : Program} {ops : Array Oper} {C : World → Prop} {Q : Act → Prop} {a : Act} (h : Q a) : WQ P ops C Q [] a := ⟨h⟩

end Go.Proofs.YthnlkijkgnmbhaaDoor
