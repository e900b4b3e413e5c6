/-
  A row of terms that is rewritten in place; isSame. Nothing is assumed.
-/
import Derived.Test.YtdfhfljmcakilaaTmAcc
import Derived.Test.YtdfhfljmcakilaaTmSubP
import Derived.Test.YtdfhfljmcakilaaTmCmp
namespace Go.Proofs.Ytdfhfljmcakilaa
open Go.RowKit

/-- The slice value holds the list of terms in the world, all of it in blocks of P. -/
inductive RepP (w : World) (P : Nat → Prop) : Value → List T → Prop
  | empty (oa : Option Addr) (cap : Nat) : RepP w P (.slice oa 0 cap) []
  | arr (b off cap : Nat) (l : List T) (sl : Nat → Value) (hb : P b) (hl : l.length ≤ cap) (hm : l.length ≤ 9223372036854775807)
      (hc : ∀ i v, l[i]? = some v → w.cell? ⟨b, off + i * 2, none⟩ = some (.int .i64 v.r) ∧ w.cell? ⟨b, off + i * 2 + 1, none⟩ = some (sl i))
      (hr : ∀ i v, l[i]? = some v → RepP w P (sl i) v.l) : RepP w P (.slice (some ⟨b, off, none⟩) l.length cap) l
theorem RepP.keep {w w' : World} {P P' : Nat → Prop} {x : Value} {l : List T} (h : RepP w P x l) (hw : ∀ k, P k → P' k ∧ w'.heap[k]? = w.heap[k]?) : RepP w' P' x l := by
  induction h with
  | empty oa cap => exact .empty oa cap
  | arr b off cap l sl hb hl hm hc hr ih =>
    refine .arr b off cap l sl (hw b hb).1 hl hm (fun i v hv => ?_) ih
    obtain ⟨c0, c1⟩ := hc i v hv
    exact ⟨(World.cell?_of_block (w := w) (hw b hb).2).trans c0, (World.cell?_of_block (w := w) (hw b hb).2).trans c1⟩
theorem RepP.of_rep {w : World} {B : Nat} {P : Nat → Prop} {x : Value} {l : List T} (h : Rep w B x l) (hP : ∀ k, k < B → P k) : RepP w P x l := by
  induction h with
  | empty oa cap => exact .empty oa cap
  | arr b off cap l sl hb hl hm hc hr ih => exact .arr b off cap l sl (hP b hb) hl hm hc ih
theorem RepP.rep {w : World} {B : Nat} {P : Nat → Prop} {x : Value} {l : List T} (h : RepP w P x l) (hP : ∀ k, P k → k < B) : Rep w B x l := by
  induction h with
  | empty oa cap => exact .empty oa cap
  | arr b off cap l sl hb hl hm hc hr ih => exact .arr b off cap l sl (hP b hb) hl hm hc ih
theorem RepP.of_fr {w : World} {P P' : Nat → Prop} {x : Value} {l : List T} (h : FR w P x l) (hP : ∀ k, P k → P' k) : RepP w P' x l := by
  induction h with
  | empty P oa cap => exact .empty oa cap
  | arr P b off cap l sl Q h1 h2 h3 h4 h5 h6 h7 h8 ih => exact .arr b off cap l sl (hP b h1) h2 h3 h4 (fun i v hv => ih i v hv fun k hk => hP k (h7 i (List.getElem?_eq_some_iff.1 hv).1 k hk).1)
theorem RepP.form {w : World} {P : Nat → Prop} {x : Value} {l : List T} (h : RepP w P x l) : ∃ (oa : Option Addr) (cap : Nat), x = .slice oa l.length cap ∧ l.length ≤ cap ∧ l.length ≤ 9223372036854775807 := by
  cases h with
  | empty oa cap => exact ⟨oa, cap, rfl, Nat.zero_le _, by simp⟩
  | arr b off cap l sl hb hl hm hc hr => exact ⟨_, cap, rfl, hl, hm⟩

/-- Place i of the row in block g holds the term, whose arguments lie in P. -/
def RowT (w : World) (P : Nat → Prop) (g i : Nat) (u : T) : Prop := ∃ (o : Option Addr) (c : Nat), w.cell? ⟨g, i * 2, none⟩ = some (.int .i64 u.r) ∧ w.cell? ⟨g, i * 2 + 1, none⟩ = some (.slice o u.l.length c) ∧ RepP w P (.slice o u.l.length c) u.l
theorem RowT.keep {w w' : World} {P P' : Nat → Prop} {g i : Nat} {u : T} (h : RowT w P g i u) (hg : w'.heap[g]? = w.heap[g]?) (hw : ∀ k, P k → P' k ∧ w'.heap[k]? = w.heap[k]?) : RowT w' P' g i u := by
  obtain ⟨o, c, h1, h2, h3⟩ := h
  exact ⟨o, c, (World.cell?_of_block (w := w) hg).trans h1, (World.cell?_of_block (w := w) hg).trans h2, h3.keep hw⟩
theorem RowT.store {w : World} {P : Nat → Prop} {g i : Nat} {u u0 : T} {o : Option Addr} {c : Nat} (h0 : RowT w P g i u0) (hP : ∀ k, P k → k ≠ g) (hr : RepP w P (.slice o u.l.length c) u.l) :
    RowT ((w.setCell ⟨g, i * 2, none⟩ (.int .i64 u.r)).setCell ⟨g, i * 2 + 1, none⟩ (.slice o u.l.length c)) P g i u := by
  obtain ⟨o0, c0, h1, h2, _⟩ := h0
  refine ⟨o, c, ?_, ?_, hr.keep fun k hk => ⟨hk, ?_⟩⟩
  · rw [World.cell?_setCell_other _ _ _ _ (by simp)]
    exact World.cell?_setCell_same' _ _ _ (by rw [h1]; rfl)
  · refine World.cell?_setCell_same' _ _ _ ?_
    rw [World.cell?_setCell_other _ _ _ _ (by simp), h2]
    rfl
  · rw [heap_setCell_other _ _ _ _ (hP k hk), heap_setCell_other _ _ _ _ (hP k hk)]
theorem RowT.other {w : World} {P : Nat → Prop} {g i j : Nat} {u : T} {x y : Value} (h : RowT w P g j u) (hij : j ≠ i) (hP : ∀ k, P k → k ≠ g) :
    RowT ((w.setCell ⟨g, i * 2, none⟩ x).setCell ⟨g, i * 2 + 1, none⟩ y) P g j u := by
  obtain ⟨o, c, h1, h2, h3⟩ := h
  refine ⟨o, c, ?_, ?_, h3.keep fun k hk => ⟨hk, ?_⟩⟩
  · rw [World.cell?_setCell_other _ _ _ _ (by simp <;> omega), World.cell?_setCell_other _ _ _ _ (by simp <;> omega)]
    exact h1
  · rw [World.cell?_setCell_other _ _ _ _ (by simp <;> omega), World.cell?_setCell_other _ _ _ _ (by simp <;> omega)]
    exact h2
  · rw [heap_setCell_other _ _ _ _ (hP k hk), heap_setCell_other _ _ _ _ (hP k hk)]

/-- All blocks of w but g stand. -/
def But (g : Nat) (w w' : World) : Prop := w.heap.size ≤ w'.heap.size ∧ ∀ k, k < w.heap.size → k ≠ g → w'.heap[k]? = w.heap[k]?
theorem But.refl (g : Nat) (w : World) : But g w w := ⟨Nat.le_refl _, fun _ _ _ => rfl⟩
theorem But.trans {g : Nat} {w w' w'' : World} (h : But g w w') (h' : But g w' w'') : But g w w'' := ⟨Nat.le_trans h.1 h'.1, fun k hk hg => (h'.2 k (Nat.lt_of_lt_of_le hk h.1) hg).trans (h.2 k hk hg)⟩
theorem But.below {g : Nat} {w w' : World} (h : Below w.heap.size w w') : But g w w' := ⟨h.size, fun k hk _ => h.block k hk⟩
theorem But.set {g o : Nat} (w : World) (x : Value) : But g w (w.setCell ⟨g, o, none⟩ x) := ⟨by rw [World.size_setCell]; exact Nat.le_refl _, fun k _ hg => heap_setCell_other _ _ _ _ hg⟩

set_option maxRecDepth 100000 in
set_option maxHeartbeats 3200000 in
theorem isSame_any (a b : T) (sa sb : Value) (w : World) (B : Nat) (hra : Rep w B sa a.l) (hrb : Rep w B sb b.l) (hB : B ≤ w.heap.size) (hsa : a.size ≤ 1000) (hsb : b.size ≤ 1000) :
    Calls Try.prog 44 #[.agg #[.int .i64 a.r, sa], .agg #[.int .i64 b.r, sb]] w fun e w' => e = .returned (.bool (a.cmp b == 0)) ∧ Below w.heap.size w w' := by
  obtain ⟨oa, ca, rfl, _, _⟩ := hra.form
  obtain ⟨ob, cb, rfl, _, _⟩ := hrb.form
  have HBB : Below w.heap.size w ((w.alloc (.cells #[.int .i64 a.r, .slice oa a.l.length ca] 24)).alloc (.cells #[.int .i64 b.r, .slice ob b.l.length cb] 24)) := below2 _ _ _
  have HC := Lib.hid (compare_any a b _ _ _ B (hra.later (HBB.mono hB)) (hrb.later (HBB.mono hB)) (Nat.le_trans hB HBB.size) hsa hsb)
  go_enter Try.func44, Try.ntmps44
  go_wp2_with fail
  refine HC.out.mono ?_
  rintro e w3 ⟨rfl, hb3⟩
  have HB3 := Lib.hid hb3
  clear hb3
  go_wp2_with fail
  go_ret
  exact ⟨rfl, HBB.trans (HB3.out.mono HBB.size)⟩

end Go.Proofs.Ytdfhfljmcakilaa
