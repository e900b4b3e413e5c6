/-
  slices.Backward at lists of axes: the iterator's contract at every loop body. Nothing is assumed.
-/
import Derived.Test.YthnlkijkgnmbhaaDoorDmCopy
import Derived.Test.YthnlkijkgnmbhaaDoorScopeIn
import Derived.RangeFuncBox
import Derived.RangeFuncBound
import Derived.RangeFuncNested
import Derived.RangeFuncLeaves
import Derived.Shelf.Abstract
import Derived.Shelf.RegionOpen
import Derived.WalkKit
import Derived.OwnWalkIn
import Derived.TacticsInMore
import Derived.LoopNIn
import Derived.LoopIn
import Derived.Sort.QuietTacIn
import Derived.Lib.QuietBelow
namespace Go.Proofs.YthnlkijkgnmbhaaDoor
open Go.RowKit Go.Shelf

attribute [local go_sem] Oper.semAt_some

/-- What a round over the axes keeps: the blocks below B, and one block beside. -/
def Kb (B bx : Nat) (A C : World) : Prop := Below B A C ∧ C.heap[bx]? = A.heap[bx]?
theorem Kb.refl (B bx : Nat) (A : World) : Kb B bx A A := ⟨Below.refl _ _, rfl⟩
theorem Kb.trans {B bx : Nat} {A C D : World} (h : Kb B bx A C) (k : Kb B bx C D) : Kb B bx A D := ⟨h.1.trans k.1, k.2.trans h.2⟩
theorem Kb.cell {B bx : Nat} {A C : World} (h : Kb B bx A C) (o : Nat) : C.cell? ⟨bx, o, none⟩ = A.cell? ⟨bx, o, none⟩ := World.cell?_of_block h.2
theorem Kb.put {B bx : Nat} {w : World} (hB : B ≤ w.heap.size) (hx : bx < w.heap.size) (W : World) (l : Nat) (o o' : Obj) (hl : w.heap.size ≤ l) (h : W.heap[l]? = some o) (_ : o.isCells = false) : Kb B bx W (W.putObj l o') :=
  ⟨(Below.refl B W).grown (grownBy_putObj' W l o') (by have := (Array.getElem?_eq_some_iff.1 h).1; omega) (fun k e => by cases e; omega), World.putObj_heap_other (by omega)⟩

/-- What lies at a place of a slice whose elements take one cell. -/
def elA (w : World) (x : Value) (i : Nat) : Value :=
  match x with
  | .slice (some ad) _ _ => (w.cell? ⟨ad.block, ad.off + i, none⟩).getD .nilIface
  | _ => .nilIface
theorem LAx.el {w : World} {B n c : Nat} {oa : Option Addr} {l : List (List V)} (h : LAx w B (.slice oa n c) l) {i : Nat} {a : List V} (ha : l[i]? = some a) :
    ∃ (b off : Nat) (oe : Option Addr) (ce : Nat), oa = some ⟨b, off, none⟩ ∧ b < B ∧ elA w (.slice oa n c) i = .slice oe a.length ce ∧ w.cell? ⟨b, off + i, none⟩ = some (.slice oe a.length ce) ∧ Rep w B (.slice oe a.length ce) a := by
  obtain ⟨b, off, oe, ce, rfl, hb, hc, hr⟩ := h.at_ ha
  exact ⟨b, off, oe, ce, rfl, hb, by simp [elA, hc], hc, hr⟩
theorem range_last (i : Nat) : (List.range (i + 1)).reverse = i :: (List.range i).reverse := by rw [List.range_succ, List.reverse_append]; rfl

set_option maxRecDepth 100000 in
set_option maxHeartbeats 2000000 in
theorem back_in (n l bx B : Nat) (L : List (List V)) (x : Value) (W0 : World) (hL : LAx W0 B x L) (J Jx : List Nat → World → Prop)
    (hY : ∀ pre i W, J pre W → pre ++ i :: (List.range i).reverse = (List.range L.length).reverse → YieldAt Fence.wide (n - 1) Tryd.prog l #[.int .i64 (i : Int), elA W0 x i] W fun e W' =>
      (e = .returned (.bool true) ∧ J (pre ++ [i]) W' ∧ Kb B bx W W') ∨ (e = .returned (.bool false) ∧ Jx (pre ++ [i]) W'))
    (W : World) (hbx : W.cell? ⟨bx, 0, none⟩ = some x) (hW : Below B W0 W) (h0 : J [] W) :
    CallsIn Fence.wide n Tryd.prog 58 #[.func (.yield l) #[] #[], .pointer (some ⟨bx, 0, none⟩)] W fun e W' => (∃ v, e = .returned v) ∧
      (J (List.range L.length).reverse W' ∨ ∃ pre, Jx pre W') := by
  have noD : ∀ k : Nat, (Fence.wide.depth.isSome = true → 1 ≤ k) := fun k h => by cases h
  have HL := Lib.hid hL
  obtain ⟨oa, ca, rfl, _, hlm⟩ := hL.form
  obtain ⟨MS, hMS⟩ : ∃ MS, (List.range L.length).reverse = MS := ⟨_, rfl⟩
  rw [hMS] at hY ⊢
  have HMS := Lib.hid hMS
  have HYY := Lib.hid hY
  have HW := Lib.hid hW
  clear hL hMS hY hW
  have hln : ((L.length : Int) - 1) = (L.length : Int) - 1 := rfl
  refine callsIn_of_wp Tryd.func58 rfl trivial ?_ rfl
  simp only [Tryd.ntmps58, List.size_toArray, List.length_cons, List.length_nil, Nat.reduceAdd, Nat.reduceSub, Array.replicate_succ, Array.replicate_zero, List.push_toArray, List.append_toArray, List.nil_append, List.cons_append]
  have hwr : wrap64 ((L.length : Int) - 1) = (L.length : Int) - 1 := IntWalk.wrap64_in _ (by omega)
  gi_wp2
  gi_loopw [3] (fun v wr => ∃ (i : Nat) (pre : List Nat), v = .int .i64 ((i : Int) - 1) ∧ i ≤ L.length ∧ Hid (pre ++ (List.range i).reverse = MS) ∧ J pre wr ∧ Kb B bx W wr) (fun v _ => (intOf v + 1).toNat)
  case atStart => exact ⟨L.length, [], by first | rfl | rw [hwr], Nat.le_refl _, Lib.hid (by rw [List.nil_append]; exact HMS.out), h0, Kb.refl _ _ _⟩
  case round =>
    obtain ⟨i, pre, rfl, hi, HE, hJr, hbr⟩ := hrel
    have cx := (hbr.cell 0).trans hbx
    cases i with
    | zero =>
      gi_wp2
      go_end0
      refine ⟨⟨_, rfl⟩, Or.inl ?_⟩
      have h := HE.out
      simp at h
      rw [← h]
      exact hJr
    | succ j =>
      have HE2 := Lib.hid (show pre ++ j :: (List.range j).reverse = MS by rw [← HE.out, range_last])
      have hjL : j < L.length := by omega
      obtain ⟨b, off, oe, ce, rfl, hb, hel, hc, hr⟩ := HL.out.el (List.getElem?_eq_getElem hjL)
      have hc2 := ((HW.out.trans hbr.1).cell (p := ⟨b, off + j, none⟩) hb).trans hc
      have hj0 : (0 : Int) ≤ (j : Int) := by omega
      have hj1 : (j : Int) < (L.length : Int) := by omega
      have hsub : (((j + 1 : Nat) : Int) - 1) = (j : Int) := by omega
      obtain ⟨fn, tmps, assign, body, hy, hR⟩ := HYY.out pre j wr hJr HE2.out
      rw [hel] at hy
      rw [hsub]
      clear hr hc hel hsub hwr
      gi_wp2
      refine ⟨noD _, ?_⟩
      refine hR.mono ?_
      clear hR hy
      rintro e W6 (⟨rfl, hJ6, hk6⟩ | ⟨rfl, hx6⟩)
      case inr =>
        gi_wp2
        exact bodyPost_ret (v := .tuple #[]) (by simp [results, Tryd.results58, go_sem]) rfl ⟨⟨_, rfl⟩, Or.inr ⟨_, hx6⟩⟩
      gi_wp2
      go_roundw
      case rel => exact ⟨j, pre ++ [j], rfl, by omega, Lib.hid (by rw [← HE2.out]; simp), hJ6, hbr.trans hk6⟩
      case measure => simp [intOf]

/-- The iterator, to a consumer that never stops. -/
theorem back_goes (n l bx B : Nat) (L : List (List V)) (x : Value) (W0 : World) (hL : LAx W0 B x L) (J : List Nat → World → Prop)
    (hY : ∀ pre i W, J pre W → pre ++ i :: (List.range i).reverse = (List.range L.length).reverse → YieldAt Fence.wide (n - 1) Tryd.prog l #[.int .i64 (i : Int), elA W0 x i] W fun e W' => e = .returned (.bool true) ∧ J (pre ++ [i]) W' ∧ Kb B bx W W')
    (W : World) (hbx : W.cell? ⟨bx, 0, none⟩ = some x) (hW : Below B W0 W) (h0 : J [] W) :
    CallsIn Fence.wide n Tryd.prog 58 (#[.func (.yield l) #[] #[]] ++ #[.pointer (some ⟨bx, 0, none⟩)]) W fun e W' => (∃ v, e = .returned v) ∧ J (List.range L.length).reverse W' :=
  (back_in n l bx B L x W0 hL J (fun _ _ => False) (fun pre i A h1 h2 => by
    obtain ⟨fn, tmps, assign, body, hy, hR⟩ := hY pre i A h1 h2
    exact ⟨fn, tmps, assign, body, hy, hR.mono fun e B h => Or.inl h⟩) W hbx hW h0).mono fun e B ⟨h1, h2⟩ => ⟨h1, h2.elim id fun ⟨_, h⟩ => h.elim⟩

set_option maxHeartbeats 400000 in
theorem backward_any (oa : Option Addr) (m c : Nat) (w : World) :
    Calls Tryd.prog 34 #[.slice oa m c] w fun e w' => e = .returned (.func (.func 58) #[] #[.pointer (some ⟨w.heap.size, 0, none⟩)]) ∧ w' = w.alloc (.cells #[.slice oa m c] 22) := by
  go_enter Tryd.func34, Tryd.ntmps34
  go_wp2_with fail
  go_ret
  exact ⟨rfl, rfl⟩

end Go.Proofs.YthnlkijkgnmbhaaDoor
