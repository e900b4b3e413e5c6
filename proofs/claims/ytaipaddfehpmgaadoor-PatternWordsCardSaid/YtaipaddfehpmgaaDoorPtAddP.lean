/-
  addPosition of the automata; where look tells what a tree holds. Nothing is assumed.
-/
import Derived.Test.YtaipaddfehpmgaaDoorPtLink
import Derived.Deep.RegionLaw
namespace Go.Proofs.YtaipaddfehpmgaaDoor
open Go.RowKit

theorem one_new' (w : World) (X : Obj) : (w.alloc X).drew.heap[w.heap.size]? = some X := by
  show (w.heap.push X)[w.heap.size]? = some X
  rw [Array.getElem?_push, if_pos rfl]
/-- The blocks that adding to a machine may write. -/
def MX (mb : Nat) (sl : Value) (k : Nat) : Prop := k = mb ∨ sl.ownBlock = some k
/-- A row of a machine that has grown from another one. -/
def From (w : World) (sl sl' : Value) : Prop := ∀ q, sl'.ownBlock = some q → sl.ownBlock = some q ∨ w.heap.size ≤ q
theorem From.refl (w : World) (sl : Value) : From w sl sl := fun _ h => .inl h
set_option maxRecDepth 100000 in
set_option maxHeartbeats 3200000 in
theorem addPosition_any (w : World) (mb base : Nat) (sl : Value) (last : Int) (ps : List Ps) (s : S4) (hM : MB w mb sl last) (hQ : OwnQ w base sl ps) (hl : ps.length ≤ 100000) (hbase : base ≤ w.heap.size) :
    Calls Tryd.prog 78 #[(.pointer (some ⟨mb, 0, none⟩)), s.val] w fun e w' => e = .returned (Pa.val ⟨false, oneS ps.length, oneS ps.length⟩) ∧ ∃ sl', MB w' mb sl' last ∧ OwnQ w' base sl' (ps ++ [⟨s, 0⟩]) ∧ From w sl sl' ∧ Kp w.heap.size (MX mb sl) w w' := by
  obtain ⟨i0, hi, hz0, hz1, hz2⟩ := info_parts infoPos
  obtain ⟨oc, cc, rfl⟩ := hQ.slice
  obtain ⟨w1, hw1⟩ : ∃ w1, w1 = (w.alloc (.cells #[.int .u64 s.a, .int .u64 s.b, .int .u64 s.c, .int .u64 s.d] 33)).alloc (.cells #[.bool false, .int .u64 0, .int .u64 0] 134) := ⟨_, rfl⟩
  have HW1 := Lib.hid hw1
  have hs1 : w1.heap.size = w.heap.size + 2 := by rw [hw1]; simp
  have hb1 : Below w.heap.size w w1 := by rw [hw1]; exact below2 _ _ _
  have cS : ∀ (o : Nat) x, (#[.int .u64 s.a, .int .u64 s.b, .int .u64 s.c, .int .u64 s.d] : Array Value)[o]? = some x → w1.cell? ⟨w.heap.size, o, none⟩ = some x := fun o x hx => by
    rw [hw1, (below1 _ _).cell (p := ⟨w.heap.size, o, none⟩) (by simp)]
    exact cell_at _ _ _ _ _ hx
  have cR : ∀ (o : Nat) x, (#[.bool false, .int .u64 0, .int .u64 0] : Array Value)[o]? = some x → w1.cell? ⟨w.heap.size + 1, o, none⟩ = some x := fun o x hx => by
    have := cell_at (w.alloc (.cells #[.int .u64 s.a, .int .u64 s.b, .int .u64 s.c, .int .u64 s.d] 33)) #[.bool false, .int .u64 0, .int .u64 0] 134 o x hx
    rw [show (w.alloc (.cells #[.int .u64 s.a, .int .u64 s.b, .int .u64 s.c, .int .u64 s.d] 33)).heap.size = w.heap.size + 1 by simp] at this
    rw [hw1]
    exact this
  have fR : ∀ o, w1.frozen? ⟨w.heap.size + 1, o, none⟩ = false := fun o => by
    rw [hw1]
    exact World.frozen?_alloc_at _ _ _ _ (by simp)
  have hM1 : MB w1 mb (.slice oc ps.length cc) last := (hb1.block mb hM.lt).trans hM
  have hQ1 : OwnQ w1 base (.slice oc ps.length cc) ps := hQ.kp (X := fun _ => False) (.of hb1 (Nat.le_refl _)) (Nat.le_refl _) (fun _ _ h => h)
  have HM1 := Lib.hid hM1
  have HQ1 := Lib.hid hQ1
  have hmlt := hM.lt
  have n0 := hM.cells.1
  have HLT := Lib.hid hQ.lt
  have m0 := hM1.cells.1
  have m0' : ∀ X, (w1.alloc X).cell? ⟨mb, 0, none⟩ = some (.slice oc ps.length cc) := fun X => ((below1 w1 X).cell (p := ⟨mb, 0, none⟩) (by show mb < _; omega)).trans m0
  have s0 := cS 0 _ rfl
  have s1 := cS 1 _ rfl
  have s2 := cS 2 _ rfl
  have s3 := cS 3 _ rfl
  have HR := Lib.hid cR
  have HFR := Lib.hid fR
  have HB1 := Lib.hid hb1
  have HNE := Lib.hid (hQ1.ne hM1)
  have hn1 : ps.length + 1 ≤ maxLen := by unfold maxLen; omega
  have hby : (ps.length + 1) * 40 ≤ 140737488355328 := by omega
  have hli : (ps.length : Int) ≤ 100000 := by omega
  have HAP : Hid (∀ (w2 : World) X, (w1.alloc X).drew.grownBy w2 (Value.slice oc ps.length cc).ownBlock → w2.cell? ⟨mb, 0, none⟩ = some (.slice oc ps.length cc) ∧ w2.frozen? ⟨mb, 0, none⟩ = false ∧ MB w2 mb (.slice oc ps.length cc) last) := Lib.hid (fun w2 X hg => by
    have hne := hQ1.ne hM1
    have hb : w2.heap[mb]? = w1.heap[mb]? := (hg.block mb (by show mb < (w1.alloc X).heap.size; simp; omega) (fun e => hne e.symm)).trans ((below1 w1 X).block mb (by omega))
    have hm : MB w2 mb (.slice oc ps.length cc) last := hb.trans hM1
    exact ⟨hm.cells.1, hm.free 0, hm⟩)
  unfold Pa.val S4.val
  clear hw1 hM hQ cS cR fR hM1 hQ1 hb1
  go_enter Tryd.func78, Tryd.ntmps78
  go_wp2_with fail
  rw [← HW1.out]
  go_region_law (
    (refine step_append_lies _ (by rfl) _ _ _ (by rfl) base 117 i0 _ 5 40 Tryd.underlying41 hi hz0 hz1 hz2 rfl (by omega) (.slice oc ps.length cc) ps.length (flatQ ps) (by rfl) (HQ1.out.alloc _).drew
        ⟨w.heap.size + 2, 0, none⟩ 1 1 [.int .u64 s.a, .int .u64 s.b, .int .u64 s.c, .int .u64 s.d, .int .u64 0] (by rfl) (by rfl) (World.news_of_block (cs := #[.int .u64 s.a, .int .u64 s.b, .int .u64 s.c, .int .u64 s.d, .int .u64 0]) (t := 117) (fr := (0, 0)) (by rw [← hs1]; exact one_new' _ _)) (by simp [Value.oneCell']) (by omega) hn1 hby (by simp; omega) (w.heap.size + 3) (by simp; omega) ?_
     intro gg cap2 w2 hown1 hgrow hat hlt1
     obtain ⟨k0, kf, km⟩ := HAP.out w2 _ hgrow))
  all_goals
    have hs2 := hgrow.size
    have hs2' : w.heap.size + 3 ≤ w2.heap.size := by simp [World.drew] at hs2; omega
    have hkeep : ∀ o, w2.cell? ⟨w.heap.size + 1, o, none⟩ = w1.cell? ⟨w.heap.size + 1, o, none⟩ ∧ w2.frozen? ⟨w.heap.size + 1, o, none⟩ = w1.frozen? ⟨w.heap.size + 1, o, none⟩ := fun o => by
      have hb : w2.heap[w.heap.size + 1]? = w1.heap[w.heap.size + 1]? := (hgrow.block _ (by show w.heap.size + 1 < (w1.alloc _).heap.size; simp; omega) (fun e => by have := (HLT.out _ e.symm).2; omega)).trans ((below1 w1 _).block _ (by omega))
      exact ⟨World.cell?_of_block (w := w1) (a := ⟨w.heap.size + 1, o, none⟩) hb, World.frozen?_of_block (w := w1) (a := ⟨w.heap.size + 1, o, none⟩) hb⟩
    have r0 := (hkeep 0).1.trans (HR.out 0 _ rfl)
    have r1 := (hkeep 1).1.trans (HR.out 1 _ rfl)
    have r2 := (hkeep 2).1.trans (HR.out 2 _ rfl)
    have f0 := (hkeep 0).2.trans (HFR.out 0)
    have f1 := (hkeep 1).2.trans (HFR.out 1)
    have f2 := (hkeep 2).2.trans (HFR.out 2)
    have HG := Lib.hid hgrow
    have HO := Lib.hid hown1
    have HAT := Lib.hid hat
    have KM := Lib.hid km
    clear hgrow hown1 hat hlt1 km hkeep hs2 s0 s1 s2 s3 m0 m0' n0
    go_wp2_with fail
    have hgn : gg ≠ mb ∧ gg ≠ w.heap.size + 1 ∧ ((Value.slice oc ps.length cc).ownBlock = some gg ∨ w.heap.size ≤ gg) := by
      rcases HAT.out with h | h
      · have := (HLT.out gg h).2
        exact ⟨fun e => HNE.out (by rw [← e]; exact h), by omega, .inl h⟩
      · exact ⟨by omega, by omega, .inr (by omega)⟩
    have hk2 : Kp w.heap.size (MX mb (.slice oc ps.length cc)) w w2 := (Kp.of HB1.out (Nat.le_refl _)).trans ⟨HG.out.os, HG.out.tape, HG.out.output, by omega, fun k hk hx => (HG.out.block k (by show k < (w1.alloc _).heap.size; simp; omega) (fun e => hx (.inr e.symm))).trans ((below1 w1 _).block k (by omega))⟩
    have hq2 : OwnQ w2 base (.slice (some ⟨gg, 0, none⟩) (ps.length + 1) cap2) (ps ++ [⟨s, 0⟩]) := by
      unfold OwnQ
      rw [List.length_append, flatQ_snoc]
      exact HO.out
    refine bodyPost_ret (v := .agg #[.bool false, .int .u64 (IntKind.u64.wrap (2 ^ min ps.length 64)), .int .u64 (IntKind.u64.wrap (2 ^ min ps.length 64))]) (by simp [results, Tryd.results78, go_sem, *]) rfl ⟨rfl, .slice (some ⟨gg, 0, none⟩) (ps.length + 1) cap2, ?_, ?_, ?_, ?_⟩
    · exact (at3 (by omega) _ _ _).trans (KM.out.set0 _)
    · refine hq2.kp (X := fun k => k = mb ∨ k = w.heap.size + 1) (N := w2.heap.size) ?_ (Nat.le_refl _) (fun k hk e => by cases hk; rcases e with e | e; exact hgn.1 e; exact hgn.2.1 e)
      exact ((((Kp.refl _ _ w2).set ⟨mb, 0, none⟩ (.inl rfl) _).set ⟨w.heap.size + 1, 0, none⟩ (.inr rfl) _).set ⟨w.heap.size + 1, 1, none⟩ (.inr rfl) _).set ⟨w.heap.size + 1, 2, none⟩ (.inr rfl) _
    · intro q hq
      cases hq
      exact hgn.2.2
    · exact kp3 (hk2.set ⟨mb, 0, none⟩ (.inl rfl) _) (by omega) _ _ _
end Go.Proofs.YtaipaddfehpmgaaDoor
