/-
  The functions of the cache's list: newList, putFirst, last, remove. Nothing is assumed.
-/
import Derived.Test.YtbimpfciadbnjaaCaMap
import Derived.BigRegion
import Derived.BigQuiet
import Derived.Deep.QuietTactic
import Derived.Lib.Hide
import Derived.LaidEqlPtr
namespace Go.Proofs.Ytbimpfciadbnjaa
open Go.RowKit

theorem Ring.elAt {w : World} {e0 : Nat} {bs : List Nat} (h : Ring w e0 bs) {b : Nat} (hb : b ∈ e0 :: bs) : (∃ p, w.cell? ⟨b, 3, none⟩ = some p) ∧ (∃ q, w.cell? ⟨b, 4, none⟩ = some q) ∧ ∀ o : Nat, w.frozen? ⟨b, o, none⟩ = false := by
  obtain ⟨_, _, _, he⟩ := h.el b hb
  obtain ⟨_, _, _, h3, h4, h5⟩ := he.cells
  exact ⟨h3, h4, h5⟩

theorem frozen_newC (w : World) (xs : Array Value) (t : Nat) (o : Nat) : (w.alloc (.cells xs t)).frozen? ⟨w.heap.size, o, none⟩ = false := by
  unfold World.frozen?
  rw [heap_alloc_new]
  simp

set_option maxRecDepth 100000 in
set_option maxHeartbeats 1600000 in
theorem remove_any {w : World} {e0 x : Nat} {A C : List Nat} (h : Ring w e0 (A ++ x :: C)) :
    Calls Try.prog 27 #[ptr x] w fun e w' => e = .returned (.tuple #[]) ∧ Ring w' e0 (A ++ C) ∧ Lk (fun k => k ∈ e0 :: (A ++ x :: C)) w w' ∧ w'.heap.size = w.heap.size := by
  have HW := Lib.hid h.without
  have hnx : x ∉ e0 :: (A ++ C) := by
    have h1 := h.nd
    rw [← List.cons_append] at h1 ⊢
    exact not_mid h1
  have hp := lstB_mem e0 A
  have hf := fstB_mem C e0
  have hpm : lstB e0 A ∈ e0 :: (A ++ C) := by
    rcases List.mem_cons.1 hp with h | h
    · rw [h]; exact List.mem_cons_self ..
    · exact List.mem_cons_of_mem _ (List.mem_append_left _ h)
  have hfm : fstB C e0 ∈ e0 :: (A ++ C) := by
    rcases List.mem_cons.1 hf with h | h
    · rw [h]; exact List.mem_cons_self ..
    · exact List.mem_cons_of_mem _ (List.mem_append_right _ h)
  have hsub : ∀ b, b ∈ e0 :: (A ++ C) → b ∈ e0 :: (A ++ x :: C) := fun b hb => by
    rcases List.mem_cons.1 hb with h | h
    · rw [h]; exact List.mem_cons_self ..
    · rcases List.mem_append.1 h with h | h
      · exact List.mem_cons_of_mem _ (List.mem_append_left _ h)
      · exact List.mem_cons_of_mem _ (List.mem_append_right _ (List.mem_cons_of_mem _ h))
  have hxp : x ≠ lstB e0 A := fun e => hnx (e ▸ hpm)
  have hxf : x ≠ fstB C e0 := fun e => hnx (e ▸ hfm)
  obtain ⟨_, ⟨qp, hqp⟩, fp⟩ := h.elAt (hsub _ hpm)
  obtain ⟨⟨qf, hqf⟩, _, ff⟩ := h.elAt (hsub _ hfm)
  obtain ⟨_, a2⟩ := aft_app.1 h.aft
  obtain ⟨_, b2⟩ := bef_app.1 h.bef
  have c4 : w.cell? ⟨x, 4, none⟩ = some (ptr (fstB C e0)) := aft_first a2.2
  have c3 : w.cell? ⟨x, 3, none⟩ = some (ptr (lstB e0 A)) := b2.1
  have fp4 := fp 4
  have ff3 := ff 3
  clear h hnx hp hf hpm hfm hsub fp ff a2 b2
  generalize lstB e0 A = pb at *
  generalize fstB C e0 = nb at *
  go_enter Try.func27, Try.ntmps27
  go_region
  go_end0
  obtain ⟨h1, h2⟩ := HW.out
  exact ⟨rfl, h1.keep fun _ _ => rfl, h2.drew, by simp⟩

set_option maxRecDepth 100000 in
set_option maxHeartbeats 1600000 in
theorem putFirst_any {w : World} {e0 x : Nat} {bs : List Nat} (h : Ring w e0 bs) (hx : x ∉ e0 :: bs) (hE : IsEl w x) :
    Calls Try.prog 30 #[.agg #[ptr e0], ptr x] w fun e w' => e = .returned (.tuple #[]) ∧ Ring w' e0 (x :: bs) ∧ Lk (fun k => k = x ∨ k ∈ e0 :: bs) w w' := by
  have HLA : Lk (fun k => k = x ∨ k ∈ e0 :: bs) w (w.alloc (.cells #[ptr e0] 57)) := (Lk.refl _ _).alloc _
  have hlt : ∀ b ∈ e0 :: bs, b < w.heap.size := fun b hb => by
    obtain ⟨_, _, _, he⟩ := h.el b hb
    exact he.lt
  have hR : Ring (w.alloc (.cells #[ptr e0] 57)) e0 bs := h.keep fun b hb => Below.heap_alloc _ _ _ (hlt b hb)
  have hE1 : IsEl (w.alloc (.cells #[ptr e0] 57)) x := by
    obtain ⟨c0, c1, c2, he⟩ := hE
    exact ⟨c0, c1, c2, he.keep (Below.heap_alloc _ _ _ he.lt)⟩
  have HW := Lib.hid (hR.first hx hE1)
  have l0 : (w.alloc (.cells #[ptr e0] 57)).cell? ⟨w.heap.size, 0, none⟩ = some (ptr e0) := cell_at _ _ _ _ _ rfl
  have hln : w.heap.size ≠ e0 := by have := hlt e0 (List.mem_cons_self ..); omega
  have hlf : w.heap.size ≠ fstB bs e0 := by have := hlt _ (fstB_mem bs e0); omega
  have hlx : w.heap.size ≠ x := by
    obtain ⟨c0, c1, c2, he⟩ := hE
    have := he.lt
    omega
  have hx0 : x ≠ e0 := fun e => hx (by rw [e]; exact List.mem_cons_self ..)
  have hxf : x ≠ fstB bs e0 := fun e => hx (by rw [e]; exact fstB_mem bs e0)
  obtain ⟨_, ⟨q4, hq4⟩, fe⟩ := hR.elAt (List.mem_cons_self ..)
  obtain ⟨⟨q3, hq3⟩, _, ff⟩ := hR.elAt (fstB_mem bs e0)
  have c4 := aft_first hR.aft
  obtain ⟨_, _, _, hxe⟩ := hE1
  obtain ⟨_, _, _, ⟨x3, hx3⟩, ⟨x4, hx4⟩, fx⟩ := hxe.cells
  have fe4 := fe 4
  have ff3 := ff 3
  have fx3 := fx 3
  have fx4 := fx 4
  have n1 : e0 ≠ x := fun e => hx0 e.symm
  have n2 : fstB bs e0 ≠ x := fun e => hxf e.symm
  have n3 : e0 ≠ w.heap.size := fun e => hln e.symm
  have n4 : fstB bs e0 ≠ w.heap.size := fun e => hlf e.symm
  have n5 : x ≠ w.heap.size := fun e => hlx e.symm
  clear h hx hE hlt hR fe ff fx hxe hq4
  generalize fstB bs e0 = f at *
  go_enter Try.func30, Try.ntmps30
  go_wp2_with fail
  generalize w.alloc (.cells #[ptr e0] 57) = W at *
  go_region
  go_wp2_with fail
  have r3 : ((W.setCell ⟨x, 3, none⟩ (ptr e0)).setCell ⟨x, 4, none⟩ (ptr f)).cell? ⟨x, 3, none⟩ = some (ptr e0) := by
    rw [set_far _ _ _ _ _ _ (.inr (by decide)), set_at _ _ _ _ (by rw [hx3]; rfl)]
  have r4 : ((W.setCell ⟨x, 3, none⟩ (ptr e0)).setCell ⟨x, 4, none⟩ (ptr f)).cell? ⟨x, 4, none⟩ = some (ptr f) := by
    rw [set_at _ _ _ _ (by rw [set_far _ _ _ _ _ _ (.inr (by decide)), hx4]; rfl)]
  have r5 : ((W.setCell ⟨x, 3, none⟩ (ptr e0)).setCell ⟨x, 4, none⟩ (ptr f)).cell? ⟨e0, 4, none⟩ = some (ptr f) := by
    rw [set_far _ _ _ _ _ _ (.inl hx0), set_far _ _ _ _ _ _ (.inl hx0), c4]
  have r6 : ((W.setCell ⟨x, 3, none⟩ (ptr e0)).setCell ⟨x, 4, none⟩ (ptr f)).cell? ⟨f, 3, none⟩ = some q3 := by
    rw [set_far _ _ _ _ _ _ (.inl hxf), set_far _ _ _ _ _ _ (.inl hxf), hq3]
  have r7 : ((W.setCell ⟨x, 3, none⟩ (ptr e0)).setCell ⟨x, 4, none⟩ (ptr f)).frozen? ⟨e0, 4, none⟩ = false := by simpa using fe4
  have r8 : ((W.setCell ⟨x, 3, none⟩ (ptr e0)).setCell ⟨x, 4, none⟩ (ptr f)).frozen? ⟨f, 3, none⟩ = false := by simpa using ff3
  clear hx3 hx4 c4 hq3 fe4 ff3 fx3 fx4 l0
  generalize HZ : (W.setCell ⟨x, 3, none⟩ (ptr e0)).setCell ⟨x, 4, none⟩ (ptr f) = Z at *
  go_region
  go_end0
  obtain ⟨h1, h2⟩ := HW.out
  exact ⟨rfl, h1.keep fun _ _ => rfl, (HLA.trans h2).drew.drew⟩

set_option maxHeartbeats 800000 in
theorem last_any {w : World} {e0 : Nat} {bs : List Nat} (h : Ring w e0 bs) :
    Calls Try.prog 38 #[.agg #[ptr e0]] w fun e w' => e = .returned (ptr (lstB e0 bs)) ∧ w' = w.alloc (.cells #[ptr e0] 57) := by
  have l0 : (w.alloc (.cells #[ptr e0] 57)).cell? ⟨w.heap.size, 0, none⟩ = some (ptr e0) := cell_at _ _ _ _ _ rfl
  have hlt : e0 < w.heap.size := by
    obtain ⟨_, _, _, he⟩ := h.el e0 (List.mem_cons_self ..)
    exact he.lt
  have c3 := bef_last h.bef
  rw [← Below.cell (below1 w (.cells #[ptr e0] 57)) (p := ⟨e0, 3, none⟩) hlt] at c3
  go_enter Try.func38, Try.ntmps38
  go_wp2_with fail
  go_ret
  exact ⟨rfl, rfl⟩

/-- The end of a new ring. -/
def endO (n : Nat) : Obj := .cells #[.string ⟨#[]⟩, .int .i64 0, .slice none 0 0, ptr n, ptr n] 67
set_option maxHeartbeats 800000 in
theorem newList_any (w : World) :
    Calls Try.prog 35 #[] w fun e w' => ∃ e0, e = .returned (.agg #[ptr e0]) ∧ w.heap.size ≤ e0 ∧ Ring w' e0 [] ∧ Below w.heap.size w w' := by
  go_enter Try.func35, Try.ntmps35
  go_wp2_with fail
  refine bodyPost_ret (v := .agg #[ptr (w.heap.size + 1)]) (by simp [results, Try.results35, go_sem, *]) rfl ?_
  have hE2 := El.new (w.alloc (.cells #[ptr (w.heap.size + 1)] 57)) (.string ⟨#[]⟩) (.int .i64 0) (.slice none 0 0) (ptr (w.heap.size + 1)) (ptr (w.heap.size + 1))
  have hc3 := cell_at (w.alloc (.cells #[ptr (w.heap.size + 1)] 57)) #[.string ⟨#[]⟩, .int .i64 0, .slice none 0 0, ptr (w.heap.size + 1), ptr (w.heap.size + 1)] 67 3 (ptr (w.heap.size + 1)) rfl
  have hc4 := cell_at (w.alloc (.cells #[ptr (w.heap.size + 1)] 57)) #[.string ⟨#[]⟩, .int .i64 0, .slice none 0 0, ptr (w.heap.size + 1), ptr (w.heap.size + 1)] 67 4 (ptr (w.heap.size + 1)) rfl
  rw [World.size_alloc] at hE2 hc3 hc4
  exact ⟨_, rfl, by omega, ⟨hc4, hc3, by simp, fun b hb => by
    rcases List.mem_singleton.1 hb with rfl
    exact ⟨_, _, _, hE2⟩⟩, below2 _ _ _⟩

theorem infoCache : (Try.prog.info? 60).map (fun i => i.size) = some 7 := by kernel_rfl
theorem infoElem : (Try.prog.info? 67).map (fun i => i.size) = some 5 := by kernel_rfl
theorem eq_ptr (a : Nat) (w : World) : (binOp BinOp.eql 25 (ptr a) (ptr a)).run Try.prog w = .ok (.bool true) w := by
  obtain ⟨j, hj, _⟩ := Option.map_eq_some_iff.1 infoCache
  exact run_eql_ptr_same w _ Try.underlying25 hj
theorem ne_elem_same (a : Nat) (w : World) : (binOp BinOp.neq 55 (ptr a) (ptr a)).run Try.prog w = .ok (.bool false) w := by
  obtain ⟨j, hj, _⟩ := Option.map_eq_some_iff.1 infoElem
  have h : ∀ d : Nat, (Op.equalIn (d + 1) 55 (ptr a) (ptr a)).run Try.prog w = .ok true w := fun d => by
    simp [Op.equalIn, run_underlying Try.underlying55, sizeOf, typeInfo, hj, run_sameAddr_same]
  simp only [binOp]
  simp [Op.equal, Op.maxDepth, h 9999]
theorem ne_elem_other {a b : Nat} {w : World} (hne : a ≠ b) (ha : IsEl w a) (hb : IsEl w b) : (binOp BinOp.neq 55 (ptr a) (ptr b)).run Try.prog w = .ok (.bool true) w := by
  obtain ⟨j, hj, hs⟩ := Option.map_eq_some_iff.1 infoElem
  obtain ⟨_, _, _, _, _, ga⟩ := ha
  obtain ⟨_, _, _, _, _, gb⟩ := hb
  have hsz : j.size ≠ 0 := by rw [hs]; decide
  have hn : (⟨a, 0, none⟩ : Addr) ≠ ⟨b, 0, none⟩ := fun e => hne (by cases e; rfl)
  have h : ∀ d : Nat, (Op.equalIn (d + 1) 55 (ptr a) (ptr b)).run Try.prog w = .ok false w := fun d => by
    simp [Op.equalIn, run_underlying Try.underlying55, sizeOf, typeInfo, hj, hsz, run_sameAddr_other w hn ga gb]
  simp only [binOp]
  simp [Op.equal, Op.maxDepth, h 9999]
theorem eq_ptr_nil (b : Nat) (w : World) : (binOp BinOp.eql 25 (.pointer none) (ptr b)).run Try.prog w = .ok (.bool false) w := rfl
set_option maxHeartbeats 800000 in
theorem made_yes {w : World} {n : Nat} (h : w.cell? ⟨n, 0, none⟩ = some (ptr n)) :
    Calls Try.prog 26 #[ptr n] w fun e w' => e = .returned (.bool true) ∧ w' = w := by
  have hq := eq_ptr n w
  go_enter Try.func26, Try.ntmps26
  go_wp2_with fail
  go_ret
  exact ⟨by simp, rfl⟩
set_option maxHeartbeats 800000 in
theorem made_zero {w : World} {n : Nat} (h : w.cell? ⟨n, 0, none⟩ = some (.pointer none)) :
    Calls Try.prog 26 #[ptr n] w fun e w' => e = .returned (.bool false) ∧ w' = w := by
  have hq := eq_ptr_nil n w
  go_enter Try.func26, Try.ntmps26
  go_wp2_with fail
  go_ret
  exact ⟨by simp, rfl⟩
set_option maxHeartbeats 800000 in
theorem made_nil (w : World) :
    Calls Try.prog 26 #[.pointer none] w fun e w' => e = .returned (.bool false) ∧ w' = w := by
  go_enter Try.func26, Try.ntmps26
  go_wp2_with fail
  go_ret
  exact ⟨by simp, rfl⟩

end Go.Proofs.Ytbimpfciadbnjaa
