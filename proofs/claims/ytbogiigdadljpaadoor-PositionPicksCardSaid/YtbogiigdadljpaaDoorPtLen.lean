/-
  position.length: the number of the matches of an iterator. Nothing is assumed.
-/
import Derived.Test.YtbogiigdadljpaaDoorPtIter
namespace Go.Proofs.YtbogiigdadljpaaDoor
open Go.RowKit Go.Shelf

attribute [local go_sem] Oper.semAt_some

set_option maxRecDepth 100000 in
set_option maxHeartbeats 2000000 in
theorem length_in (n : Nat) (hn : 10 ≤ n) (w : World) (bs bm bh g c : Nat) (oa : Option Addr) (cap : Nat) (ps : List Ps) (last : Int) (s : ByteArray) (hs : s.size ≤ 1000) (hI : IsIt w w.heap.size bs bm bh g c oa cap ps last s) :
    CallsIn Fence.wide n Tryd.prog 27 #[itV bs bm bh] w fun e w' => e = .returned (.int .i64 ((matL ps (hopeL ps last s.data.toList) s.size (s.size + 1) 0).length : Nat)) ∧ Below w.heap.size w w' := by
  have h1 : 1 ≤ n := by omega
  have HI := Lib.hid hI
  obtain ⟨MS, hMS⟩ : ∃ MS, matL ps (hopeL ps last s.data.toList) s.size (s.size + 1) 0 = MS := ⟨_, rfl⟩
  have hml := matL_len ps (hopeL ps last s.data.toList) s.size (s.size + 1) 0
  rw [hMS] at hml ⊢
  have HMS := Lib.hid hMS
  clear hI hMS
  obtain ⟨w5, hw5⟩ : ∃ w5, w5 = w.alloc (.cells #[.int .i64 0] 3) := ⟨_, rfl⟩
  have hB5 : Below w.heap.size w w5 := by rw [hw5]; exact below1 _ _
  have bL : Boxed w5 w.heap.size 3 (.int .i64 0) := by rw [hw5]; exact Boxed.new w _ _
  have hs5 : w5.heap.size = w.heap.size + 1 := by rw [hw5]; simp
  have hI5 := HI.out.later hB5
  have hMs := mat_stops (n - 1) w.heap.size bs bm bh g c oa cap ps last s hs w5 hI5
  rw [HMS.out] at hMs
  refine callsIn_of_wp_marks Tryd.func27 rfl trivial ?_ rfl
  simp only [itV, Tryd.ntmps27, List.size_toArray, List.length_cons, List.length_nil, Nat.reduceAdd, Nat.reduceSub, Array.replicate_succ, Array.replicate_zero, List.push_toArray, List.append_toArray, List.nil_append, List.cons_append]
  gi_wp2
  rw [← hw5]
  refine wpIn_rangeFunc_ownH rfl h1 (gf := 49) (lb := #[.pointer (some ⟨bs, 0, none⟩), .pointer (some ⟨bm, 0, none⟩), .pointer (some ⟨bh, 0, none⟩)]) rfl trivial (enters_of Tryd.func49 (by kernel_rfl) rfl)
    hMs (fun h k => h.trans k) (belowK_b (by omega)) (Below.refl _ _) (fun _ => rfl)
    (fun (pre : List (Nat × Nat)) W => Boxed W w.heap.size 3 (.int .i64 (pre.length : Nat)) ∧ Below w.heap.size w W)
    (fun _ _ _ => False)
    (OwnFrom.and (fun pre W W' row hh hg hr => (grownBy_keeps_cells hg (fun r e => (hr r e).2) hh rfl).trans hh) (ownFrom_below (Nat.le_refl _) (by omega)))
    (fun _ _ _ _ _ hs _ _ => hs)
    ⟨bL, hB5⟩
    (fun (x : Nat × Nat) a' W => a' = { tmps := #[itV bs bm bh, undef, .int .i64 0, .pointer (some ⟨w.heap.size, 0, none⟩), itV bs bm bh, enM x, undef, undef, undef], defers := [] })
    (fun x a' _ X Y row hs hg hr => hs)
    ?assign ?body ?done ?stop
  case assign =>
    rintro l pre x W K ⟨bL1, hB1'⟩ hK
    gi_wp2
    exact hK _ _ (KeepsFrom.refl _ _) (Below.refl _ _) ⟨bL1, hB1'⟩ (by simp [itV])
  case body =>
    rintro l pre x a' W hl ⟨r, hr⟩ ⟨bL1, hB1'⟩ rfl hlt
    have cL := bL1.cell
    have cF := bL1.frozen
    have hwr : IntKind.i64.wrap ((pre.length : Int) + 1) = ((pre.length + 1 : Nat) : Int) := by rw [IntWalk.i64_in _ (by omega)]; omega
    simp only [itV, enM]
    gi_wp2
    have hq : Below w.heap.size W (W.setCell ⟨w.heap.size, 0, none⟩ (.int .i64 ((pre.length : Int) + 1))) := (Below.refl _ _).setCell (p := ⟨w.heap.size, 0, none⟩) (Nat.le_refl _) _
    refine ⟨(KeepsOthers.setCell _ _ _).from _, hq, ?_, hB1'.trans hq⟩
    rw [List.length_append, List.length_singleton, Int.natCast_add]
    exact bL1.set _
  case done =>
    rintro D ys W hD hys ⟨bL1, hB1'⟩ hK
    have cL := bL1.cell
    gi_wp2
    refine ⟨by simp, .inl ⟨_, _, rfl, run_takeDeferred hK, ?_⟩⟩
    exact ⟨_, results_tmp rfl _ _ _, rfl, hB1'.trans (belowK_b (w := w) (Nat.le_refl _) W D _ _ (by omega) hK rfl rfl)⟩
  case stop =>
    rintro D c pre W _ _ h _
    exact h.elim

end Go.Proofs.YtbogiigdadljpaaDoor
