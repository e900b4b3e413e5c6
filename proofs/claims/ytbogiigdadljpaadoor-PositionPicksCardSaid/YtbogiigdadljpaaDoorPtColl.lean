/-
  slices.Collect over the matches of an iterator. Nothing is assumed.
-/
import Derived.Test.YtbogiigdadljpaaDoorPtBody
namespace Go.Proofs.YtbogiigdadljpaaDoor
open Go.RowKit Go.Shelf

attribute [local go_sem] Oper.semAt_some

set_option maxRecDepth 100000 in
set_option maxHeartbeats 2000000 in
theorem appendSeq_in (n : Nat) (hn : 10 ≤ n) (w : World) (bs bm bh g c : Nat) (oa : Option Addr) (cap : Nat) (ps : List Ps) (last : Int) (s : ByteArray) (hs : s.size ≤ 1000) (hI : IsIt w w.heap.size bs bm bh g c oa cap ps last s) :
    CallsIn Fence.wide n Tryd.prog 40 #[.slice none 0 0, itV bs bm bh] w fun e w' =>
      (∃ vv : Value, e = .returned vv ∧ w'.ownsRow w.heap.size 36 2 vv (matL ps (hopeL ps last s.data.toList) s.size (s.size + 1) 0).length (flatM (matL ps (hopeL ps last s.data.toList) s.size (s.size + 1) 0))) ∧ Below w.heap.size w w' := by
  have h1 : 1 ≤ n := by omega
  have HI := Lib.hid hI
  obtain ⟨MS, hMS⟩ : ∃ MS, matL ps (hopeL ps last s.data.toList) s.size (s.size + 1) 0 = MS := ⟨_, rfl⟩
  have hml := matL_len ps (hopeL ps last s.data.toList) s.size (s.size + 1) 0
  rw [hMS] at hml ⊢
  have HMS := Lib.hid hMS
  clear hI hMS
  obtain ⟨i0, hi, hz0, hz1, hz2⟩ := info_parts infoPair
  obtain ⟨w5, hw5⟩ : ∃ w5, w5 = w.alloc (.cells #[.slice none 0 0] 23) := ⟨_, rfl⟩
  have hB5 : Below w.heap.size w w5 := by rw [hw5]; exact below1 _ _
  have bL : Boxed w5 w.heap.size 23 (.slice none 0 0) := by rw [hw5]; exact Boxed.new w _ _
  have hrow5 : w5.ownsRow w.heap.size 36 2 (.slice none 0 0) 0 [] := ⟨rfl, .inl ⟨rfl, rfl⟩⟩
  have hs5 : w5.heap.size = w.heap.size + 1 := by rw [hw5]; simp
  have hI5 := HI.out.later hB5
  have hMs := mat_stops (n - 1) w.heap.size bs bm bh g c oa cap ps last s hs w5 hI5
  rw [HMS.out] at hMs
  refine callsIn_of_wp_marks Tryd.func40 rfl trivial ?_ rfl
  simp only [itV, Tryd.ntmps40, List.size_toArray, List.length_cons, List.length_nil, Nat.reduceAdd, Nat.reduceSub, Array.replicate_succ, Array.replicate_zero, List.push_toArray, List.append_toArray, List.nil_append, List.cons_append]
  gi_wp2
  rw [← hw5]
  refine wpIn_rangeFunc_ownH rfl h1 (gf := 49) (lb := #[.pointer (some ⟨bs, 0, none⟩), .pointer (some ⟨bm, 0, none⟩), .pointer (some ⟨bh, 0, none⟩)]) rfl trivial (enters_of Tryd.func49 (by kernel_rfl) rfl)
    hMs (fun h k => h.trans k) (belowK_b (by omega)) (Below.refl _ _) (fun _ => rfl)
    (fun (pre : List (Nat × Nat)) W => (∃ vv, Boxed W w.heap.size 23 vv ∧ W.ownsRow w.heap.size 36 2 vv pre.length (flatM pre) ∧ True) ∧ Below w.heap.size w W)
    (fun _ _ _ => False)
    (OwnFrom.and (Own.from (holdsRow_own w.heap.size w.heap.size 23 36 2 (fun pre : List (Nat × Nat) => pre.length) (fun pre : List (Nat × Nat) => flatM pre) (fun _ _ => True)) _) (ownFrom_below (Nat.le_refl _) (by omega)))
    (fun _ _ _ _ _ hs _ _ => hs)
    ⟨⟨_, bL, hrow5, trivial⟩, hB5⟩
    (fun (x : Nat × Nat) a' W => ∃ Bx, W.heap[Bx]? = some (.cells #[.int .i64 (x.1 : Int), .int .i64 (x.2 : Int)] 36) ∧ a' = { tmps := #[.slice none 0 0, itV bs bm bh, .pointer (some ⟨w.heap.size, 0, none⟩), undef, .slice none 0 0, .pointer (some ⟨Bx, 0, none⟩), itV bs bm bh, enM x, undef, undef, undef, undef, undef], defers := [] })
    (fun x a' _ X Y row hs hg hr => by
      obtain ⟨Bx, k2, k3⟩ := hs
      exact ⟨Bx, (grownBy_keeps_cells hg (fun r e => (hr r e).2) k2 rfl).trans k2, k3⟩)
    ?assign ?body ?done ?stop
  case assign =>
    rintro l pre x W K ⟨⟨vv1, bL1, hr1, _⟩, hB1'⟩ hK
    have hsW := hB1'.size
    simp only [enM] at hK ⊢
    gi_wp2
    exact hK _ _ ((KeepsOthers.alloc _ _).from _) ((Below.refl _ _).alloc hsW _) ⟨⟨vv1, bL1.alloc _, hr1.alloc _, trivial⟩, hB1'.alloc hsW _⟩ ⟨W.heap.size, World.alloc_heap_new W _, rfl⟩
  case body =>
    rintro l pre x a' W hl ⟨r, hr⟩ ⟨⟨vv1, bL1, hr1, _⟩, hB1'⟩ ⟨Bx, bX, rfl⟩ hlt
    simp only [itV, enM]
    have hsW := hB1'.size
    obtain ⟨ov, cv, hvv⟩ : ∃ ov cv, vv1 = .slice ov pre.length cv := by
      rcases hr1.2 with ⟨h0, hk⟩ | ⟨g, cc, cur, hv, _⟩
      · exact ⟨none, 0, by rw [h0, hk]⟩
      · exact ⟨_, cc, hv⟩
    subst hvv
    have cL := bL1.cell
    have bX0 : W.cell? ⟨Bx, 0, none⟩ = some (.int .i64 (x.1 : Int)) := by simp [World.cell?, bX]
    have bX1 : W.cell? ⟨Bx, 1, none⟩ = some (.int .i64 (x.2 : Int)) := by simp [World.cell?, bX]
    have hone : ∀ u ∈ [Value.int .i64 (x.1 : Int), .int .i64 (x.2 : Int)], u.oneCell' = true := fun u hu => by simp at hu; rcases hu with rfl | rfl <;> rfl
    have hsrc : ∀ (j : Nat) u, [Value.int .i64 (x.1 : Int), .int .i64 (x.2 : Int)][j]? = some u → (W.alloc (.cells #[.int .i64 (x.1 : Int), .int .i64 (x.2 : Int)] 36)).cell? (Addr.add ⟨W.heap.size, 0, none⟩ j) = some u := fun j u hu => by
      rw [addr_add0, Nat.zero_add]
      exact cell_at _ _ _ _ _ (by simpa using hu)
    clear hl hr bX
    gi_wp2_with (gi_at_builtin; refine wpListIn_append_own _ rfl _ _ 23 rfl w.heap.size 36 i0 _ 2 16 Tryd.underlying23 hi hz0 hz1 hz2 rfl (by decide) (.slice ov pre.length cv) pre.length _ rfl (hr1.alloc _) ⟨W.heap.size, 0, none⟩ 1 1 [.int .i64 (x.1 : Int), .int .i64 (x.2 : Int)] rfl rfl hsrc hone ?c3 ?c4 ?c5 ?_)
    case c3 => unfold maxLen; omega
    case c4 => omega
    case c5 => simp; omega
    intro v2 w6 hown6 hgrow6 _
    obtain ⟨g2, cap2, rfl⟩ := ownsRow_some hown6
    have hap := bL1.appended (by decide) hr1 hsW (Nat.le_refl _) hown6 hgrow6
    obtain ⟨q1, q2, q3, q4, q5⟩ := hap
    have c6 := q1.cell
    have f6 := q1.frozen
    have HQ2 := Lib.hid q2
    have HQ3 := Lib.hid q3
    have HQ4 := Lib.hid q4
    have HQ5 := Lib.hid q5
    clear hown6 hgrow6 hone hsrc q2 q3 q4 q5 bX0 bX1 cL bL1 hr1
    gi_wp2
    refine ⟨HQ4.out.from _, HQ5.out, ⟨_, HQ2.out, ?_, trivial⟩, hB1'.trans HQ5.out⟩
    rw [List.length_append, flatM_snoc]
    exact HQ3.out
  case done =>
    rintro D ys W hD hys ⟨⟨vv1, bL1, hr1, _⟩, hB1'⟩ hK
    have cL := bL1.cell
    gi_wp2
    refine ⟨by simp, .inl ⟨_, _, rfl, run_takeDeferred hK, ?_⟩⟩
    exact ⟨_, results_tmp rfl _ _ _, ⟨vv1, rfl, hys ▸ ownsRow_putObj hr1 _ hK rfl⟩, hB1'.trans (belowK_b (w := w) (Nat.le_refl _) W D _ _ (by omega) hK rfl rfl)⟩
  case stop =>
    rintro D c pre W _ _ h _
    exact h.elim

end Go.Proofs.YtbogiigdadljpaaDoor
