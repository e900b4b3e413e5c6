/-
  slices.SortedFunc over the preorder of a term; TermSubterms' walk. Nothing is assumed.
-/
import Derived.Test.YtdfhfljmcakilaaTmSort
import Derived.Test.YtdfhfljmcakilaaTmColl
import Derived.Test.YtdfhfljmcakilaaTmLawB
namespace Go.Proofs.Ytdfhfljmcakilaa
open Go.RowKit

theorem nd_sizes {W0 : World} {n₀ : Nat} {ys : List (Nd W0 n₀)} {v : T} (h : ys.map Nd.tm = v.pre) : ys.length = v.size ∧ ∀ y, y ∈ ys → y.tm.size ≤ v.size := by
  refine ⟨by have := congrArg List.length h; rw [List.length_map] at this; exact this, fun y hy => pre_size v y.tm ?_⟩
  rw [← h]
  exact List.mem_map_of_mem hy

set_option maxRecDepth 100000 in
set_option maxHeartbeats 300000 in
theorem collect_any (v : T) (sl : Value) (w : World) (bx : Nat) (hbx : TBox w bx v sl) (hrep : Rep w w.heap.size sl v.l) (hsz : v.size ≤ 900) :
    Calls Try.prog 53 #[.func (.func 55) #[] #[.pointer (some ⟨bx, 0, none⟩)]] w fun e w' =>
      (∃ (ys : List (Nd w w.heap.size)) (vv : Value), ys.map Nd.tm = v.pre ∧ e = .returned vv ∧ w'.ownsRow w.heap.size 24 2 vv ys.length (flatN ys)) ∧ Below w.heap.size w w' := by
  have HA := Lib.hid (callsIn_wide.1 (appendSeq_in v sl w bx hbx hrep hsz 10 (by decide)))
  clear hrep hbx
  go_enter Try.func53, Try.ntmps53
  go_wp2_with fail
  refine HA.out.mono ?_
  rintro e w1 ⟨⟨ys, vv, hy, rfl, ho⟩, hb1⟩
  have HY := Lib.hid hy
  have HO := Lib.hid ho
  have HB := Lib.hid hb1
  clear hy ho hb1
  go_wp2_with fail
  go_ret
  exact ⟨⟨ys, vv, HY.out, rfl, HO.out⟩, HB.out⟩

set_option maxRecDepth 100000 in
set_option maxHeartbeats 300000 in
theorem sortedOf_any (v : T) (sl : Value) : SortedOf v sl := by
  intro w bx hbx hrep hsz
  have HC := Lib.hid (collect_any v sl w bx hbx hrep hsz)
  clear hrep hbx
  have hpos := v.size_pos
  go_enter Try.func41, Try.ntmps41
  go_wp2_with fail
  refine HC.out.mono ?_
  rintro e w1 ⟨⟨ys, vv, hy, rfl, ho⟩, hb1⟩
  obtain ⟨hyl, hys⟩ := nd_sizes hy
  obtain ⟨g, cap, rfl, hcap⟩ : ∃ g cap, vv = .slice (some ⟨g, 0, none⟩) ys.length cap ∧ ys.length ≤ cap := by
    rcases ho.2 with ⟨_, hk⟩ | ⟨g, cap, cur, hv, _, _, hnc, _⟩
    · omega
    · exact ⟨g, cap, hv, hnc⟩
  have hgl := ho.lt g rfl
  have HS := Lib.hid (sortFunc_any ys (by omega) (fun y hy' => by have := hys y hy'; omega) (by omega) w1 g cap ho hb1 hb1.size)
  have HY := Lib.hid hy
  have HB1 := Lib.hid hb1
  clear ho hy hb1 hys hyl
  go_wp2_with fail
  refine HS.out.mono ?_
  rintro e w2 ⟨rfl, l, hp, hs, hll, hrow, hb2⟩
  have HF := Lib.hid (show l.Perm v.pre ∧ l.Pairwise (fun a b => a.cmp b ≤ 0) ∧ RowL w2 (fun q => q < w.heap.size) g l ∧ Below w.heap.size w w2 from ⟨by rw [← HY.out]; exact hp, hs, hrow, HB1.out.trans hb2⟩)
  have HLL := Lib.hid hll
  clear hp hs hrow hb2 hll
  go_wp2_with fail
  go_ret
  exact ⟨g, cap, l, HF.out.1, HF.out.2.1, by rw [HLL.out]; rfl, by rw [HLL.out]; exact hcap, HF.out.2.2.1, hgl.1, HF.out.2.2.2⟩

theorem lawSubtermsS_any (v : T) (sl : Value) (w : World) (hrep : Rep w w.heap.size sl v.l) :
    Calls Try.prog 7 #[.agg #[.int .i64 v.r, sl]] w fun e w' => e = .returned (.bool true) ∧ Below w.heap.size w w' :=
  lawSubterms_any v sl w hrep (sortedOf_any v sl)

end Go.Proofs.Ytdfhfljmcakilaa
