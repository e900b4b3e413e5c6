/-
  slices.Collect over the preorder of a term. Nothing is assumed.
-/
import Derived.Test.YtdfhfljmcakilaaTmBody
namespace Go.Proofs.Ytdfhfljmcakilaa
open Go.RowKit Go.Shelf

attribute [local go_sem] Oper.semAt_some

/-- The cells of a list of subterms. -/
def flatN {W0 : World} {n₀ : Nat} (ys : List (Nd W0 n₀)) : List Value := flatT (ys.map fun x => (x.tm.r, x.1.2))
theorem flatN_snoc {W0 : World} {n₀ : Nat} (ys : List (Nd W0 n₀)) (x : Nd W0 n₀) : flatN (ys ++ [x]) = flatN ys ++ [.int .i64 x.tm.r, x.1.2] := by unfold flatN; rw [List.map_append]; exact flatT_snoc _ _

set_option maxRecDepth 100000 in
set_option maxHeartbeats 2000000 in
theorem appendSeq_in (v : T) (sl : Value) (w : World) (bx : Nat) (hbx : TBox w bx v sl) (hrep : Rep w w.heap.size sl v.l) (hsz : v.size ≤ 900) (n : Nat) (hn : 10 ≤ n) :
    CallsIn Fence.wide n Try.prog 60 #[.slice none 0 0, .func (.func 55) #[] #[.pointer (some ⟨bx, 0, none⟩)]] w fun e w' =>
      (∃ (ys : List (Nd w w.heap.size)) (vv : Value), ys.map Nd.tm = v.pre ∧ e = .returned vv ∧ w'.ownsRow w.heap.size 24 2 vv ys.length (flatN ys)) ∧ Below w.heap.size w w' := by
  have h1 : 1 ≤ n := by omega
  have HREP := Lib.hid hrep
  obtain ⟨oa, cap, rfl, _, _⟩ := hrep.form
  clear hrep
  have noD : ∀ k : Nat, (Fence.wide.depth.isSome = true → 1 ≤ k) := fun k h => by cases h
  obtain ⟨i0, hi, hz0, hz1, hz2⟩ := info_parts infoTerm
  obtain ⟨w5, hw5⟩ : ∃ w5, w5 = w.alloc (.cells #[.slice none 0 0] 22) := ⟨_, rfl⟩
  have hB5 : Below w.heap.size w w5 := by rw [hw5]; exact below1 _ _
  have bL : Boxed w5 w.heap.size 22 (.slice none 0 0) := by rw [hw5]; exact Boxed.new w _ _
  have bT : TBox w5 bx v (.slice oa v.l.length cap) := (hB5.block bx hbx.lt).trans hbx
  have hrow5 : w5.ownsRow w.heap.size 24 2 (.slice none 0 0) 0 [] := ⟨rfl, .inl ⟨rfl, rfl⟩⟩
  have hSn : Sane w.heap.size w5 := ⟨⟨_, bL⟩, fun vv hv g e => by
    have h := hv.symm.trans bL
    simp at h
    obtain ⟨rfl⟩ := h
    cases e⟩
  have hs5 : w5.heap.size = w.heap.size + 1 := by rw [hw5]; simp
  refine callsIn_of_wp_marks Try.func60 rfl trivial ?_ rfl
  simp only [Try.ntmps60, List.size_toArray, List.length_cons, List.length_nil, Nat.reduceAdd, Nat.reduceSub, Array.replicate_succ, Array.replicate_zero, List.push_toArray, List.append_toArray, List.nil_append, List.cons_append]
  gi_wp2
  rw [← hw5]
  refine wpIn_rangeFunc_ownH rfl h1 (gf := 55) (lb := #[.pointer (some ⟨bx, 0, none⟩)]) rfl trivial (enters_of Try.func55 (by kernel_rfl) rfl)
    (preG_stops (n - 1) bx w.heap.size w.heap.size v (.slice oa v.l.length cap) w w5 bT HREP.out hB5 (by omega) hSn) Kr.trans (Kr.b (by omega)) (Below.refl _ _) (fun _ => rfl)
    (fun (pre : List (Nd w w.heap.size)) W => (∃ vv, Boxed W w.heap.size 22 vv ∧ W.ownsRow w.heap.size 24 2 vv pre.length (flatN pre) ∧ True) ∧ Below w.heap.size w W)
    (fun _ _ _ => False)
    (OwnFrom.and (Own.from (holdsRow_own w.heap.size w.heap.size 22 24 2 (fun pre : List (Nd w w.heap.size) => pre.length) (fun pre : List (Nd w w.heap.size) => flatN pre) (fun _ _ => True)) _) (ownFrom_below (Nat.le_refl _) (by omega)))
    (fun _ _ _ _ _ hs _ _ => hs)
    ⟨⟨_, bL, hrow5, trivial⟩, hB5⟩
    (fun (x : Nd w w.heap.size) a' W => ∃ Bx, TBox W Bx x.1.1 x.1.2 ∧ a' = { tmps := #[.slice none 0 0, .func (.func 55) #[] #[.pointer (some ⟨bx, 0, none⟩)], .pointer (some ⟨w.heap.size, 0, none⟩), undef, .slice none 0 0, .pointer (some ⟨Bx, 0, none⟩), .func (.func 55) #[] #[.pointer (some ⟨bx, 0, none⟩)], x.enc, undef, undef, undef, undef, undef, undef, undef], defers := [] })
    (fun x a' _ X Y row hs hg hr => by
      obtain ⟨Bx, k2, k3⟩ := hs
      refine ⟨Bx, k2.keep (KT.grown hg (fun k xs fz e he => ?_)), k3⟩
      obtain ⟨_, o, ho, hc⟩ := hr k e
      rw [he] at ho
      cases ho
      cases hc)
    ?assign ?body ?done ?stop
  case assign =>
    rintro l pre x W K ⟨⟨vv1, bL1, hr1, _⟩, hB1'⟩ hK
    obtain ⟨xt, xoa, xcap, hx, rfl⟩ := Nd.opened x
    have hsW := hB1'.size
    simp only [Nd.enc] at hK ⊢
    gi_wp2
    exact hK _ _ ((KeepsOthers.alloc _ _).from _) (Kr.alloc hsW _) ⟨⟨vv1, bL1.alloc _, hr1.alloc _, trivial⟩, hB1'.alloc hsW _⟩ ⟨W.heap.size, TBox.new W _ _, rfl⟩
  case body =>
    rintro l pre x a' W hl ⟨r, hr⟩ ⟨⟨vv1, bL1, hr1, _⟩, hB1'⟩ ⟨Bx, bX, rfl⟩ hlt
    obtain ⟨xt, xoa, xcap, hx, rfl⟩ := Nd.opened x
    simp only [Nd.enc]
    have hmx : Try.prog.follows .mixedOrders = true := by kernel_rfl
    gi_wp2
    refine wpIn_region_any hmx ?_
    change wpAnyIn _ _ _ _ _ _ _ _ _ (World.drew _)
    have hWq : Kr w.heap.size w.heap.size W W.drew := ⟨(Below.refl _ W).drew, fun hs => ⟨hs, fun _ _ _ h _ => h, fun v' h g e => .inl ⟨v', h, e⟩⟩⟩
    have hWk : ∀ B, KeepsFrom B W W.drew := fun B => (KeepsOthers.drew W).from B
    have bL2 : Boxed W.drew w.heap.size 22 vv1 := bL1
    have bX2 : TBox W.drew Bx xt (.slice xoa xt.l.length xcap) := bX
    have hr2 : W.drew.ownsRow w.heap.size 24 2 vv1 pre.length (flatN pre) := hr1
    have hB2' := hB1'.drew
    clear bL1 bX hr1 hB1' hl hr
    generalize W.drew = Wd at *
    have hsW := hB2'.size
    obtain ⟨ov, cv, hvv⟩ : ∃ ov cv, vv1 = .slice ov pre.length cv := by
      rcases hr2.2 with ⟨h0, hk⟩ | ⟨g, cc, cur, hv, _⟩
      · exact ⟨none, 0, by rw [h0, hk]⟩
      · exact ⟨_, cc, hv⟩
    subst hvv
    have cL := bL2.cell
    have cL1 : ∀ o, (Wd.alloc o).cell? ⟨w.heap.size, 0, none⟩ = some (.slice ov pre.length cv) := fun o => (bL2.alloc o).cell
    obtain ⟨cX0, cX1⟩ := bX2.cells
    have cX0a : ∀ o, (Wd.alloc o).cell? ⟨Bx, 0, none⟩ = some (.int .i64 xt.r) := fun o => (bX2.keep (KT.alloc Wd o)).cells.1
    have cX1a : ∀ o, (Wd.alloc o).cell? ⟨Bx, 1, none⟩ = some (.slice xoa xt.l.length xcap) := fun o => (bX2.keep (KT.alloc Wd o)).cells.2
    have k0 : (0 : Int) ≤ (pre.length : Int) := by omega
    have k1 : (pre.length : Int) < ((pre.length + 1 : Nat) : Int) := by omega
    have k2 : (pre.length : Int) < (pre.length : Int) + 1 := by omega
    have hlt9 : pre.length < 900 := by omega
    have hone : ∀ u ∈ [Value.int .i64 0, .slice none 0 0], u.oneCell' = true := fun u hu => by simp at hu; rcases hu with rfl | rfl <;> rfl
    have hsrc : ∀ (j : Nat) u, [Value.int .i64 0, .slice none 0 0][j]? = some u → (Wd.alloc (.cells #[.int .i64 0, .slice none 0 0] 24)).cell? (Addr.add ⟨Wd.heap.size, 0, none⟩ j) = some u := fun j u hu => by
      rw [addr_add0, Nat.zero_add]
      exact cell_at _ _ _ _ _ (by simpa using hu)
    refine wpAnyIn_ready (rs := [0, 1, 3]) (by kernel_rfl) (by simp) ?_
    refine AllReadyIn.cons rfl (fun K hK => ?_) ?_
    · go_simp
      refine hK _ _ ?_
      clear hK K
      refine wpAnyIn_ready (rs := [1, 2, 3]) (by kernel_rfl) (by simp) ?_
      refine AllReadyIn.cons rfl (fun K hK => ?_) ?_
      · go_simp
        refine hK _ _ ?_
        clear hK K
        refine wpAnyIn_ready (rs := [2, 3]) (by kernel_rfl) (by simp) ?_
        refine AllReadyIn.cons rfl (fun K hK => ?_) ?_
        · go_simp
          refine hK _ _ ?_
          clear hK K
          refine wpAnyIn_ready (rs := [3]) (by kernel_rfl) (by simp) ?_
          refine AllReadyIn.cons rfl (fun K hK => ?_) ?_
          · go_simp
            refine hK _ _ ?_
            clear hK K
            refine wpAnyIn_ready (rs := [4]) (by kernel_rfl) (by simp) ?_
            refine AllReadyIn.cons rfl (fun K hK => ?_) ?_
            · refine stepIn_appendL _ rfl _ _ 22 rfl w.heap.size 24 i0 _ 2 32 Try.underlying22 hi hz0 hz1 hz2 rfl (by decide) (.slice ov pre.length cv) pre.length _ rfl (hr2.alloc _) ⟨Wd.heap.size, 0, none⟩ 1 1 [.int .i64 0, .slice none 0 0] rfl rfl hsrc hone (by unfold maxLen; omega) (by omega) (by simp; omega) ?_
              intro v2 w6 hown6 hgrow6 hat6
              obtain ⟨g2, cap2, rfl⟩ := ownsRow_succ hown6
              obtain ⟨hne6, cB6, fB6, cE0, cE1, fE6, HD6⟩ := bodyG_done (e0 := .int .i64 xt.r) (e1 := .slice xoa xt.l.length xcap) bL2 hsW (Nat.le_refl _) hr2 hown6 hgrow6 hat6
              have fB0 := fB6 0
              have f0 := fE6 (pre.length * 2)
              have f1 := fE6 (pre.length * 2 + 1)
              have xB : ∀ x y, ((w6.setCell ⟨g2, pre.length * 2, none⟩ x).setCell ⟨g2, pre.length * 2 + 1, none⟩ y).cell? ⟨w.heap.size, 0, none⟩ = some (.slice ov pre.length cv) := fun x y => by rw [World.cell?_setCell_other _ _ _ _ (by simp), World.cell?_setCell_other _ _ _ _ (by simp)]; exact cB6
              have yB : ∀ x y, ((w6.setCell ⟨g2, pre.length * 2, none⟩ x).setCell ⟨g2, pre.length * 2 + 1, none⟩ y).frozen? ⟨w.heap.size, 0, none⟩ = false := fun x y => by rw [World.frozen?_setCell, World.frozen?_setCell]; exact fB0
              have u0 : ∀ x, (w6.setCell ⟨w.heap.size, 0, none⟩ x).cell? ⟨g2, pre.length * 2, none⟩ = some (.int .i64 0) := fun x => by rw [World.cell?_setCell_other _ _ _ _ (by simp)]; exact cE0
              have u1 : ∀ x, (w6.setCell ⟨w.heap.size, 0, none⟩ x).cell? ⟨g2, pre.length * 2 + 1, none⟩ = some (.slice none 0 0) := fun x => by rw [World.cell?_setCell_other _ _ _ _ (by simp)]; exact cE1
              have g0 : ∀ x, (w6.setCell ⟨w.heap.size, 0, none⟩ x).frozen? ⟨g2, pre.length * 2, none⟩ = false := fun x => by rw [World.frozen?_setCell]; exact f0
              have g1 : ∀ x, (w6.setCell ⟨w.heap.size, 0, none⟩ x).frozen? ⟨g2, pre.length * 2 + 1, none⟩ = false := fun x => by rw [World.frozen?_setCell]; exact f1
              have hcm : ∀ x y z, ((w6.setCell ⟨w.heap.size, 0, none⟩ z).setCell ⟨g2, pre.length * 2, none⟩ x).setCell ⟨g2, pre.length * 2 + 1, none⟩ y = ((w6.setCell ⟨g2, pre.length * 2, none⟩ x).setCell ⟨g2, pre.length * 2 + 1, none⟩ y).setCell ⟨w.heap.size, 0, none⟩ z := fun x y z => by
                rw [setCell_comm w6 _ _ _ _ (by show w.heap.size ≠ g2; exact hne6.symm), setCell_comm (w6.setCell _ _) _ _ _ _ (by show w.heap.size ≠ g2; exact hne6.symm)]
              have HCM := Lib.hid hcm
              clear hcm fB6 fE6 hown6 hgrow6 hat6
              refine hK _ _ ?_
              clear hK K
              refine wpAnyIn_ready (rs := [5, 7]) (by kernel_rfl) (by simp) ?_
              refine AllReadyIn.cons rfl (fun K hK => ?_) ?_
              · go_simp
                refine hK _ _ ?_
                clear hK K
                refine wpAnyIn_ready (rs := [6, 7]) (by kernel_rfl) (by simp) ?_
                refine AllReadyIn.cons rfl (fun K hK => ?_) ?_
                · go_simp
                  refine hK _ _ ?_
                  clear hK K
                  refine wpAnyIn_ready (rs := [7]) (by kernel_rfl) (by simp) ?_
                  refine AllReadyIn.cons rfl (fun K hK => ?_) ?_
                  · go_simp
                    refine hK _ _ ?_
                    clear hK K
                    refine wpAnyIn_done (by kernel_rfl) ?_ _
                    obtain ⟨q1, q2, q3, q4, q5⟩ := HD6.out
                    first
                      | exact ⟨(hWk _).trans (q1 _), hWq.trans q2, ⟨⟨_, q3, by rw [List.length_append, flatN_snoc]; exact q4, trivial⟩, hB2'.trans q5⟩⟩
                      | (rw [HCM.out]; exact ⟨(hWk _).trans (q1 _), hWq.trans q2, ⟨⟨_, q3, by rw [List.length_append, flatN_snoc]; exact q4, trivial⟩, hB2'.trans q5⟩⟩)
                  exact AllReadyIn.nil
                refine AllReadyIn.cons rfl (fun K hK => ?_) ?_
                · go_simp
                  refine hK _ _ ?_
                  clear hK K
                  refine wpAnyIn_ready (rs := [6]) (by kernel_rfl) (by simp) ?_
                  refine AllReadyIn.cons rfl (fun K hK => ?_) ?_
                  · go_simp
                    refine hK _ _ ?_
                    clear hK K
                    refine wpAnyIn_done (by kernel_rfl) ?_ _
                    obtain ⟨q1, q2, q3, q4, q5⟩ := HD6.out
                    first
                      | exact ⟨(hWk _).trans (q1 _), hWq.trans q2, ⟨⟨_, q3, by rw [List.length_append, flatN_snoc]; exact q4, trivial⟩, hB2'.trans q5⟩⟩
                      | (rw [HCM.out]; exact ⟨(hWk _).trans (q1 _), hWq.trans q2, ⟨⟨_, q3, by rw [List.length_append, flatN_snoc]; exact q4, trivial⟩, hB2'.trans q5⟩⟩)
                  exact AllReadyIn.nil
                exact AllReadyIn.nil
              refine AllReadyIn.cons rfl (fun K hK => ?_) ?_
              · go_simp
                refine hK _ _ ?_
                clear hK K
                refine wpAnyIn_ready (rs := [5]) (by kernel_rfl) (by simp) ?_
                refine AllReadyIn.cons rfl (fun K hK => ?_) ?_
                · go_simp
                  refine hK _ _ ?_
                  clear hK K
                  refine wpAnyIn_ready (rs := [6]) (by kernel_rfl) (by simp) ?_
                  refine AllReadyIn.cons rfl (fun K hK => ?_) ?_
                  · go_simp
                    refine hK _ _ ?_
                    clear hK K
                    refine wpAnyIn_done (by kernel_rfl) ?_ _
                    obtain ⟨q1, q2, q3, q4, q5⟩ := HD6.out
                    first
                      | exact ⟨(hWk _).trans (q1 _), hWq.trans q2, ⟨⟨_, q3, by rw [List.length_append, flatN_snoc]; exact q4, trivial⟩, hB2'.trans q5⟩⟩
                      | (rw [HCM.out]; exact ⟨(hWk _).trans (q1 _), hWq.trans q2, ⟨⟨_, q3, by rw [List.length_append, flatN_snoc]; exact q4, trivial⟩, hB2'.trans q5⟩⟩)
                  exact AllReadyIn.nil
                exact AllReadyIn.nil
              exact AllReadyIn.nil
            exact AllReadyIn.nil
          exact AllReadyIn.nil
        refine AllReadyIn.cons rfl (fun K hK => ?_) ?_
        · go_simp
          refine hK _ _ ?_
          clear hK K
          refine wpAnyIn_ready (rs := [2]) (by kernel_rfl) (by simp) ?_
          refine AllReadyIn.cons rfl (fun K hK => ?_) ?_
          · go_simp
            refine hK _ _ ?_
            clear hK K
            refine wpAnyIn_ready (rs := [4]) (by kernel_rfl) (by simp) ?_
            refine AllReadyIn.cons rfl (fun K hK => ?_) ?_
            · refine stepIn_appendL _ rfl _ _ 22 rfl w.heap.size 24 i0 _ 2 32 Try.underlying22 hi hz0 hz1 hz2 rfl (by decide) (.slice ov pre.length cv) pre.length _ rfl (hr2.alloc _) ⟨Wd.heap.size, 0, none⟩ 1 1 [.int .i64 0, .slice none 0 0] rfl rfl hsrc hone (by unfold maxLen; omega) (by omega) (by simp; omega) ?_
              intro v2 w6 hown6 hgrow6 hat6
              obtain ⟨g2, cap2, rfl⟩ := ownsRow_succ hown6
              obtain ⟨hne6, cB6, fB6, cE0, cE1, fE6, HD6⟩ := bodyG_done (e0 := .int .i64 xt.r) (e1 := .slice xoa xt.l.length xcap) bL2 hsW (Nat.le_refl _) hr2 hown6 hgrow6 hat6
              have fB0 := fB6 0
              have f0 := fE6 (pre.length * 2)
              have f1 := fE6 (pre.length * 2 + 1)
              have xB : ∀ x y, ((w6.setCell ⟨g2, pre.length * 2, none⟩ x).setCell ⟨g2, pre.length * 2 + 1, none⟩ y).cell? ⟨w.heap.size, 0, none⟩ = some (.slice ov pre.length cv) := fun x y => by rw [World.cell?_setCell_other _ _ _ _ (by simp), World.cell?_setCell_other _ _ _ _ (by simp)]; exact cB6
              have yB : ∀ x y, ((w6.setCell ⟨g2, pre.length * 2, none⟩ x).setCell ⟨g2, pre.length * 2 + 1, none⟩ y).frozen? ⟨w.heap.size, 0, none⟩ = false := fun x y => by rw [World.frozen?_setCell, World.frozen?_setCell]; exact fB0
              have u0 : ∀ x, (w6.setCell ⟨w.heap.size, 0, none⟩ x).cell? ⟨g2, pre.length * 2, none⟩ = some (.int .i64 0) := fun x => by rw [World.cell?_setCell_other _ _ _ _ (by simp)]; exact cE0
              have u1 : ∀ x, (w6.setCell ⟨w.heap.size, 0, none⟩ x).cell? ⟨g2, pre.length * 2 + 1, none⟩ = some (.slice none 0 0) := fun x => by rw [World.cell?_setCell_other _ _ _ _ (by simp)]; exact cE1
              have g0 : ∀ x, (w6.setCell ⟨w.heap.size, 0, none⟩ x).frozen? ⟨g2, pre.length * 2, none⟩ = false := fun x => by rw [World.frozen?_setCell]; exact f0
              have g1 : ∀ x, (w6.setCell ⟨w.heap.size, 0, none⟩ x).frozen? ⟨g2, pre.length * 2 + 1, none⟩ = false := fun x => by rw [World.frozen?_setCell]; exact f1
              have hcm : ∀ x y z, ((w6.setCell ⟨w.heap.size, 0, none⟩ z).setCell ⟨g2, pre.length * 2, none⟩ x).setCell ⟨g2, pre.length * 2 + 1, none⟩ y = ((w6.setCell ⟨g2, pre.length * 2, none⟩ x).setCell ⟨g2, pre.length * 2 + 1, none⟩ y).setCell ⟨w.heap.size, 0, none⟩ z := fun x y z => by
                rw [setCell_comm w6 _ _ _ _ (by show w.heap.size ≠ g2; exact hne6.symm), setCell_comm (w6.setCell _ _) _ _ _ _ (by show w.heap.size ≠ g2; exact hne6.symm)]
              have HCM := Lib.hid hcm
              clear hcm fB6 fE6 hown6 hgrow6 hat6
              refine hK _ _ ?_
              clear hK K
              refine wpAnyIn_ready (rs := [5, 7]) (by kernel_rfl) (by simp) ?_
              refine AllReadyIn.cons rfl (fun K hK => ?_) ?_
              · go_simp
                refine hK _ _ ?_
                clear hK K
                refine wpAnyIn_ready (rs := [6, 7]) (by kernel_rfl) (by simp) ?_
                refine AllReadyIn.cons rfl (fun K hK => ?_) ?_
                · go_simp
                  refine hK _ _ ?_
                  clear hK K
                  refine wpAnyIn_ready (rs := [7]) (by kernel_rfl) (by simp) ?_
                  refine AllReadyIn.cons rfl (fun K hK => ?_) ?_
                  · go_simp
                    refine hK _ _ ?_
                    clear hK K
                    refine wpAnyIn_done (by kernel_rfl) ?_ _
                    obtain ⟨q1, q2, q3, q4, q5⟩ := HD6.out
                    first
                      | exact ⟨(hWk _).trans (q1 _), hWq.trans q2, ⟨⟨_, q3, by rw [List.length_append, flatN_snoc]; exact q4, trivial⟩, hB2'.trans q5⟩⟩
                      | (rw [HCM.out]; exact ⟨(hWk _).trans (q1 _), hWq.trans q2, ⟨⟨_, q3, by rw [List.length_append, flatN_snoc]; exact q4, trivial⟩, hB2'.trans q5⟩⟩)
                  exact AllReadyIn.nil
                refine AllReadyIn.cons rfl (fun K hK => ?_) ?_
                · go_simp
                  refine hK _ _ ?_
                  clear hK K
                  refine wpAnyIn_ready (rs := [6]) (by kernel_rfl) (by simp) ?_
                  refine AllReadyIn.cons rfl (fun K hK => ?_) ?_
                  · go_simp
                    refine hK _ _ ?_
                    clear hK K
                    refine wpAnyIn_done (by kernel_rfl) ?_ _
                    obtain ⟨q1, q2, q3, q4, q5⟩ := HD6.out
                    first
                      | exact ⟨(hWk _).trans (q1 _), hWq.trans q2, ⟨⟨_, q3, by rw [List.length_append, flatN_snoc]; exact q4, trivial⟩, hB2'.trans q5⟩⟩
                      | (rw [HCM.out]; exact ⟨(hWk _).trans (q1 _), hWq.trans q2, ⟨⟨_, q3, by rw [List.length_append, flatN_snoc]; exact q4, trivial⟩, hB2'.trans q5⟩⟩)
                  exact AllReadyIn.nil
                exact AllReadyIn.nil
              refine AllReadyIn.cons rfl (fun K hK => ?_) ?_
              · go_simp
                refine hK _ _ ?_
                clear hK K
                refine wpAnyIn_ready (rs := [5]) (by kernel_rfl) (by simp) ?_
                refine AllReadyIn.cons rfl (fun K hK => ?_) ?_
                · go_simp
                  refine hK _ _ ?_
                  clear hK K
                  refine wpAnyIn_ready (rs := [6]) (by kernel_rfl) (by simp) ?_
                  refine AllReadyIn.cons rfl (fun K hK => ?_) ?_
                  · go_simp
                    refine hK _ _ ?_
                    clear hK K
                    refine wpAnyIn_done (by kernel_rfl) ?_ _
                    obtain ⟨q1, q2, q3, q4, q5⟩ := HD6.out
                    first
                      | exact ⟨(hWk _).trans (q1 _), hWq.trans q2, ⟨⟨_, q3, by rw [List.length_append, flatN_snoc]; exact q4, trivial⟩, hB2'.trans q5⟩⟩
                      | (rw [HCM.out]; exact ⟨(hWk _).trans (q1 _), hWq.trans q2, ⟨⟨_, q3, by rw [List.length_append, flatN_snoc]; exact q4, trivial⟩, hB2'.trans q5⟩⟩)
                  exact AllReadyIn.nil
                exact AllReadyIn.nil
              exact AllReadyIn.nil
            exact AllReadyIn.nil
          exact AllReadyIn.nil
        exact AllReadyIn.nil
      refine AllReadyIn.cons rfl (fun K hK => ?_) ?_
      · go_simp
        refine hK _ _ ?_
        clear hK K
        refine wpAnyIn_ready (rs := [1, 3]) (by kernel_rfl) (by simp) ?_
        refine AllReadyIn.cons rfl (fun K hK => ?_) ?_
        · go_simp
          refine hK _ _ ?_
          clear hK K
          refine wpAnyIn_ready (rs := [3]) (by kernel_rfl) (by simp) ?_
          refine AllReadyIn.cons rfl (fun K hK => ?_) ?_
          · go_simp
            refine hK _ _ ?_
            clear hK K
            refine wpAnyIn_ready (rs := [4]) (by kernel_rfl) (by simp) ?_
            refine AllReadyIn.cons rfl (fun K hK => ?_) ?_
            · refine stepIn_appendL _ rfl _ _ 22 rfl w.heap.size 24 i0 _ 2 32 Try.underlying22 hi hz0 hz1 hz2 rfl (by decide) (.slice ov pre.length cv) pre.length _ rfl (hr2.alloc _) ⟨Wd.heap.size, 0, none⟩ 1 1 [.int .i64 0, .slice none 0 0] rfl rfl hsrc hone (by unfold maxLen; omega) (by omega) (by simp; omega) ?_
              intro v2 w6 hown6 hgrow6 hat6
              obtain ⟨g2, cap2, rfl⟩ := ownsRow_succ hown6
              obtain ⟨hne6, cB6, fB6, cE0, cE1, fE6, HD6⟩ := bodyG_done (e0 := .int .i64 xt.r) (e1 := .slice xoa xt.l.length xcap) bL2 hsW (Nat.le_refl _) hr2 hown6 hgrow6 hat6
              have fB0 := fB6 0
              have f0 := fE6 (pre.length * 2)
              have f1 := fE6 (pre.length * 2 + 1)
              have xB : ∀ x y, ((w6.setCell ⟨g2, pre.length * 2, none⟩ x).setCell ⟨g2, pre.length * 2 + 1, none⟩ y).cell? ⟨w.heap.size, 0, none⟩ = some (.slice ov pre.length cv) := fun x y => by rw [World.cell?_setCell_other _ _ _ _ (by simp), World.cell?_setCell_other _ _ _ _ (by simp)]; exact cB6
              have yB : ∀ x y, ((w6.setCell ⟨g2, pre.length * 2, none⟩ x).setCell ⟨g2, pre.length * 2 + 1, none⟩ y).frozen? ⟨w.heap.size, 0, none⟩ = false := fun x y => by rw [World.frozen?_setCell, World.frozen?_setCell]; exact fB0
              have u0 : ∀ x, (w6.setCell ⟨w.heap.size, 0, none⟩ x).cell? ⟨g2, pre.length * 2, none⟩ = some (.int .i64 0) := fun x => by rw [World.cell?_setCell_other _ _ _ _ (by simp)]; exact cE0
              have u1 : ∀ x, (w6.setCell ⟨w.heap.size, 0, none⟩ x).cell? ⟨g2, pre.length * 2 + 1, none⟩ = some (.slice none 0 0) := fun x => by rw [World.cell?_setCell_other _ _ _ _ (by simp)]; exact cE1
              have g0 : ∀ x, (w6.setCell ⟨w.heap.size, 0, none⟩ x).frozen? ⟨g2, pre.length * 2, none⟩ = false := fun x => by rw [World.frozen?_setCell]; exact f0
              have g1 : ∀ x, (w6.setCell ⟨w.heap.size, 0, none⟩ x).frozen? ⟨g2, pre.length * 2 + 1, none⟩ = false := fun x => by rw [World.frozen?_setCell]; exact f1
              have hcm : ∀ x y z, ((w6.setCell ⟨w.heap.size, 0, none⟩ z).setCell ⟨g2, pre.length * 2, none⟩ x).setCell ⟨g2, pre.length * 2 + 1, none⟩ y = ((w6.setCell ⟨g2, pre.length * 2, none⟩ x).setCell ⟨g2, pre.length * 2 + 1, none⟩ y).setCell ⟨w.heap.size, 0, none⟩ z := fun x y z => by
                rw [setCell_comm w6 _ _ _ _ (by show w.heap.size ≠ g2; exact hne6.symm), setCell_comm (w6.setCell _ _) _ _ _ _ (by show w.heap.size ≠ g2; exact hne6.symm)]
              have HCM := Lib.hid hcm
              clear hcm fB6 fE6 hown6 hgrow6 hat6
              refine hK _ _ ?_
              clear hK K
              refine wpAnyIn_ready (rs := [5, 7]) (by kernel_rfl) (by simp) ?_
              refine AllReadyIn.cons rfl (fun K hK => ?_) ?_
              · go_simp
                refine hK _ _ ?_
                clear hK K
                refine wpAnyIn_ready (rs := [6, 7]) (by kernel_rfl) (by simp) ?_
                refine AllReadyIn.cons rfl (fun K hK => ?_) ?_
                · go_simp
                  refine hK _ _ ?_
                  clear hK K
                  refine wpAnyIn_ready (rs := [7]) (by kernel_rfl) (by simp) ?_
                  refine AllReadyIn.cons rfl (fun K hK => ?_) ?_
                  · go_simp
                    refine hK _ _ ?_
                    clear hK K
                    refine wpAnyIn_done (by kernel_rfl) ?_ _
                    obtain ⟨q1, q2, q3, q4, q5⟩ := HD6.out
                    first
                      | exact ⟨(hWk _).trans (q1 _), hWq.trans q2, ⟨⟨_, q3, by rw [List.length_append, flatN_snoc]; exact q4, trivial⟩, hB2'.trans q5⟩⟩
                      | (rw [HCM.out]; exact ⟨(hWk _).trans (q1 _), hWq.trans q2, ⟨⟨_, q3, by rw [List.length_append, flatN_snoc]; exact q4, trivial⟩, hB2'.trans q5⟩⟩)
                  exact AllReadyIn.nil
                refine AllReadyIn.cons rfl (fun K hK => ?_) ?_
                · go_simp
                  refine hK _ _ ?_
                  clear hK K
                  refine wpAnyIn_ready (rs := [6]) (by kernel_rfl) (by simp) ?_
                  refine AllReadyIn.cons rfl (fun K hK => ?_) ?_
                  · go_simp
                    refine hK _ _ ?_
                    clear hK K
                    refine wpAnyIn_done (by kernel_rfl) ?_ _
                    obtain ⟨q1, q2, q3, q4, q5⟩ := HD6.out
                    first
                      | exact ⟨(hWk _).trans (q1 _), hWq.trans q2, ⟨⟨_, q3, by rw [List.length_append, flatN_snoc]; exact q4, trivial⟩, hB2'.trans q5⟩⟩
                      | (rw [HCM.out]; exact ⟨(hWk _).trans (q1 _), hWq.trans q2, ⟨⟨_, q3, by rw [List.length_append, flatN_snoc]; exact q4, trivial⟩, hB2'.trans q5⟩⟩)
                  exact AllReadyIn.nil
                exact AllReadyIn.nil
              refine AllReadyIn.cons rfl (fun K hK => ?_) ?_
              · go_simp
                refine hK _ _ ?_
                clear hK K
                refine wpAnyIn_ready (rs := [5]) (by kernel_rfl) (by simp) ?_
                refine AllReadyIn.cons rfl (fun K hK => ?_) ?_
                · go_simp
                  refine hK _ _ ?_
                  clear hK K
                  refine wpAnyIn_ready (rs := [6]) (by kernel_rfl) (by simp) ?_
                  refine AllReadyIn.cons rfl (fun K hK => ?_) ?_
                  · go_simp
                    refine hK _ _ ?_
                    clear hK K
                    refine wpAnyIn_done (by kernel_rfl) ?_ _
                    obtain ⟨q1, q2, q3, q4, q5⟩ := HD6.out
                    first
                      | exact ⟨(hWk _).trans (q1 _), hWq.trans q2, ⟨⟨_, q3, by rw [List.length_append, flatN_snoc]; exact q4, trivial⟩, hB2'.trans q5⟩⟩
                      | (rw [HCM.out]; exact ⟨(hWk _).trans (q1 _), hWq.trans q2, ⟨⟨_, q3, by rw [List.length_append, flatN_snoc]; exact q4, trivial⟩, hB2'.trans q5⟩⟩)
                  exact AllReadyIn.nil
                exact AllReadyIn.nil
              exact AllReadyIn.nil
            exact AllReadyIn.nil
          exact AllReadyIn.nil
        refine AllReadyIn.cons rfl (fun K hK => ?_) ?_
        · go_simp
          refine hK _ _ ?_
          clear hK K
          refine wpAnyIn_ready (rs := [1]) (by kernel_rfl) (by simp) ?_
          refine AllReadyIn.cons rfl (fun K hK => ?_) ?_
          · go_simp
            refine hK _ _ ?_
            clear hK K
            refine wpAnyIn_ready (rs := [4]) (by kernel_rfl) (by simp) ?_
            refine AllReadyIn.cons rfl (fun K hK => ?_) ?_
            · refine stepIn_appendL _ rfl _ _ 22 rfl w.heap.size 24 i0 _ 2 32 Try.underlying22 hi hz0 hz1 hz2 rfl (by decide) (.slice ov pre.length cv) pre.length _ rfl (hr2.alloc _) ⟨Wd.heap.size, 0, none⟩ 1 1 [.int .i64 0, .slice none 0 0] rfl rfl hsrc hone (by unfold maxLen; omega) (by omega) (by simp; omega) ?_
              intro v2 w6 hown6 hgrow6 hat6
              obtain ⟨g2, cap2, rfl⟩ := ownsRow_succ hown6
              obtain ⟨hne6, cB6, fB6, cE0, cE1, fE6, HD6⟩ := bodyG_done (e0 := .int .i64 xt.r) (e1 := .slice xoa xt.l.length xcap) bL2 hsW (Nat.le_refl _) hr2 hown6 hgrow6 hat6
              have fB0 := fB6 0
              have f0 := fE6 (pre.length * 2)
              have f1 := fE6 (pre.length * 2 + 1)
              have xB : ∀ x y, ((w6.setCell ⟨g2, pre.length * 2, none⟩ x).setCell ⟨g2, pre.length * 2 + 1, none⟩ y).cell? ⟨w.heap.size, 0, none⟩ = some (.slice ov pre.length cv) := fun x y => by rw [World.cell?_setCell_other _ _ _ _ (by simp), World.cell?_setCell_other _ _ _ _ (by simp)]; exact cB6
              have yB : ∀ x y, ((w6.setCell ⟨g2, pre.length * 2, none⟩ x).setCell ⟨g2, pre.length * 2 + 1, none⟩ y).frozen? ⟨w.heap.size, 0, none⟩ = false := fun x y => by rw [World.frozen?_setCell, World.frozen?_setCell]; exact fB0
              have u0 : ∀ x, (w6.setCell ⟨w.heap.size, 0, none⟩ x).cell? ⟨g2, pre.length * 2, none⟩ = some (.int .i64 0) := fun x => by rw [World.cell?_setCell_other _ _ _ _ (by simp)]; exact cE0
              have u1 : ∀ x, (w6.setCell ⟨w.heap.size, 0, none⟩ x).cell? ⟨g2, pre.length * 2 + 1, none⟩ = some (.slice none 0 0) := fun x => by rw [World.cell?_setCell_other _ _ _ _ (by simp)]; exact cE1
              have g0 : ∀ x, (w6.setCell ⟨w.heap.size, 0, none⟩ x).frozen? ⟨g2, pre.length * 2, none⟩ = false := fun x => by rw [World.frozen?_setCell]; exact f0
              have g1 : ∀ x, (w6.setCell ⟨w.heap.size, 0, none⟩ x).frozen? ⟨g2, pre.length * 2 + 1, none⟩ = false := fun x => by rw [World.frozen?_setCell]; exact f1
              have hcm : ∀ x y z, ((w6.setCell ⟨w.heap.size, 0, none⟩ z).setCell ⟨g2, pre.length * 2, none⟩ x).setCell ⟨g2, pre.length * 2 + 1, none⟩ y = ((w6.setCell ⟨g2, pre.length * 2, none⟩ x).setCell ⟨g2, pre.length * 2 + 1, none⟩ y).setCell ⟨w.heap.size, 0, none⟩ z := fun x y z => by
                rw [setCell_comm w6 _ _ _ _ (by show w.heap.size ≠ g2; exact hne6.symm), setCell_comm (w6.setCell _ _) _ _ _ _ (by show w.heap.size ≠ g2; exact hne6.symm)]
              have HCM := Lib.hid hcm
              clear hcm fB6 fE6 hown6 hgrow6 hat6
              refine hK _ _ ?_
              clear hK K
              refine wpAnyIn_ready (rs := [5, 7]) (by kernel_rfl) (by simp) ?_
              refine AllReadyIn.cons rfl (fun K hK => ?_) ?_
              · go_simp
                refine hK _ _ ?_
                clear hK K
                refine wpAnyIn_ready (rs := [6, 7]) (by kernel_rfl) (by simp) ?_
                refine AllReadyIn.cons rfl (fun K hK => ?_) ?_
                · go_simp
                  refine hK _ _ ?_
                  clear hK K
                  refine wpAnyIn_ready (rs := [7]) (by kernel_rfl) (by simp) ?_
                  refine AllReadyIn.cons rfl (fun K hK => ?_) ?_
                  · go_simp
                    refine hK _ _ ?_
                    clear hK K
                    refine wpAnyIn_done (by kernel_rfl) ?_ _
                    obtain ⟨q1, q2, q3, q4, q5⟩ := HD6.out
                    first
                      | exact ⟨(hWk _).trans (q1 _), hWq.trans q2, ⟨⟨_, q3, by rw [List.length_append, flatN_snoc]; exact q4, trivial⟩, hB2'.trans q5⟩⟩
                      | (rw [HCM.out]; exact ⟨(hWk _).trans (q1 _), hWq.trans q2, ⟨⟨_, q3, by rw [List.length_append, flatN_snoc]; exact q4, trivial⟩, hB2'.trans q5⟩⟩)
                  exact AllReadyIn.nil
                refine AllReadyIn.cons rfl (fun K hK => ?_) ?_
                · go_simp
                  refine hK _ _ ?_
                  clear hK K
                  refine wpAnyIn_ready (rs := [6]) (by kernel_rfl) (by simp) ?_
                  refine AllReadyIn.cons rfl (fun K hK => ?_) ?_
                  · go_simp
                    refine hK _ _ ?_
                    clear hK K
                    refine wpAnyIn_done (by kernel_rfl) ?_ _
                    obtain ⟨q1, q2, q3, q4, q5⟩ := HD6.out
                    first
                      | exact ⟨(hWk _).trans (q1 _), hWq.trans q2, ⟨⟨_, q3, by rw [List.length_append, flatN_snoc]; exact q4, trivial⟩, hB2'.trans q5⟩⟩
                      | (rw [HCM.out]; exact ⟨(hWk _).trans (q1 _), hWq.trans q2, ⟨⟨_, q3, by rw [List.length_append, flatN_snoc]; exact q4, trivial⟩, hB2'.trans q5⟩⟩)
                  exact AllReadyIn.nil
                exact AllReadyIn.nil
              refine AllReadyIn.cons rfl (fun K hK => ?_) ?_
              · go_simp
                refine hK _ _ ?_
                clear hK K
                refine wpAnyIn_ready (rs := [5]) (by kernel_rfl) (by simp) ?_
                refine AllReadyIn.cons rfl (fun K hK => ?_) ?_
                · go_simp
                  refine hK _ _ ?_
                  clear hK K
                  refine wpAnyIn_ready (rs := [6]) (by kernel_rfl) (by simp) ?_
                  refine AllReadyIn.cons rfl (fun K hK => ?_) ?_
                  · go_simp
                    refine hK _ _ ?_
                    clear hK K
                    refine wpAnyIn_done (by kernel_rfl) ?_ _
                    obtain ⟨q1, q2, q3, q4, q5⟩ := HD6.out
                    first
                      | exact ⟨(hWk _).trans (q1 _), hWq.trans q2, ⟨⟨_, q3, by rw [List.length_append, flatN_snoc]; exact q4, trivial⟩, hB2'.trans q5⟩⟩
                      | (rw [HCM.out]; exact ⟨(hWk _).trans (q1 _), hWq.trans q2, ⟨⟨_, q3, by rw [List.length_append, flatN_snoc]; exact q4, trivial⟩, hB2'.trans q5⟩⟩)
                  exact AllReadyIn.nil
                exact AllReadyIn.nil
              exact AllReadyIn.nil
            exact AllReadyIn.nil
          exact AllReadyIn.nil
        exact AllReadyIn.nil
      refine AllReadyIn.cons rfl (fun K hK => ?_) ?_
      · go_simp
        refine hK _ _ ?_
        clear hK K
        refine wpAnyIn_ready (rs := [1, 2]) (by kernel_rfl) (by simp) ?_
        refine AllReadyIn.cons rfl (fun K hK => ?_) ?_
        · go_simp
          refine hK _ _ ?_
          clear hK K
          refine wpAnyIn_ready (rs := [2]) (by kernel_rfl) (by simp) ?_
          refine AllReadyIn.cons rfl (fun K hK => ?_) ?_
          · go_simp
            refine hK _ _ ?_
            clear hK K
            refine wpAnyIn_ready (rs := [4]) (by kernel_rfl) (by simp) ?_
            refine AllReadyIn.cons rfl (fun K hK => ?_) ?_
            · refine stepIn_appendL _ rfl _ _ 22 rfl w.heap.size 24 i0 _ 2 32 Try.underlying22 hi hz0 hz1 hz2 rfl (by decide) (.slice ov pre.length cv) pre.length _ rfl (hr2.alloc _) ⟨Wd.heap.size, 0, none⟩ 1 1 [.int .i64 0, .slice none 0 0] rfl rfl hsrc hone (by unfold maxLen; omega) (by omega) (by simp; omega) ?_
              intro v2 w6 hown6 hgrow6 hat6
              obtain ⟨g2, cap2, rfl⟩ := ownsRow_succ hown6
              obtain ⟨hne6, cB6, fB6, cE0, cE1, fE6, HD6⟩ := bodyG_done (e0 := .int .i64 xt.r) (e1 := .slice xoa xt.l.length xcap) bL2 hsW (Nat.le_refl _) hr2 hown6 hgrow6 hat6
              have fB0 := fB6 0
              have f0 := fE6 (pre.length * 2)
              have f1 := fE6 (pre.length * 2 + 1)
              have xB : ∀ x y, ((w6.setCell ⟨g2, pre.length * 2, none⟩ x).setCell ⟨g2, pre.length * 2 + 1, none⟩ y).cell? ⟨w.heap.size, 0, none⟩ = some (.slice ov pre.length cv) := fun x y => by rw [World.cell?_setCell_other _ _ _ _ (by simp), World.cell?_setCell_other _ _ _ _ (by simp)]; exact cB6
              have yB : ∀ x y, ((w6.setCell ⟨g2, pre.length * 2, none⟩ x).setCell ⟨g2, pre.length * 2 + 1, none⟩ y).frozen? ⟨w.heap.size, 0, none⟩ = false := fun x y => by rw [World.frozen?_setCell, World.frozen?_setCell]; exact fB0
              have u0 : ∀ x, (w6.setCell ⟨w.heap.size, 0, none⟩ x).cell? ⟨g2, pre.length * 2, none⟩ = some (.int .i64 0) := fun x => by rw [World.cell?_setCell_other _ _ _ _ (by simp)]; exact cE0
              have u1 : ∀ x, (w6.setCell ⟨w.heap.size, 0, none⟩ x).cell? ⟨g2, pre.length * 2 + 1, none⟩ = some (.slice none 0 0) := fun x => by rw [World.cell?_setCell_other _ _ _ _ (by simp)]; exact cE1
              have g0 : ∀ x, (w6.setCell ⟨w.heap.size, 0, none⟩ x).frozen? ⟨g2, pre.length * 2, none⟩ = false := fun x => by rw [World.frozen?_setCell]; exact f0
              have g1 : ∀ x, (w6.setCell ⟨w.heap.size, 0, none⟩ x).frozen? ⟨g2, pre.length * 2 + 1, none⟩ = false := fun x => by rw [World.frozen?_setCell]; exact f1
              have hcm : ∀ x y z, ((w6.setCell ⟨w.heap.size, 0, none⟩ z).setCell ⟨g2, pre.length * 2, none⟩ x).setCell ⟨g2, pre.length * 2 + 1, none⟩ y = ((w6.setCell ⟨g2, pre.length * 2, none⟩ x).setCell ⟨g2, pre.length * 2 + 1, none⟩ y).setCell ⟨w.heap.size, 0, none⟩ z := fun x y z => by
                rw [setCell_comm w6 _ _ _ _ (by show w.heap.size ≠ g2; exact hne6.symm), setCell_comm (w6.setCell _ _) _ _ _ _ (by show w.heap.size ≠ g2; exact hne6.symm)]
              have HCM := Lib.hid hcm
              clear hcm fB6 fE6 hown6 hgrow6 hat6
              refine hK _ _ ?_
              clear hK K
              refine wpAnyIn_ready (rs := [5, 7]) (by kernel_rfl) (by simp) ?_
              refine AllReadyIn.cons rfl (fun K hK => ?_) ?_
              · go_simp
                refine hK _ _ ?_
                clear hK K
                refine wpAnyIn_ready (rs := [6, 7]) (by kernel_rfl) (by simp) ?_
                refine AllReadyIn.cons rfl (fun K hK => ?_) ?_
                · go_simp
                  refine hK _ _ ?_
                  clear hK K
                  refine wpAnyIn_ready (rs := [7]) (by kernel_rfl) (by simp) ?_
                  refine AllReadyIn.cons rfl (fun K hK => ?_) ?_
                  · go_simp
                    refine hK _ _ ?_
                    clear hK K
                    refine wpAnyIn_done (by kernel_rfl) ?_ _
                    obtain ⟨q1, q2, q3, q4, q5⟩ := HD6.out
                    first
                      | exact ⟨(hWk _).trans (q1 _), hWq.trans q2, ⟨⟨_, q3, by rw [List.length_append, flatN_snoc]; exact q4, trivial⟩, hB2'.trans q5⟩⟩
                      | (rw [HCM.out]; exact ⟨(hWk _).trans (q1 _), hWq.trans q2, ⟨⟨_, q3, by rw [List.length_append, flatN_snoc]; exact q4, trivial⟩, hB2'.trans q5⟩⟩)
                  exact AllReadyIn.nil
                refine AllReadyIn.cons rfl (fun K hK => ?_) ?_
                · go_simp
                  refine hK _ _ ?_
                  clear hK K
                  refine wpAnyIn_ready (rs := [6]) (by kernel_rfl) (by simp) ?_
                  refine AllReadyIn.cons rfl (fun K hK => ?_) ?_
                  · go_simp
                    refine hK _ _ ?_
                    clear hK K
                    refine wpAnyIn_done (by kernel_rfl) ?_ _
                    obtain ⟨q1, q2, q3, q4, q5⟩ := HD6.out
                    first
                      | exact ⟨(hWk _).trans (q1 _), hWq.trans q2, ⟨⟨_, q3, by rw [List.length_append, flatN_snoc]; exact q4, trivial⟩, hB2'.trans q5⟩⟩
                      | (rw [HCM.out]; exact ⟨(hWk _).trans (q1 _), hWq.trans q2, ⟨⟨_, q3, by rw [List.length_append, flatN_snoc]; exact q4, trivial⟩, hB2'.trans q5⟩⟩)
                  exact AllReadyIn.nil
                exact AllReadyIn.nil
              refine AllReadyIn.cons rfl (fun K hK => ?_) ?_
              · go_simp
                refine hK _ _ ?_
                clear hK K
                refine wpAnyIn_ready (rs := [5]) (by kernel_rfl) (by simp) ?_
                refine AllReadyIn.cons rfl (fun K hK => ?_) ?_
                · go_simp
                  refine hK _ _ ?_
                  clear hK K
                  refine wpAnyIn_ready (rs := [6]) (by kernel_rfl) (by simp) ?_
                  refine AllReadyIn.cons rfl (fun K hK => ?_) ?_
                  · go_simp
                    refine hK _ _ ?_
                    clear hK K
                    refine wpAnyIn_done (by kernel_rfl) ?_ _
                    obtain ⟨q1, q2, q3, q4, q5⟩ := HD6.out
                    first
                      | exact ⟨(hWk _).trans (q1 _), hWq.trans q2, ⟨⟨_, q3, by rw [List.length_append, flatN_snoc]; exact q4, trivial⟩, hB2'.trans q5⟩⟩
                      | (rw [HCM.out]; exact ⟨(hWk _).trans (q1 _), hWq.trans q2, ⟨⟨_, q3, by rw [List.length_append, flatN_snoc]; exact q4, trivial⟩, hB2'.trans q5⟩⟩)
                  exact AllReadyIn.nil
                exact AllReadyIn.nil
              exact AllReadyIn.nil
            exact AllReadyIn.nil
          exact AllReadyIn.nil
        refine AllReadyIn.cons rfl (fun K hK => ?_) ?_
        · go_simp
          refine hK _ _ ?_
          clear hK K
          refine wpAnyIn_ready (rs := [1]) (by kernel_rfl) (by simp) ?_
          refine AllReadyIn.cons rfl (fun K hK => ?_) ?_
          · go_simp
            refine hK _ _ ?_
            clear hK K
            refine wpAnyIn_ready (rs := [4]) (by kernel_rfl) (by simp) ?_
            refine AllReadyIn.cons rfl (fun K hK => ?_) ?_
            · refine stepIn_appendL _ rfl _ _ 22 rfl w.heap.size 24 i0 _ 2 32 Try.underlying22 hi hz0 hz1 hz2 rfl (by decide) (.slice ov pre.length cv) pre.length _ rfl (hr2.alloc _) ⟨Wd.heap.size, 0, none⟩ 1 1 [.int .i64 0, .slice none 0 0] rfl rfl hsrc hone (by unfold maxLen; omega) (by omega) (by simp; omega) ?_
              intro v2 w6 hown6 hgrow6 hat6
              obtain ⟨g2, cap2, rfl⟩ := ownsRow_succ hown6
              obtain ⟨hne6, cB6, fB6, cE0, cE1, fE6, HD6⟩ := bodyG_done (e0 := .int .i64 xt.r) (e1 := .slice xoa xt.l.length xcap) bL2 hsW (Nat.le_refl _) hr2 hown6 hgrow6 hat6
              have fB0 := fB6 0
              have f0 := fE6 (pre.length * 2)
              have f1 := fE6 (pre.length * 2 + 1)
              have xB : ∀ x y, ((w6.setCell ⟨g2, pre.length * 2, none⟩ x).setCell ⟨g2, pre.length * 2 + 1, none⟩ y).cell? ⟨w.heap.size, 0, none⟩ = some (.slice ov pre.length cv) := fun x y => by rw [World.cell?_setCell_other _ _ _ _ (by simp), World.cell?_setCell_other _ _ _ _ (by simp)]; exact cB6
              have yB : ∀ x y, ((w6.setCell ⟨g2, pre.length * 2, none⟩ x).setCell ⟨g2, pre.length * 2 + 1, none⟩ y).frozen? ⟨w.heap.size, 0, none⟩ = false := fun x y => by rw [World.frozen?_setCell, World.frozen?_setCell]; exact fB0
              have u0 : ∀ x, (w6.setCell ⟨w.heap.size, 0, none⟩ x).cell? ⟨g2, pre.length * 2, none⟩ = some (.int .i64 0) := fun x => by rw [World.cell?_setCell_other _ _ _ _ (by simp)]; exact cE0
              have u1 : ∀ x, (w6.setCell ⟨w.heap.size, 0, none⟩ x).cell? ⟨g2, pre.length * 2 + 1, none⟩ = some (.slice none 0 0) := fun x => by rw [World.cell?_setCell_other _ _ _ _ (by simp)]; exact cE1
              have g0 : ∀ x, (w6.setCell ⟨w.heap.size, 0, none⟩ x).frozen? ⟨g2, pre.length * 2, none⟩ = false := fun x => by rw [World.frozen?_setCell]; exact f0
              have g1 : ∀ x, (w6.setCell ⟨w.heap.size, 0, none⟩ x).frozen? ⟨g2, pre.length * 2 + 1, none⟩ = false := fun x => by rw [World.frozen?_setCell]; exact f1
              have hcm : ∀ x y z, ((w6.setCell ⟨w.heap.size, 0, none⟩ z).setCell ⟨g2, pre.length * 2, none⟩ x).setCell ⟨g2, pre.length * 2 + 1, none⟩ y = ((w6.setCell ⟨g2, pre.length * 2, none⟩ x).setCell ⟨g2, pre.length * 2 + 1, none⟩ y).setCell ⟨w.heap.size, 0, none⟩ z := fun x y z => by
                rw [setCell_comm w6 _ _ _ _ (by show w.heap.size ≠ g2; exact hne6.symm), setCell_comm (w6.setCell _ _) _ _ _ _ (by show w.heap.size ≠ g2; exact hne6.symm)]
              have HCM := Lib.hid hcm
              clear hcm fB6 fE6 hown6 hgrow6 hat6
              refine hK _ _ ?_
              clear hK K
              refine wpAnyIn_ready (rs := [5, 7]) (by kernel_rfl) (by simp) ?_
              refine AllReadyIn.cons rfl (fun K hK => ?_) ?_
              · go_simp
                refine hK _ _ ?_
                clear hK K
                refine wpAnyIn_ready (rs := [6, 7]) (by kernel_rfl) (by simp) ?_
                refine AllReadyIn.cons rfl (fun K hK => ?_) ?_
                · go_simp
                  refine hK _ _ ?_
                  clear hK K
                  refine wpAnyIn_ready (rs := [7]) (by kernel_rfl) (by simp) ?_
                  refine AllReadyIn.cons rfl (fun K hK => ?_) ?_
                  · go_simp
                    refine hK _ _ ?_
                    clear hK K
                    refine wpAnyIn_done (by kernel_rfl) ?_ _
                    obtain ⟨q1, q2, q3, q4, q5⟩ := HD6.out
                    first
                      | exact ⟨(hWk _).trans (q1 _), hWq.trans q2, ⟨⟨_, q3, by rw [List.length_append, flatN_snoc]; exact q4, trivial⟩, hB2'.trans q5⟩⟩
                      | (rw [HCM.out]; exact ⟨(hWk _).trans (q1 _), hWq.trans q2, ⟨⟨_, q3, by rw [List.length_append, flatN_snoc]; exact q4, trivial⟩, hB2'.trans q5⟩⟩)
                  exact AllReadyIn.nil
                refine AllReadyIn.cons rfl (fun K hK => ?_) ?_
                · go_simp
                  refine hK _ _ ?_
                  clear hK K
                  refine wpAnyIn_ready (rs := [6]) (by kernel_rfl) (by simp) ?_
                  refine AllReadyIn.cons rfl (fun K hK => ?_) ?_
                  · go_simp
                    refine hK _ _ ?_
                    clear hK K
                    refine wpAnyIn_done (by kernel_rfl) ?_ _
                    obtain ⟨q1, q2, q3, q4, q5⟩ := HD6.out
                    first
                      | exact ⟨(hWk _).trans (q1 _), hWq.trans q2, ⟨⟨_, q3, by rw [List.length_append, flatN_snoc]; exact q4, trivial⟩, hB2'.trans q5⟩⟩
                      | (rw [HCM.out]; exact ⟨(hWk _).trans (q1 _), hWq.trans q2, ⟨⟨_, q3, by rw [List.length_append, flatN_snoc]; exact q4, trivial⟩, hB2'.trans q5⟩⟩)
                  exact AllReadyIn.nil
                exact AllReadyIn.nil
              refine AllReadyIn.cons rfl (fun K hK => ?_) ?_
              · go_simp
                refine hK _ _ ?_
                clear hK K
                refine wpAnyIn_ready (rs := [5]) (by kernel_rfl) (by simp) ?_
                refine AllReadyIn.cons rfl (fun K hK => ?_) ?_
                · go_simp
                  refine hK _ _ ?_
                  clear hK K
                  refine wpAnyIn_ready (rs := [6]) (by kernel_rfl) (by simp) ?_
                  refine AllReadyIn.cons rfl (fun K hK => ?_) ?_
                  · go_simp
                    refine hK _ _ ?_
                    clear hK K
                    refine wpAnyIn_done (by kernel_rfl) ?_ _
                    obtain ⟨q1, q2, q3, q4, q5⟩ := HD6.out
                    first
                      | exact ⟨(hWk _).trans (q1 _), hWq.trans q2, ⟨⟨_, q3, by rw [List.length_append, flatN_snoc]; exact q4, trivial⟩, hB2'.trans q5⟩⟩
                      | (rw [HCM.out]; exact ⟨(hWk _).trans (q1 _), hWq.trans q2, ⟨⟨_, q3, by rw [List.length_append, flatN_snoc]; exact q4, trivial⟩, hB2'.trans q5⟩⟩)
                  exact AllReadyIn.nil
                exact AllReadyIn.nil
              exact AllReadyIn.nil
            exact AllReadyIn.nil
          exact AllReadyIn.nil
        exact AllReadyIn.nil
      exact AllReadyIn.nil
    refine AllReadyIn.cons rfl (fun K hK => ?_) ?_
    · go_simp
      refine hK _ _ ?_
      clear hK K
      refine wpAnyIn_ready (rs := [0, 3]) (by kernel_rfl) (by simp) ?_
      refine AllReadyIn.cons rfl (fun K hK => ?_) ?_
      · go_simp
        refine hK _ _ ?_
        clear hK K
        refine wpAnyIn_ready (rs := [2, 3]) (by kernel_rfl) (by simp) ?_
        refine AllReadyIn.cons rfl (fun K hK => ?_) ?_
        · go_simp
          refine hK _ _ ?_
          clear hK K
          refine wpAnyIn_ready (rs := [3]) (by kernel_rfl) (by simp) ?_
          refine AllReadyIn.cons rfl (fun K hK => ?_) ?_
          · go_simp
            refine hK _ _ ?_
            clear hK K
            refine wpAnyIn_ready (rs := [4]) (by kernel_rfl) (by simp) ?_
            refine AllReadyIn.cons rfl (fun K hK => ?_) ?_
            · refine stepIn_appendL _ rfl _ _ 22 rfl w.heap.size 24 i0 _ 2 32 Try.underlying22 hi hz0 hz1 hz2 rfl (by decide) (.slice ov pre.length cv) pre.length _ rfl (hr2.alloc _) ⟨Wd.heap.size, 0, none⟩ 1 1 [.int .i64 0, .slice none 0 0] rfl rfl hsrc hone (by unfold maxLen; omega) (by omega) (by simp; omega) ?_
              intro v2 w6 hown6 hgrow6 hat6
              obtain ⟨g2, cap2, rfl⟩ := ownsRow_succ hown6
              obtain ⟨hne6, cB6, fB6, cE0, cE1, fE6, HD6⟩ := bodyG_done (e0 := .int .i64 xt.r) (e1 := .slice xoa xt.l.length xcap) bL2 hsW (Nat.le_refl _) hr2 hown6 hgrow6 hat6
              have fB0 := fB6 0
              have f0 := fE6 (pre.length * 2)
              have f1 := fE6 (pre.length * 2 + 1)
              have xB : ∀ x y, ((w6.setCell ⟨g2, pre.length * 2, none⟩ x).setCell ⟨g2, pre.length * 2 + 1, none⟩ y).cell? ⟨w.heap.size, 0, none⟩ = some (.slice ov pre.length cv) := fun x y => by rw [World.cell?_setCell_other _ _ _ _ (by simp), World.cell?_setCell_other _ _ _ _ (by simp)]; exact cB6
              have yB : ∀ x y, ((w6.setCell ⟨g2, pre.length * 2, none⟩ x).setCell ⟨g2, pre.length * 2 + 1, none⟩ y).frozen? ⟨w.heap.size, 0, none⟩ = false := fun x y => by rw [World.frozen?_setCell, World.frozen?_setCell]; exact fB0
              have u0 : ∀ x, (w6.setCell ⟨w.heap.size, 0, none⟩ x).cell? ⟨g2, pre.length * 2, none⟩ = some (.int .i64 0) := fun x => by rw [World.cell?_setCell_other _ _ _ _ (by simp)]; exact cE0
              have u1 : ∀ x, (w6.setCell ⟨w.heap.size, 0, none⟩ x).cell? ⟨g2, pre.length * 2 + 1, none⟩ = some (.slice none 0 0) := fun x => by rw [World.cell?_setCell_other _ _ _ _ (by simp)]; exact cE1
              have g0 : ∀ x, (w6.setCell ⟨w.heap.size, 0, none⟩ x).frozen? ⟨g2, pre.length * 2, none⟩ = false := fun x => by rw [World.frozen?_setCell]; exact f0
              have g1 : ∀ x, (w6.setCell ⟨w.heap.size, 0, none⟩ x).frozen? ⟨g2, pre.length * 2 + 1, none⟩ = false := fun x => by rw [World.frozen?_setCell]; exact f1
              have hcm : ∀ x y z, ((w6.setCell ⟨w.heap.size, 0, none⟩ z).setCell ⟨g2, pre.length * 2, none⟩ x).setCell ⟨g2, pre.length * 2 + 1, none⟩ y = ((w6.setCell ⟨g2, pre.length * 2, none⟩ x).setCell ⟨g2, pre.length * 2 + 1, none⟩ y).setCell ⟨w.heap.size, 0, none⟩ z := fun x y z => by
                rw [setCell_comm w6 _ _ _ _ (by show w.heap.size ≠ g2; exact hne6.symm), setCell_comm (w6.setCell _ _) _ _ _ _ (by show w.heap.size ≠ g2; exact hne6.symm)]
              have HCM := Lib.hid hcm
              clear hcm fB6 fE6 hown6 hgrow6 hat6
              refine hK _ _ ?_
              clear hK K
              refine wpAnyIn_ready (rs := [5, 7]) (by kernel_rfl) (by simp) ?_
              refine AllReadyIn.cons rfl (fun K hK => ?_) ?_
              · go_simp
                refine hK _ _ ?_
                clear hK K
                refine wpAnyIn_ready (rs := [6, 7]) (by kernel_rfl) (by simp) ?_
                refine AllReadyIn.cons rfl (fun K hK => ?_) ?_
                · go_simp
                  refine hK _ _ ?_
                  clear hK K
                  refine wpAnyIn_ready (rs := [7]) (by kernel_rfl) (by simp) ?_
                  refine AllReadyIn.cons rfl (fun K hK => ?_) ?_
                  · go_simp
                    refine hK _ _ ?_
                    clear hK K
                    refine wpAnyIn_done (by kernel_rfl) ?_ _
                    obtain ⟨q1, q2, q3, q4, q5⟩ := HD6.out
                    first
                      | exact ⟨(hWk _).trans (q1 _), hWq.trans q2, ⟨⟨_, q3, by rw [List.length_append, flatN_snoc]; exact q4, trivial⟩, hB2'.trans q5⟩⟩
                      | (rw [HCM.out]; exact ⟨(hWk _).trans (q1 _), hWq.trans q2, ⟨⟨_, q3, by rw [List.length_append, flatN_snoc]; exact q4, trivial⟩, hB2'.trans q5⟩⟩)
                  exact AllReadyIn.nil
                refine AllReadyIn.cons rfl (fun K hK => ?_) ?_
                · go_simp
                  refine hK _ _ ?_
                  clear hK K
                  refine wpAnyIn_ready (rs := [6]) (by kernel_rfl) (by simp) ?_
                  refine AllReadyIn.cons rfl (fun K hK => ?_) ?_
                  · go_simp
                    refine hK _ _ ?_
                    clear hK K
                    refine wpAnyIn_done (by kernel_rfl) ?_ _
                    obtain ⟨q1, q2, q3, q4, q5⟩ := HD6.out
                    first
                      | exact ⟨(hWk _).trans (q1 _), hWq.trans q2, ⟨⟨_, q3, by rw [List.length_append, flatN_snoc]; exact q4, trivial⟩, hB2'.trans q5⟩⟩
                      | (rw [HCM.out]; exact ⟨(hWk _).trans (q1 _), hWq.trans q2, ⟨⟨_, q3, by rw [List.length_append, flatN_snoc]; exact q4, trivial⟩, hB2'.trans q5⟩⟩)
                  exact AllReadyIn.nil
                exact AllReadyIn.nil
              refine AllReadyIn.cons rfl (fun K hK => ?_) ?_
              · go_simp
                refine hK _ _ ?_
                clear hK K
                refine wpAnyIn_ready (rs := [5]) (by kernel_rfl) (by simp) ?_
                refine AllReadyIn.cons rfl (fun K hK => ?_) ?_
                · go_simp
                  refine hK _ _ ?_
                  clear hK K
                  refine wpAnyIn_ready (rs := [6]) (by kernel_rfl) (by simp) ?_
                  refine AllReadyIn.cons rfl (fun K hK => ?_) ?_
                  · go_simp
                    refine hK _ _ ?_
                    clear hK K
                    refine wpAnyIn_done (by kernel_rfl) ?_ _
                    obtain ⟨q1, q2, q3, q4, q5⟩ := HD6.out
                    first
                      | exact ⟨(hWk _).trans (q1 _), hWq.trans q2, ⟨⟨_, q3, by rw [List.length_append, flatN_snoc]; exact q4, trivial⟩, hB2'.trans q5⟩⟩
                      | (rw [HCM.out]; exact ⟨(hWk _).trans (q1 _), hWq.trans q2, ⟨⟨_, q3, by rw [List.length_append, flatN_snoc]; exact q4, trivial⟩, hB2'.trans q5⟩⟩)
                  exact AllReadyIn.nil
                exact AllReadyIn.nil
              exact AllReadyIn.nil
            exact AllReadyIn.nil
          exact AllReadyIn.nil
        refine AllReadyIn.cons rfl (fun K hK => ?_) ?_
        · go_simp
          refine hK _ _ ?_
          clear hK K
          refine wpAnyIn_ready (rs := [2]) (by kernel_rfl) (by simp) ?_
          refine AllReadyIn.cons rfl (fun K hK => ?_) ?_
          · go_simp
            refine hK _ _ ?_
            clear hK K
            refine wpAnyIn_ready (rs := [4]) (by kernel_rfl) (by simp) ?_
            refine AllReadyIn.cons rfl (fun K hK => ?_) ?_
            · refine stepIn_appendL _ rfl _ _ 22 rfl w.heap.size 24 i0 _ 2 32 Try.underlying22 hi hz0 hz1 hz2 rfl (by decide) (.slice ov pre.length cv) pre.length _ rfl (hr2.alloc _) ⟨Wd.heap.size, 0, none⟩ 1 1 [.int .i64 0, .slice none 0 0] rfl rfl hsrc hone (by unfold maxLen; omega) (by omega) (by simp; omega) ?_
              intro v2 w6 hown6 hgrow6 hat6
              obtain ⟨g2, cap2, rfl⟩ := ownsRow_succ hown6
              obtain ⟨hne6, cB6, fB6, cE0, cE1, fE6, HD6⟩ := bodyG_done (e0 := .int .i64 xt.r) (e1 := .slice xoa xt.l.length xcap) bL2 hsW (Nat.le_refl _) hr2 hown6 hgrow6 hat6
              have fB0 := fB6 0
              have f0 := fE6 (pre.length * 2)
              have f1 := fE6 (pre.length * 2 + 1)
              have xB : ∀ x y, ((w6.setCell ⟨g2, pre.length * 2, none⟩ x).setCell ⟨g2, pre.length * 2 + 1, none⟩ y).cell? ⟨w.heap.size, 0, none⟩ = some (.slice ov pre.length cv) := fun x y => by rw [World.cell?_setCell_other _ _ _ _ (by simp), World.cell?_setCell_other _ _ _ _ (by simp)]; exact cB6
              have yB : ∀ x y, ((w6.setCell ⟨g2, pre.length * 2, none⟩ x).setCell ⟨g2, pre.length * 2 + 1, none⟩ y).frozen? ⟨w.heap.size, 0, none⟩ = false := fun x y => by rw [World.frozen?_setCell, World.frozen?_setCell]; exact fB0
              have u0 : ∀ x, (w6.setCell ⟨w.heap.size, 0, none⟩ x).cell? ⟨g2, pre.length * 2, none⟩ = some (.int .i64 0) := fun x => by rw [World.cell?_setCell_other _ _ _ _ (by simp)]; exact cE0
              have u1 : ∀ x, (w6.setCell ⟨w.heap.size, 0, none⟩ x).cell? ⟨g2, pre.length * 2 + 1, none⟩ = some (.slice none 0 0) := fun x => by rw [World.cell?_setCell_other _ _ _ _ (by simp)]; exact cE1
              have g0 : ∀ x, (w6.setCell ⟨w.heap.size, 0, none⟩ x).frozen? ⟨g2, pre.length * 2, none⟩ = false := fun x => by rw [World.frozen?_setCell]; exact f0
              have g1 : ∀ x, (w6.setCell ⟨w.heap.size, 0, none⟩ x).frozen? ⟨g2, pre.length * 2 + 1, none⟩ = false := fun x => by rw [World.frozen?_setCell]; exact f1
              have hcm : ∀ x y z, ((w6.setCell ⟨w.heap.size, 0, none⟩ z).setCell ⟨g2, pre.length * 2, none⟩ x).setCell ⟨g2, pre.length * 2 + 1, none⟩ y = ((w6.setCell ⟨g2, pre.length * 2, none⟩ x).setCell ⟨g2, pre.length * 2 + 1, none⟩ y).setCell ⟨w.heap.size, 0, none⟩ z := fun x y z => by
                rw [setCell_comm w6 _ _ _ _ (by show w.heap.size ≠ g2; exact hne6.symm), setCell_comm (w6.setCell _ _) _ _ _ _ (by show w.heap.size ≠ g2; exact hne6.symm)]
              have HCM := Lib.hid hcm
              clear hcm fB6 fE6 hown6 hgrow6 hat6
              refine hK _ _ ?_
              clear hK K
              refine wpAnyIn_ready (rs := [5, 7]) (by kernel_rfl) (by simp) ?_
              refine AllReadyIn.cons rfl (fun K hK => ?_) ?_
              · go_simp
                refine hK _ _ ?_
                clear hK K
                refine wpAnyIn_ready (rs := [6, 7]) (by kernel_rfl) (by simp) ?_
                refine AllReadyIn.cons rfl (fun K hK => ?_) ?_
                · go_simp
                  refine hK _ _ ?_
                  clear hK K
                  refine wpAnyIn_ready (rs := [7]) (by kernel_rfl) (by simp) ?_
                  refine AllReadyIn.cons rfl (fun K hK => ?_) ?_
                  · go_simp
                    refine hK _ _ ?_
                    clear hK K
                    refine wpAnyIn_done (by kernel_rfl) ?_ _
                    obtain ⟨q1, q2, q3, q4, q5⟩ := HD6.out
                    first
                      | exact ⟨(hWk _).trans (q1 _), hWq.trans q2, ⟨⟨_, q3, by rw [List.length_append, flatN_snoc]; exact q4, trivial⟩, hB2'.trans q5⟩⟩
                      | (rw [HCM.out]; exact ⟨(hWk _).trans (q1 _), hWq.trans q2, ⟨⟨_, q3, by rw [List.length_append, flatN_snoc]; exact q4, trivial⟩, hB2'.trans q5⟩⟩)
                  exact AllReadyIn.nil
                refine AllReadyIn.cons rfl (fun K hK => ?_) ?_
                · go_simp
                  refine hK _ _ ?_
                  clear hK K
                  refine wpAnyIn_ready (rs := [6]) (by kernel_rfl) (by simp) ?_
                  refine AllReadyIn.cons rfl (fun K hK => ?_) ?_
                  · go_simp
                    refine hK _ _ ?_
                    clear hK K
                    refine wpAnyIn_done (by kernel_rfl) ?_ _
                    obtain ⟨q1, q2, q3, q4, q5⟩ := HD6.out
                    first
                      | exact ⟨(hWk _).trans (q1 _), hWq.trans q2, ⟨⟨_, q3, by rw [List.length_append, flatN_snoc]; exact q4, trivial⟩, hB2'.trans q5⟩⟩
                      | (rw [HCM.out]; exact ⟨(hWk _).trans (q1 _), hWq.trans q2, ⟨⟨_, q3, by rw [List.length_append, flatN_snoc]; exact q4, trivial⟩, hB2'.trans q5⟩⟩)
                  exact AllReadyIn.nil
                exact AllReadyIn.nil
              refine AllReadyIn.cons rfl (fun K hK => ?_) ?_
              · go_simp
                refine hK _ _ ?_
                clear hK K
                refine wpAnyIn_ready (rs := [5]) (by kernel_rfl) (by simp) ?_
                refine AllReadyIn.cons rfl (fun K hK => ?_) ?_
                · go_simp
                  refine hK _ _ ?_
                  clear hK K
                  refine wpAnyIn_ready (rs := [6]) (by kernel_rfl) (by simp) ?_
                  refine AllReadyIn.cons rfl (fun K hK => ?_) ?_
                  · go_simp
                    refine hK _ _ ?_
                    clear hK K
                    refine wpAnyIn_done (by kernel_rfl) ?_ _
                    obtain ⟨q1, q2, q3, q4, q5⟩ := HD6.out
                    first
                      | exact ⟨(hWk _).trans (q1 _), hWq.trans q2, ⟨⟨_, q3, by rw [List.length_append, flatN_snoc]; exact q4, trivial⟩, hB2'.trans q5⟩⟩
                      | (rw [HCM.out]; exact ⟨(hWk _).trans (q1 _), hWq.trans q2, ⟨⟨_, q3, by rw [List.length_append, flatN_snoc]; exact q4, trivial⟩, hB2'.trans q5⟩⟩)
                  exact AllReadyIn.nil
                exact AllReadyIn.nil
              exact AllReadyIn.nil
            exact AllReadyIn.nil
          exact AllReadyIn.nil
        exact AllReadyIn.nil
      refine AllReadyIn.cons rfl (fun K hK => ?_) ?_
      · go_simp
        refine hK _ _ ?_
        clear hK K
        refine wpAnyIn_ready (rs := [0]) (by kernel_rfl) (by simp) ?_
        refine AllReadyIn.cons rfl (fun K hK => ?_) ?_
        · go_simp
          refine hK _ _ ?_
          clear hK K
          refine wpAnyIn_ready (rs := [2]) (by kernel_rfl) (by simp) ?_
          refine AllReadyIn.cons rfl (fun K hK => ?_) ?_
          · go_simp
            refine hK _ _ ?_
            clear hK K
            refine wpAnyIn_ready (rs := [4]) (by kernel_rfl) (by simp) ?_
            refine AllReadyIn.cons rfl (fun K hK => ?_) ?_
            · refine stepIn_appendL _ rfl _ _ 22 rfl w.heap.size 24 i0 _ 2 32 Try.underlying22 hi hz0 hz1 hz2 rfl (by decide) (.slice ov pre.length cv) pre.length _ rfl (hr2.alloc _) ⟨Wd.heap.size, 0, none⟩ 1 1 [.int .i64 0, .slice none 0 0] rfl rfl hsrc hone (by unfold maxLen; omega) (by omega) (by simp; omega) ?_
              intro v2 w6 hown6 hgrow6 hat6
              obtain ⟨g2, cap2, rfl⟩ := ownsRow_succ hown6
              obtain ⟨hne6, cB6, fB6, cE0, cE1, fE6, HD6⟩ := bodyG_done (e0 := .int .i64 xt.r) (e1 := .slice xoa xt.l.length xcap) bL2 hsW (Nat.le_refl _) hr2 hown6 hgrow6 hat6
              have fB0 := fB6 0
              have f0 := fE6 (pre.length * 2)
              have f1 := fE6 (pre.length * 2 + 1)
              have xB : ∀ x y, ((w6.setCell ⟨g2, pre.length * 2, none⟩ x).setCell ⟨g2, pre.length * 2 + 1, none⟩ y).cell? ⟨w.heap.size, 0, none⟩ = some (.slice ov pre.length cv) := fun x y => by rw [World.cell?_setCell_other _ _ _ _ (by simp), World.cell?_setCell_other _ _ _ _ (by simp)]; exact cB6
              have yB : ∀ x y, ((w6.setCell ⟨g2, pre.length * 2, none⟩ x).setCell ⟨g2, pre.length * 2 + 1, none⟩ y).frozen? ⟨w.heap.size, 0, none⟩ = false := fun x y => by rw [World.frozen?_setCell, World.frozen?_setCell]; exact fB0
              have u0 : ∀ x, (w6.setCell ⟨w.heap.size, 0, none⟩ x).cell? ⟨g2, pre.length * 2, none⟩ = some (.int .i64 0) := fun x => by rw [World.cell?_setCell_other _ _ _ _ (by simp)]; exact cE0
              have u1 : ∀ x, (w6.setCell ⟨w.heap.size, 0, none⟩ x).cell? ⟨g2, pre.length * 2 + 1, none⟩ = some (.slice none 0 0) := fun x => by rw [World.cell?_setCell_other _ _ _ _ (by simp)]; exact cE1
              have g0 : ∀ x, (w6.setCell ⟨w.heap.size, 0, none⟩ x).frozen? ⟨g2, pre.length * 2, none⟩ = false := fun x => by rw [World.frozen?_setCell]; exact f0
              have g1 : ∀ x, (w6.setCell ⟨w.heap.size, 0, none⟩ x).frozen? ⟨g2, pre.length * 2 + 1, none⟩ = false := fun x => by rw [World.frozen?_setCell]; exact f1
              have hcm : ∀ x y z, ((w6.setCell ⟨w.heap.size, 0, none⟩ z).setCell ⟨g2, pre.length * 2, none⟩ x).setCell ⟨g2, pre.length * 2 + 1, none⟩ y = ((w6.setCell ⟨g2, pre.length * 2, none⟩ x).setCell ⟨g2, pre.length * 2 + 1, none⟩ y).setCell ⟨w.heap.size, 0, none⟩ z := fun x y z => by
                rw [setCell_comm w6 _ _ _ _ (by show w.heap.size ≠ g2; exact hne6.symm), setCell_comm (w6.setCell _ _) _ _ _ _ (by show w.heap.size ≠ g2; exact hne6.symm)]
              have HCM := Lib.hid hcm
              clear hcm fB6 fE6 hown6 hgrow6 hat6
              refine hK _ _ ?_
              clear hK K
              refine wpAnyIn_ready (rs := [5, 7]) (by kernel_rfl) (by simp) ?_
              refine AllReadyIn.cons rfl (fun K hK => ?_) ?_
              · go_simp
                refine hK _ _ ?_
                clear hK K
                refine wpAnyIn_ready (rs := [6, 7]) (by kernel_rfl) (by simp) ?_
                refine AllReadyIn.cons rfl (fun K hK => ?_) ?_
                · go_simp
                  refine hK _ _ ?_
                  clear hK K
                  refine wpAnyIn_ready (rs := [7]) (by kernel_rfl) (by simp) ?_
                  refine AllReadyIn.cons rfl (fun K hK => ?_) ?_
                  · go_simp
                    refine hK _ _ ?_
                    clear hK K
                    refine wpAnyIn_done (by kernel_rfl) ?_ _
                    obtain ⟨q1, q2, q3, q4, q5⟩ := HD6.out
                    first
                      | exact ⟨(hWk _).trans (q1 _), hWq.trans q2, ⟨⟨_, q3, by rw [List.length_append, flatN_snoc]; exact q4, trivial⟩, hB2'.trans q5⟩⟩
                      | (rw [HCM.out]; exact ⟨(hWk _).trans (q1 _), hWq.trans q2, ⟨⟨_, q3, by rw [List.length_append, flatN_snoc]; exact q4, trivial⟩, hB2'.trans q5⟩⟩)
                  exact AllReadyIn.nil
                refine AllReadyIn.cons rfl (fun K hK => ?_) ?_
                · go_simp
                  refine hK _ _ ?_
                  clear hK K
                  refine wpAnyIn_ready (rs := [6]) (by kernel_rfl) (by simp) ?_
                  refine AllReadyIn.cons rfl (fun K hK => ?_) ?_
                  · go_simp
                    refine hK _ _ ?_
                    clear hK K
                    refine wpAnyIn_done (by kernel_rfl) ?_ _
                    obtain ⟨q1, q2, q3, q4, q5⟩ := HD6.out
                    first
                      | exact ⟨(hWk _).trans (q1 _), hWq.trans q2, ⟨⟨_, q3, by rw [List.length_append, flatN_snoc]; exact q4, trivial⟩, hB2'.trans q5⟩⟩
                      | (rw [HCM.out]; exact ⟨(hWk _).trans (q1 _), hWq.trans q2, ⟨⟨_, q3, by rw [List.length_append, flatN_snoc]; exact q4, trivial⟩, hB2'.trans q5⟩⟩)
                  exact AllReadyIn.nil
                exact AllReadyIn.nil
              refine AllReadyIn.cons rfl (fun K hK => ?_) ?_
              · go_simp
                refine hK _ _ ?_
                clear hK K
                refine wpAnyIn_ready (rs := [5]) (by kernel_rfl) (by simp) ?_
                refine AllReadyIn.cons rfl (fun K hK => ?_) ?_
                · go_simp
                  refine hK _ _ ?_
                  clear hK K
                  refine wpAnyIn_ready (rs := [6]) (by kernel_rfl) (by simp) ?_
                  refine AllReadyIn.cons rfl (fun K hK => ?_) ?_
                  · go_simp
                    refine hK _ _ ?_
                    clear hK K
                    refine wpAnyIn_done (by kernel_rfl) ?_ _
                    obtain ⟨q1, q2, q3, q4, q5⟩ := HD6.out
                    first
                      | exact ⟨(hWk _).trans (q1 _), hWq.trans q2, ⟨⟨_, q3, by rw [List.length_append, flatN_snoc]; exact q4, trivial⟩, hB2'.trans q5⟩⟩
                      | (rw [HCM.out]; exact ⟨(hWk _).trans (q1 _), hWq.trans q2, ⟨⟨_, q3, by rw [List.length_append, flatN_snoc]; exact q4, trivial⟩, hB2'.trans q5⟩⟩)
                  exact AllReadyIn.nil
                exact AllReadyIn.nil
              exact AllReadyIn.nil
            exact AllReadyIn.nil
          exact AllReadyIn.nil
        exact AllReadyIn.nil
      exact AllReadyIn.nil
    refine AllReadyIn.cons rfl (fun K hK => ?_) ?_
    · go_simp
      refine hK _ _ ?_
      clear hK K
      refine wpAnyIn_ready (rs := [0, 1]) (by kernel_rfl) (by simp) ?_
      refine AllReadyIn.cons rfl (fun K hK => ?_) ?_
      · go_simp
        refine hK _ _ ?_
        clear hK K
        refine wpAnyIn_ready (rs := [1, 2]) (by kernel_rfl) (by simp) ?_
        refine AllReadyIn.cons rfl (fun K hK => ?_) ?_
        · go_simp
          refine hK _ _ ?_
          clear hK K
          refine wpAnyIn_ready (rs := [2]) (by kernel_rfl) (by simp) ?_
          refine AllReadyIn.cons rfl (fun K hK => ?_) ?_
          · go_simp
            refine hK _ _ ?_
            clear hK K
            refine wpAnyIn_ready (rs := [4]) (by kernel_rfl) (by simp) ?_
            refine AllReadyIn.cons rfl (fun K hK => ?_) ?_
            · refine stepIn_appendL _ rfl _ _ 22 rfl w.heap.size 24 i0 _ 2 32 Try.underlying22 hi hz0 hz1 hz2 rfl (by decide) (.slice ov pre.length cv) pre.length _ rfl (hr2.alloc _) ⟨Wd.heap.size, 0, none⟩ 1 1 [.int .i64 0, .slice none 0 0] rfl rfl hsrc hone (by unfold maxLen; omega) (by omega) (by simp; omega) ?_
              intro v2 w6 hown6 hgrow6 hat6
              obtain ⟨g2, cap2, rfl⟩ := ownsRow_succ hown6
              obtain ⟨hne6, cB6, fB6, cE0, cE1, fE6, HD6⟩ := bodyG_done (e0 := .int .i64 xt.r) (e1 := .slice xoa xt.l.length xcap) bL2 hsW (Nat.le_refl _) hr2 hown6 hgrow6 hat6
              have fB0 := fB6 0
              have f0 := fE6 (pre.length * 2)
              have f1 := fE6 (pre.length * 2 + 1)
              have xB : ∀ x y, ((w6.setCell ⟨g2, pre.length * 2, none⟩ x).setCell ⟨g2, pre.length * 2 + 1, none⟩ y).cell? ⟨w.heap.size, 0, none⟩ = some (.slice ov pre.length cv) := fun x y => by rw [World.cell?_setCell_other _ _ _ _ (by simp), World.cell?_setCell_other _ _ _ _ (by simp)]; exact cB6
              have yB : ∀ x y, ((w6.setCell ⟨g2, pre.length * 2, none⟩ x).setCell ⟨g2, pre.length * 2 + 1, none⟩ y).frozen? ⟨w.heap.size, 0, none⟩ = false := fun x y => by rw [World.frozen?_setCell, World.frozen?_setCell]; exact fB0
              have u0 : ∀ x, (w6.setCell ⟨w.heap.size, 0, none⟩ x).cell? ⟨g2, pre.length * 2, none⟩ = some (.int .i64 0) := fun x => by rw [World.cell?_setCell_other _ _ _ _ (by simp)]; exact cE0
              have u1 : ∀ x, (w6.setCell ⟨w.heap.size, 0, none⟩ x).cell? ⟨g2, pre.length * 2 + 1, none⟩ = some (.slice none 0 0) := fun x => by rw [World.cell?_setCell_other _ _ _ _ (by simp)]; exact cE1
              have g0 : ∀ x, (w6.setCell ⟨w.heap.size, 0, none⟩ x).frozen? ⟨g2, pre.length * 2, none⟩ = false := fun x => by rw [World.frozen?_setCell]; exact f0
              have g1 : ∀ x, (w6.setCell ⟨w.heap.size, 0, none⟩ x).frozen? ⟨g2, pre.length * 2 + 1, none⟩ = false := fun x => by rw [World.frozen?_setCell]; exact f1
              have hcm : ∀ x y z, ((w6.setCell ⟨w.heap.size, 0, none⟩ z).setCell ⟨g2, pre.length * 2, none⟩ x).setCell ⟨g2, pre.length * 2 + 1, none⟩ y = ((w6.setCell ⟨g2, pre.length * 2, none⟩ x).setCell ⟨g2, pre.length * 2 + 1, none⟩ y).setCell ⟨w.heap.size, 0, none⟩ z := fun x y z => by
                rw [setCell_comm w6 _ _ _ _ (by show w.heap.size ≠ g2; exact hne6.symm), setCell_comm (w6.setCell _ _) _ _ _ _ (by show w.heap.size ≠ g2; exact hne6.symm)]
              have HCM := Lib.hid hcm
              clear hcm fB6 fE6 hown6 hgrow6 hat6
              refine hK _ _ ?_
              clear hK K
              refine wpAnyIn_ready (rs := [5, 7]) (by kernel_rfl) (by simp) ?_
              refine AllReadyIn.cons rfl (fun K hK => ?_) ?_
              · go_simp
                refine hK _ _ ?_
                clear hK K
                refine wpAnyIn_ready (rs := [6, 7]) (by kernel_rfl) (by simp) ?_
                refine AllReadyIn.cons rfl (fun K hK => ?_) ?_
                · go_simp
                  refine hK _ _ ?_
                  clear hK K
                  refine wpAnyIn_ready (rs := [7]) (by kernel_rfl) (by simp) ?_
                  refine AllReadyIn.cons rfl (fun K hK => ?_) ?_
                  · go_simp
                    refine hK _ _ ?_
                    clear hK K
                    refine wpAnyIn_done (by kernel_rfl) ?_ _
                    obtain ⟨q1, q2, q3, q4, q5⟩ := HD6.out
                    first
                      | exact ⟨(hWk _).trans (q1 _), hWq.trans q2, ⟨⟨_, q3, by rw [List.length_append, flatN_snoc]; exact q4, trivial⟩, hB2'.trans q5⟩⟩
                      | (rw [HCM.out]; exact ⟨(hWk _).trans (q1 _), hWq.trans q2, ⟨⟨_, q3, by rw [List.length_append, flatN_snoc]; exact q4, trivial⟩, hB2'.trans q5⟩⟩)
                  exact AllReadyIn.nil
                refine AllReadyIn.cons rfl (fun K hK => ?_) ?_
                · go_simp
                  refine hK _ _ ?_
                  clear hK K
                  refine wpAnyIn_ready (rs := [6]) (by kernel_rfl) (by simp) ?_
                  refine AllReadyIn.cons rfl (fun K hK => ?_) ?_
                  · go_simp
                    refine hK _ _ ?_
                    clear hK K
                    refine wpAnyIn_done (by kernel_rfl) ?_ _
                    obtain ⟨q1, q2, q3, q4, q5⟩ := HD6.out
                    first
                      | exact ⟨(hWk _).trans (q1 _), hWq.trans q2, ⟨⟨_, q3, by rw [List.length_append, flatN_snoc]; exact q4, trivial⟩, hB2'.trans q5⟩⟩
                      | (rw [HCM.out]; exact ⟨(hWk _).trans (q1 _), hWq.trans q2, ⟨⟨_, q3, by rw [List.length_append, flatN_snoc]; exact q4, trivial⟩, hB2'.trans q5⟩⟩)
                  exact AllReadyIn.nil
                exact AllReadyIn.nil
              refine AllReadyIn.cons rfl (fun K hK => ?_) ?_
              · go_simp
                refine hK _ _ ?_
                clear hK K
                refine wpAnyIn_ready (rs := [5]) (by kernel_rfl) (by simp) ?_
                refine AllReadyIn.cons rfl (fun K hK => ?_) ?_
                · go_simp
                  refine hK _ _ ?_
                  clear hK K
                  refine wpAnyIn_ready (rs := [6]) (by kernel_rfl) (by simp) ?_
                  refine AllReadyIn.cons rfl (fun K hK => ?_) ?_
                  · go_simp
                    refine hK _ _ ?_
                    clear hK K
                    refine wpAnyIn_done (by kernel_rfl) ?_ _
                    obtain ⟨q1, q2, q3, q4, q5⟩ := HD6.out
                    first
                      | exact ⟨(hWk _).trans (q1 _), hWq.trans q2, ⟨⟨_, q3, by rw [List.length_append, flatN_snoc]; exact q4, trivial⟩, hB2'.trans q5⟩⟩
                      | (rw [HCM.out]; exact ⟨(hWk _).trans (q1 _), hWq.trans q2, ⟨⟨_, q3, by rw [List.length_append, flatN_snoc]; exact q4, trivial⟩, hB2'.trans q5⟩⟩)
                  exact AllReadyIn.nil
                exact AllReadyIn.nil
              exact AllReadyIn.nil
            exact AllReadyIn.nil
          exact AllReadyIn.nil
        refine AllReadyIn.cons rfl (fun K hK => ?_) ?_
        · go_simp
          refine hK _ _ ?_
          clear hK K
          refine wpAnyIn_ready (rs := [1]) (by kernel_rfl) (by simp) ?_
          refine AllReadyIn.cons rfl (fun K hK => ?_) ?_
          · go_simp
            refine hK _ _ ?_
            clear hK K
            refine wpAnyIn_ready (rs := [4]) (by kernel_rfl) (by simp) ?_
            refine AllReadyIn.cons rfl (fun K hK => ?_) ?_
            · refine stepIn_appendL _ rfl _ _ 22 rfl w.heap.size 24 i0 _ 2 32 Try.underlying22 hi hz0 hz1 hz2 rfl (by decide) (.slice ov pre.length cv) pre.length _ rfl (hr2.alloc _) ⟨Wd.heap.size, 0, none⟩ 1 1 [.int .i64 0, .slice none 0 0] rfl rfl hsrc hone (by unfold maxLen; omega) (by omega) (by simp; omega) ?_
              intro v2 w6 hown6 hgrow6 hat6
              obtain ⟨g2, cap2, rfl⟩ := ownsRow_succ hown6
              obtain ⟨hne6, cB6, fB6, cE0, cE1, fE6, HD6⟩ := bodyG_done (e0 := .int .i64 xt.r) (e1 := .slice xoa xt.l.length xcap) bL2 hsW (Nat.le_refl _) hr2 hown6 hgrow6 hat6
              have fB0 := fB6 0
              have f0 := fE6 (pre.length * 2)
              have f1 := fE6 (pre.length * 2 + 1)
              have xB : ∀ x y, ((w6.setCell ⟨g2, pre.length * 2, none⟩ x).setCell ⟨g2, pre.length * 2 + 1, none⟩ y).cell? ⟨w.heap.size, 0, none⟩ = some (.slice ov pre.length cv) := fun x y => by rw [World.cell?_setCell_other _ _ _ _ (by simp), World.cell?_setCell_other _ _ _ _ (by simp)]; exact cB6
              have yB : ∀ x y, ((w6.setCell ⟨g2, pre.length * 2, none⟩ x).setCell ⟨g2, pre.length * 2 + 1, none⟩ y).frozen? ⟨w.heap.size, 0, none⟩ = false := fun x y => by rw [World.frozen?_setCell, World.frozen?_setCell]; exact fB0
              have u0 : ∀ x, (w6.setCell ⟨w.heap.size, 0, none⟩ x).cell? ⟨g2, pre.length * 2, none⟩ = some (.int .i64 0) := fun x => by rw [World.cell?_setCell_other _ _ _ _ (by simp)]; exact cE0
              have u1 : ∀ x, (w6.setCell ⟨w.heap.size, 0, none⟩ x).cell? ⟨g2, pre.length * 2 + 1, none⟩ = some (.slice none 0 0) := fun x => by rw [World.cell?_setCell_other _ _ _ _ (by simp)]; exact cE1
              have g0 : ∀ x, (w6.setCell ⟨w.heap.size, 0, none⟩ x).frozen? ⟨g2, pre.length * 2, none⟩ = false := fun x => by rw [World.frozen?_setCell]; exact f0
              have g1 : ∀ x, (w6.setCell ⟨w.heap.size, 0, none⟩ x).frozen? ⟨g2, pre.length * 2 + 1, none⟩ = false := fun x => by rw [World.frozen?_setCell]; exact f1
              have hcm : ∀ x y z, ((w6.setCell ⟨w.heap.size, 0, none⟩ z).setCell ⟨g2, pre.length * 2, none⟩ x).setCell ⟨g2, pre.length * 2 + 1, none⟩ y = ((w6.setCell ⟨g2, pre.length * 2, none⟩ x).setCell ⟨g2, pre.length * 2 + 1, none⟩ y).setCell ⟨w.heap.size, 0, none⟩ z := fun x y z => by
                rw [setCell_comm w6 _ _ _ _ (by show w.heap.size ≠ g2; exact hne6.symm), setCell_comm (w6.setCell _ _) _ _ _ _ (by show w.heap.size ≠ g2; exact hne6.symm)]
              have HCM := Lib.hid hcm
              clear hcm fB6 fE6 hown6 hgrow6 hat6
              refine hK _ _ ?_
              clear hK K
              refine wpAnyIn_ready (rs := [5, 7]) (by kernel_rfl) (by simp) ?_
              refine AllReadyIn.cons rfl (fun K hK => ?_) ?_
              · go_simp
                refine hK _ _ ?_
                clear hK K
                refine wpAnyIn_ready (rs := [6, 7]) (by kernel_rfl) (by simp) ?_
                refine AllReadyIn.cons rfl (fun K hK => ?_) ?_
                · go_simp
                  refine hK _ _ ?_
                  clear hK K
                  refine wpAnyIn_ready (rs := [7]) (by kernel_rfl) (by simp) ?_
                  refine AllReadyIn.cons rfl (fun K hK => ?_) ?_
                  · go_simp
                    refine hK _ _ ?_
                    clear hK K
                    refine wpAnyIn_done (by kernel_rfl) ?_ _
                    obtain ⟨q1, q2, q3, q4, q5⟩ := HD6.out
                    first
                      | exact ⟨(hWk _).trans (q1 _), hWq.trans q2, ⟨⟨_, q3, by rw [List.length_append, flatN_snoc]; exact q4, trivial⟩, hB2'.trans q5⟩⟩
                      | (rw [HCM.out]; exact ⟨(hWk _).trans (q1 _), hWq.trans q2, ⟨⟨_, q3, by rw [List.length_append, flatN_snoc]; exact q4, trivial⟩, hB2'.trans q5⟩⟩)
                  exact AllReadyIn.nil
                refine AllReadyIn.cons rfl (fun K hK => ?_) ?_
                · go_simp
                  refine hK _ _ ?_
                  clear hK K
                  refine wpAnyIn_ready (rs := [6]) (by kernel_rfl) (by simp) ?_
                  refine AllReadyIn.cons rfl (fun K hK => ?_) ?_
                  · go_simp
                    refine hK _ _ ?_
                    clear hK K
                    refine wpAnyIn_done (by kernel_rfl) ?_ _
                    obtain ⟨q1, q2, q3, q4, q5⟩ := HD6.out
                    first
                      | exact ⟨(hWk _).trans (q1 _), hWq.trans q2, ⟨⟨_, q3, by rw [List.length_append, flatN_snoc]; exact q4, trivial⟩, hB2'.trans q5⟩⟩
                      | (rw [HCM.out]; exact ⟨(hWk _).trans (q1 _), hWq.trans q2, ⟨⟨_, q3, by rw [List.length_append, flatN_snoc]; exact q4, trivial⟩, hB2'.trans q5⟩⟩)
                  exact AllReadyIn.nil
                exact AllReadyIn.nil
              refine AllReadyIn.cons rfl (fun K hK => ?_) ?_
              · go_simp
                refine hK _ _ ?_
                clear hK K
                refine wpAnyIn_ready (rs := [5]) (by kernel_rfl) (by simp) ?_
                refine AllReadyIn.cons rfl (fun K hK => ?_) ?_
                · go_simp
                  refine hK _ _ ?_
                  clear hK K
                  refine wpAnyIn_ready (rs := [6]) (by kernel_rfl) (by simp) ?_
                  refine AllReadyIn.cons rfl (fun K hK => ?_) ?_
                  · go_simp
                    refine hK _ _ ?_
                    clear hK K
                    refine wpAnyIn_done (by kernel_rfl) ?_ _
                    obtain ⟨q1, q2, q3, q4, q5⟩ := HD6.out
                    first
                      | exact ⟨(hWk _).trans (q1 _), hWq.trans q2, ⟨⟨_, q3, by rw [List.length_append, flatN_snoc]; exact q4, trivial⟩, hB2'.trans q5⟩⟩
                      | (rw [HCM.out]; exact ⟨(hWk _).trans (q1 _), hWq.trans q2, ⟨⟨_, q3, by rw [List.length_append, flatN_snoc]; exact q4, trivial⟩, hB2'.trans q5⟩⟩)
                  exact AllReadyIn.nil
                exact AllReadyIn.nil
              exact AllReadyIn.nil
            exact AllReadyIn.nil
          exact AllReadyIn.nil
        exact AllReadyIn.nil
      refine AllReadyIn.cons rfl (fun K hK => ?_) ?_
      · go_simp
        refine hK _ _ ?_
        clear hK K
        refine wpAnyIn_ready (rs := [0]) (by kernel_rfl) (by simp) ?_
        refine AllReadyIn.cons rfl (fun K hK => ?_) ?_
        · go_simp
          refine hK _ _ ?_
          clear hK K
          refine wpAnyIn_ready (rs := [2]) (by kernel_rfl) (by simp) ?_
          refine AllReadyIn.cons rfl (fun K hK => ?_) ?_
          · go_simp
            refine hK _ _ ?_
            clear hK K
            refine wpAnyIn_ready (rs := [4]) (by kernel_rfl) (by simp) ?_
            refine AllReadyIn.cons rfl (fun K hK => ?_) ?_
            · refine stepIn_appendL _ rfl _ _ 22 rfl w.heap.size 24 i0 _ 2 32 Try.underlying22 hi hz0 hz1 hz2 rfl (by decide) (.slice ov pre.length cv) pre.length _ rfl (hr2.alloc _) ⟨Wd.heap.size, 0, none⟩ 1 1 [.int .i64 0, .slice none 0 0] rfl rfl hsrc hone (by unfold maxLen; omega) (by omega) (by simp; omega) ?_
              intro v2 w6 hown6 hgrow6 hat6
              obtain ⟨g2, cap2, rfl⟩ := ownsRow_succ hown6
              obtain ⟨hne6, cB6, fB6, cE0, cE1, fE6, HD6⟩ := bodyG_done (e0 := .int .i64 xt.r) (e1 := .slice xoa xt.l.length xcap) bL2 hsW (Nat.le_refl _) hr2 hown6 hgrow6 hat6
              have fB0 := fB6 0
              have f0 := fE6 (pre.length * 2)
              have f1 := fE6 (pre.length * 2 + 1)
              have xB : ∀ x y, ((w6.setCell ⟨g2, pre.length * 2, none⟩ x).setCell ⟨g2, pre.length * 2 + 1, none⟩ y).cell? ⟨w.heap.size, 0, none⟩ = some (.slice ov pre.length cv) := fun x y => by rw [World.cell?_setCell_other _ _ _ _ (by simp), World.cell?_setCell_other _ _ _ _ (by simp)]; exact cB6
              have yB : ∀ x y, ((w6.setCell ⟨g2, pre.length * 2, none⟩ x).setCell ⟨g2, pre.length * 2 + 1, none⟩ y).frozen? ⟨w.heap.size, 0, none⟩ = false := fun x y => by rw [World.frozen?_setCell, World.frozen?_setCell]; exact fB0
              have u0 : ∀ x, (w6.setCell ⟨w.heap.size, 0, none⟩ x).cell? ⟨g2, pre.length * 2, none⟩ = some (.int .i64 0) := fun x => by rw [World.cell?_setCell_other _ _ _ _ (by simp)]; exact cE0
              have u1 : ∀ x, (w6.setCell ⟨w.heap.size, 0, none⟩ x).cell? ⟨g2, pre.length * 2 + 1, none⟩ = some (.slice none 0 0) := fun x => by rw [World.cell?_setCell_other _ _ _ _ (by simp)]; exact cE1
              have g0 : ∀ x, (w6.setCell ⟨w.heap.size, 0, none⟩ x).frozen? ⟨g2, pre.length * 2, none⟩ = false := fun x => by rw [World.frozen?_setCell]; exact f0
              have g1 : ∀ x, (w6.setCell ⟨w.heap.size, 0, none⟩ x).frozen? ⟨g2, pre.length * 2 + 1, none⟩ = false := fun x => by rw [World.frozen?_setCell]; exact f1
              have hcm : ∀ x y z, ((w6.setCell ⟨w.heap.size, 0, none⟩ z).setCell ⟨g2, pre.length * 2, none⟩ x).setCell ⟨g2, pre.length * 2 + 1, none⟩ y = ((w6.setCell ⟨g2, pre.length * 2, none⟩ x).setCell ⟨g2, pre.length * 2 + 1, none⟩ y).setCell ⟨w.heap.size, 0, none⟩ z := fun x y z => by
                rw [setCell_comm w6 _ _ _ _ (by show w.heap.size ≠ g2; exact hne6.symm), setCell_comm (w6.setCell _ _) _ _ _ _ (by show w.heap.size ≠ g2; exact hne6.symm)]
              have HCM := Lib.hid hcm
              clear hcm fB6 fE6 hown6 hgrow6 hat6
              refine hK _ _ ?_
              clear hK K
              refine wpAnyIn_ready (rs := [5, 7]) (by kernel_rfl) (by simp) ?_
              refine AllReadyIn.cons rfl (fun K hK => ?_) ?_
              · go_simp
                refine hK _ _ ?_
                clear hK K
                refine wpAnyIn_ready (rs := [6, 7]) (by kernel_rfl) (by simp) ?_
                refine AllReadyIn.cons rfl (fun K hK => ?_) ?_
                · go_simp
                  refine hK _ _ ?_
                  clear hK K
                  refine wpAnyIn_ready (rs := [7]) (by kernel_rfl) (by simp) ?_
                  refine AllReadyIn.cons rfl (fun K hK => ?_) ?_
                  · go_simp
                    refine hK _ _ ?_
                    clear hK K
                    refine wpAnyIn_done (by kernel_rfl) ?_ _
                    obtain ⟨q1, q2, q3, q4, q5⟩ := HD6.out
                    first
                      | exact ⟨(hWk _).trans (q1 _), hWq.trans q2, ⟨⟨_, q3, by rw [List.length_append, flatN_snoc]; exact q4, trivial⟩, hB2'.trans q5⟩⟩
                      | (rw [HCM.out]; exact ⟨(hWk _).trans (q1 _), hWq.trans q2, ⟨⟨_, q3, by rw [List.length_append, flatN_snoc]; exact q4, trivial⟩, hB2'.trans q5⟩⟩)
                  exact AllReadyIn.nil
                refine AllReadyIn.cons rfl (fun K hK => ?_) ?_
                · go_simp
                  refine hK _ _ ?_
                  clear hK K
                  refine wpAnyIn_ready (rs := [6]) (by kernel_rfl) (by simp) ?_
                  refine AllReadyIn.cons rfl (fun K hK => ?_) ?_
                  · go_simp
                    refine hK _ _ ?_
                    clear hK K
                    refine wpAnyIn_done (by kernel_rfl) ?_ _
                    obtain ⟨q1, q2, q3, q4, q5⟩ := HD6.out
                    first
                      | exact ⟨(hWk _).trans (q1 _), hWq.trans q2, ⟨⟨_, q3, by rw [List.length_append, flatN_snoc]; exact q4, trivial⟩, hB2'.trans q5⟩⟩
                      | (rw [HCM.out]; exact ⟨(hWk _).trans (q1 _), hWq.trans q2, ⟨⟨_, q3, by rw [List.length_append, flatN_snoc]; exact q4, trivial⟩, hB2'.trans q5⟩⟩)
                  exact AllReadyIn.nil
                exact AllReadyIn.nil
              refine AllReadyIn.cons rfl (fun K hK => ?_) ?_
              · go_simp
                refine hK _ _ ?_
                clear hK K
                refine wpAnyIn_ready (rs := [5]) (by kernel_rfl) (by simp) ?_
                refine AllReadyIn.cons rfl (fun K hK => ?_) ?_
                · go_simp
                  refine hK _ _ ?_
                  clear hK K
                  refine wpAnyIn_ready (rs := [6]) (by kernel_rfl) (by simp) ?_
                  refine AllReadyIn.cons rfl (fun K hK => ?_) ?_
                  · go_simp
                    refine hK _ _ ?_
                    clear hK K
                    refine wpAnyIn_done (by kernel_rfl) ?_ _
                    obtain ⟨q1, q2, q3, q4, q5⟩ := HD6.out
                    first
                      | exact ⟨(hWk _).trans (q1 _), hWq.trans q2, ⟨⟨_, q3, by rw [List.length_append, flatN_snoc]; exact q4, trivial⟩, hB2'.trans q5⟩⟩
                      | (rw [HCM.out]; exact ⟨(hWk _).trans (q1 _), hWq.trans q2, ⟨⟨_, q3, by rw [List.length_append, flatN_snoc]; exact q4, trivial⟩, hB2'.trans q5⟩⟩)
                  exact AllReadyIn.nil
                exact AllReadyIn.nil
              exact AllReadyIn.nil
            exact AllReadyIn.nil
          exact AllReadyIn.nil
        exact AllReadyIn.nil
      exact AllReadyIn.nil
    exact AllReadyIn.nil
  case done =>
    rintro D ys W hD hys ⟨⟨vv1, bL1, hr1, _⟩, hB1'⟩ hK
    have cL := bL1.cell
    gi_wp2
    refine ⟨by simp, .inl ⟨_, _, rfl, run_takeDeferred hK, ?_⟩⟩
    exact ⟨_, results_tmp rfl _ _ _, ⟨ys, vv1, hys, rfl, ownsRow_putObj hr1 _ hK rfl⟩, hB1'.trans (belowK_b (w := w) (Nat.le_refl _) W D _ _ (by omega) hK rfl rfl)⟩
  case stop =>
    rintro D c pre W _ _ h _
    exact h.elim

end Go.Proofs.Ytdfhfljmcakilaa
