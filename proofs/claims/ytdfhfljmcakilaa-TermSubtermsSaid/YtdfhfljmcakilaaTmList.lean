/-
  Rules and the numbers of arguments in preorder, of the program. Nothing is assumed.
-/
import Derived.Test.YtdfhfljmcakilaaTmIter
namespace Go.Proofs.Ytdfhfljmcakilaa
open Go.RowKit Go.Shelf

attribute [local go_sem] Oper.semAt_some

set_option maxHeartbeats 800000 in
theorem preorder_any (v : T) (sl : Value) (w W0 : World) (B : Nat) (hrep : Rep W0 B sl v.l) :
    Calls Try.prog 42 #[.agg #[.int .i64 v.r, sl]] w fun e w' => e = .returned (.func (.func 55) #[] #[.pointer (some ⟨w.heap.size, 0, none⟩)]) ∧ w' = w.alloc (.cells #[.int .i64 v.r, sl] 24) := by
  obtain ⟨oa, cap, rfl, _, _⟩ := hrep.form
  go_enter Try.func42, Try.ntmps42
  go_wp2_with fail
  go_ret
  exact ⟨rfl, rfl⟩

set_option maxHeartbeats 1000000 in
theorem pre1_in (n l Bt n₀ : Nat) (v : T) (sl : Value) (W0 : World) (J Jx : List (Nd W0 n₀) → World → Prop) (hJa : ∀ s W o, J s W → J s (W.alloc o))
    (hY : ∀ pre x W, J pre W → pre.length < v.size → YieldAt Fence.wide (n - 1) Try.prog l #[x.enc] W fun e W' =>
      (e = .returned (.bool true) ∧ J (pre ++ [x]) W' ∧ Kq n₀ W W') ∨ (e = .returned (.bool false) ∧ Jx (pre ++ [x]) W'))
    (W : World) (hBt : TBox W Bt v sl) (hR0 : Rep W0 n₀ sl v.l) (hB0 : Below n₀ W0 W) (hn₀ : n₀ ≤ W.heap.size) (h0 : J [] W) :
    CallsIn Fence.wide n Try.prog 55 #[.func (.yield l) #[] #[], .pointer (some ⟨Bt, 0, none⟩)] W fun e W' => (∃ v, e = .returned v) ∧
      ((∃ ys : List (Nd W0 n₀), ys.map Nd.tm = v.pre ∧ J ys W') ∨ (∃ ys : List (Nd W0 n₀), ys.map Nd.tm <+: v.pre ∧ Jx ys W')) := by
  obtain ⟨c0, c1⟩ := hBt.cells
  have hv := visit_in l n₀ v.size W0 J Jx hJa (fun m pre x W hj hl => anyDepth m (hY pre x W hj hl)) v (n - 1) sl [] W hR0 hB0 hn₀ h0 (by simp)
  have noD : ∀ k : Nat, (Fence.wide.depth.isSome = true → 1 ≤ k) := fun k h => by cases h
  obtain ⟨oa, cap, rfl, _, _⟩ := hR0.form
  clear hY hBt
  refine callsIn_of_wp Try.func55 rfl trivial ?_ rfl
  simp only [Try.ntmps55, List.size_toArray, List.length_cons, List.length_nil, Nat.reduceAdd, Nat.reduceSub, Array.replicate_succ, Array.replicate_zero, List.push_toArray, List.append_toArray, List.nil_append, List.cons_append]
  gi_wp2
  refine ⟨trivial, ?_⟩
  first | refine ⟨noD _, ?_⟩ | skip
  gi_at_call 56
  refine hv.mono ?_
  clear hv
  rintro e W1 (⟨rfl, ys, hy, hJ1, _⟩ | ⟨rfl, ys, hy, hx⟩)
  · gi_wp2
    go_end0
    exact ⟨⟨_, rfl⟩, .inl ⟨ys, hy, by simpa using hJ1⟩⟩
  · gi_wp2
    go_end0
    exact ⟨⟨_, rfl⟩, .inr ⟨ys, hy, by simpa using hx⟩⟩

theorem pre_stops (n Bt n₀ : Nat) (v : T) (sl : Value) (W0 w : World) (hBt : TBox w Bt v sl) (hR0 : Rep W0 n₀ sl v.l) (hB0 : Below n₀ W0 w) (hn₀ : n₀ ≤ w.heap.size) :
    SeqStopsK Fence.wide n Try.prog 55 #[.pointer (some ⟨Bt, 0, none⟩)] (fun x : Nd W0 n₀ => #[x.enc]) (Kq n₀) (fun ys => ys.map Nd.tm = v.pre) (fun ys => ys.map Nd.tm <+: v.pre) v.size w := fun l J Jx W hW hJ _ hY h0 =>
  pre1_in n l Bt n₀ v sl W0 J Jx (fun s W1 o hs => hJ s W1 _ none hs (World.grownBy_alloc W1 o none) (fun r e => by cases e)) hY W ((hW.block Bt hBt.lt).trans hBt) hR0 (hB0.trans (hW.mono hn₀)) (Nat.le_trans hn₀ hW.size) h0

set_option maxHeartbeats 800000 in
theorem rule1_any (v : T) (sl : Value) (w W0 : World) (B : Nat) (hrep : Rep W0 B sl v.l) :
    Calls Try.prog 33 #[.agg #[.int .i64 v.r, sl]] w fun e w' => e = .returned (.int .i64 v.r) ∧ w' = w.alloc (.cells #[.int .i64 v.r, sl] 24) := by
  obtain ⟨oa, cap, rfl, _, _⟩ := hrep.form
  go_enter Try.func33, Try.ntmps33
  go_wp2_with fail
  go_ret
  exact ⟨rfl, rfl⟩
set_option maxHeartbeats 800000 in
theorem count1_any (v : T) (sl : Value) (w W0 : World) (B : Nat) (hrep : Rep W0 B sl v.l) :
    Calls Try.prog 52 #[.agg #[.int .i64 v.r, sl]] w fun e w' => e = .returned (.int .i64 v.l.length) ∧ w' = w.alloc (.cells #[.int .i64 v.r, sl] 24) := by
  obtain ⟨oa, cap, rfl, _, _⟩ := hrep.form
  go_enter Try.func52, Try.ntmps52
  go_wp2_with fail
  go_ret
  exact ⟨rfl, rfl⟩

/-- 'append' to a row of the call's own, as one step of a region that draws its order, inside a fence. -/
theorem stepIn_append {F : Fence} {n : Nat} {P : Program} (w : World) {ops : Array Oper} {o : Oper} {a : Act} {K : Act → World → Prop} {Q : Exit → Act → World → Prop} {E : Prop}
    (hgd : o.guard = none) (s x : Operand) (t : TypeId) (hop : o.op = Op.call { callee := Callee.builtin Builtin.append, args := #[s, x], argTypes := #[t, t] })
    (base : Nat) (e : TypeId) (i : TypeInfo) (z : Value) (size bytes : Nat) (h1 : P.underlying t = some (.slice e)) (h2 : P.info? e = some i) (h3 : i.zero = some z) (h4 : i.size = size) (h5 : i.bytes = bytes) (h6 : z.cells.size = size) (h7 : 0 < size)
    (v : Value) (k : Nat) (xs : List Value) (hs : a.eval s = v) (hown : w.ownsRow base e size v k xs) (ad : Addr) (m c : Nat) (news : List Value) (hx : a.eval x = .slice (some ad) m c) (hn : news.length = m * size)
    (hc : ∀ (j : Nat) u, news[j]? = some u → w.cell? (ad.add j) = some u) (h1c : ∀ u ∈ news, u.oneCell' = true) (b1 : k + m ≤ maxLen) (b2 : (k + m) * bytes ≤ 140737488355328) (b3 : base ≤ w.heap.size)
    (hK : ∀ v' w', w'.ownsRow base e size v' (k + m) (xs ++ news) → w.grownBy w' v.ownBlock → K (a.put o.dst v') w') :
    if Region.wanted o (yielded ops a.tmps) = true then Oper.wpIn F n P o a w K Q else E := by
  have hw : Region.wanted o (yielded ops a.tmps) = true := by simp [Region.wanted, hgd]
  rw [if_pos hw]
  obtain ⟨v', w', hrun, r1, r2, _⟩ := run_append_own (P := P) w base t o.type e i z size bytes h1 h2 h3 h4 h5 h6 h7 v k xs hown ad m c news hn hc h1c b1 b2 b3
  unfold Oper.wpIn
  refine ⟨?_, ?_⟩
  · simp [Oper.about, hop, resolve, Target.leads, Sem.run_pure]
  · rw [Oper.semAt_plain F _ _ (by rw [hop]; intro c hc'; cases hc')]
    simp [execOp, hop, resolve, invoke, builtin, hs, hx, hrun, Result.andThen]
    exact hK v' w' r1 r2

/-- What a round of listed owes behind its append. -/
theorem body_done {n₀ n₁ H5 k : Nat} {w Wd w6 : World} {vv v2 fv : Value} {xs : List Value} {z : Value} {o1 o2 : Obj} (bL : Boxed Wd H5 29 vv) (bF : Boxed Wd n₁ 27 fv) (hB : Below n₀ w Wd) (hn : n₀ ≤ Wd.heap.size) (hH : n₀ ≤ H5) (hne : n₁ ≠ H5)
    (hr : Wd.ownsRow n₀ 3 1 vv k xs) (hown : w6.ownsRow n₀ 3 1 v2 (k + 1) (xs ++ [z])) (hg : ((Wd.alloc o1).alloc o2).grownBy w6 vv.ownBlock) :
    w6.cell? ⟨H5, 0, none⟩ = some vv ∧ w6.frozen? ⟨H5, 0, none⟩ = false ∧ (∀ B, KeepsFrom B Wd (w6.setCell ⟨H5, 0, none⟩ v2)) ∧ Kq n₀ Wd (w6.setCell ⟨H5, 0, none⟩ v2) ∧ Boxed (w6.setCell ⟨H5, 0, none⟩ v2) H5 29 v2 ∧
      (w6.setCell ⟨H5, 0, none⟩ v2).ownsRow n₀ 3 1 v2 (k + 1) (xs ++ [z]) ∧ Boxed (w6.setCell ⟨H5, 0, none⟩ v2) n₁ 27 fv ∧ Below n₀ w (w6.setCell ⟨H5, 0, none⟩ v2) := by
  obtain ⟨h1, h2, h3, h4, h5⟩ := (bL.alloc o1).appended (by decide) (hr.alloc o1) (by simp; omega) hH hown hg
  have hk : Kq n₀ Wd (w6.setCell ⟨H5, 0, none⟩ v2) := by
    refine ⟨(((Below.refl n₀ Wd).alloc hn o1).trans h5), ?_⟩
    refine ((KT.alloc Wd o1).trans ((KT.alloc _ o2).trans (KT.grown hg (fun j ys fz e he => ?_)))).trans (KT.set h1 (by decide) v2)
    rcases ((hr.alloc o1).alloc o2).2 with ⟨rfl, _⟩ | ⟨g, cap, cur, rfl, _, hgb, _⟩
    · simp [Value.ownBlock] at e
    · obtain rfl : g = j := by simpa [Value.ownBlock] using e
      rw [hgb] at he
      cases he
  have hF6 : Boxed w6 n₁ 27 fv := ((bF.alloc o1).alloc o2).kept hg (((bF.alloc o1).alloc o2).not_row (by decide) ((hr.alloc o1).alloc o2))
  exact ⟨h1.cell, h1.frozen, fun B => ((KeepsOthers.alloc _ _).trans h4).from B, hk, h2, h3, hF6.other hne _, hB.trans hk.1⟩

set_option maxRecDepth 100000 in
set_option maxHeartbeats 2000000 in
theorem listedR_in (v : T) (sl : Value) (w : World) (hrep : Rep w w.heap.size sl v.l) (hsz : v.size ≤ 1000) (n : Nat) (hn : 10 ≤ n) :
    CallsIn Fence.wide n Try.prog 32 #[.agg #[.int .i64 v.r, sl], .func (.func 33) #[] #[]] w fun e w' => RetI w.heap.size v.rules e w' ∧ Below w.heap.size w w' := by
  have h1 : 1 ≤ n := by omega
  have HREP := Lib.hid hrep
  obtain ⟨oa, cap, rfl, _, _⟩ := hrep.form
  clear hrep
  have noD : ∀ k : Nat, (Fence.wide.depth.isSome = true → 1 ≤ k) := fun k h => by cases h
  obtain ⟨w1, hw1⟩ : ∃ w1, w1 = (w.alloc (.cells #[.int .i64 v.r, .slice oa v.l.length cap] 24)).alloc (.cells #[.func (.func 33) #[] #[]] 27) := ⟨_, rfl⟩
  have hB1 : Below w.heap.size w w1 := by rw [hw1]; exact below2 _ _ _
  have HS := Lib.hid (size_any v (.slice oa v.l.length cap) w1 w.heap.size (HREP.out.later hB1) hB1.size hsz)
  rw [hw1] at HS
  refine callsIn_of_wp_marks Try.func32 rfl trivial ?_ rfl
  simp only [Try.ntmps32, List.size_toArray, List.length_cons, List.length_nil, Nat.reduceAdd, Nat.reduceSub, Array.replicate_succ, Array.replicate_zero, List.push_toArray, List.append_toArray, List.nil_append, List.cons_append]
  obtain ⟨i0, hi, hz0, hz1, hz2⟩ := info_parts infoInt
  gi_wp2
  refine ⟨trivial, ?_⟩
  gi_at_call 11
  refine (callsIn_wide.2 HS.out).mono ?_
  rintro e w2 ⟨rfl, hb2⟩
  rw [← hw1] at hb2
  have hB2 : Below w.heap.size w w2 := hB1.trans (hb2.mono hB1.size)
  have hT2 : TBox w2 w.heap.size v (.slice oa v.l.length cap) := by
    have h : TBox w1 w.heap.size v (.slice oa v.l.length cap) := by rw [hw1]; exact (TBox.new w v _).keep (KT.alloc _ _)
    exact (hb2.block _ h.lt).trans h
  have hF2 : Boxed w2 (w.heap.size + 1) 27 (.func (.func 33) #[] #[]) := by
    have h : Boxed w1 (w.heap.size + 1) 27 (.func (.func 33) #[] #[]) := by
      have h := Boxed.new (w.alloc (.cells #[.int .i64 v.r, .slice oa v.l.length cap] 24)) 27 (.func (.func 33) #[] #[])
      rw [World.size_alloc] at h
      rw [hw1]; exact h
    exact (hb2.block _ h.lt).trans h
  clear hb2 HS
  have hs2 := hB2.size
  gi_wp2_with (gi_at_make; refine wpListIn_make_own _ rfl _ _ 29 rfl w.heap.size 3 i0 _ 1 Try.underlying29 hi hz0 hz1 _ _ _ v.size rfl rfl rfl ?b2 ?b3 hs2 ?_)
  case b2 => rw [hz2]; omega
  case b3 => unfold maxLen; omega
  intro w3 hown3 hgrow3
  have hB3 : Below w.heap.size w w3 := hB2.grown hgrow3 hs2 (fun k e => by cases e)
  have hT3 : TBox w3 w.heap.size v (.slice oa v.l.length cap) := hT2.keep (KT.grown hgrow3 (fun k xs fz e => by cases e))
  have hF3 : Boxed w3 (w.heap.size + 1) 27 (.func (.func 33) #[] #[]) := hF2.kept hgrow3 (by simp)
  obtain ⟨vv, hvv⟩ : ∃ vv, vv = Value.slice (some ⟨w2.heap.size, 0, none⟩) 0 v.size := ⟨_, rfl⟩
  obtain ⟨cR, cA⟩ := hT3.cells
  have hs3 := hB3.size
  have hl3 := hT3.lt
  have hl3' := hF3.lt
  clear hgrow3 hT2 hF2
  have HP := Lib.hid (fun w' => preorder_any v (.slice oa v.l.length cap) w' w w.heap.size HREP.out)
  gi_wp2
  refine ⟨trivial, ?_⟩
  gi_at_call 42
  refine (callsIn_wide.2 (HP.out _)).mono ?_
  rintro e w5 ⟨rfl, hw5⟩
  have bL : Boxed w5 w3.heap.size 29 vv := by rw [hw5, hvv]; exact (Boxed.new w3 _ _).alloc _
  have bF : Boxed w5 (w.heap.size + 1) 27 (.func (.func 33) #[] #[]) := by rw [hw5]; exact (hF3.alloc _).alloc _
  have bT : TBox w5 (w3.heap.size + 1) v (.slice oa v.l.length cap) := by
    rw [hw5]
    have h := TBox.new (w3.alloc (.cells #[.slice (some ⟨w2.heap.size, 0, none⟩) 0 v.size] 29)) v (.slice oa v.l.length cap)
    rw [World.size_alloc] at h
    exact h
  have hB5 : Below w.heap.size w w5 := by rw [hw5]; exact (hB3.alloc hs3 _).alloc (by simp; omega) _
  have hrow5 : w5.ownsRow w.heap.size 3 1 vv 0 [] := by rw [hw5, hvv]; exact (hown3.alloc _).alloc _
  have hsz5 : w5.heap.size = w3.heap.size + 2 := by rw [hw5]; simp
  clear hw5 hown3 hF3 hT3 HP cR cA
  rw [World.size_alloc]
  gi_wp2
  refine wpIn_rangeFunc_ownH rfl h1 (gf := 55) (lb := #[.pointer (some ⟨w3.heap.size + 1, 0, none⟩)]) rfl trivial (enters_of Try.func55 (by kernel_rfl) rfl)
    (pre_stops (n - 1) (w3.heap.size + 1) w.heap.size v (.slice oa v.l.length cap) w w5 bT HREP.out hB5 (by omega)) Kq.trans (Kq.b (by omega)) (Below.refl _ _) (fun _ => rfl)
    (fun (pre : List (Nd w w.heap.size)) W => ((∃ vv, Boxed W w3.heap.size 29 vv ∧ W.ownsRow w.heap.size 3 1 vv pre.length (pre.map fun x => Value.int .i64 x.tm.r) ∧ True) ∧ Boxed W (w.heap.size + 1) 27 (.func (.func 33) #[] #[])) ∧ Below w.heap.size w W)
    (fun _ _ _ => False)
    (OwnFrom.and (OwnFrom.and (Own.from (holdsRow_own w.heap.size w3.heap.size 29 3 1 (fun pre : List (Nd w w.heap.size) => pre.length) (fun pre : List (Nd w w.heap.size) => pre.map fun x => Value.int .i64 x.tm.r) (fun _ _ => True)) _) (Own.from (boxed_own _ _ _) _)) (ownFrom_below (Nat.le_refl _) (by omega)))
    (fun _ _ _ _ _ hs _ _ => hs)
    ⟨⟨⟨vv, bL, hrow5, trivial⟩, bF⟩, hB5⟩
    (fun (x : Nd w w.heap.size) a' W => ∃ Bx, TBox W Bx x.1.1 x.1.2 ∧ a' = { tmps := #[.agg #[.int .i64 v.r, .slice oa v.l.length cap], .func (.func 33) #[] #[], .pointer (some ⟨w.heap.size, 0, none⟩), .pointer (some ⟨w.heap.size + 1, 0, none⟩), .slice none 0 0, .pointer (some ⟨w3.heap.size, 0, none⟩), .pointer (some ⟨Bx, 0, none⟩), .agg #[.int .i64 v.r, .slice oa v.l.length cap], .int .i64 v.size, .slice (some ⟨w2.heap.size, 0, none⟩) 0 v.size, .agg #[.int .i64 v.r, .slice oa v.l.length cap], .func (.func 55) #[] #[.pointer (some ⟨w3.heap.size + 1, 0, none⟩)], x.enc, undef, undef, undef, undef, undef, undef, undef], defers := [] })
    (fun x a' _ X Y row hs hg hr => by
      obtain ⟨Bx, k2, k3⟩ := hs
      refine ⟨Bx, k2.keep (KT.grown hg (fun k xs fz e he => ?_)), k3⟩
      obtain ⟨_, o, ho, hc⟩ := hr k e
      rw [he] at ho
      cases ho
      cases hc)
    ?assign ?body ?done ?stop
  case assign =>
    rintro l pre x W K ⟨⟨⟨vv1, bL1, hr1, _⟩, bF1⟩, hB1'⟩ hK
    obtain ⟨xt, xoa, xcap, hx, rfl⟩ := Nd.opened x
    have hsW := hB1'.size
    simp only [Nd.enc] at hK ⊢
    gi_wp2
    exact hK _ _ ((KeepsOthers.alloc _ _).from _) (Kq.alloc hsW _) ⟨⟨⟨vv1, bL1.alloc _, hr1.alloc _, trivial⟩, bF1.alloc _⟩, hB1'.alloc hsW _⟩ ⟨W.heap.size, TBox.new W _ _, rfl⟩
  case body =>
    rintro l pre x a' W hl ⟨r, hr⟩ ⟨⟨⟨vv1, bL1, hr1, _⟩, bF1⟩, hB1'⟩ ⟨Bx, bX, rfl⟩ hlt
    obtain ⟨xt, xoa, xcap, hx, rfl⟩ := Nd.opened x
    have HP := Lib.hid (fun w' => rule1_any xt (.slice xoa xt.l.length xcap) w' w w.heap.size hx)
    simp only [Nd.enc]
    have hmx : Try.prog.follows .mixedOrders = true := by kernel_rfl
    gi_wp2
    refine wpIn_region_any hmx ?_
    change wpAnyIn _ _ _ _ _ _ _ _ _ (World.drew _)
    have hWq : Kq w.heap.size W W.drew := ⟨(Below.refl _ W).drew, KT.drew W 1⟩
    have hWk : ∀ B, KeepsFrom B W W.drew := fun B => (KeepsOthers.drew W).from B
    have bL2 : Boxed W.drew w3.heap.size 29 vv1 := bL1
    have bF2 : Boxed W.drew (w.heap.size + 1) 27 (.func (.func 33) #[] #[]) := bF1
    have bX2 : TBox W.drew Bx xt (.slice xoa xt.l.length xcap) := bX
    have hr2 : W.drew.ownsRow w.heap.size 3 1 vv1 pre.length (pre.map fun x => Value.int .i64 x.tm.r) := hr1
    have hB2' := hB1'.drew
    clear bL1 bF1 bX hr1 hB1' hl hr
    generalize W.drew = Wd at *
    have hsW := hB2'.size
    have cL := bL2.cell
    have cL1 : ∀ o, (Wd.alloc o).cell? ⟨w3.heap.size, 0, none⟩ = some vv1 := fun o => (bL2.alloc o).cell
    have cL2 : ∀ o o', ((Wd.alloc o).alloc o').cell? ⟨w3.heap.size, 0, none⟩ = some vv1 := fun o o' => ((bL2.alloc o).alloc o').cell
    have fL := bL2.frozen
    have cF := bF2.cell
    obtain ⟨cX0, cX1⟩ := bX2.cells
    have hsrc := one_cells (Wd.alloc (.cells #[.int .i64 xt.r, .slice xoa xt.l.length xcap] 24)) 3 xt.r
    rw [World.size_alloc] at hsrc
    refine wpAnyIn_ready (rs := [0, 1, 2]) (by kernel_rfl) (by simp) ?_
    refine AllReadyIn.cons rfl (fun K hK => ?_) ?_
    · go_simp
      refine hK _ _ ?_
      clear hK K
      refine wpAnyIn_ready (rs := [1, 2]) (by kernel_rfl) (by simp) ?_
      refine AllReadyIn.cons rfl (fun K hK => ?_) ?_
      · go_simp
        refine hK _ _ ?_
        clear hK K
        refine wpAnyIn_ready (rs := [2]) (by kernel_rfl) (by simp) ?_
        refine AllReadyIn.cons rfl (fun K hK => ?_) ?_
        · go_simp
          refine hK _ _ ?_
          clear hK K
          refine wpAnyIn_ready (rs := [3]) (by kernel_rfl) (by simp) ?_
          refine AllReadyIn.cons rfl (fun K hK => ?_) ?_
          · go_simp
            gi_wp2_with (refine ⟨trivial, noD _, ?_⟩; gi_at_call 33; refine (CallsIn.inRound l (callsIn_wide.2 (HP.out _))).mono ?_; rintro e w' ⟨rfl, rfl⟩)
            refine wpAnyIn_ready (rs := [4]) (by kernel_rfl) (by simp) ?_
            refine AllReadyIn.cons rfl (fun K hK => ?_) ?_
            · go_simp
              refine hK _ _ ?_
              clear hK K
              refine wpAnyIn_ready (rs := [5]) (by kernel_rfl) (by simp) ?_
              refine AllReadyIn.cons rfl (fun K hK => ?_) ?_
              · refine stepIn_append _ rfl _ _ 29 rfl w.heap.size 3 i0 (.int .i64 0) 1 8 Try.underlying29 hi hz0 hz1 hz2 rfl (by decide) vv1 pre.length _ rfl ((hr2.alloc _).alloc _) ⟨Wd.heap.size + 1, 0, none⟩ 1 1 [.int .i64 xt.r] rfl rfl hsrc (one_one _) (by unfold maxLen; omega) (by omega) (by simp; omega) ?_
                intro v2 w6 hown6 hgrow6
                obtain ⟨g2, cap2, rfl⟩ := ownsRow_succ hown6
                have h6 := body_done bL2 bF2 hB2' hsW hs3 (by omega) hr2 hown6 hgrow6
                obtain ⟨cL6, fL6, HD6⟩ := h6
                have HD6 := Lib.hid HD6
                refine hK _ _ ?_
                clear hK K
                refine wpAnyIn_ready (rs := [6]) (by kernel_rfl) (by simp) ?_
                refine AllReadyIn.cons rfl (fun K hK => ?_) ?_
                · go_simp
                  refine hK _ _ ?_
                  clear hK K
                  refine wpAnyIn_done (by kernel_rfl) ?_ _
                  obtain ⟨q1, q2, q3, q4, q5, q6⟩ := HD6.out
                  exact ⟨(hWk _).trans (q1 _), hWq.trans q2, ⟨⟨_, q3, by simpa [Nd.tm] using q4, trivial⟩, q5⟩, q6⟩
                exact AllReadyIn.nil
              exact AllReadyIn.nil
            exact AllReadyIn.nil
          exact AllReadyIn.nil
        exact AllReadyIn.nil
      refine AllReadyIn.cons rfl (fun K hK => ?_) ?_
      · go_simp
        refine hK _ _ ?_
        clear hK K
        refine wpAnyIn_ready (rs := [1]) (by kernel_rfl) (by simp) ?_
        refine AllReadyIn.cons rfl (fun K hK => ?_) ?_
        · go_simp
          refine hK _ _ ?_
          clear hK K
          refine wpAnyIn_ready (rs := [3]) (by kernel_rfl) (by simp) ?_
          refine AllReadyIn.cons rfl (fun K hK => ?_) ?_
          · go_simp
            gi_wp2_with (refine ⟨trivial, noD _, ?_⟩; gi_at_call 33; refine (CallsIn.inRound l (callsIn_wide.2 (HP.out _))).mono ?_; rintro e w' ⟨rfl, rfl⟩)
            refine wpAnyIn_ready (rs := [4]) (by kernel_rfl) (by simp) ?_
            refine AllReadyIn.cons rfl (fun K hK => ?_) ?_
            · go_simp
              refine hK _ _ ?_
              clear hK K
              refine wpAnyIn_ready (rs := [5]) (by kernel_rfl) (by simp) ?_
              refine AllReadyIn.cons rfl (fun K hK => ?_) ?_
              · refine stepIn_append _ rfl _ _ 29 rfl w.heap.size 3 i0 (.int .i64 0) 1 8 Try.underlying29 hi hz0 hz1 hz2 rfl (by decide) vv1 pre.length _ rfl ((hr2.alloc _).alloc _) ⟨Wd.heap.size + 1, 0, none⟩ 1 1 [.int .i64 xt.r] rfl rfl hsrc (one_one _) (by unfold maxLen; omega) (by omega) (by simp; omega) ?_
                intro v2 w6 hown6 hgrow6
                obtain ⟨g2, cap2, rfl⟩ := ownsRow_succ hown6
                have h6 := body_done bL2 bF2 hB2' hsW hs3 (by omega) hr2 hown6 hgrow6
                obtain ⟨cL6, fL6, HD6⟩ := h6
                have HD6 := Lib.hid HD6
                refine hK _ _ ?_
                clear hK K
                refine wpAnyIn_ready (rs := [6]) (by kernel_rfl) (by simp) ?_
                refine AllReadyIn.cons rfl (fun K hK => ?_) ?_
                · go_simp
                  refine hK _ _ ?_
                  clear hK K
                  refine wpAnyIn_done (by kernel_rfl) ?_ _
                  obtain ⟨q1, q2, q3, q4, q5, q6⟩ := HD6.out
                  exact ⟨(hWk _).trans (q1 _), hWq.trans q2, ⟨⟨_, q3, by simpa [Nd.tm] using q4, trivial⟩, q5⟩, q6⟩
                exact AllReadyIn.nil
              exact AllReadyIn.nil
            exact AllReadyIn.nil
          exact AllReadyIn.nil
        exact AllReadyIn.nil
      exact AllReadyIn.nil
    refine AllReadyIn.cons rfl (fun K hK => ?_) ?_
    · go_simp
      refine hK _ _ ?_
      clear hK K
      refine wpAnyIn_ready (rs := [0, 2]) (by kernel_rfl) (by simp) ?_
      refine AllReadyIn.cons rfl (fun K hK => ?_) ?_
      · go_simp
        refine hK _ _ ?_
        clear hK K
        refine wpAnyIn_ready (rs := [2]) (by kernel_rfl) (by simp) ?_
        refine AllReadyIn.cons rfl (fun K hK => ?_) ?_
        · go_simp
          refine hK _ _ ?_
          clear hK K
          refine wpAnyIn_ready (rs := [3]) (by kernel_rfl) (by simp) ?_
          refine AllReadyIn.cons rfl (fun K hK => ?_) ?_
          · go_simp
            gi_wp2_with (refine ⟨trivial, noD _, ?_⟩; gi_at_call 33; refine (CallsIn.inRound l (callsIn_wide.2 (HP.out _))).mono ?_; rintro e w' ⟨rfl, rfl⟩)
            refine wpAnyIn_ready (rs := [4]) (by kernel_rfl) (by simp) ?_
            refine AllReadyIn.cons rfl (fun K hK => ?_) ?_
            · go_simp
              refine hK _ _ ?_
              clear hK K
              refine wpAnyIn_ready (rs := [5]) (by kernel_rfl) (by simp) ?_
              refine AllReadyIn.cons rfl (fun K hK => ?_) ?_
              · refine stepIn_append _ rfl _ _ 29 rfl w.heap.size 3 i0 (.int .i64 0) 1 8 Try.underlying29 hi hz0 hz1 hz2 rfl (by decide) vv1 pre.length _ rfl ((hr2.alloc _).alloc _) ⟨Wd.heap.size + 1, 0, none⟩ 1 1 [.int .i64 xt.r] rfl rfl hsrc (one_one _) (by unfold maxLen; omega) (by omega) (by simp; omega) ?_
                intro v2 w6 hown6 hgrow6
                obtain ⟨g2, cap2, rfl⟩ := ownsRow_succ hown6
                have h6 := body_done bL2 bF2 hB2' hsW hs3 (by omega) hr2 hown6 hgrow6
                obtain ⟨cL6, fL6, HD6⟩ := h6
                have HD6 := Lib.hid HD6
                refine hK _ _ ?_
                clear hK K
                refine wpAnyIn_ready (rs := [6]) (by kernel_rfl) (by simp) ?_
                refine AllReadyIn.cons rfl (fun K hK => ?_) ?_
                · go_simp
                  refine hK _ _ ?_
                  clear hK K
                  refine wpAnyIn_done (by kernel_rfl) ?_ _
                  obtain ⟨q1, q2, q3, q4, q5, q6⟩ := HD6.out
                  exact ⟨(hWk _).trans (q1 _), hWq.trans q2, ⟨⟨_, q3, by simpa [Nd.tm] using q4, trivial⟩, q5⟩, q6⟩
                exact AllReadyIn.nil
              exact AllReadyIn.nil
            exact AllReadyIn.nil
          exact AllReadyIn.nil
        exact AllReadyIn.nil
      refine AllReadyIn.cons rfl (fun K hK => ?_) ?_
      · go_simp
        refine hK _ _ ?_
        clear hK K
        refine wpAnyIn_ready (rs := [0, 3]) (by kernel_rfl) (by simp) ?_
        refine AllReadyIn.cons rfl (fun K hK => ?_) ?_
        · go_simp
          refine hK _ _ ?_
          clear hK K
          refine wpAnyIn_ready (rs := [3]) (by kernel_rfl) (by simp) ?_
          refine AllReadyIn.cons rfl (fun K hK => ?_) ?_
          · go_simp
            gi_wp2_with (refine ⟨trivial, noD _, ?_⟩; gi_at_call 33; refine (CallsIn.inRound l (callsIn_wide.2 (HP.out _))).mono ?_; rintro e w' ⟨rfl, rfl⟩)
            refine wpAnyIn_ready (rs := [4]) (by kernel_rfl) (by simp) ?_
            refine AllReadyIn.cons rfl (fun K hK => ?_) ?_
            · go_simp
              refine hK _ _ ?_
              clear hK K
              refine wpAnyIn_ready (rs := [5]) (by kernel_rfl) (by simp) ?_
              refine AllReadyIn.cons rfl (fun K hK => ?_) ?_
              · refine stepIn_append _ rfl _ _ 29 rfl w.heap.size 3 i0 (.int .i64 0) 1 8 Try.underlying29 hi hz0 hz1 hz2 rfl (by decide) vv1 pre.length _ rfl ((hr2.alloc _).alloc _) ⟨Wd.heap.size + 1, 0, none⟩ 1 1 [.int .i64 xt.r] rfl rfl hsrc (one_one _) (by unfold maxLen; omega) (by omega) (by simp; omega) ?_
                intro v2 w6 hown6 hgrow6
                obtain ⟨g2, cap2, rfl⟩ := ownsRow_succ hown6
                have h6 := body_done bL2 bF2 hB2' hsW hs3 (by omega) hr2 hown6 hgrow6
                obtain ⟨cL6, fL6, HD6⟩ := h6
                have HD6 := Lib.hid HD6
                refine hK _ _ ?_
                clear hK K
                refine wpAnyIn_ready (rs := [6]) (by kernel_rfl) (by simp) ?_
                refine AllReadyIn.cons rfl (fun K hK => ?_) ?_
                · go_simp
                  refine hK _ _ ?_
                  clear hK K
                  refine wpAnyIn_done (by kernel_rfl) ?_ _
                  obtain ⟨q1, q2, q3, q4, q5, q6⟩ := HD6.out
                  exact ⟨(hWk _).trans (q1 _), hWq.trans q2, ⟨⟨_, q3, by simpa [Nd.tm] using q4, trivial⟩, q5⟩, q6⟩
                exact AllReadyIn.nil
              exact AllReadyIn.nil
            exact AllReadyIn.nil
          exact AllReadyIn.nil
        refine AllReadyIn.cons rfl (fun K hK => ?_) ?_
        · go_simp
          gi_wp2_with (refine ⟨trivial, noD _, ?_⟩; gi_at_call 33; refine (CallsIn.inRound l (callsIn_wide.2 (HP.out _))).mono ?_; rintro e w' ⟨rfl, rfl⟩)
          refine wpAnyIn_ready (rs := [0, 4]) (by kernel_rfl) (by simp) ?_
          refine AllReadyIn.cons rfl (fun K hK => ?_) ?_
          · go_simp
            refine hK _ _ ?_
            clear hK K
            refine wpAnyIn_ready (rs := [4]) (by kernel_rfl) (by simp) ?_
            refine AllReadyIn.cons rfl (fun K hK => ?_) ?_
            · go_simp
              refine hK _ _ ?_
              clear hK K
              refine wpAnyIn_ready (rs := [5]) (by kernel_rfl) (by simp) ?_
              refine AllReadyIn.cons rfl (fun K hK => ?_) ?_
              · refine stepIn_append _ rfl _ _ 29 rfl w.heap.size 3 i0 (.int .i64 0) 1 8 Try.underlying29 hi hz0 hz1 hz2 rfl (by decide) vv1 pre.length _ rfl ((hr2.alloc _).alloc _) ⟨Wd.heap.size + 1, 0, none⟩ 1 1 [.int .i64 xt.r] rfl rfl hsrc (one_one _) (by unfold maxLen; omega) (by omega) (by simp; omega) ?_
                intro v2 w6 hown6 hgrow6
                obtain ⟨g2, cap2, rfl⟩ := ownsRow_succ hown6
                have h6 := body_done bL2 bF2 hB2' hsW hs3 (by omega) hr2 hown6 hgrow6
                obtain ⟨cL6, fL6, HD6⟩ := h6
                have HD6 := Lib.hid HD6
                refine hK _ _ ?_
                clear hK K
                refine wpAnyIn_ready (rs := [6]) (by kernel_rfl) (by simp) ?_
                refine AllReadyIn.cons rfl (fun K hK => ?_) ?_
                · go_simp
                  refine hK _ _ ?_
                  clear hK K
                  refine wpAnyIn_done (by kernel_rfl) ?_ _
                  obtain ⟨q1, q2, q3, q4, q5, q6⟩ := HD6.out
                  exact ⟨(hWk _).trans (q1 _), hWq.trans q2, ⟨⟨_, q3, by simpa [Nd.tm] using q4, trivial⟩, q5⟩, q6⟩
                exact AllReadyIn.nil
              exact AllReadyIn.nil
            exact AllReadyIn.nil
          refine AllReadyIn.cons rfl (fun K hK => ?_) ?_
          · go_simp
            refine hK _ _ ?_
            clear hK K
            refine wpAnyIn_ready (rs := [0]) (by kernel_rfl) (by simp) ?_
            refine AllReadyIn.cons rfl (fun K hK => ?_) ?_
            · go_simp
              refine hK _ _ ?_
              clear hK K
              refine wpAnyIn_ready (rs := [5]) (by kernel_rfl) (by simp) ?_
              refine AllReadyIn.cons rfl (fun K hK => ?_) ?_
              · refine stepIn_append _ rfl _ _ 29 rfl w.heap.size 3 i0 (.int .i64 0) 1 8 Try.underlying29 hi hz0 hz1 hz2 rfl (by decide) vv1 pre.length _ rfl ((hr2.alloc _).alloc _) ⟨Wd.heap.size + 1, 0, none⟩ 1 1 [.int .i64 xt.r] rfl rfl hsrc (one_one _) (by unfold maxLen; omega) (by omega) (by simp; omega) ?_
                intro v2 w6 hown6 hgrow6
                obtain ⟨g2, cap2, rfl⟩ := ownsRow_succ hown6
                have h6 := body_done bL2 bF2 hB2' hsW hs3 (by omega) hr2 hown6 hgrow6
                obtain ⟨cL6, fL6, HD6⟩ := h6
                have HD6 := Lib.hid HD6
                refine hK _ _ ?_
                clear hK K
                refine wpAnyIn_ready (rs := [6]) (by kernel_rfl) (by simp) ?_
                refine AllReadyIn.cons rfl (fun K hK => ?_) ?_
                · go_simp
                  refine hK _ _ ?_
                  clear hK K
                  refine wpAnyIn_done (by kernel_rfl) ?_ _
                  obtain ⟨q1, q2, q3, q4, q5, q6⟩ := HD6.out
                  exact ⟨(hWk _).trans (q1 _), hWq.trans q2, ⟨⟨_, q3, by simpa [Nd.tm] using q4, trivial⟩, q5⟩, q6⟩
                exact AllReadyIn.nil
              exact AllReadyIn.nil
            exact AllReadyIn.nil
          exact AllReadyIn.nil
        exact AllReadyIn.nil
      exact AllReadyIn.nil
    refine AllReadyIn.cons rfl (fun K hK => ?_) ?_
    · go_simp
      refine hK _ _ ?_
      clear hK K
      refine wpAnyIn_ready (rs := [0, 1]) (by kernel_rfl) (by simp) ?_
      refine AllReadyIn.cons rfl (fun K hK => ?_) ?_
      · go_simp
        refine hK _ _ ?_
        clear hK K
        refine wpAnyIn_ready (rs := [1]) (by kernel_rfl) (by simp) ?_
        refine AllReadyIn.cons rfl (fun K hK => ?_) ?_
        · go_simp
          refine hK _ _ ?_
          clear hK K
          refine wpAnyIn_ready (rs := [3]) (by kernel_rfl) (by simp) ?_
          refine AllReadyIn.cons rfl (fun K hK => ?_) ?_
          · go_simp
            gi_wp2_with (refine ⟨trivial, noD _, ?_⟩; gi_at_call 33; refine (CallsIn.inRound l (callsIn_wide.2 (HP.out _))).mono ?_; rintro e w' ⟨rfl, rfl⟩)
            refine wpAnyIn_ready (rs := [4]) (by kernel_rfl) (by simp) ?_
            refine AllReadyIn.cons rfl (fun K hK => ?_) ?_
            · go_simp
              refine hK _ _ ?_
              clear hK K
              refine wpAnyIn_ready (rs := [5]) (by kernel_rfl) (by simp) ?_
              refine AllReadyIn.cons rfl (fun K hK => ?_) ?_
              · refine stepIn_append _ rfl _ _ 29 rfl w.heap.size 3 i0 (.int .i64 0) 1 8 Try.underlying29 hi hz0 hz1 hz2 rfl (by decide) vv1 pre.length _ rfl ((hr2.alloc _).alloc _) ⟨Wd.heap.size + 1, 0, none⟩ 1 1 [.int .i64 xt.r] rfl rfl hsrc (one_one _) (by unfold maxLen; omega) (by omega) (by simp; omega) ?_
                intro v2 w6 hown6 hgrow6
                obtain ⟨g2, cap2, rfl⟩ := ownsRow_succ hown6
                have h6 := body_done bL2 bF2 hB2' hsW hs3 (by omega) hr2 hown6 hgrow6
                obtain ⟨cL6, fL6, HD6⟩ := h6
                have HD6 := Lib.hid HD6
                refine hK _ _ ?_
                clear hK K
                refine wpAnyIn_ready (rs := [6]) (by kernel_rfl) (by simp) ?_
                refine AllReadyIn.cons rfl (fun K hK => ?_) ?_
                · go_simp
                  refine hK _ _ ?_
                  clear hK K
                  refine wpAnyIn_done (by kernel_rfl) ?_ _
                  obtain ⟨q1, q2, q3, q4, q5, q6⟩ := HD6.out
                  exact ⟨(hWk _).trans (q1 _), hWq.trans q2, ⟨⟨_, q3, by simpa [Nd.tm] using q4, trivial⟩, q5⟩, q6⟩
                exact AllReadyIn.nil
              exact AllReadyIn.nil
            exact AllReadyIn.nil
          exact AllReadyIn.nil
        exact AllReadyIn.nil
      refine AllReadyIn.cons rfl (fun K hK => ?_) ?_
      · go_simp
        refine hK _ _ ?_
        clear hK K
        refine wpAnyIn_ready (rs := [0, 3]) (by kernel_rfl) (by simp) ?_
        refine AllReadyIn.cons rfl (fun K hK => ?_) ?_
        · go_simp
          refine hK _ _ ?_
          clear hK K
          refine wpAnyIn_ready (rs := [3]) (by kernel_rfl) (by simp) ?_
          refine AllReadyIn.cons rfl (fun K hK => ?_) ?_
          · go_simp
            gi_wp2_with (refine ⟨trivial, noD _, ?_⟩; gi_at_call 33; refine (CallsIn.inRound l (callsIn_wide.2 (HP.out _))).mono ?_; rintro e w' ⟨rfl, rfl⟩)
            refine wpAnyIn_ready (rs := [4]) (by kernel_rfl) (by simp) ?_
            refine AllReadyIn.cons rfl (fun K hK => ?_) ?_
            · go_simp
              refine hK _ _ ?_
              clear hK K
              refine wpAnyIn_ready (rs := [5]) (by kernel_rfl) (by simp) ?_
              refine AllReadyIn.cons rfl (fun K hK => ?_) ?_
              · refine stepIn_append _ rfl _ _ 29 rfl w.heap.size 3 i0 (.int .i64 0) 1 8 Try.underlying29 hi hz0 hz1 hz2 rfl (by decide) vv1 pre.length _ rfl ((hr2.alloc _).alloc _) ⟨Wd.heap.size + 1, 0, none⟩ 1 1 [.int .i64 xt.r] rfl rfl hsrc (one_one _) (by unfold maxLen; omega) (by omega) (by simp; omega) ?_
                intro v2 w6 hown6 hgrow6
                obtain ⟨g2, cap2, rfl⟩ := ownsRow_succ hown6
                have h6 := body_done bL2 bF2 hB2' hsW hs3 (by omega) hr2 hown6 hgrow6
                obtain ⟨cL6, fL6, HD6⟩ := h6
                have HD6 := Lib.hid HD6
                refine hK _ _ ?_
                clear hK K
                refine wpAnyIn_ready (rs := [6]) (by kernel_rfl) (by simp) ?_
                refine AllReadyIn.cons rfl (fun K hK => ?_) ?_
                · go_simp
                  refine hK _ _ ?_
                  clear hK K
                  refine wpAnyIn_done (by kernel_rfl) ?_ _
                  obtain ⟨q1, q2, q3, q4, q5, q6⟩ := HD6.out
                  exact ⟨(hWk _).trans (q1 _), hWq.trans q2, ⟨⟨_, q3, by simpa [Nd.tm] using q4, trivial⟩, q5⟩, q6⟩
                exact AllReadyIn.nil
              exact AllReadyIn.nil
            exact AllReadyIn.nil
          exact AllReadyIn.nil
        refine AllReadyIn.cons rfl (fun K hK => ?_) ?_
        · go_simp
          gi_wp2_with (refine ⟨trivial, noD _, ?_⟩; gi_at_call 33; refine (CallsIn.inRound l (callsIn_wide.2 (HP.out _))).mono ?_; rintro e w' ⟨rfl, rfl⟩)
          refine wpAnyIn_ready (rs := [0, 4]) (by kernel_rfl) (by simp) ?_
          refine AllReadyIn.cons rfl (fun K hK => ?_) ?_
          · go_simp
            refine hK _ _ ?_
            clear hK K
            refine wpAnyIn_ready (rs := [4]) (by kernel_rfl) (by simp) ?_
            refine AllReadyIn.cons rfl (fun K hK => ?_) ?_
            · go_simp
              refine hK _ _ ?_
              clear hK K
              refine wpAnyIn_ready (rs := [5]) (by kernel_rfl) (by simp) ?_
              refine AllReadyIn.cons rfl (fun K hK => ?_) ?_
              · refine stepIn_append _ rfl _ _ 29 rfl w.heap.size 3 i0 (.int .i64 0) 1 8 Try.underlying29 hi hz0 hz1 hz2 rfl (by decide) vv1 pre.length _ rfl ((hr2.alloc _).alloc _) ⟨Wd.heap.size + 1, 0, none⟩ 1 1 [.int .i64 xt.r] rfl rfl hsrc (one_one _) (by unfold maxLen; omega) (by omega) (by simp; omega) ?_
                intro v2 w6 hown6 hgrow6
                obtain ⟨g2, cap2, rfl⟩ := ownsRow_succ hown6
                have h6 := body_done bL2 bF2 hB2' hsW hs3 (by omega) hr2 hown6 hgrow6
                obtain ⟨cL6, fL6, HD6⟩ := h6
                have HD6 := Lib.hid HD6
                refine hK _ _ ?_
                clear hK K
                refine wpAnyIn_ready (rs := [6]) (by kernel_rfl) (by simp) ?_
                refine AllReadyIn.cons rfl (fun K hK => ?_) ?_
                · go_simp
                  refine hK _ _ ?_
                  clear hK K
                  refine wpAnyIn_done (by kernel_rfl) ?_ _
                  obtain ⟨q1, q2, q3, q4, q5, q6⟩ := HD6.out
                  exact ⟨(hWk _).trans (q1 _), hWq.trans q2, ⟨⟨_, q3, by simpa [Nd.tm] using q4, trivial⟩, q5⟩, q6⟩
                exact AllReadyIn.nil
              exact AllReadyIn.nil
            exact AllReadyIn.nil
          refine AllReadyIn.cons rfl (fun K hK => ?_) ?_
          · go_simp
            refine hK _ _ ?_
            clear hK K
            refine wpAnyIn_ready (rs := [0]) (by kernel_rfl) (by simp) ?_
            refine AllReadyIn.cons rfl (fun K hK => ?_) ?_
            · go_simp
              refine hK _ _ ?_
              clear hK K
              refine wpAnyIn_ready (rs := [5]) (by kernel_rfl) (by simp) ?_
              refine AllReadyIn.cons rfl (fun K hK => ?_) ?_
              · refine stepIn_append _ rfl _ _ 29 rfl w.heap.size 3 i0 (.int .i64 0) 1 8 Try.underlying29 hi hz0 hz1 hz2 rfl (by decide) vv1 pre.length _ rfl ((hr2.alloc _).alloc _) ⟨Wd.heap.size + 1, 0, none⟩ 1 1 [.int .i64 xt.r] rfl rfl hsrc (one_one _) (by unfold maxLen; omega) (by omega) (by simp; omega) ?_
                intro v2 w6 hown6 hgrow6
                obtain ⟨g2, cap2, rfl⟩ := ownsRow_succ hown6
                have h6 := body_done bL2 bF2 hB2' hsW hs3 (by omega) hr2 hown6 hgrow6
                obtain ⟨cL6, fL6, HD6⟩ := h6
                have HD6 := Lib.hid HD6
                refine hK _ _ ?_
                clear hK K
                refine wpAnyIn_ready (rs := [6]) (by kernel_rfl) (by simp) ?_
                refine AllReadyIn.cons rfl (fun K hK => ?_) ?_
                · go_simp
                  refine hK _ _ ?_
                  clear hK K
                  refine wpAnyIn_done (by kernel_rfl) ?_ _
                  obtain ⟨q1, q2, q3, q4, q5, q6⟩ := HD6.out
                  exact ⟨(hWk _).trans (q1 _), hWq.trans q2, ⟨⟨_, q3, by simpa [Nd.tm] using q4, trivial⟩, q5⟩, q6⟩
                exact AllReadyIn.nil
              exact AllReadyIn.nil
            exact AllReadyIn.nil
          exact AllReadyIn.nil
        exact AllReadyIn.nil
      exact AllReadyIn.nil
    exact AllReadyIn.nil

  case done =>
    rintro D ys W hD hys ⟨⟨⟨vv1, bL1, hr1, _⟩, bF1⟩, hB1'⟩ hK
    have cL := bL1.cell
    gi_wp2
    refine ⟨by simp, .inl ⟨_, _, rfl, run_takeDeferred hK, ?_⟩⟩
    have hO : OwnI W w.heap.size vv1 v.rules := by
      unfold OwnI T.rules
      rw [← hys, List.length_map, List.length_map, List.map_map, List.map_map]
      exact hr1
    exact ⟨_, results_tmp rfl _ _ _, ⟨vv1, rfl, ownsRow_putObj hO _ hK rfl⟩, hB1'.trans (belowK_b (w := w) (Nat.le_refl _) W D _ _ (by omega) hK rfl rfl)⟩
  case stop =>
    rintro D c pre W _ _ h _
    exact h.elim

end Go.Proofs.Ytdfhfljmcakilaa
