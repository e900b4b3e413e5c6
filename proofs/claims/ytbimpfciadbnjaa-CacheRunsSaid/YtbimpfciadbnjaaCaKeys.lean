/-
  Keys of the cache: the iterator over the list, and what is collected. Nothing is assumed.
-/
import Derived.Test.YtbimpfciadbnjaaCaPut
import Derived.Test.YtbimpfciadbnjaaCaStr
import Derived.Test.YtbimpfciadbnjaaCaRok
namespace Go.Proofs.Ytbimpfciadbnjaa
open Go.RowKit Go.Shelf

attribute [local go_sem] Oper.semAt_some

/-- A node with the slice of its program's arguments. -/
abbrev Ns := Nd × Option Addr × Nat × Nat
def Ns.sl (x : Ns) : Value := .slice x.2.1 x.2.2.1 x.2.2.2
def Ns.enc (x : Ns) : Value := .agg #[.string x.1.k, .int .i64 x.1.t.r, x.sl]
/-- How a node lies in memory. -/
def NsIn (w : World) (x : Ns) : Prop := El w x.1.b (.string x.1.k) (.int .i64 x.1.t.r) x.sl
theorem with_slices {w : World} : ∀ {l : List Nd}, (∀ x ∈ l, ∃ s, NsIn w (x, s)) → ∃ ls : List Ns, ls.map Prod.fst = l ∧ ∀ x ∈ ls, NsIn w x
  | [], _ => ⟨[], rfl, fun x hx => absurd hx (List.not_mem_nil)⟩
  | y :: l, h => by
    obtain ⟨s, hs⟩ := h y (List.mem_cons_self ..)
    obtain ⟨ls, h1, h2⟩ := with_slices fun x hx => h x (List.mem_cons_of_mem _ hx)
    refine ⟨(y, s) :: ls, by rw [List.map_cons, h1], fun x hx => ?_⟩
    rcases List.mem_cons.1 hx with rfl | hx
    · exact hs
    · exact h2 x hx

theorem new_cellsC (w : World) (xs : List Value) (t : TypeId) : ∀ (j : Nat) u, xs[j]? = some u → (w.alloc (.cells xs.toArray t)).cell? (Addr.add ⟨w.heap.size, 0, none⟩ j) = some u := by
  intro j u hj
  have h := cell_at w xs.toArray t j u (by simpa using hj)
  unfold Addr.add
  split
  · rename_i e; subst e; exact h
  · simpa using h

theorem all_any (e0 : Nat) (w : World) :
    Calls Try.prog 36 #[.agg #[ptr e0]] w fun e w' => e = .returned (.func (.func 44) #[] #[.pointer (some ⟨w.heap.size, 0, none⟩)]) ∧ w' = w.alloc (.cells #[ptr e0] 57) := by
  go_enter Try.func36, Try.ntmps36
  go_wp2_with fail
  go_ret
  exact ⟨rfl, rfl⟩

set_option maxRecDepth 100000 in
set_option maxHeartbeats 2000000 in
theorem all_in (n l bx B e0 : Nat) (ls : List Ns) (W0 : World) (hR : Ring W0 e0 (ls.map fun x => x.1.b)) (hN : ∀ x ∈ ls, NsIn W0 x) (hlt : ∀ b ∈ e0 :: ls.map (fun x => x.1.b), b < B) (J : List Ns → World → Prop)
    (hY : ∀ pre x W, J pre W → (∃ r, pre ++ x :: r = ls) → YieldAt Fence.wide (n - 1) Try.prog l #[x.enc] W fun e W' => e = .returned (.bool true) ∧ J (pre ++ [x]) W' ∧ Kb B bx W W')
    (W : World) (hbx : W.cell? ⟨bx, 0, none⟩ = some (ptr e0)) (hW : Below B W0 W) (h0 : J [] W) :
    CallsIn Fence.wide n Try.prog 44 (#[.func (.yield l) #[] #[]] ++ #[.pointer (some ⟨bx, 0, none⟩)]) W fun e W' => (∃ v, e = .returned v) ∧ J ls W' := by
  have noD : ∀ k : Nat, (Fence.wide.depth.isSome = true → 1 ≤ k) := fun k h => by cases h
  have HYY := Lib.hid hY
  have HW := Lib.hid hW
  have HR := Lib.hid hR
  have HN := Lib.hid hN
  have HLT := Lib.hid hlt
  have HBX := Lib.hid hbx
  have he0 : e0 < B := hlt e0 (List.mem_cons_self ..)
  have c4 := (hW.cell (p := ⟨e0, 4, none⟩) he0).trans (aft_first hR.aft)
  obtain ⟨f0, hf0⟩ : ∃ f0, f0 = fstB (ls.map fun x => x.1.b) e0 := ⟨_, rfl⟩
  rw [← hf0] at c4
  have HF0 := Lib.hid hf0
  clear hf0
  clear hY hW hR hN hlt
  show CallsIn _ _ _ _ #[.func (.yield l) #[] #[], .pointer (some ⟨bx, 0, none⟩)] _ _
  refine callsIn_of_wp Try.func44 rfl trivial ?_ rfl
  simp only [Try.ntmps44, List.size_toArray, List.length_cons, List.length_nil, Nat.reduceAdd, Nat.reduceSub, Array.replicate_succ, Array.replicate_zero, List.push_toArray, List.append_toArray, List.nil_append, List.cons_append]
  gi_wp2
  gi_loopg [3] ls.length (fun k v wr => ∃ (pre rest : List Ns) (nx : Nat), v = ptr nx ∧ Hid (nx = fstB (rest.map fun x => x.1.b) e0) ∧ Hid (pre ++ rest = ls ∧ k = rest.length) ∧ Hid (J pre wr ∧ Kb B bx W wr))
  case atStart => exact ⟨[], ls, f0, rfl, HF0, Lib.hid ⟨rfl, rfl⟩, Lib.hid ⟨h0, Kb.refl _ _ _⟩⟩
  case round =>
    obtain ⟨pre, rest, nx, rfl, HX, HP, HI⟩ := hrel
    have cx := (HI.out.2.cell 0).trans HBX.out
    clear c4 hbx
    have HBR : Hid (Below B W0 wr) := Lib.hid (HW.out.trans HI.out.2.1)
    have HEL : Hid (∀ b ∈ e0 :: ls.map (fun x => x.1.b), IsEl wr b) := Lib.hid (fun b hb => by
      obtain ⟨u0, u1, u2, he⟩ := HR.out.el b hb
      exact ⟨u0, u1, u2, he.keep (HBR.out.block b (HLT.out b hb))⟩)
    cases rest with
    | nil =>
      obtain rfl : nx = e0 := HX.out
      have hne := ne_elem_same nx wr
      gi_wp2
      go_end0
      have h := HP.out.1
      rw [List.append_nil] at h
      exact ⟨⟨_, rfl⟩, h ▸ HI.out.1⟩
    | cons y r =>
      have hym : y ∈ ls := by rw [← HP.out.1]; simp
      have hyb : y.1.b ∈ ls.map (fun x => x.1.b) := List.mem_map_of_mem (f := fun x : Ns => x.1.b) hym
      have hye : y.1.b ≠ e0 := fun e => (List.nodup_cons.1 HR.out.nd).1 (e ▸ hyb)
      have hne := ne_elem_other hye (HEL.out _ (List.mem_cons_of_mem _ hyb)) (HEL.out _ (List.mem_cons_self ..))
      have hE := HN.out y hym
      obtain ⟨⟨yb, yk, yt⟩, oa, m, c⟩ := y
      have hylt : yb < B := HLT.out _ (List.mem_cons_of_mem _ hyb)
      have hE : El wr yb (.string yk) (.int .i64 yt.r) (.slice oa m c) := hE.keep (HBR.out.block yb hylt)
      obtain ⟨y0, y1, y2, _⟩ := hE.cells
      have hA := HR.out.aft
      rw [← HP.out.1, List.map_append, List.map_cons] at hA
      have hnx := (HW.out.cell (p := ⟨yb, 4, none⟩) hylt).trans (aft_first (aft_app.1 hA).2.2)
      have HNX := Lib.hid hnx
      obtain ⟨fn, tmps, assign, body, hy, hR⟩ := HYY.out pre _ wr HI.out.1 ⟨r, HP.out.1⟩
      simp only [Ns.enc, Ns.sl] at hy
      obtain rfl : nx = yb := HX.out
      obtain ⟨fx, hfx⟩ : ∃ fx, fx = fstB (r.map fun x => x.1.b) e0 := ⟨_, rfl⟩
      have HFX := Lib.hid hfx
      have hne : (binOp BinOp.neq 55 (ptr nx) (ptr e0)).run Try.prog wr = .ok (.bool true) wr := hne
      clear hE hnx hA hym hyb hye
      gi_wp2
      refine ⟨noD _, ?_⟩
      refine hR.mono ?_
      clear hR hy
      rintro e W6 ⟨rfl, hJ6, hk6⟩
      have HK := Lib.hid (HI.out.2.trans hk6)
      have hn6 := ((HK.out.1).cell (p := ⟨nx, 4, none⟩) hylt).trans HNX.out
      rw [← hfx] at hn6
      clear hfx
      have HJ6 := Lib.hid hJ6
      clear y0 y1 y2 cx hne hJ6 hk6
      gi_wp2
      gi_roundg r.length
      case measure => have := HP.out.2; simp at this; omega
      case rel => exact ⟨pre ++ [(⟨nx, yk, yt⟩, oa, m, c)], r, fx, rfl, HFX, Lib.hid ⟨by rw [← HP.out.1]; simp, rfl⟩, Lib.hid ⟨HJ6.out, HK.out⟩⟩

theorem owns_weak {w : World} {base base' e size n : Nat} {v : Value} {xs : List Value} (h : w.ownsRow base e size v n xs) (hb : base' ≤ base) : w.ownsRow base' e size v n xs := by
  refine ⟨h.1, ?_⟩
  rcases h.2 with h2 | ⟨g, cap, cur, hv, hg, r⟩
  · exact .inl h2
  · exact .inr ⟨g, cap, cur, hv, Nat.le_trans hb hg, r⟩
/-- What the loop of Keys keeps: the box of the keys, their row, all below. -/
def KeysI (w : World) (pre : List Ns) (A : World) : Prop := ∃ vv, Boxed A w.heap.size 29 vv ∧ A.ownsRow (w.heap.size + 2) 9 1 vv pre.length (pre.map fun x => Value.string x.1.k) ∧ Below w.heap.size w A ∧ w.heap.size + 2 ≤ A.heap.size
theorem KeysI.below {w : World} {p : List Ns} {A B : World} (h : KeysI w p A) (hb : Below A.heap.size A B) : KeysI w p B := by
  obtain ⟨vv, h1, h2, h3, h4⟩ := h
  exact ⟨vv, (hb.block _ h1.lt).trans h1, owns_later h2 hb, h3.trans (hb.mono (by omega)), Nat.le_trans h4 hb.size⟩
theorem KeysI.put {w : World} {p : List Ns} {A : World} (h : KeysI w p A) {l : Nat} {o : Obj} (o' : Obj) (hl : w.heap.size + 2 ≤ l) (hA : A.heap[l]? = some o) (ho : o.isCells = false) : KeysI w p (A.putObj l o') := by
  obtain ⟨vv, h1, h2, h3, h4⟩ := h
  refine ⟨vv, (World.putObj_heap_other (by omega)).trans h1, ownsRow_putObj h2 _ hA ho, h3.trans ?_, by simpa using h4⟩
  exact (Below.refl _ A).grown (grownBy_putObj' A l o') (by have := (Array.getElem?_eq_some_iff.1 hA).1; omega) (fun k e => by cases e; omega)
/-- The box of the loop's variable. -/
def EBox (A : World) (b : Nat) (x : Ns) : Prop := A.heap[b]? = some (.cells #[.string x.1.k, .int .i64 x.1.t.r, x.sl] 65 (0, 0))

set_option maxRecDepth 100000 in
set_option maxHeartbeats 2000000 in
theorem keys_in (m : Nat) (hm : 10 ≤ m) {w : World} {F : Nat → Prop} {n cap z h mi r : Nat} {q : List Ent} (H : CaS w F n cap z q h mi r) (hq : q.length ≤ 5000) :
    CallsIn Fence.wide m Try.prog 22 #[ptr n] w fun e w' => (∃ v, e = .returned v ∧ OwnS w' w.heap.size v (q.map Prod.fst)) ∧ Below w.heap.size w w' := by
  have h1 : 1 ≤ m := by omega
  have noD : ∀ k : Nat, (Fence.wide.depth.isSome = true → 1 ≤ k) := fun k h => by cases h
  obtain ⟨P, e0, mb, l, rfl, h2, h3, h4, h5, h6, HH, HC⟩ := H
  obtain ⟨ls, hls, hN⟩ := with_slices (w := w) (l := l) (fun x hx => by
    obtain ⟨sl, he, hr⟩ := HC.nodes x hx
    obtain ⟨oa, ca, rfl, _, _⟩ := hr.form
    exact ⟨(oa, _, ca), he⟩)
  have hbl : l.map Nd.b = ls.map fun x => x.1.b := by rw [← hls, List.map_map]; rfl
  have hkl : (l.map Nd.e).map Prod.fst = ls.map fun x => x.1.k := by rw [← hls, List.map_map, List.map_map]; rfl
  have hlen : ls.length = l.length := by rw [← hls, List.length_map]
  rw [List.length_map] at hq
  have HRG : Hid (Ring w e0 (ls.map fun x => x.1.b)) := Lib.hid (by rw [← hbl]; exact HC.ring)
  have HLT : Hid (∀ b ∈ e0 :: ls.map (fun x => x.1.b), b < w.heap.size) := Lib.hid (fun b hb => by
    obtain ⟨_, _, _, he⟩ := HRG.out.el b hb
    exact he.lt)
  obtain ⟨c0, _, c2, _⟩ := HH.cells
  have hnlt := HH.lt
  have HN := Lib.hid hN
  have HKL := Lib.hid hkl
  have HLN := Lib.hid hlen
  clear HC HH h2 h3 h4 h5 h6 hN hkl hlen hbl hls
  obtain ⟨i0, hi, hz0, hz1, hz2⟩ := info_parts infoText
  refine callsIn_of_wp_marks Try.func22 rfl trivial ?_ rfl
  simp only [Try.ntmps22, List.size_toArray, List.length_cons, List.length_nil, Nat.reduceAdd, Nat.reduceSub, Array.replicate_succ, Array.replicate_zero, List.push_toArray, List.append_toArray, List.nil_append, List.cons_append]
  gi_wp2
  refine ⟨trivial, ?_⟩
  gi_at_call 26
  refine (callsIn_wide.2 (made_yes c0)).mono ?_
  rintro e w9 ⟨rfl, h9⟩
  subst w9
  obtain ⟨w3, hw3⟩ : ∃ w3, w3 = w.alloc (.cells #[.slice none 0 0] 29) := ⟨_, rfl⟩
  have hb3 : Below w.heap.size w w3 := by rw [hw3]; exact below1 _ _
  have hs3 : w3.heap.size = w.heap.size + 1 := by rw [hw3]; simp
  have bK3 : Boxed w3 w.heap.size 29 (.slice none 0 0) := by rw [hw3]; exact Boxed.new w _ _
  have c23 := (hb3.cell (p := ⟨n, 2, none⟩) hnlt).trans c2
  have HAL := Lib.hid (all_any e0 w3)
  rw [hw3] at c23
  clear c0 c2
  gi_wp2
  rw [← hw3]
  refine ⟨trivial, ?_⟩
  gi_at_call 36
  refine (callsIn_wide.2 HAL.out).mono ?_
  clear HAL
  rintro e w4 ⟨rfl, hw4⟩
  have hb4 : Below w3.heap.size w3 w4 := by rw [hw4]; exact below1 _ _
  have hs4 : w4.heap.size = w.heap.size + 2 := by rw [hw4, World.size_alloc, hs3]
  have bL4 : w4.cell? ⟨w.heap.size + 1, 0, none⟩ = some (ptr e0) := by
    rw [hw4, ← hs3]
    exact cell_at _ _ _ _ _ rfl
  have bK4 : Boxed w4 w.heap.size 29 (.slice none 0 0) := (hb4.block _ (by omega)).trans bK3
  have HB4 := Lib.hid (hb3.trans (hb4.mono (by omega)))
  have HL4 := Lib.hid bL4
  have HK4 := Lib.hid bK4
  clear hw4 hw3 c23 bK3 hb3 hb4 bL4 bK4
  rw [hs3]
  gi_wp2
  refine wpIn_range_ok rfl h1 (gf := 44) (lb := #[.pointer (some ⟨w.heap.size + 1, 0, none⟩)]) rfl trivial (enters_of Try.func44 (by kernel_rfl) rfl)
    (fun x : Ns => #[x.enc]) (fun _ => rfl) (fun pre x => ∃ r, pre ++ x :: r = ls) ls (Kb w.heap.size (w.heap.size + 1)) (fun h k => h.trans k) (Kb.put (by omega) (by omega))
    (fun lo J W hW hJ hY h0 => all_in (m - 1) lo (w.heap.size + 1) w.heap.size e0 ls w HRG.out HN.out HLT.out J hY W ((hW.cell (p := ⟨w.heap.size + 1, 0, none⟩) (by show w.heap.size + 1 < w4.heap.size; omega)).trans HL4.out) (HB4.out.trans (hW.mono (by omega))) h0)
    (KeysI w)
    (fun pre A C h hb => h.below hb) (fun pre A lo o o' h hl hA ho => h.put o' (by omega) hA ho) ⟨_, HK4.out, ⟨rfl, .inl ⟨rfl, rfl⟩⟩, HB4.out, by omega⟩
    (fun (x : Ns) a' A => ∃ Bx, EBox A Bx x ∧ w.heap.size + 2 ≤ Bx ∧ a' = { tmps := #[ptr n, undef, .slice none 0 0, .pointer (some ⟨w.heap.size, 0, none⟩), .pointer (some ⟨Bx, 0, none⟩), ptr n, .bool true, .bool false, ptr n, .pointer (some ⟨n, 0, none⟩), .pointer (some ⟨n, 2, none⟩), .agg #[ptr e0], .func (.func 44) #[] #[.pointer (some ⟨w.heap.size + 1, 0, none⟩)], x.enc, undef, undef, undef, undef, undef, undef], defers := [] })
    (fun x a' A lo o o' ⟨Bx, k1, k2, k3⟩ hl hA ho => ⟨Bx, (World.putObj_heap_other (fun e => by subst e; rw [show A.heap[_]? = _ from k1] at hA; cases hA; cases ho)).trans k1, k2, k3⟩)
    ?assign ?body ?done
  case assign =>
    rintro lo pre x A K hI hK
    obtain ⟨⟨xb, xk, xt⟩, xo, xm, xc⟩ := x
    have hsA : w.heap.size + 2 ≤ A.heap.size := by obtain ⟨_, _, _, _, h⟩ := hI; exact h
    have hbA := below1 A (.cells #[.string xk, .int .i64 xt.r, .slice xo xm xc] 65)
    simp only [Ns.enc, Ns.sl] at hK ⊢
    gi_wp2
    exact hK _ _ ((KeepsOthers.alloc _ _).from _) ⟨hbA.mono (by omega), hbA.block _ (by omega)⟩ (hI.below hbA) ⟨A.heap.size, World.alloc_heap_new A _, hsA, rfl⟩
  case body =>
    rintro lo pre x a' A ⟨vv, i1, i2, i3, i4⟩ ⟨rr, hok⟩ ⟨Bx, k1, k2, rfl⟩
    obtain ⟨⟨xb, xk, xt⟩, xo, xm, xc⟩ := x
    have hpl : pre.length < ls.length := by rw [← hok]; simp
    have hll := HLN.out
    simp only [Ns.enc, Ns.sl, EBox] at k1 ⊢
    have x0 : A.cell? ⟨Bx, 0, none⟩ = some (.string xk) := by unfold World.cell?; rw [k1]; rfl
    have cK := i1.cell
    have HI1 := Lib.hid i1
    have HI2 := Lib.hid i2
    have HI3 := Lib.hid i3
    have hBx : Bx < A.heap.size := (Array.getElem?_eq_some_iff.1 k1).1
    obtain ⟨ao, cp, rfl⟩ := owns_form i2
    clear hok i1 i2 i3 k1
    gi_wp2_with (gi_at_builtin; refine wpListIn_append_own _ rfl _ _ 29 rfl (w.heap.size + 2) 9 i0 (.string ⟨#[]⟩) 1 16 Try.underlying29 hi hz0 hz1 hz2 rfl (by decide) (.slice ao pre.length cp) pre.length _ rfl (HI2.out.alloc _) ⟨A.heap.size, 0, none⟩ 1 1 [.string xk] rfl rfl (fun j u hj => new_cellsC A [.string xk] _ j u hj) (fun u hu => by simp at hu; subst hu; rfl) (by unfold maxLen; omega) (by omega) (by simp; omega) ?_)
    intro v2 w6 hown6 hgrow6 _
    obtain ⟨g2, c2, rfl⟩ := ownsRow_succ hown6
    have hnb : ∀ q, (Value.slice ao pre.length cp).ownBlock = some q → w.heap.size + 2 ≤ q := fun q e => (HI2.out.lt q e).1
    have hkb : ∀ b, b < A.heap.size → b < w.heap.size + 2 → w6.heap[b]? = A.heap[b]? := fun b hb hb2 => (hgrow6.block b (by simp; omega) (fun e => by have := hnb b e.symm; omega)).trans (Below.heap_alloc _ _ _ hb)
    have bK6 : Boxed w6 w.heap.size 29 (.slice ao pre.length cp) := (hkb _ (by omega) (by omega)).trans HI1.out
    have cK6 := bK6.cell
    have fK6 := bK6.frozen
    have HO6 := Lib.hid hown6
    have HG6 := Lib.hid hgrow6
    have HKB := Lib.hid hkb
    have HBK := Lib.hid bK6
    have hlt6 := HG6.out.size
    clear hown6 hgrow6 hkb bK6 x0 cK
    gi_wp2
    have hbl : Below w.heap.size A (w6.setCell ⟨w.heap.size, 0, none⟩ (.slice (some ⟨g2, 0, none⟩) (pre.length + 1) c2)) :=
      (((Below.refl w.heap.size A).alloc (by omega) _).grown HG6.out (by simp; omega) (fun q e => by have := hnb q e; omega)).setCell (p := ⟨w.heap.size, 0, none⟩) (Nat.le_refl _) _
    refine ⟨((KeepsOthers.alloc A _).trans (KeepsOthers.of_grownBy HG6.out (fun j o ej hj => ?_)) |>.trans (KeepsOthers.setCell _ _ _)).from _, ⟨hbl, (heap_setCell_other _ _ _ _ (by show w.heap.size + 1 ≠ w.heap.size; omega)).trans (HKB.out _ (by omega) (by omega))⟩, _, HBK.out.set _, ?_, HI3.out.trans hbl, by rw [World.size_setCell]; simp at hlt6; omega⟩
    · rcases (HI2.out.alloc (.cells #[.string xk] 9)).2 with ⟨h0, _⟩ | ⟨g, cap', cur, h0, _, hgb, _⟩
      · rw [h0] at ej; simp [Value.ownBlock] at ej
      · rw [h0] at ej
        obtain rfl : g = j := by simpa [Value.ownBlock] using ej
        rw [hgb] at hj
        cases hj
        rfl
    · have h := HO6.out.kept (grownBy_setCell' w6 w.heap.size (.slice (some ⟨g2, 0, none⟩) (pre.length + 1) c2)) (.inr (fun e => by have := (HO6.out.lt g2 rfl).1; simp [Value.ownBlock] at e; omega))
      simpa using h
  case done =>
    rintro V ⟨vv, i1, i2, i3, i4⟩ hK
    have cK := i1.cell
    obtain ⟨ao, cp, rfl⟩ := owns_form i2
    have HI2 := Lib.hid i2
    have HI3 := Lib.hid i3
    clear i1 i2 i3
    gi_wp2
    refine ⟨by simp, .inl ⟨_, _, rfl, run_takeDeferred hK, ?_⟩⟩
    refine ⟨_, results_tmp rfl _ _ _, ⟨_, rfl, ?_⟩, HI3.out.trans (belowK_b (w := w4) (by omega) V w4.heap.size _ _ (Nat.le_refl _) hK rfl rfl)⟩
    have h : OwnS V w.heap.size (.slice ao ls.length cp) ((l.map Nd.e).map Prod.fst) := by
      rw [HKL.out]
      unfold OwnS
      rw [List.length_map, List.map_map]
      exact owns_weak HI2.out (by omega)
    exact ownsRow_putObj h _ hK rfl
theorem keys_any {w : World} {F : Nat → Prop} {n cap z h mi r : Nat} {q : List Ent} (H : CaS w F n cap z q h mi r) (hq : q.length ≤ 5000) :
    Calls Try.prog 22 #[ptr n] w fun e w' => (∃ v, e = .returned v ∧ OwnS w' w.heap.size v (q.map Prod.fst)) ∧ Below w.heap.size w w' :=
  callsIn_wide.1 (keys_in 10 (Nat.le_refl _) H hq)

end Go.Proofs.Ytbimpfciadbnjaa
