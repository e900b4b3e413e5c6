/-
  The iterator over a term's subterms, at every loop body, for every relation of worlds that a round keeps. Nothing is assumed.
-/
import Derived.Test.YtdfhfljmcakilaaTmIter
namespace Go.Proofs.Ytdfhfljmcakilaa
open Go.RowKit Go.Shelf

attribute [local go_sem] Oper.semAt_some

set_option maxRecDepth 100000 in
set_option maxHeartbeats 2000000 in
theorem visitG_in (l n₀ N : Nat) (W0 : World) (K : World → World → Prop) (Sn : World → Prop) (J Jx : List (Nd W0 n₀) → World → Prop) (hJa : ∀ s W o, J s W → J s (W.alloc o))
    (hKt : ∀ {A B C : World}, K A B → K B C → K A C) (hKa : ∀ W o, n₀ ≤ W.heap.size → K W (W.alloc o)) (hKb : ∀ {A B : World}, K A B → Below n₀ A B)
    (hSa : ∀ {W : World} {o : Obj}, Sn W → Sn (W.alloc o)) (hSk : ∀ {A B : World}, Sn A → K A B → Sn B) (hKx : ∀ W xs W', Sn W → K (W.alloc (.cells xs 24)) W' → W'.heap[W.heap.size]? = (W.alloc (.cells xs 24)).heap[W.heap.size]?)
    (hY : ∀ m pre x W, J pre W → pre.length < N → YieldAt Fence.wide m Try.prog l #[x.enc] W fun e W' =>
      (e = .returned (.bool true) ∧ J (pre ++ [x]) W' ∧ K W W') ∨ (e = .returned (.bool false) ∧ Jx (pre ++ [x]) W')) (v : T) :
    ∀ (n : Nat) (sl : Value) (pre : List (Nd W0 n₀)) (W : World), Rep W0 n₀ sl v.l → Below n₀ W0 W → n₀ ≤ W.heap.size → J pre W → Sn W → pre.length + v.size ≤ N →
      CallsIn Fence.wide n Try.prog 56 #[.agg #[.int .i64 v.r, sl], .func (.yield l) #[] #[]] W fun e W' =>
        (e = .returned (.bool true) ∧ ∃ ys : List (Nd W0 n₀), ys.map Nd.tm = v.pre ∧ J (pre ++ ys) W' ∧ K W W') ∨
        (e = .returned (.bool false) ∧ ∃ ys : List (Nd W0 n₀), ys.map Nd.tm <+: v.pre ∧ Jx (pre ++ ys) W') := by
  induction v using T.ind with
  | h v ih =>
  intro n sl pre W hrep hB0 hn₀ hJ hSn hN
  have HREP := Lib.hid hrep
  obtain ⟨oa, cap, rfl, hlc, hm, hel⟩ := hrep.slice
  have HSZ := Lib.hid v.size_eq
  have HPRE := Lib.hid v.pre_eq
  -- the round at this node
  obtain ⟨W1, hW1⟩ : ∃ W1, W1 = W.alloc (.cells #[.int .i64 v.r, .slice oa v.l.length cap] 24) := ⟨_, rfl⟩
  have hTB : TBox W1 W.heap.size v (.slice oa v.l.length cap) := by rw [hW1]; exact TBox.new _ _ _
  have hK1 : K W W1 := by rw [hW1]; exact hKa _ _ hn₀
  have hJ1 : J pre W1 := by rw [hW1]; exact hJa _ _ _ hJ
  have hpos := v.size_pos
  obtain ⟨fn, tmps, assign, body, hy, hR⟩ := hY (n - 1) pre ⟨(v, .slice oa v.l.length cap), HREP.out⟩ W1 hJ1 (by omega)
  simp only [Nd.enc] at hy
  rw [hW1] at hy hR
  clear hpos
  refine callsIn_of_wp Try.func56 rfl trivial ?_ rfl
  simp only [Try.ntmps56, List.size_toArray, List.length_cons, List.length_nil, Nat.reduceAdd, Nat.reduceSub, Array.replicate_succ, Array.replicate_zero, List.push_toArray, List.append_toArray, List.nil_append, List.cons_append]
  have noD : ∀ k : Nat, (Fence.wide.depth.isSome = true → 1 ≤ k) := fun k h => by cases h
  gi_wp2
  refine ⟨noD _, ?_⟩
  refine hR.mono ?_
  clear hR hy
  rintro e W2 (⟨rfl, hJ2, hk2⟩ | ⟨rfl, hx2⟩)
  case inr =>
    gi_wp2
    go_ret
    exact .inr ⟨rfl, [⟨(v, .slice oa v.l.length cap), HREP.out⟩], by rw [HPRE.out]; exact ⟨T.pres v.l, rfl⟩, hx2⟩
  have hx2 := hKx W #[.int .i64 v.r, .slice oa v.l.length cap] W2 hSn hk2
  rw [← hW1] at hk2 hx2
  have hT2 : TBox W2 W.heap.size v (.slice oa v.l.length cap) := hx2.trans hTB
  clear hx2
  obtain ⟨cR, cA⟩ := hT2.cells
  have hk02 := hKt hK1 hk2
  clear hJ1 hk2 hTB
  gi_wp2
  gi_loopw [14] (fun i wr => ∃ (k : Nat) (ys : List (Nd W0 n₀)), k ≤ v.l.length ∧ i = .int .i64 k ∧ Hid (ys.map Nd.tm = v :: T.pres (v.l.take k)) ∧ J (pre ++ ys) wr ∧ K W wr) (fun i _ => v.l.length - (intOf i).toNat)
  case atStart => exact ⟨0, [⟨(v, .slice oa v.l.length cap), HREP.out⟩], Nat.zero_le _, rfl, Lib.hid (by rw [List.take_zero, T.pres_nil]; rfl), hJ2, hk02⟩
  case round =>
    obtain ⟨k, ys, hk, rfl, HY, hJs, hkq⟩ := hrel
    by_cases hlt : k < v.l.length
    · obtain ⟨b, off, oe, ce, rfl, hb, c0, c1, hr⟩ := hel k _ (List.getElem?_eq_getElem hlt)
      have hBr := hB0.trans (hKb hkq)
      rw [← hBr.cell (p := ⟨b, _, none⟩) hb] at c0 c1
      have hsz := (hKb hkq).size
      have HT := Lib.hid (List.take_succ_eq_append_getElem hlt)
      have hle := T.mem_sizes (List.getElem_mem hlt)
      have hlen : ys.length = 1 + T.sizes (v.l.take k) := by
        have := congrArg List.length HY.out
        simp only [List.length_map, List.length_cons] at this
        unfold T.sizes
        omega
      have hle2 : T.sizes (v.l.take k) + v.l[k].size ≤ T.sizes v.l := by
        rw [← T.sizes_snoc, ← HT.out]
        exact T.sizes_take _ _
      have hn0r : n₀ ≤ wr.heap.size := Nat.le_trans hn₀ (hKb hkq).size
      have HC := (ih v.l[k] (List.getElem_mem hlt) (n - 1) (.slice oe v.l[k].l.length ce) (pre ++ ys) (wr.alloc (.cells #[.int .i64 v.l[k].r, .slice oe v.l[k].l.length ce] 24)) hr (hBr.alloc hn0r _) (by simp; omega) (hJa _ _ _ hJs) (hSa (hSk hSn hkq)) (by rw [List.length_append]; have := HSZ.out; omega))
      have hKA := hKa wr (.cells #[.int .i64 v.l[k].r, .slice oe v.l[k].l.length ce] 24) hn0r
      clear hle hlen hle2 hJs
      gi_wp2
      refine ⟨trivial, ?_⟩
      first | refine ⟨noD _, ?_⟩ | skip
      gi_at_call 56
      refine HC.mono ?_
      clear HC
      rintro e W3 (⟨rfl, zs, hz, hJ3, hk3⟩ | ⟨rfl, zs, hz, hx3⟩)
      · have HZ := Lib.hid hz
        clear hz
        gi_wp2
        go_roundw
        case rel => exact ⟨k + 1, ys ++ zs, hlt, by go_num, Lib.hid (by rw [List.map_append, HY.out, HZ.out, HT.out, T.pres_snoc]; rfl), by rw [← List.append_assoc]; exact hJ3, hKt hkq (hKt hKA hk3)⟩
        case measure => simp [intOf]; omega
      · have HZ := Lib.hid hz
        clear hz
        gi_wp2
        go_ret
        refine .inr ⟨rfl, ys ++ zs, ?_, by rw [← List.append_assoc]; exact hx3⟩
        rw [HPRE.out, List.map_append, HY.out]
        refine (List.prefix_append_right_inj _).2 HZ.out |>.trans ?_
        rw [List.cons_append, ← T.pres_snoc, ← HT.out]
        have e : T.pres v.l = T.pres (v.l.take (k + 1)) ++ T.pres (v.l.drop (k + 1)) := by rw [← T.pres_append, List.take_append_drop]
        rw [e]
        exact ⟨T.pres (v.l.drop (k + 1)), by simp⟩
    · gi_wp2
      go_ret
      refine .inl ⟨rfl, ys, ?_, hJs, hkq⟩
      rw [HPRE.out, HY.out, List.take_of_length_le (by omega)]

/-- The slice in box B does not point to what is not yet there. -/
def Sane (B : Nat) (W : World) : Prop := (∃ vv, Boxed W B 22 vv) ∧ ∀ vv, Boxed W B 22 vv → ∀ g, vv.ownBlock = some g → g < W.heap.size
theorem Sane.lt {B : Nat} {W : World} (h : Sane B W) : B < W.heap.size := by obtain ⟨vv, hv⟩ := h.1; exact hv.lt
/-- What a round keeps that appends to the slice in box B: all below n₀, and each block of terms but the slice's own. -/
def Kr (n₀ B : Nat) (W W' : World) : Prop := Below n₀ W W' ∧ (Sane B W → Sane B W' ∧
  (∀ (k : Nat) (xs : Array Value) (fz : Nat × Nat), W.heap[k]? = some (Obj.cells xs 24 fz) → (∀ vv, Boxed W B 22 vv → vv.ownBlock ≠ some k) → W'.heap[k]? = some (Obj.cells xs 24 fz)) ∧
  ∀ vv', Boxed W' B 22 vv' → ∀ g, vv'.ownBlock = some g → (∃ vv, Boxed W B 22 vv ∧ vv.ownBlock = some g) ∨ W.heap.size ≤ g)
theorem Kr.trans {n₀ B : Nat} {X Y Z : World} (h : Kr n₀ B X Y) (k : Kr n₀ B Y Z) : Kr n₀ B X Z := ⟨h.1.trans k.1, fun hs => by
  obtain ⟨s1, k1, r1⟩ := h.2 hs
  obtain ⟨s2, k2, r2⟩ := k.2 s1
  refine ⟨s2, fun i xs fz hi hn => k2 i xs fz (k1 i xs fz hi hn) fun vv hv e => ?_, fun vv' hv g e => ?_⟩
  · rcases r1 vv hv i e with ⟨v0, h0, e0⟩ | h0
    · exact hn v0 h0 e0
    · have := (Array.getElem?_eq_some_iff.1 hi).1; omega
  · rcases r2 vv' hv g e with ⟨v0, h0, e0⟩ | h0
    · exact r1 v0 h0 g e0
    · exact .inr (Nat.le_trans h.1.size h0)⟩
theorem boxed_alloc_iff {W : World} {o : Obj} {B : Nat} {t : TypeId} {v : Value} (hB : B < W.heap.size) : Boxed (W.alloc o) B t v ↔ Boxed W B t v := by
  unfold Boxed
  rw [Below.heap_alloc _ _ _ hB]
theorem Sane.alloc {W : World} {B : Nat} {o : Obj} (h : Sane B W) : Sane B (W.alloc o) := ⟨by obtain ⟨vv, hv⟩ := h.1; exact ⟨vv, hv.alloc o⟩, fun vv hv g e => by
  have := h.2 vv ((boxed_alloc_iff h.lt).1 hv) g e
  rw [World.size_alloc]
  omega⟩
theorem Kr.alloc {n₀ B : Nat} {W : World} (hn : n₀ ≤ W.heap.size) (o : Obj) : Kr n₀ B W (W.alloc o) := ⟨(Below.refl _ _).alloc hn o, fun hs => ⟨hs.alloc, fun k xs fz h _ => by
    rw [Below.heap_alloc _ _ _ (Array.getElem?_eq_some_iff.1 h).1]; exact h, fun vv' hv g e => .inl ⟨vv', (boxed_alloc_iff hs.lt).1 hv, e⟩⟩⟩
theorem Kr.box {n₀ B : Nat} {W W' : World} {xs : Array Value} {fz : Nat × Nat} (hs : Sane B W) (h : Kr n₀ B (W.alloc (.cells xs 24 fz)) W') : W'.heap[W.heap.size]? = (W.alloc (.cells xs 24 fz)).heap[W.heap.size]? := by
  rw [World.alloc_heap_new]
  refine (h.2 hs.alloc).2.1 _ _ _ (World.alloc_heap_new _ _) fun vv hv e => ?_
  have := hs.2 vv ((boxed_alloc_iff hs.lt).1 hv) _ e
  omega

theorem Sane.later {w W : World} {B : Nat} (h : Sane B w) (hb : Below w.heap.size w W) : Sane B W := ⟨by obtain ⟨vv, hv⟩ := h.1; exact ⟨vv, (hb.block B hv.lt).trans hv⟩, fun vv hv g e => by
  have hv' : Boxed w B 22 vv := by unfold Boxed at hv ⊢; rw [← hb.block B h.lt]; exact hv
  have := h.2 vv hv' g e
  have := hb.size
  omega⟩

set_option maxHeartbeats 1000000 in
theorem pre1G_in (n l Bt n₀ Bs : Nat) (v : T) (sl : Value) (W0 : World) (J Jx : List (Nd W0 n₀) → World → Prop) (hJa : ∀ s W o, J s W → J s (W.alloc o))
    (hY : ∀ pre x W, J pre W → pre.length < v.size → YieldAt Fence.wide (n - 1) Try.prog l #[x.enc] W fun e W' =>
      (e = .returned (.bool true) ∧ J (pre ++ [x]) W' ∧ Kr n₀ Bs W W') ∨ (e = .returned (.bool false) ∧ Jx (pre ++ [x]) W'))
    (W : World) (hBt : TBox W Bt v sl) (hR0 : Rep W0 n₀ sl v.l) (hB0 : Below n₀ W0 W) (hn₀ : n₀ ≤ W.heap.size) (hSn : Sane Bs W) (h0 : J [] W) :
    CallsIn Fence.wide n Try.prog 55 #[.func (.yield l) #[] #[], .pointer (some ⟨Bt, 0, none⟩)] W fun e W' => (∃ v, e = .returned v) ∧
      ((∃ ys : List (Nd W0 n₀), ys.map Nd.tm = v.pre ∧ J ys W') ∨ (∃ ys : List (Nd W0 n₀), ys.map Nd.tm <+: v.pre ∧ Jx ys W')) := by
  obtain ⟨c0, c1⟩ := hBt.cells
  have hv := visitG_in l n₀ v.size W0 (Kr n₀ Bs) (Sane Bs) J Jx hJa Kr.trans (fun W o hn => Kr.alloc hn o) (fun h => h.1) Sane.alloc (fun hs hk => (hk.2 hs).1) (fun W xs W' hs hk => Kr.box hs hk)
    (fun m pre x W hj hl => anyDepth m (hY pre x W hj hl)) v (n - 1) sl [] W hR0 hB0 hn₀ h0 hSn (by simp)
  have noD : ∀ k : Nat, (Fence.wide.depth.isSome = true → 1 ≤ k) := fun k h => by cases h
  obtain ⟨oa, cap, rfl, _, _⟩ := hR0.form
  clear hY hBt
  refine callsIn_of_wp Try.func55 rfl trivial ?_ rfl
  simp only [Try.ntmps55, List.size_toArray, List.length_cons, List.length_nil, Nat.reduceAdd, Nat.reduceSub, Array.replicate_succ, Array.replicate_zero, List.push_toArray, List.append_toArray, List.nil_append, List.cons_append]
  gi_wp2
  refine ⟨trivial, ?_⟩
  first | refine ⟨noD _, ?_⟩ | skip
  gi_at_call 56
  refine hv.mono ?_
  clear hv
  rintro e W1 (⟨rfl, ys, hy, hJ1, _⟩ | ⟨rfl, ys, hy, hx⟩)
  · gi_wp2
    go_end0
    exact ⟨⟨_, rfl⟩, .inl ⟨ys, hy, by simpa using hJ1⟩⟩
  · gi_wp2
    go_end0
    exact ⟨⟨_, rfl⟩, .inr ⟨ys, hy, by simpa using hx⟩⟩

theorem preG_stops (n Bt n₀ Bs : Nat) (v : T) (sl : Value) (W0 w : World) (hBt : TBox w Bt v sl) (hR0 : Rep W0 n₀ sl v.l) (hB0 : Below n₀ W0 w) (hn₀ : n₀ ≤ w.heap.size) (hSn : Sane Bs w) :
    SeqStopsK Fence.wide n Try.prog 55 #[.pointer (some ⟨Bt, 0, none⟩)] (fun x : Nd W0 n₀ => #[x.enc]) (Kr n₀ Bs) (fun ys => ys.map Nd.tm = v.pre) (fun ys => ys.map Nd.tm <+: v.pre) v.size w := fun l J Jx W hW hJ _ hY h0 =>
  pre1G_in n l Bt n₀ Bs v sl W0 J Jx (fun s W1 o hs => hJ s W1 _ none hs (World.grownBy_alloc W1 o none) (fun r e => by cases e)) hY W ((hW.block Bt hBt.lt).trans hBt) hR0 (hB0.trans (hW.mono hn₀)) (Nat.le_trans hn₀ hW.size) (hSn.later hW) h0

theorem Kr.b {n₀ B : Nat} {w : World} (hn : n₀ ≤ w.heap.size) (W : World) (l : Nat) (o o' : Obj) (hl : w.heap.size ≤ l) (h : W.heap[l]? = some o) (hc : o.isCells = false) (hw : o.isWalk = false) : Kr n₀ B W (W.putObj l o') := by
  refine ⟨belowK_b hn W l o o' hl h hc hw, fun hs => ?_⟩
  have hne : B ≠ l := fun e => by
    subst e
    obtain ⟨vv, hv⟩ := hs.1
    rw [show W.heap[B]? = _ from hv] at h
    cases h
    cases hc
  have hbox : ∀ vv, Boxed (W.putObj l o') B 22 vv ↔ Boxed W B 22 vv := fun vv => by
    unfold Boxed
    rw [World.putObj_heap_other hne]
  refine ⟨⟨by obtain ⟨vv, hv⟩ := hs.1; exact ⟨vv, (hbox vv).2 hv⟩, fun vv hv g e => by simpa using hs.2 vv ((hbox vv).1 hv) g e⟩, fun k xs fz hk _ => ?_, fun vv' hv g e => .inl ⟨vv', (hbox vv').1 hv, e⟩⟩
  rw [World.putObj_heap_other (fun e => by subst e; rw [hk] at h; cases h; cases hc)]
  exact hk

end Go.Proofs.Ytdfhfljmcakilaa
