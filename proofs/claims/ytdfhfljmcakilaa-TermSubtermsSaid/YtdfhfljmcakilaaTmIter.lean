/-
  The iterator over a term and all subterms of its arguments, in preorder: its contract at every loop body. Nothing is assumed.
-/
import Derived.Test.YtdfhfljmcakilaaTmSize
import Derived.RangeFuncBox
import Derived.RangeFuncBound
import Derived.RangeFuncNested
import Derived.RangeFuncLeaves
import Derived.Shelf.Abstract
import Derived.Shelf.RegionOpen
import Derived.WalkKit
import Derived.OwnWalkIn
import Derived.TacticsInMore
import Derived.LoopNIn
import Derived.LoopIn
import Derived.Maps.AppendAt
namespace Go.Proofs.Ytdfhfljmcakilaa
open Go.RowKit Go.Shelf

attribute [local go_sem] Oper.semAt_some

/-- Blocks that hold terms lie as they lay. -/
def KT (W W' : World) : Prop := ∀ (k : Nat) (xs : Array Value) (fz : Nat × Nat), W.heap[k]? = some (Obj.cells xs 24 fz) → W'.heap[k]? = some (Obj.cells xs 24 fz)
theorem KT.refl (W : World) : KT W W := fun _ _ _ h => h
theorem KT.trans {A B C : World} (h : KT A B) (k : KT B C) : KT A C := fun i xs fz hi => k i xs fz (h i xs fz hi)
theorem KT.grown {W W' : World} {row : Option Nat} (hg : W.grownBy W' row) (hr : ∀ k xs fz, row = some k → W.heap[k]? ≠ some (.cells xs 24 fz)) : KT W W' := fun k xs fz h =>
  (hg.block k (Array.getElem?_eq_some_iff.1 h).1 (fun e => hr k xs fz e.symm h)).trans h
theorem KT.alloc (W : World) (o : Obj) : KT W (W.alloc o) := KT.grown (World.grownBy_alloc W o none) (fun _ _ _ e => by cases e)
theorem KT.set {W : World} {B : Nat} {t : TypeId} {v : Value} (h : Boxed W B t v) (ht : t ≠ 24) (v' : Value) : KT W (W.setCell ⟨B, 0, none⟩ v') := KT.grown (grownBy_setCell' W B v') (fun k xs fz e he => by
  cases e
  rw [show W.heap[B]? = _ from h] at he
  simp at he
  exact ht he.2.1)
theorem KT.drew (W : World) (q : Nat) : KT W (W.drewN q) := fun _ _ _ h => h
theorem KT.putObj {W : World} {l : Nat} {o : Obj} (o' : Obj) (hl : W.heap[l]? = some o) (ho : o.isCells = false) : KT W (W.putObj l o') := KT.grown (grownBy_putObj' W l o') (fun k xs fz e he => by
  cases e
  rw [hl] at he
  cases he
  cases ho)

/-- What a round keeps: all below n₀, and all blocks that hold terms. -/
def Kq (n₀ : Nat) (W W' : World) : Prop := Below n₀ W W' ∧ KT W W'
theorem Kq.refl (n₀ : Nat) (W : World) : Kq n₀ W W := ⟨Below.refl _ _, KT.refl _⟩
theorem Kq.trans {n₀ : Nat} {A B C : World} (h : Kq n₀ A B) (k : Kq n₀ B C) : Kq n₀ A C := ⟨h.1.trans k.1, h.2.trans k.2⟩
theorem Kq.alloc {n₀ : Nat} {W : World} (h : n₀ ≤ W.heap.size) (o : Obj) : Kq n₀ W (W.alloc o) := ⟨(Below.refl _ _).alloc h o, KT.alloc _ _⟩
theorem Kq.b {n₀ : Nat} {w : World} (hn : n₀ ≤ w.heap.size) (W : World) (l : Nat) (o o' : Obj) (hl : w.heap.size ≤ l) (h : W.heap[l]? = some o) (hc : o.isCells = false) (hw : o.isWalk = false) : Kq n₀ W (W.putObj l o') :=
  ⟨belowK_b hn W l o o' hl h hc hw, KT.putObj o' h hc⟩

/-- A boxed term as a whole block. -/
def TBox (W : World) (n : Nat) (v : T) (sl : Value) : Prop := W.heap[n]? = some (.cells #[.int .i64 v.r, sl] 24 (0, 0))
theorem TBox.new (W : World) (v : T) (sl : Value) : TBox (W.alloc (.cells #[.int .i64 v.r, sl] 24)) W.heap.size v sl := World.alloc_heap_new W _
theorem TBox.keep {W W' : World} {n : Nat} {v : T} {sl : Value} (h : TBox W n v sl) (hk : KT W W') : TBox W' n v sl := hk _ _ _ h
theorem TBox.cells {W : World} {n : Nat} {v : T} {sl : Value} (h : TBox W n v sl) : W.cell? ⟨n, 0, none⟩ = some (.int .i64 v.r) ∧ W.cell? ⟨n, 1, none⟩ = some sl := by
  constructor <;> simp [World.cell?, show W.heap[n]? = _ from h]
theorem TBox.lt {W : World} {n : Nat} {v : T} {sl : Value} (h : TBox W n v sl) : n < W.heap.size := (Array.getElem?_eq_some_iff.1 h).1

/-- A subterm with the slice value of its arguments, as it lies in the world W0 below n₀. -/
abbrev Nd (W0 : World) (n₀ : Nat) := { p : T × Value // Rep W0 n₀ p.2 p.1.l }
def Nd.tm {W0 : World} {n₀ : Nat} (x : Nd W0 n₀) : T := x.1.1
def Nd.enc {W0 : World} {n₀ : Nat} (x : Nd W0 n₀) : Value := .agg #[.int .i64 x.1.1.r, x.1.2]

theorem Nd.opened {W0 : World} {n₀ : Nat} (x : Nd W0 n₀) : ∃ (xt : T) (xoa : Option Addr) (xcap : Nat) (hx : Rep W0 n₀ (.slice xoa xt.l.length xcap) xt.l), x = ⟨(xt, .slice xoa xt.l.length xcap), hx⟩ := by
  obtain ⟨⟨xt, xsl⟩, hx⟩ := x
  have hx' : Rep W0 n₀ xsl xt.l := hx
  obtain ⟨xoa, xcap, e, _, _⟩ := hx'.form
  subst e
  exact ⟨xt, xoa, xcap, hx, rfl⟩

theorem anyRoom {m m' : Nat} {P : Program} {l : Nat} {f : FuncId} {tmps : Array Value} {assign body : Code} {w : World} {R : Ending → World → Prop} (h : RoundIn Fence.wide m P l f tmps assign body w R) : RoundIn Fence.wide m' P l f tmps assign body w R :=
  ⟨h.1, fun c cs _ => h.2 c cs (fun d hd => by cases hd)⟩
theorem anyDepth {m : Nat} (m' : Nat) {P : Program} {l : Nat} {args : Array Value} {W : World} {R : Ending → World → Prop} (h : YieldAt Fence.wide m P l args W R) : YieldAt Fence.wide m' P l args W R := by
  obtain ⟨fn, tmps, assign, body, hy, hR⟩ := h
  exact ⟨fn, tmps, assign, body, hy, anyRoom hR⟩

set_option maxRecDepth 100000 in
set_option maxHeartbeats 2000000 in
theorem visit_in (l n₀ N : Nat) (W0 : World) (J Jx : List (Nd W0 n₀) → World → Prop) (hJa : ∀ s W o, J s W → J s (W.alloc o))
    (hY : ∀ m pre x W, J pre W → pre.length < N → YieldAt Fence.wide m Try.prog l #[x.enc] W fun e W' =>
      (e = .returned (.bool true) ∧ J (pre ++ [x]) W' ∧ Kq n₀ W W') ∨ (e = .returned (.bool false) ∧ Jx (pre ++ [x]) W')) (v : T) :
    ∀ (n : Nat) (sl : Value) (pre : List (Nd W0 n₀)) (W : World), Rep W0 n₀ sl v.l → Below n₀ W0 W → n₀ ≤ W.heap.size → J pre W → pre.length + v.size ≤ N →
      CallsIn Fence.wide n Try.prog 56 #[.agg #[.int .i64 v.r, sl], .func (.yield l) #[] #[]] W fun e W' =>
        (e = .returned (.bool true) ∧ ∃ ys : List (Nd W0 n₀), ys.map Nd.tm = v.pre ∧ J (pre ++ ys) W' ∧ Kq n₀ W W') ∨
        (e = .returned (.bool false) ∧ ∃ ys : List (Nd W0 n₀), ys.map Nd.tm <+: v.pre ∧ Jx (pre ++ ys) W') := by
  induction v using T.ind with
  | h v ih =>
  intro n sl pre W hrep hB0 hn₀ hJ hN
  have HREP := Lib.hid hrep
  obtain ⟨oa, cap, rfl, hlc, hm, hel⟩ := hrep.slice
  have HSZ := Lib.hid v.size_eq
  have HPRE := Lib.hid v.pre_eq
  -- the round at this node
  obtain ⟨W1, hW1⟩ : ∃ W1, W1 = W.alloc (.cells #[.int .i64 v.r, .slice oa v.l.length cap] 24) := ⟨_, rfl⟩
  have hTB : TBox W1 W.heap.size v (.slice oa v.l.length cap) := by rw [hW1]; exact TBox.new _ _ _
  have hK1 : Kq n₀ W W1 := by rw [hW1]; exact Kq.alloc hn₀ _
  have hJ1 : J pre W1 := by rw [hW1]; exact hJa _ _ _ hJ
  have hpos := v.size_pos
  obtain ⟨fn, tmps, assign, body, hy, hR⟩ := hY (n - 1) pre ⟨(v, .slice oa v.l.length cap), HREP.out⟩ W1 hJ1 (by omega)
  simp only [Nd.enc] at hy
  rw [hW1] at hy hR
  clear hpos
  refine callsIn_of_wp Try.func56 rfl trivial ?_ rfl
  simp only [Try.ntmps56, List.size_toArray, List.length_cons, List.length_nil, Nat.reduceAdd, Nat.reduceSub, Array.replicate_succ, Array.replicate_zero, List.push_toArray, List.append_toArray, List.nil_append, List.cons_append]
  have noD : ∀ k : Nat, (Fence.wide.depth.isSome = true → 1 ≤ k) := fun k h => by cases h
  gi_wp2
  refine ⟨noD _, ?_⟩
  refine hR.mono ?_
  clear hR hy
  rintro e W2 (⟨rfl, hJ2, hk2⟩ | ⟨rfl, hx2⟩)
  case inr =>
    gi_wp2
    go_ret
    exact .inr ⟨rfl, [⟨(v, .slice oa v.l.length cap), HREP.out⟩], by rw [HPRE.out]; exact ⟨T.pres v.l, rfl⟩, hx2⟩
  rw [← hW1] at hk2
  have hT2 := hTB.keep hk2.2
  obtain ⟨cR, cA⟩ := hT2.cells
  have hk02 := hK1.trans hk2
  clear hJ1 hk2 hTB
  gi_wp2
  gi_loopw [14] (fun i wr => ∃ (k : Nat) (ys : List (Nd W0 n₀)), k ≤ v.l.length ∧ i = .int .i64 k ∧ Hid (ys.map Nd.tm = v :: T.pres (v.l.take k)) ∧ J (pre ++ ys) wr ∧ Kq n₀ W wr) (fun i _ => v.l.length - (intOf i).toNat)
  case atStart => exact ⟨0, [⟨(v, .slice oa v.l.length cap), HREP.out⟩], Nat.zero_le _, rfl, Lib.hid (by rw [List.take_zero, T.pres_nil]; rfl), hJ2, hk02⟩
  case round =>
    obtain ⟨k, ys, hk, rfl, HY, hJs, hkq⟩ := hrel
    by_cases hlt : k < v.l.length
    · obtain ⟨b, off, oe, ce, rfl, hb, c0, c1, hr⟩ := hel k _ (List.getElem?_eq_getElem hlt)
      have hBr := hB0.trans hkq.1
      rw [← hBr.cell (p := ⟨b, _, none⟩) hb] at c0 c1
      have hsz := hkq.1.size
      have HT := Lib.hid (List.take_succ_eq_append_getElem hlt)
      have hle := T.mem_sizes (List.getElem_mem hlt)
      have hlen : ys.length = 1 + T.sizes (v.l.take k) := by
        have := congrArg List.length HY.out
        simp only [List.length_map, List.length_cons] at this
        unfold T.sizes
        omega
      have hle2 : T.sizes (v.l.take k) + v.l[k].size ≤ T.sizes v.l := by
        rw [← T.sizes_snoc, ← HT.out]
        exact T.sizes_take _ _
      have hn0r : n₀ ≤ wr.heap.size := Nat.le_trans hn₀ hkq.1.size
      have HC := (ih v.l[k] (List.getElem_mem hlt) (n - 1) (.slice oe v.l[k].l.length ce) (pre ++ ys) (wr.alloc (.cells #[.int .i64 v.l[k].r, .slice oe v.l[k].l.length ce] 24)) hr (hBr.alloc hn0r _) (by simp; omega) (hJa _ _ _ hJs) (by rw [List.length_append]; have := HSZ.out; omega))
      clear hle hlen hle2 hJs
      gi_wp2
      refine ⟨trivial, ?_⟩
      first | refine ⟨noD _, ?_⟩ | skip
      gi_at_call 56
      refine HC.mono ?_
      clear HC
      rintro e W3 (⟨rfl, zs, hz, hJ3, hk3⟩ | ⟨rfl, zs, hz, hx3⟩)
      · have HZ := Lib.hid hz
        clear hz
        gi_wp2
        go_roundw
        case rel => exact ⟨k + 1, ys ++ zs, hlt, by go_num, Lib.hid (by rw [List.map_append, HY.out, HZ.out, HT.out, T.pres_snoc]; rfl), by rw [← List.append_assoc]; exact hJ3, hkq.trans ((Kq.alloc hn0r _).trans hk3)⟩
        case measure => simp [intOf]; omega
      · have HZ := Lib.hid hz
        clear hz
        gi_wp2
        go_ret
        refine .inr ⟨rfl, ys ++ zs, ?_, by rw [← List.append_assoc]; exact hx3⟩
        rw [HPRE.out, List.map_append, HY.out]
        refine (List.prefix_append_right_inj _).2 HZ.out |>.trans ?_
        rw [List.cons_append, ← T.pres_snoc, ← HT.out]
        have e : T.pres v.l = T.pres (v.l.take (k + 1)) ++ T.pres (v.l.drop (k + 1)) := by rw [← T.pres_append, List.take_append_drop]
        rw [e]
        exact ⟨T.pres (v.l.drop (k + 1)), by simp⟩
    · gi_wp2
      go_ret
      refine .inl ⟨rfl, ys, ?_, hJs, hkq⟩
      rw [HPRE.out, HY.out, List.take_of_length_le (by omega)]

end Go.Proofs.Ytdfhfljmcakilaa
