/-
  slices.Collect over the matches of an iterator: the beginning. Nothing is assumed.
-/
import Derived.Test.YtbogiigdadljpaaDoorPtIter
import Derived.Maps.AppendAt
namespace Go.Proofs.YtbogiigdadljpaaDoor
open Go.RowKit Go.Shelf

attribute [local go_sem] Oper.semAt_some

theorem setCell_comm (w : World) (a b : Addr) (x y : Value) (h : a.block ≠ b.block) : (w.setCell a x).setCell b y = (w.setCell b y).setCell a x := by
  unfold World.setCell
  simp only [World.mk.injEq, and_true]
  apply Array.ext_getElem?
  intro i
  simp only [Array.getElem?_modify]
  by_cases h1 : a.block = i
  · have h2 : b.block ≠ i := fun e => h (h1.trans e.symm)
    simp [h1, h2]
  · by_cases h2 : b.block = i <;> simp [h1, h2]

/-- 'append' to a row of the call's own inside a fence: and the row lies where it lay or in a new block. -/
theorem stepIn_appendL {F : Fence} {n : Nat} {P : Program} (w : World) {ops : Array Oper} {o : Oper} {a : Act} {K : Act → World → Prop} {Q : Exit → Act → World → Prop} {E : Prop}
    (hgd : o.guard = none) (s x : Operand) (t : TypeId) (hop : o.op = Op.call { callee := Callee.builtin Builtin.append, args := #[s, x], argTypes := #[t, t] })
    (base : Nat) (e : TypeId) (i : TypeInfo) (z : Value) (size bytes : Nat) (h1 : P.underlying t = some (.slice e)) (h2 : P.info? e = some i) (h3 : i.zero = some z) (h4 : i.size = size) (h5 : i.bytes = bytes) (h6 : z.cells.size = size) (h7 : 0 < size)
    (v : Value) (k : Nat) (xs : List Value) (hs : a.eval s = v) (hown : w.ownsRow base e size v k xs) (ad : Addr) (m c : Nat) (news : List Value) (hx : a.eval x = .slice (some ad) m c) (hn : news.length = m * size)
    (hc : ∀ (j : Nat) u, news[j]? = some u → w.cell? (ad.add j) = some u) (h1c : ∀ u ∈ news, u.oneCell' = true) (b1 : k + m ≤ maxLen) (b2 : (k + m) * bytes ≤ 140737488355328) (b3 : base ≤ w.heap.size)
    (hK : ∀ v' w', w'.ownsRow base e size v' (k + m) (xs ++ news) → w.grownBy w' v.ownBlock → (v'.ownBlock = v.ownBlock ∨ v'.ownBlock = some w.heap.size) → K (a.put o.dst v') w') :
    if Region.wanted o (yielded ops a.tmps) = true then Oper.wpIn F n P o a w K Q else E := by
  have hw : Region.wanted o (yielded ops a.tmps) = true := by simp [Region.wanted, hgd]
  rw [if_pos hw]
  obtain ⟨v', w', hrun, r1, r2, _, r4⟩ := run_append_own_at (P := P) w base t o.type e i z size bytes h1 h2 h3 h4 h5 h6 h7 v k xs hown ad m c news hn hc h1c b1 b2 b3
  unfold Oper.wpIn
  refine ⟨?_, ?_⟩
  · simp [Oper.about, hop, resolve, Target.leads, Sem.run_pure]
  · rw [Oper.semAt_plain F _ _ (by rw [hop]; intro c hc'; cases hc')]
    simp [execOp, hop, resolve, invoke, builtin, hs, hx, hrun, Result.andThen]
    exact hK v' w' r1 r2 r4

theorem set_last2 (xs : List Value) (a b c d : Value) (k : Nat) (h : xs.length = k * 2) : ((xs ++ [a, b]).set (k * 2) c).set (k * 2 + 1) d = xs ++ [c, d] := by
  rw [List.set_append_right _ _ (by omega), h, Nat.sub_self, List.set_append_right _ _ (by omega), h]
  simp

theorem infoPair : (Tryd.prog.info? 36).map (fun i => (i.zero, i.size, i.bytes)) = some (some (.agg #[.int .i64 0, .int .i64 0]), 2, 16) := by kernel_rfl

theorem bodyP_done {n₀ B k g2 cap2 : Nat} {Wd w6 : World} {vv : Value} {xs : List Value} {z0 z1 e0 e1 : Value} {o1 : Obj} (bL : Boxed Wd B 23 vv) (hn : n₀ ≤ Wd.heap.size) (hH : n₀ ≤ B)
    (hr : Wd.ownsRow n₀ 36 2 vv k xs) (hown : w6.ownsRow n₀ 36 2 (.slice (some ⟨g2, 0, none⟩) (k + 1) cap2) (k + 1) (xs ++ [z0, z1])) (hg : (Wd.alloc o1).grownBy w6 vv.ownBlock) :
    g2 ≠ B ∧ w6.cell? ⟨B, 0, none⟩ = some vv ∧ (∀ o : Nat, w6.frozen? ⟨B, o, none⟩ = false) ∧ w6.cell? ⟨g2, k * 2, none⟩ = some z0 ∧ w6.cell? ⟨g2, k * 2 + 1, none⟩ = some z1 ∧ (∀ o : Nat, w6.frozen? ⟨g2, o, none⟩ = false) ∧
      Hid ((∀ C, KeepsFrom C Wd (((w6.setCell ⟨g2, k * 2, none⟩ e0).setCell ⟨g2, k * 2 + 1, none⟩ e1).setCell ⟨B, 0, none⟩ (.slice (some ⟨g2, 0, none⟩) (k + 1) cap2))) ∧
        Boxed (((w6.setCell ⟨g2, k * 2, none⟩ e0).setCell ⟨g2, k * 2 + 1, none⟩ e1).setCell ⟨B, 0, none⟩ (.slice (some ⟨g2, 0, none⟩) (k + 1) cap2)) B 23 (.slice (some ⟨g2, 0, none⟩) (k + 1) cap2) ∧
        (((w6.setCell ⟨g2, k * 2, none⟩ e0).setCell ⟨g2, k * 2 + 1, none⟩ e1).setCell ⟨B, 0, none⟩ (.slice (some ⟨g2, 0, none⟩) (k + 1) cap2)).ownsRow n₀ 36 2 (.slice (some ⟨g2, 0, none⟩) (k + 1) cap2) (k + 1) (xs ++ [e0, e1]) ∧
        Below n₀ Wd (((w6.setCell ⟨g2, k * 2, none⟩ e0).setCell ⟨g2, k * 2 + 1, none⟩ e1).setCell ⟨B, 0, none⟩ (.slice (some ⟨g2, 0, none⟩) (k + 1) cap2))) := by
  have hxl : xs.length = k * 2 := hr.1
  obtain ⟨h1, _, _, _, _⟩ := bL.appended (by decide) hr hn hH hown hg
  have hne : g2 ≠ B := fun e => h1.not_row (by decide) hown (by rw [← e]; rfl)
  have hgl : n₀ ≤ g2 ∧ g2 < w6.heap.size := hown.lt g2 rfl
  obtain ⟨s1, t1⟩ := World.ownsRow.stored hown (k * 2) e0
  obtain ⟨s2, t2⟩ := World.ownsRow.stored s1 (k * 2 + 1) e1
  rw [set_last2 xs z0 z1 e0 e1 k hxl] at s2
  have hb2 : Boxed ((w6.setCell ⟨g2, k * 2, none⟩ e0).setCell ⟨g2, k * 2 + 1, none⟩ e1) B 23 vv := (h1.kept t1 (by simp; exact hne.symm)).kept t2 (by simp; exact hne.symm)
  have hbel : Below n₀ Wd (((w6.setCell ⟨g2, k * 2, none⟩ e0).setCell ⟨g2, k * 2 + 1, none⟩ e1).setCell ⟨B, 0, none⟩ (.slice (some ⟨g2, 0, none⟩) (k + 1) cap2)) :=
    (((((Below.refl n₀ Wd).alloc hn o1).grown hg (by simp; omega) (fun q hq => (hr.lt q hq).1)).setCell (p := ⟨g2, _, none⟩) hgl.1 _).setCell (p := ⟨g2, _, none⟩) hgl.1 _).setCell (p := ⟨B, _, none⟩) hH _
  have hbf := hb2.set (.slice (some ⟨g2, 0, none⟩) (k + 1) cap2)
  have n0 := hown.cellAt (k * 2) (by omega)
  have n1 := hown.cellAt (k * 2 + 1) (by omega)
  rw [List.getElem?_append_right (by omega), hxl, Nat.sub_self] at n0
  rw [List.getElem?_append_right (by omega), hxl, Nat.add_sub_cancel_left] at n1
  refine ⟨hne, h1.cell, fun o => ?_, n0, n1, fun o => hown.frozenAt o, Lib.hid ⟨fun C => ?_, hbf, s2.kept (grownBy_setCell' _ B _) (.inr (fun e => hne (by simpa [Value.ownBlock] using e))), hbel⟩⟩
  · simp [World.frozen?, show w6.heap[B]? = _ from h1]
  · refine KeepsOthers.from ?_ C
    refine (((KeepsOthers.alloc Wd o1).trans (KeepsOthers.of_grownBy hg fun j o ej hj => ?_)).trans ((KeepsOthers.setCell _ _ _).trans (KeepsOthers.setCell _ _ _))).trans (KeepsOthers.setCell _ _ _)
    rcases (hr.alloc o1).2 with ⟨rfl, _⟩ | ⟨g, cap, cur, rfl, _, hgb, _⟩
    · simp [Value.ownBlock] at ej
    · obtain rfl : g = j := by simpa [Value.ownBlock] using ej
      rw [hgb] at hj
      cases hj
      rfl

theorem addr_add0 (b o i : Nat) : (⟨b, o, none⟩ : Addr).add i = ⟨b, o + i, none⟩ := by
  unfold Addr.add
  split
  · rename_i h; subst h; rfl
  · rfl

/-- A row that holds something lies in a block. -/
theorem ownsRow_some {w : World} {B e k size : Nat} {v : Value} {xs : List Value} (h : w.ownsRow B e size v (k + 1) xs) : ∃ g c, v = .slice (some ⟨g, 0, none⟩) (k + 1) c := by
  rcases h.2 with ⟨_, h0⟩ | ⟨g, c, cur, hv, _⟩
  · omega
  · exact ⟨g, c, hv⟩

/-- The cells of a list of matches. -/
def flatM : List (Nat × Nat) → List Value
  | [] => []
  | x :: ys => .int .i64 (x.1 : Int) :: .int .i64 (x.2 : Int) :: flatM ys
theorem flatM_snoc (ys : List (Nat × Nat)) (x : Nat × Nat) : flatM (ys ++ [x]) = flatM ys ++ [.int .i64 (x.1 : Int), .int .i64 (x.2 : Int)] := by
  induction ys with
  | nil => rfl
  | cons y t ih => simp [flatM, ih]

end Go.Proofs.YtbogiigdadljpaaDoor
