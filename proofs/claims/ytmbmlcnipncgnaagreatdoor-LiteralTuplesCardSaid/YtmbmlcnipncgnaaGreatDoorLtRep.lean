/-
  Lists of values told by the set of their blocks. Nothing is assumed.
-/
import Derived.Test.YtmbmlcnipncgnaaGreatDoorLtOf
import Derived.Test.YtmbmlcnipncgnaaGreatDoorLst
import Derived.OwnWalk
namespace Go.Proofs.YtmbmlcnipncgnaaGreatDoor
open Go.RowKit

theorem infoValue : (Tryz.prog.info? 34).map (fun i => (i.zero, i.size, i.bytes)) = some (some (.agg #[.int .i64 0, .int .i64 0, .string ⟨#[]⟩, .slice none 0 0]), 4, 56) := by kernel_rfl

/-- As Rep, told by the set of the blocks. -/
inductive RepS (w : World) (S : Nat → Prop) : Value → List V → Prop
  | empty (oa : Option Addr) (cap : Nat) : RepS w S (.slice oa 0 cap) []
  | arr (b off cap : Nat) (l : List V) (sl : Nat → Value) (hb : S b) (hl : l.length ≤ cap) (hm : l.length ≤ 9223372036854775807)
      (hc : ∀ i v, l[i]? = some v → w.cell? ⟨b, off + i * 4, none⟩ = some (.int .i64 v.t) ∧ w.cell? ⟨b, off + i * 4 + 1, none⟩ = some (.int .i64 v.n) ∧
        w.cell? ⟨b, off + i * 4 + 2, none⟩ = some (.string v.s) ∧ w.cell? ⟨b, off + i * 4 + 3, none⟩ = some (sl i))
      (hr : ∀ i v, l[i]? = some v → RepS w S (sl i) v.l) : RepS w S (.slice (some ⟨b, off, none⟩) l.length cap) l

theorem RepS.nil {w : World} {S : Nat → Prop} : RepS w S (.slice none 0 0) [] := .empty none 0
theorem RepS.rep {w : World} {S : Nat → Prop} {B : Nat} {x : Value} {l : List V} (h : RepS w S x l) (hS : ∀ b, S b → b < B) : Rep w B x l := by
  induction h with
  | empty oa cap => exact .empty oa cap
  | arr b off cap l sl hb hl hm hc hr ih => exact .arr b off cap l sl (hS b hb) hl hm hc ih
theorem RepS.later {w w' : World} {S T : Nat → Prop} {x : Value} {l : List V} (h : RepS w S x l) (hT : ∀ b, S b → T b) (hS : ∀ b, S b → ∀ o, w'.cell? ⟨b, o, none⟩ = w.cell? ⟨b, o, none⟩) : RepS w' T x l := by
  induction h with
  | empty oa cap => exact .empty oa cap
  | arr b off cap l sl hb hl hm hc hr ih =>
    refine .arr b off cap l sl (hT b hb) hl hm (fun i v hv => ?_) ih
    rw [hS b hb, hS b hb, hS b hb, hS b hb]
    exact hc i v hv

/-- A slice of values that the call has built, its blocks told. -/
theorem RepS.of_owns {w : World} {base e : Nat} {x : Value} {ps : List (V × Value)} {S : Nat → Prop} (h : w.ownsRow base e 4 x ps.length (flat ps)) (hr : ∀ p, p ∈ ps → RepS w S p.2 p.1.l) (hm : ps.length ≤ 9223372036854775807)
    (hS : ∀ g, base ≤ g → g < w.heap.size → S g) : RepS w S x (ps.map (·.1)) := by
  rcases h.2 with ⟨rfl, h0⟩ | ⟨g, cap, cur, rfl, hg, hh, hcap, _, hsz, htk⟩
  · obtain rfl := List.eq_nil_of_length_eq_zero h0
    exact RepS.nil
  · have hlt : g < w.heap.size := by
      rcases Nat.lt_or_ge g w.heap.size with h | h
      · exact h
      · rw [Array.getElem?_eq_none h] at hh; cases hh
    have cell : ∀ o u, (flat ps)[o]? = some u → w.cell? ⟨g, o, none⟩ = some u := by
      intro o u hu
      have ho : o < ps.length * 4 := by
        have := (List.getElem?_eq_some_iff.1 hu).1
        rwa [flat_len] at this
      have h1 : cur.toList[o]? = some u := by
        rw [← htk, List.getElem?_take] at hu
        rw [if_pos ho] at hu
        exact hu
      unfold World.cell?
      rw [hh]
      simpa using h1
    have key : (ps.map (·.1)).length = ps.length := by simp
    rw [← key]
    refine .arr g 0 cap (ps.map (·.1)) (fun i => ((ps[i]?).map (·.2)).getD .nilIface) (hS g hg hlt) (by omega) (by omega) (fun i v hv => ?_) (fun i v hv => ?_)
    · simp only [List.getElem?_map, Option.map_eq_some_iff] at hv
      obtain ⟨p, hp, rfl⟩ := hv
      have f := fun j hj => flat_at ps i j p hp hj
      simp only [Nat.zero_add, hp, Option.map_some, Option.getD_some]
      exact ⟨cell _ _ (f 0 (by omega)), cell _ _ (f 1 (by omega)), cell _ _ (f 2 (by omega)), cell _ _ (f 3 (by omega))⟩
    · simp only [List.getElem?_map, Option.map_eq_some_iff] at hv
      obtain ⟨p, hp, rfl⟩ := hv
      simp only [hp, Option.map_some, Option.getD_some]
      exact hr p (List.mem_of_getElem? hp)

/-- The blocks from lo on, below hi. -/
def Btw (lo hi : Nat) (b : Nat) : Prop := lo ≤ b ∧ b < hi

/-- Four cells of one block, none frozen. -/
def Box4 (w : World) (n : Nat) (a b c d : Value) : Prop :=
  w.cell? ⟨n, 0, none⟩ = some a ∧ w.cell? ⟨n, 1, none⟩ = some b ∧ w.cell? ⟨n, 2, none⟩ = some c ∧ w.cell? ⟨n, 3, none⟩ = some d ∧ ∀ o, w.frozen? ⟨n, o, none⟩ = false
theorem Box4.of_block {w w1 : World} {n : Nat} {a b c d : Value} (h : Box4 w n a b c d) (hb : w1.heap[n]? = w.heap[n]?) : Box4 w1 n a b c d := by
  obtain ⟨h0, h1, h2, h3, hz⟩ := h
  exact ⟨(World.cell?_of_block (w := w) (a := ⟨n, _, none⟩) hb).trans h0, (World.cell?_of_block (w := w) (a := ⟨n, _, none⟩) hb).trans h1, (World.cell?_of_block (w := w) (a := ⟨n, _, none⟩) hb).trans h2,
    (World.cell?_of_block (w := w) (a := ⟨n, _, none⟩) hb).trans h3, fun o => (World.frozen?_of_block (w := w) (a := ⟨n, o, none⟩) hb).trans (hz o)⟩
theorem Box4.later {w w1 : World} {n B : Nat} {a b c d : Value} (h : Box4 w n a b c d) (hb : Below B w w1) (hn : n < B) : Box4 w1 n a b c d := h.of_block (hb.block n hn)
theorem Box4.grown {w w1 : World} {n : Nat} {row : Option Nat} {a b c d : Value} (h : Box4 w n a b c d) (hg : w.grownBy w1 row) (hn : n < w.heap.size) (hne : row ≠ some n) : Box4 w1 n a b c d := h.of_block (hg.block n hn (Ne.symm hne))
theorem Box4.new {w : World} {n : Nat} (a b c d : Value) (t : Nat) (hn : w.heap.size = n) : Box4 (w.alloc (.cells #[a, b, c, d] t)) n a b c d := by
  subst hn
  obtain ⟨h0, h1, h2, h3⟩ := box_later (a := a) (b := b) (c := c) (d := d) (t := t) (Below.refl (w.heap.size + 1) (w.alloc (.cells #[a, b, c, d] t)))
  exact ⟨h0, h1, h2, h3, fun o => World.frozen?_alloc_at _ _ _ _ rfl⟩
theorem Box4.set3 {w : World} {n : Nat} {a b c d : Value} (h : Box4 w n a b c d) (x : Value) : Box4 (w.setCell ⟨n, 3, none⟩ x) n a b c x := by
  obtain ⟨h0, h1, h2, h3, hz⟩ := h
  refine ⟨?_, ?_, ?_, World.cell?_setCell_same _ _ _ h3, fun o => ?_⟩
  · rw [World.cell?_setCell_other _ _ _ _ (by simp)]; exact h0
  · rw [World.cell?_setCell_other _ _ _ _ (by simp)]; exact h1
  · rw [World.cell?_setCell_other _ _ _ _ (by simp)]; exact h2
  · rw [World.frozen?_setCell]; exact hz o
theorem own_ne {w : World} {base e size n : Nat} {v : Value} {xs : List Value} (h : w.ownsRow base e size v n xs) {g : Nat} (hg : g < base) : v.ownBlock ≠ some g := by
  rcases h.2 with ⟨rfl, _⟩ | ⟨g', cap, cur, rfl, hb, _⟩
  · simp [Value.ownBlock]
  · simp [Value.ownBlock]; omega

end Go.Proofs.YtmbmlcnipncgnaaGreatDoor
