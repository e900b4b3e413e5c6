/-
  Lists of numbers, of texts and of lists of texts in memory; a slice that the call has built, read as a list of values. Nothing is assumed.
-/
import Derived.Test.YthnlkijkgnmbhaaDoorRep
import Derived.Deep.AppendLies
import Derived.Deep.LoopGhost
namespace Go.Proofs.YthnlkijkgnmbhaaDoor
open Go.RowKit

/-- The slice value holds the list, one cell an element; R says what a cell holds. -/
def Lst {α : Type} (R : World → Nat → Value → α → Prop) (w : World) (B : Nat) (x : Value) (l : List α) : Prop :=
  ∃ (oa : Option Addr) (cap : Nat), x = .slice oa l.length cap ∧ l.length ≤ 9223372036854775807 ∧
    ∀ i a, l[i]? = some a → ∃ (b off : Nat) (c : Value), oa = some ⟨b, off, none⟩ ∧ b < B ∧ w.cell? ⟨b, off + i, none⟩ = some c ∧ R w B c a
def RInt (_ : World) (_ : Nat) (c : Value) (n : Int) : Prop := c = .int .i64 n
def RStr (_ : World) (_ : Nat) (c : Value) (s : ByteArray) : Prop := c = .string s
def LInts := Lst RInt
def LStrs := Lst RStr
def LRows := Lst LStrs

theorem Lst.later {α : Type} {R : World → Nat → Value → α → Prop} (hR : ∀ (w w' : World) (B : Nat) (c : Value) (a : α), R w B c a → Below B w w' → R w' B c a) {w w' : World} {B : Nat} {x : Value} {l : List α}
    (h : Lst R w B x l) (hb : Below B w w') : Lst R w' B x l := by
  obtain ⟨oa, cap, rfl, hm, hel⟩ := h
  refine ⟨oa, cap, rfl, hm, fun i a ha => ?_⟩
  obtain ⟨b, off, c, rfl, hlt, hc, hr⟩ := hel i a ha
  exact ⟨b, off, c, rfl, hlt, (hb.cell (p := ⟨b, _, none⟩) hlt).trans hc, hR _ _ _ _ _ hr hb⟩
theorem LInts.later {w w' : World} {B : Nat} {x : Value} {l : List Int} (h : LInts w B x l) (hb : Below B w w') : LInts w' B x l := Lst.later (fun _ _ _ _ _ h _ => h) h hb
theorem LStrs.later {w w' : World} {B : Nat} {x : Value} {l : List ByteArray} (h : LStrs w B x l) (hb : Below B w w') : LStrs w' B x l := Lst.later (fun _ _ _ _ _ h _ => h) h hb
theorem LRows.later {w w' : World} {B : Nat} {x : Value} {l : List (List ByteArray)} (h : LRows w B x l) (hb : Below B w w') : LRows w' B x l := Lst.later (R := LStrs) (fun w w' _ _ _ h k => LStrs.later (w := w) (w' := w') h k) h hb

/-- The cells of one value. -/
def V.cs (p : V × Value) : List Value := [.int .i64 p.1.t, .int .i64 p.1.n, .string p.1.s, p.2]
def flat (l : List (V × Value)) : List Value := l.flatMap V.cs

theorem flat_len (l : List (V × Value)) : (flat l).length = l.length * 4 := by
  induction l with
  | nil => rfl
  | cons a l ih => simp only [flat, List.flatMap_cons, List.length_append, List.length_cons] at *; rw [ih]; simp [V.cs]; omega
theorem flat_at (l : List (V × Value)) : ∀ (i j : Nat) (p : V × Value), l[i]? = some p → j < 4 → (flat l)[i * 4 + j]? = (V.cs p)[j]? := by
  induction l with
  | nil => intro i j p h; simp at h
  | cons a l ih =>
    intro i j p h hj
    cases i with
    | zero =>
      simp only [List.getElem?_cons_zero, Option.some.injEq] at h
      subst h
      simp only [flat, List.flatMap_cons]
      rw [List.getElem?_append_left (by simp [V.cs]; omega)]
      simp
    | succ i =>
      have := ih i j p (by simpa using h) hj
      simp only [flat, List.flatMap_cons]
      rw [List.getElem?_append_right (by simp [V.cs]; omega)]
      have e : (i + 1) * 4 + j - (V.cs a).length = i * 4 + j := by simp [V.cs]; omega
      rw [e]
      exact this
theorem flat_snoc (l : List (V × Value)) (p : V × Value) : flat (l ++ [p]) = flat l ++ V.cs p := by simp [flat]

/-- A slice of values that the call has built. -/
theorem Rep.of_owns {w : World} {base e : Nat} {x : Value} {ps : List (V × Value)} (h : w.ownsRow base e 4 x ps.length (flat ps)) (hr : ∀ p, p ∈ ps → Rep w w.heap.size p.2 p.1.l) (hm : ps.length ≤ 9223372036854775807) :
    Rep w w.heap.size x (ps.map (·.1)) := by
  rcases h.2 with ⟨rfl, h0⟩ | ⟨g, cap, cur, rfl, hg, hh, hcap, _, hsz, htk⟩
  · obtain rfl := List.eq_nil_of_length_eq_zero h0
    exact Rep.nil
  · have hlt : g < w.heap.size := by
      rcases Nat.lt_or_ge g w.heap.size with h | h
      · exact h
      · rw [Array.getElem?_eq_none h] at hh; cases hh
    have cell : ∀ o u, (flat ps)[o]? = some u → w.cell? ⟨g, o, none⟩ = some u := by
      intro o u hu
      have ho : o < ps.length * 4 := by
        have := (List.getElem?_eq_some_iff.1 hu).1
        rwa [flat_len] at this
      have h1 : cur.toList[o]? = some u := by
        rw [← htk, List.getElem?_take] at hu
        rw [if_pos ho] at hu
        exact hu
      unfold World.cell?
      rw [hh]
      simpa using h1
    have key : (ps.map (·.1)).length = ps.length := by simp
    rw [← key]
    refine .arr g 0 cap (ps.map (·.1)) (fun i => ((ps[i]?).map (·.2)).getD .nilIface) hlt (by omega) (by omega) (fun i v hv => ?_) (fun i v hv => ?_)
    · simp only [List.getElem?_map, Option.map_eq_some_iff] at hv
      obtain ⟨p, hp, rfl⟩ := hv
      have f := fun j hj => flat_at ps i j p hp hj
      simp only [Nat.zero_add, hp, Option.map_some, Option.getD_some]
      exact ⟨cell _ _ (f 0 (by omega)), cell _ _ (f 1 (by omega)), cell _ _ (f 2 (by omega)), cell _ _ (f 3 (by omega))⟩
    · simp only [List.getElem?_map, Option.map_eq_some_iff] at hv
      obtain ⟨p, hp, rfl⟩ := hv
      simp only [hp, Option.map_some, Option.getD_some]
      exact hr p (List.mem_of_getElem? hp)

end Go.Proofs.YthnlkijkgnmbhaaDoor
