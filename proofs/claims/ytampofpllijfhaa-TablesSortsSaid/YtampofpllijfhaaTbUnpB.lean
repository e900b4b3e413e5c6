/-
  Unpivot of the package. Nothing is assumed.
-/
import Derived.Test.YtampofpllijfhaaTbUnpiv
namespace Go.Proofs.Ytampofpllijfhaa
open Go.RowKit

theorem HoldsS.take {w : World} {P : Nat → Prop} {n c k : Nat} {oa : Option Addr} {l : List ByteArray} (h : HoldsS w P (.slice oa n c) l) (hk : k ≤ n) : HoldsS w P (.slice oa k c) (l.take k) := by
  obtain ⟨h1, h2, h3⟩ := h.len
  have hlen : (l.take k).length = k := by simp; omega
  refine ⟨oa, c, by rw [hlen], by omega, h3, fun i z hz => h.at_ ?_⟩
  rw [List.getElem?_take] at hz
  split at hz
  · exact hz
  · cases hz
theorem HoldsT.drop1 {w : World} {P : Nat → Prop} {n c : Nat} {oa : Option Addr} {t : Tab} (h : HoldsT w P (.slice oa n c) t) : HoldsT w P (.slice (oa.map (·.add 1)) (n - 1) (c - 1)) (t.drop 1) := by
  obtain ⟨h1, h2, h3⟩ := h.len
  refine ⟨_, c - 1, by rw [List.length_drop, h1], by simp; omega, by omega, fun i z hz => ?_⟩
  rw [List.getElem?_drop] at hz
  obtain ⟨b, off, o, cr, rfl, hp, hcc, hr⟩ := h.at_ hz
  exact ⟨b, off + 1, _, by simp [Addr.add], hp, by rw [Nat.add_assoc]; exact hcc, hr⟩
/-- One row of the turned table. -/
def unpRow (hd : Row) (c : Nat) (r : Row) (j : Nat) : Row := r.take c ++ [(hd[j]?).getD ⟨#[]⟩, (r[j]?).getD ⟨#[]⟩]
def unpOne (hd : Row) (c : Nat) (r : Row) (n : Nat) : Tab := (List.range n).map fun j => unpRow hd c r (c + j)
theorem unpOne_next (hd : Row) (c : Nat) (r : Row) (n : Nat) : unpOne hd c r (n + 1) = unpOne hd c r n ++ [unpRow hd c r (c + n)] := by simp [unpOne, List.range_succ]
theorem unpOne_len (hd : Row) (c : Nat) (r : Row) (n : Nat) : (unpOne hd c r n).length = n := by simp [unpOne]
def unpK (hd : Row) (c : Nat) (q : Tab) : Tab := (q.map fun r => unpOne hd c r (r.length - c)).flatten
theorem unpK_next (hd : Row) (c : Nat) (q : Tab) (m : Nat) (h : m < q.length) : unpK hd c (q.take (m + 1)) = unpK hd c (q.take m) ++ unpOne hd c q[m] (q[m].length - c) := by
  rw [take_snoc q m h]
  unfold unpK
  rw [List.map_append, List.flatten_append]
  simp
/-- What Unpivot returns. -/
def unpV (t : Tab) (keep : Int) : Tab := if unpE t keep = 0 then unpK (t.headD []) keep.toNat (t.drop 1) else []
def RetTE (w w' : World) (t : Tab) (n : Int) (e : Ending) : Prop := ∃ v, e = .returned (.tuple #[v, .int .i64 n]) ∧ HoldsT w' (Btw w.heap.size w'.heap.size) v t
theorem RetTE.nil {w w' : World} {t : Tab} {n m : Int} (ht : t = []) (hn : n = m) : RetTE w w' t m (.returned (.tuple #[.slice none 0 0, .int .i64 n])) := by
  subst ht
  subst hn
  exact ⟨_, rfl, HoldsT.nil _ _⟩
theorem RetTE.mk {w w' : World} {t u : Tab} {v : Value} {n m : Int} (h : HoldsT w' (Btw w.heap.size w'.heap.size) v t) (he : t = u) (hn : n = m) : RetTE w w' u m (.returned (.tuple #[v, .int .i64 n])) := by
  subst he
  subst hn
  exact ⟨_, rfl, h⟩
theorem part_two (w : World) (B : Nat) (x : Value) (r : Row) (a b : ByteArray) (h : HoldsS w (· < B) x r) (hB : B ≤ w.heap.size) :
    HoldsT ((w.alloc (.cells #[.string a, .string b] 9)).alloc (.cells #[x, .slice (some ⟨w.heap.size, 0, none⟩) 2 2] 29)) (· < w.heap.size + 2) (.slice (some ⟨w.heap.size + 1, 0, none⟩) 2 2) [r, [a, b]] := by
  have hb1 := below1 w (.cells #[.string a, .string b] 9)
  have hb2 := hb1.alloc (by simp : w.heap.size ≤ (w.alloc (.cells #[.string a, .string b] 9)).heap.size) (.cells #[x, .slice (some ⟨w.heap.size, 0, none⟩) 2 2] 29)
  refine ⟨_, 2, rfl, Nat.le_refl _, by omega, fun i y hi => ?_⟩
  match i, hi with
  | 0, hi =>
    simp at hi
    subst hi
    exact ⟨_, 0, x, rfl, by omega, by simp, (h.later (hb2.mono hB)).mono (by omega)⟩
  | 1, hi =>
    simp at hi
    subst hi
    refine ⟨_, 0, _, rfl, by omega, by simp; rfl, ⟨_, 2, rfl, Nat.le_refl _, by omega, fun j z hz => ?_⟩⟩
    match j, hz with
    | 0, hz => simp at hz; subst hz; exact ⟨_, 0, rfl, by omega, by simp⟩
    | 1, hz => simp at hz; subst hz; exact ⟨_, 0, rfl, by omega, by simp⟩
    | j + 2, hz => simp at hz
  | i + 2, hi => simp at hi

end Go.Proofs.Ytampofpllijfhaa
