/-
  Plain facts on the runes of a string, and bytes in memory. Nothing is assumed.
-/
import Derived.Test.YtlpmaeemegphiaaDoorStSlice
import Derived.Lib.DecodeN
import Derived.Lib.OthersKept
import Derived.Laws.IdiomStrings
import Derived.Laws.RangeAny
namespace Go.Proofs.YtlpmaeemegphiaaDoor
open Go.RowKit

theorem get_is (s : ByteArray) (j : Nat) (h : j < s.size) : s.get! j = s[j]'h := get_at s j h

theorem rune_conts (s : ByteArray) (pos : Nat) (h : pos < s.size) :
    1 ≤ (Utf8.decode s pos).2 ∧ pos + (Utf8.decode s pos).2 ≤ s.size ∧ ∀ j, pos < j → j < pos + (Utf8.decode s pos).2 → ∀ hj : j < s.size, 128 ≤ (s[j]'hj).toNat := by
  have key : ∀ n b0 b1 b2 b3 : Nat, 1 ≤ n → 1 ≤ (Lib.decodeN n b0 b1 b2 b3).2 ∧ (Lib.decodeN n b0 b1 b2 b3).2 ≤ n ∧
      (2 ≤ (Lib.decodeN n b0 b1 b2 b3).2 → 128 ≤ b1) ∧ (3 ≤ (Lib.decodeN n b0 b1 b2 b3).2 → 128 ≤ b2) ∧ (4 ≤ (Lib.decodeN n b0 b1 b2 b3).2 → 128 ≤ b3) ∧ (Lib.decodeN n b0 b1 b2 b3).2 ≤ 4 := by
    intro n b0 b1 b2 b3 hn
    unfold Lib.decodeN
    repeat' split
    all_goals (simp only; omega)
  rw [Lib.decode_at]
  obtain ⟨k0, k1, k2, k3, k4, k5⟩ := key (s.size - pos) (s.get! pos).toNat (s.get! (pos + 1)).toNat (s.get! (pos + 2)).toNat (s.get! (pos + 3)).toNat (by omega)
  refine ⟨k0, by omega, fun j h1 h2 hj => ?_⟩
  have hc : j = pos + 1 ∨ j = pos + 2 ∨ j = pos + 3 := by omega
  rcases hc with rfl | rfl | rfl
  · have := k2 (by omega); rwa [get_is _ _ hj] at this
  · have := k3 (by omega); rwa [get_is _ _ hj] at this
  · have := k4 (by omega); rwa [get_is _ _ hj] at this

/-- Block B holds the bytes of s, those before p changed by f. -/
def Bytes (f : UInt8 → UInt8) (w : World) (B : Nat) (s : ByteArray) (p : Nat) : Prop :=
  ∃ (cur : Array Value) (t : TypeId), w.heap[B]? = some (.cells cur t (cur.size, cur.size + 1)) ∧ ∀ j (hj : j < s.size), cur[j]? = some (.int .u8 ((if j < p then f s[j] else s[j]).toNat : Int))

theorem Bytes.cell {f : UInt8 → UInt8} {w : World} {B : Nat} {s : ByteArray} {p : Nat} (h : Bytes f w B s p) (j : Nat) (hj : j < s.size) :
    w.cell? ⟨B, j, none⟩ = some (.int .u8 ((if j < p then f s[j] else s[j]).toNat : Int)) ∧ w.frozen? ⟨B, j, none⟩ = false := by
  obtain ⟨cur, t, hh, hc⟩ := h
  have h1 := hc j hj
  have hlt : j < cur.size := by
    rcases Nat.lt_or_ge j cur.size with h | h
    · exact h
    · rw [Array.getElem?_eq_none h] at h1; cases h1
  constructor
  · unfold World.cell?
    rw [hh]
    simpa using h1
  · unfold World.frozen?
    rw [hh]
    simp
    omega
theorem Bytes.of_block {f : UInt8 → UInt8} {w w' : World} {B : Nat} {s : ByteArray} {p : Nat} (h : Bytes f w B s p) (hb : w'.heap[B]? = w.heap[B]?) : Bytes f w' B s p := by
  obtain ⟨cur, t, hh, hc⟩ := h
  exact ⟨cur, t, hb.trans hh, hc⟩
theorem Bytes.skip {f : UInt8 → UInt8} {w : World} {B : Nat} {s : ByteArray} {p q : Nat} (h : Bytes f w B s p) (hpq : p ≤ q) (hf : ∀ j, p ≤ j → j < q → ∀ hj : j < s.size, f s[j] = s[j]) : Bytes f w B s q := by
  obtain ⟨cur, t, hh, hc⟩ := h
  refine ⟨cur, t, hh, fun j hj => ?_⟩
  rw [hc j hj]
  by_cases h1 : j < p
  · rw [if_pos h1, if_pos (by omega)]
  · rw [if_neg h1]
    by_cases h2 : j < q
    · rw [if_pos h2, hf j (by omega) h2 hj]
    · rw [if_neg h2]
theorem Bytes.store {f : UInt8 → UInt8} {w : World} {B : Nat} {s : ByteArray} {p : Nat} (h : Bytes f w B s p) (hp : p < s.size) (v : Int) (hv : v = ((f s[p]).toNat : Int)) : Bytes f (w.setCell ⟨B, p, none⟩ (.int .u8 v)) B s (p + 1) := by
  obtain ⟨cur, t, hh, hc⟩ := h
  refine ⟨cur.setIfInBounds p (.int .u8 v), t, ?_, fun j hj => ?_⟩
  · simp [World.setCell, Array.getElem?_modify, hh]
  · have hlt : p < cur.size := by
      have h1 := hc p hp
      rcases Nat.lt_or_ge p cur.size with h | h
      · exact h
      · rw [Array.getElem?_eq_none h] at h1; cases h1
    by_cases e : j = p
    · subst e
      rw [Array.getElem?_setIfInBounds_self_of_lt hlt, if_pos (by omega), hv]
    · rw [Array.getElem?_setIfInBounds_ne (by omega), hc j hj]
      by_cases h1 : j < p
      · rw [if_pos h1, if_pos (by omega)]
      · rw [if_neg h1, if_neg (by omega)]

/-- Behind []byte(s). -/
theorem Bytes.new {f : UInt8 → UInt8} (w : World) (s : ByteArray) (cap : Nat) (t : TypeId) : Bytes f (w.drew.alloc (.cells (bytesRow s cap) t ((bytesRow s cap).size, (bytesRow s cap).size + 1))) w.heap.size s 0 := by
  refine ⟨bytesRow s cap, t, ?_, fun j hj => ?_⟩
  · show (w.heap.push _)[w.heap.size]? = _
    simp
  · unfold bytesRow
    have hj' : j < s.data.size := hj
    rw [Array.getElem?_append_left (by rw [Array.size_map]; exact hj'), Array.getElem?_map, Array.getElem?_eq_getElem hj', if_neg (Nat.not_lt_zero j)]
    rfl

theorem setCell_size (w : World) (a : Addr) (v : Value) : (w.setCell a v).heap.size = w.heap.size := by simp [World.setCell]
theorem setCell_other (w : World) (B o k : Nat) (v : Value) (h : k ≠ B) : (w.setCell ⟨B, o, none⟩ v).heap[k]? = w.heap[k]? := by
  simp only [World.setCell, Array.getElem?_modify]
  rw [if_neg (Ne.symm h)]
theorem iterPos_of {w : World} {k : Nat} {s : ByteArray} {p : Nat} (h : w.heap[k]? = some (.stringIter s p)) : w.iterPos k = p := by simp [World.iterPos, h]
end Go.Proofs.YtlpmaeemegphiaaDoor
