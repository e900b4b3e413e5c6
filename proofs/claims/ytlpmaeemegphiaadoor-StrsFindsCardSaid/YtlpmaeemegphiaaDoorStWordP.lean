/-
  Words, told on the string; lists of strings in memory. Nothing is assumed.
-/
import Derived.Test.YtlpmaeemegphiaaDoorStRune
namespace Go.Proofs.YtlpmaeemegphiaaDoor
open Go.RowKit

theorem byte32' (c : UInt8) : ((c.toNat : Int) == 32) = decide (c = 32) := by
  rw [Bool.eq_iff_iff]
  simp
  constructor
  · intro h; exact UInt8.toNat_inj.1 (by show c.toNat = 32; omega)
  · intro h; subst h; rfl

/-- The words from place p on. -/
def WS (s : ByteArray) (p : Nat) : List ByteArray := (wordsOf (s.data.toList.drop p)).map str
theorem list_len (s : ByteArray) : s.data.toList.length = s.size := by rw [Array.length_toList]; rfl
theorem list_at (s : ByteArray) (j : Nat) (h : j < s.size) : s.data.toList[j]? = some (s[j]'h) := by
  rw [Array.getElem?_toList, Array.getElem?_eq_getElem h]
  rfl
theorem WS_end (s : ByteArray) (p : Nat) (h : s.size ≤ p) : WS s p = [] := by
  unfold WS
  rw [List.drop_eq_nil_of_le (by rw [list_len]; exact h)]
  rfl
theorem WS_hit (s : ByteArray) (p k : Nat) (h : p + k < s.size) (h0 : ∀ j, j < k → ∀ hj : p + j < s.size, s[p + j]'hj ≠ 32) (h1 : s[p + k]'h = 32) :
    WS s p = (if k = 0 then [] else [s.extract p (p + k)]) ++ WS s (p + k + 1) := by
  unfold WS
  rw [words_hit (s.data.toList.drop p) k (fun j hj c hc => by
      rw [List.getElem?_drop, list_at s (p + j) (by omega)] at hc
      cases hc
      exact h0 j hj _) (by rw [List.getElem?_drop, list_at s (p + k) h, h1])]
  rw [List.map_append, List.drop_drop, show p + (k + 1) = p + k + 1 by omega]
  congr 1
  by_cases hk : k = 0
  · rw [if_pos hk, if_pos hk]; rfl
  · rw [if_neg hk, if_neg hk, extract_str, show p + k - p = k by omega]
    rfl
theorem WS_none (s : ByteArray) (p : Nat) (hp : p < s.size) (h0 : ∀ j, p ≤ j → ∀ hj : j < s.size, s[j]'hj ≠ 32) : WS s p = [s.extract p s.size] := by
  unfold WS
  rw [words_none _ (fun c hc => by
    obtain ⟨i, hi⟩ := List.getElem?_of_mem hc
    rw [List.getElem?_drop] at hi
    have hlt : p + i < s.size := by
      have := (List.getElem?_eq_some_iff.1 hi).1
      rwa [list_len] at this
    rw [list_at s _ hlt] at hi
    cases hi
    exact h0 _ (by omega) _)]
  have hne : s.data.toList.drop p ≠ [] := by
    intro e
    have := congrArg List.length e
    rw [List.length_drop, list_len] at this
    simp at this
    omega
  rw [if_neg hne, extract_str, List.take_of_length_le (by rw [List.length_drop, list_len]; omega)]
  rfl
theorem wordsF_len : ∀ (f : Nat) (l : List UInt8), (wordsF f l).length ≤ l.length
  | 0, l => by simp [wordsF]
  | f + 1, l => by
    have e : (l.takeWhile (· != 32)).length + (l.dropWhile (· != 32)).length = l.length := by
      rw [← List.length_append, List.takeWhile_append_dropWhile]
    unfold wordsF
    rw [List.length_append]
    generalize l.takeWhile (· != 32) = a at e
    generalize l.dropWhile (· != 32) = d at e
    have ha : (if a = [] then [] else [a]).length ≤ a.length := by
      cases a with
      | nil => simp
      | cons c r => simp
    cases d with
    | nil => simp at e ⊢; omega
    | cons c r =>
      have := wordsF_len f r
      simp at e ⊢
      omega
theorem WS_len (s : ByteArray) (p : Nat) : (WS s p).length ≤ s.size := by
  unfold WS
  rw [List.length_map]
  refine Nat.le_trans (wordsF_len _ _) ?_
  rw [List.length_drop, list_len]
  omega

/-- The slice value holds the strings, below block B. -/
def HoldsS (w : World) (B : Nat) (x : Value) (l : List ByteArray) : Prop :=
  ∃ (oa : Option Addr) (cap : Nat), x = .slice oa l.length cap ∧ l.length ≤ 1000 ∧
    ∀ (i : Nat) z, l[i]? = some z → ∃ b off : Nat, oa = some ⟨b, off, none⟩ ∧ b < B ∧ w.cell? ⟨b, off + i, none⟩ = some (.string z)
def OwnS (w : World) (base : Nat) (v : Value) (l : List ByteArray) : Prop := w.ownsRow base 9 1 v l.length (l.map Value.string)
theorem OwnS.holds {w : World} {base : Nat} {v : Value} {l : List ByteArray} (h : OwnS w base v l) (hl : l.length ≤ 1000) : HoldsS w w.heap.size v l := by
  rcases h.2 with ⟨rfl, h0⟩ | ⟨g, cap, cur, rfl, hg, hh, hcap, _, hsz, htk⟩
  · obtain rfl := List.eq_nil_of_length_eq_zero h0
    exact ⟨none, 0, rfl, hl, fun i z hz => by simp at hz⟩
  · have hlt : g < w.heap.size := by
      rcases Nat.lt_or_ge g w.heap.size with h | h
      · exact h
      · rw [Array.getElem?_eq_none h] at hh; cases hh
    refine ⟨some ⟨g, 0, none⟩, cap, rfl, hl, fun i z hz => ⟨g, 0, rfl, hlt, ?_⟩⟩
    have hi : i < l.length := (List.getElem?_eq_some_iff.1 hz).1
    have h1 : cur.toList[i]? = some (.string z) := by
      have : (l.map Value.string)[i]? = some (.string z) := by simp [hz]
      rw [← htk, List.getElem?_take] at this
      rw [if_pos (by omega)] at this
      exact this
    unfold World.cell?
    rw [hh]
    simpa using h1
theorem OwnS.none (w : World) (base : Nat) : OwnS w base (.slice none 0 0) [] := ⟨rfl, .inl ⟨rfl, rfl⟩⟩
theorem OwnS.of_block {w w' : World} {base : Nat} {v : Value} {l : List ByteArray} (h : OwnS w base v l) (hb : ∀ g, base ≤ g → ∀ o, w.heap[g]? = some o → (∃ c t f, o = .cells c t f) → w'.heap[g]? = some o) : OwnS w' base v l := by
  obtain ⟨h1, h2⟩ := h
  refine ⟨h1, ?_⟩
  rcases h2 with h2 | ⟨g, cap, cur, hv, hg, hh, r⟩
  · exact .inl h2
  · exact .inr ⟨g, cap, cur, hv, hg, hb g hg _ hh ⟨_, _, _, rfl⟩, r⟩
theorem ownS_far {w : World} {base : Nat} {v : Value} {l : List ByteArray} (h : OwnS w base v l) {g : Nat} (hg : g < base) : v.ownBlock ≠ some g := by
  rcases h.2 with ⟨rfl, _⟩ | ⟨g', cap, cur, rfl, hb, _⟩
  · simp [Value.ownBlock]
  · simp [Value.ownBlock]; omega

/-- A function that has built a list of strings has returned it. -/
def RetS (H : Nat) (l : List ByteArray) (e : Ending) (w' : World) : Prop := ∃ v, e = .returned v ∧ OwnS w' H v l

theorem infoStr : (Tryd.prog.info? 9).map (fun i => (i.zero, i.size, i.bytes)) = some (some (.string ⟨#[]⟩), 1, 16) := by kernel_rfl
end Go.Proofs.YtlpmaeemegphiaaDoor
