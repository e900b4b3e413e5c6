/-
  The literal of a value, as a list of bytes. Nothing is assumed.
-/
import Derived.Test.YtmbmlcnipncgnaaGreatDoorLtPure
import Derived.Lib.ItoaLen
namespace Go.Proofs.YtmbmlcnipncgnaaGreatDoor
open Go.RowKit

mutual
/-- The literal of a valid value. -/
def V.lit : V → List UInt8
  | .mk t n s l =>
    if t = 1 then (if n = 0 then wFalse else wTrue) else if t = 2 then Lib.itoa n else if t = 4 then [48, 120, hx (n.toNat / 16), hx (n.toNat % 16)]
    else if t = 3 then quoteL s.data.toList else if t = 8 then 114 :: quoteL s.data.toList
    else if t = 5 then 91 :: (V.lits l ++ [93]) else if t = 6 then 123 :: (V.lits l ++ [125]) else 60 :: (V.lits l ++ [62])
/-- The literals of a list, a comma and a space between two of them. -/
def V.lits : List V → List UInt8
  | [] => []
  | v :: l => v.lit ++ V.litT l
/-- The literals of a list, a comma and a space ahead of each. -/
def V.litT : List V → List UInt8
  | [] => []
  | v :: l => 44 :: 32 :: (v.lit ++ V.litT l)
end
theorem V.lit_eq (v : V) : v.lit = if v.t = 1 then (if v.n = 0 then wFalse else wTrue) else if v.t = 2 then Lib.itoa v.n else if v.t = 4 then [48, 120, hx (v.n.toNat / 16), hx (v.n.toNat % 16)]
    else if v.t = 3 then quoteL v.s.data.toList else if v.t = 8 then 114 :: quoteL v.s.data.toList
    else if v.t = 5 then 91 :: (V.lits v.l ++ [93]) else if v.t = 6 then 123 :: (V.lits v.l ++ [125]) else 60 :: (V.lits v.l ++ [62]) := by
  cases v
  rw [V.lit]
  rfl
theorem V.lits_nil : V.lits [] = [] := by rw [V.lits]
theorem V.lits_cons (v : V) (l : List V) : V.lits (v :: l) = v.lit ++ V.litT l := by rw [V.lits]
theorem V.litT_nil : V.litT [] = [] := by rw [V.litT]
theorem V.litT_cons (v : V) (l : List V) : V.litT (v :: l) = 44 :: 32 :: (v.lit ++ V.litT l) := by rw [V.litT]
theorem V.litT_snoc (v : V) : ∀ l : List V, V.litT (l ++ [v]) = V.litT l ++ (44 :: 32 :: v.lit)
  | [] => by rw [List.nil_append, V.litT_cons, V.litT_nil]; simp
  | x :: l => by rw [List.cons_append, V.litT_cons, V.litT_cons, V.litT_snoc v l]; simp
theorem V.lits_snoc (v : V) (l : List V) : V.lits (l ++ [v]) = if l = [] then v.lit else V.lits l ++ (44 :: 32 :: v.lit) := by
  cases l with
  | nil => rw [List.nil_append, V.lits_cons, V.litT_nil, if_pos rfl, List.append_nil]
  | cons x l => rw [List.cons_append, V.lits_cons, V.litT_snoc, if_neg (by simp), V.lits_cons, List.append_assoc]
theorem V.litT_len (m : Nat) : ∀ l : List V, (∀ x, x ∈ l → x.lit.length ≤ m) → (V.litT l).length ≤ l.length * (m + 2)
  | [], _ => by rw [V.litT_nil]; simp
  | v :: l, h => by
    have h1 := h v (List.mem_cons_self ..)
    have h2 := V.litT_len m l fun x hx => h x (List.mem_cons_of_mem _ hx)
    rw [V.litT_cons, List.length_cons, List.length_cons, List.length_append, List.length_cons, Nat.add_mul]
    omega
theorem V.lits_len (m : Nat) (l : List V) (h : ∀ x, x ∈ l → x.lit.length ≤ m) : (V.lits l).length ≤ l.length * (m + 2) := by
  cases l with
  | nil => rw [V.lits_nil]; simp
  | cons v l =>
    have h1 := h v (List.mem_cons_self ..)
    have h2 := V.litT_len m l fun x hx => h x (List.mem_cons_of_mem _ hx)
    rw [V.lits_cons, List.length_append, List.length_cons, Nat.add_mul]
    omega

/-! ### What Check asks -/
theorem chkL_mem (ty : Int) : ∀ l : List V, V.chkL ty l = 0 → ∀ x, x ∈ l → x.t = ty ∧ x.chk = 0
  | [], _, x, hx => by cases hx
  | v :: l, h, x, hx => by
    rw [V.chkL_cons] at h
    by_cases h1 : v.t ≠ ty
    · rw [if_pos h1] at h; cases h
    · rw [if_neg h1] at h
      by_cases h2 : v.chk ≠ 0
      · rw [if_pos h2] at h; exact absurd h h2
      · rw [if_neg h2] at h
        rcases List.mem_cons.1 hx with rfl | hx
        · exact ⟨by simpa using h1, by simpa using h2⟩
        · exact chkL_mem ty l h x hx
theorem chkR_mem (c : Nat) : ∀ l : List V, V.chkR c l = 0 → ∀ x, x ∈ l → x.t = 6 ∧ 1 ≤ x.l.length ∧ x.l.length ≤ 8 ∧ x.l.length = c ∧ x.chk = 0
  | [], _, x, hx => by cases hx
  | v :: l, h, x, hx => by
    rw [V.chkR_cons] at h
    by_cases h1 : v.t ≠ 6
    · rw [if_pos h1] at h; cases h
    · rw [if_neg h1] at h
      by_cases h3 : v.l.length < 1 ∨ 8 < v.l.length ∨ v.l.length ≠ c
      · rw [if_pos h3] at h; cases h
      · rw [if_neg h3] at h
        by_cases h2 : v.chk ≠ 0
        · rw [if_pos h2] at h; exact absurd h h2
        · rw [if_neg h2] at h
          rcases List.mem_cons.1 hx with rfl | hx
          · exact ⟨by simpa using h1, by omega, by omega, by omega, by simpa using h2⟩
          · exact chkR_mem c l h x hx
theorem chkRange_ok {n lo hi : Int} (h : chkRange n lo hi = 0) : lo ≤ n ∧ n ≤ hi := by
  unfold chkRange at h
  split at h
  · cases h
  · omega
theorem chkText_ok {s : ByteArray} {least most : Nat} (h : chkText s least most = 0) : least ≤ s.size ∧ s.size ≤ most ∧ ∀ c, c ∈ s.data.toList → 32 ≤ c.toNat ∧ c.toNat ≤ 126 := by
  unfold chkText at h
  split at h
  · cases h
  · rename_i h1
    refine ⟨by omega, by omega, fun c hc => ?_⟩
    unfold chkBytes at h
    split at h
    · cases h
    · rename_i h2
      rw [List.any_eq_true] at h2
      have h3 : ¬ badByte c = true := fun hb => h2 ⟨c, hc, hb⟩
      unfold badByte at h3
      simp at h3
      omega
/-- The types of a valid value, and what each asks. -/
theorem chk_cases {v : V} (h : v.chk = 0) :
    (v.t = 1 ∧ (v.n = 0 ∨ v.n = 1) ∧ v.s = ⟨#[]⟩ ∧ v.l = []) ∨ (v.t = 2 ∧ -1000000 ≤ v.n ∧ v.n ≤ 1000000 ∧ v.s = ⟨#[]⟩ ∧ v.l = []) ∨ (v.t = 4 ∧ 0 ≤ v.n ∧ v.n ≤ 255 ∧ v.s = ⟨#[]⟩ ∧ v.l = []) ∨
    (v.t = 3 ∧ v.n = 0 ∧ chkText v.s 0 64 = 0 ∧ v.l = []) ∨ (v.t = 8 ∧ v.n = 0 ∧ chkText v.s 1 40 = 0 ∧ v.l = []) ∨
    (v.t = 5 ∧ v.n = 0 ∧ v.s = ⟨#[]⟩ ∧ v.l.length ≤ 16 ∧ V.chkL 2 v.l = 0) ∨ (v.t = 6 ∧ v.n = 0 ∧ v.s = ⟨#[]⟩ ∧ v.l.length ≤ 16 ∧ V.chkL 3 v.l = 0) ∨
    (v.t = 7 ∧ v.n = 0 ∧ v.s = ⟨#[]⟩ ∧ v.l.length ≤ 8 ∧ V.chkR (V.head v.l) v.l = 0) := by
  rw [V.chk_eq] at h
  by_cases h1 : v.t < 1 ∨ 8 < v.t
  · rw [if_pos h1] at h; cases h
  rw [if_neg h1] at h
  by_cases h2 : badForm v.t v.n v.s v.l.length = true
  · rw [if_pos h2] at h; cases h
  rw [if_neg h2] at h
  have e0 : ∀ s : ByteArray, s.size = 0 → s = ⟨#[]⟩ := fun s hs => by
    simp at hs
    exact hs
  have hf : (usesNum v.t = false → v.n = 0) ∧ (usesText v.t = false → v.s = ⟨#[]⟩) ∧ (usesItems v.t = false → v.l = []) := by
    unfold badForm at h2
    simp only [Bool.or_eq_true, Bool.and_eq_true, not_or, not_and, decide_eq_true_eq, Bool.not_eq_true', Bool.not_eq_false] at h2
    obtain ⟨⟨a1, a2⟩, a3⟩ := h2
    refine ⟨fun hu => ?_, fun hu => ?_, fun hu => ?_⟩
    · by_cases hn : v.n = 0
      · exact hn
      · have := a1 hn; rw [hu] at this; cases this
    · by_cases hn : v.s.size = 0
      · exact e0 _ hn
      · have := a2 hn; rw [hu] at this; cases this
    · by_cases hn : 0 < v.l.length
      · have := a3 hn; rw [hu] at this; cases this
      · exact List.eq_nil_of_length_eq_zero (by omega)
  obtain ⟨hn, hs, hl⟩ := hf
  have hc : v.t = 1 ∨ v.t = 2 ∨ v.t = 3 ∨ v.t = 4 ∨ v.t = 5 ∨ v.t = 6 ∨ v.t = 7 ∨ v.t = 8 := by omega
  rcases hc with ht | ht | ht | ht | ht | ht | ht | ht <;> rw [ht] at h hn hs hl <;> simp at h
  · have := chkRange_ok h
    exact .inl ⟨ht, by omega, hs (by decide), hl (by decide)⟩
  · have := chkRange_ok h
    exact .inr (.inl ⟨ht, this.1, this.2, hs (by decide), hl (by decide)⟩)
  · exact .inr (.inr (.inr (.inl ⟨ht, hn (by decide), h, hl (by decide)⟩)))
  · have := chkRange_ok h
    exact .inr (.inr (.inl ⟨ht, this.1, this.2, hs (by decide), hl (by decide)⟩))
  · split at h
    · cases h
    · exact .inr (.inr (.inr (.inr (.inr (.inl ⟨ht, hn (by decide), hs (by decide), by omega, h⟩)))))
  · split at h
    · cases h
    · exact .inr (.inr (.inr (.inr (.inr (.inr (.inl ⟨ht, hn (by decide), hs (by decide), by omega, h⟩))))))
  · split at h
    · cases h
    · exact .inr (.inr (.inr (.inr (.inr (.inr (.inr ⟨ht, hn (by decide), hs (by decide), by omega, h⟩))))))
  · exact .inr (.inr (.inr (.inr (.inl ⟨ht, hn (by decide), h, hl (by decide)⟩))))
theorem quoteL_len (l : List UInt8) : (quoteL l).length ≤ 4 * l.length + 2 := by
  unfold quoteL
  rw [List.length_cons, List.length_append]
  have := escL_len l
  simp; omega
theorem lit_len3 {v : V} (h : v.chk = 0) (ht : v.t = 3) : v.lit.length ≤ 258 := by
  rcases chk_cases h with h | h | h | h | h | h | h | h <;> (try (have := h.1; omega))
  have h3 := (chkText_ok h.2.2.1).2.1
  have := quoteL_len v.s.data.toList
  rw [V.lit_eq, ht]
  simp only [Int.reduceEq, if_false, if_true]
  rw [lt_len] at this
  omega
theorem lit_len2 {v : V} (h : v.chk = 0) (ht : v.t = 2) : v.lit.length ≤ 258 := by
  rcases chk_cases h with h | h | h | h | h | h | h | h <;> (try (have := h.1; omega))
  have := Lib.itoa_length_le v.n (by omega) (by omega)
  rw [V.lit_eq, ht]
  simp only [Int.reduceEq, if_false, if_true]
  omega
theorem lit_len6 {v : V} (h : v.chk = 0) (ht : v.t = 6) : v.lit.length ≤ 4162 := by
  rcases chk_cases h with h | h | h | h | h | h | h | h <;> (try (have := h.1; omega))
  obtain ⟨_, _, _, hl, hc⟩ := h
  have := V.lits_len 258 v.l fun x hx => lit_len3 (chkL_mem 3 v.l hc x hx).2 (chkL_mem 3 v.l hc x hx).1
  rw [V.lit_eq, ht]
  simp only [Int.reduceEq, if_false, if_true, List.length_cons, List.length_append, List.length_nil]
  have : v.l.length * (258 + 2) ≤ 16 * 260 := Nat.mul_le_mul_right 260 hl
  omega
theorem lit_len {v : V} (h : v.chk = 0) : v.lit.length ≤ 40000 := by
  have h0 := h
  rcases chk_cases h with h | h | h | h | h | h | h | h
  · rw [V.lit_eq, h.1]
    simp only [if_true]
    split <;> decide
  · have := lit_len2 h0 h.1; omega
  · rw [V.lit_eq, h.1]
    simp only [Int.reduceEq, if_false, if_true, List.length_cons, List.length_nil]
    omega
  · have := lit_len3 h0 h.1; omega
  · have h3 := (chkText_ok h.2.2.1).2.1
    have := quoteL_len v.s.data.toList
    rw [V.lit_eq, h.1]
    simp only [Int.reduceEq, if_false, if_true, List.length_cons]
    rw [lt_len] at this
    omega
  · obtain ⟨ht, _, _, hl, hc⟩ := h
    have := V.lits_len 258 v.l fun x hx => lit_len2 (chkL_mem 2 v.l hc x hx).2 (chkL_mem 2 v.l hc x hx).1
    rw [V.lit_eq, ht]
    simp only [Int.reduceEq, if_false, if_true, List.length_cons, List.length_append, List.length_nil]
    have : v.l.length * (258 + 2) ≤ 16 * 260 := Nat.mul_le_mul_right 260 hl
    omega
  · have := lit_len6 h0 h.1; omega
  · obtain ⟨ht, _, _, hl, hc⟩ := h
    have := V.lits_len 4162 v.l fun x hx => lit_len6 (chkR_mem _ v.l hc x hx).2.2.2.2 (chkR_mem _ v.l hc x hx).1
    rw [V.lit_eq, ht]
    simp only [Int.reduceEq, if_false, List.length_cons, List.length_append, List.length_nil]
    have : v.l.length * (4162 + 2) ≤ 8 * 4164 := Nat.mul_le_mul_right 4164 hl
    omega
end Go.Proofs.YtmbmlcnipncgnaaGreatDoor
