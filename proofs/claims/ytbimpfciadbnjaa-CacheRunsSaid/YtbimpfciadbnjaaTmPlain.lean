/-
  The plain mathematics of terms, with no program in it: finite trees of rules, their preorder, size, depth, and their order. Nothing is assumed.
-/
import Derived.WalkKit
namespace Go.Proofs.Ytbimpfciadbnjaa
open Go.RowKit

/-- A term as a finite tree: its rule, its arguments. -/
inductive T where
  | mk (r : Int) (l : List T)

namespace T
def r : T → Int | .mk r _ => r
def l : T → List T | .mk _ l => l
theorem eta (v : T) : T.mk v.r v.l = v := by cases v; rfl
theorem ind {p : T → Prop} (h : ∀ v : T, (∀ x, x ∈ v.l → p x) → p v) (v : T) : p v :=
  T.rec (motive_1 := p) (motive_2 := fun l => ∀ x, x ∈ l → p x) (fun r l ih => h (.mk r l) ih) (fun _ hx => by cases hx)
    (fun a l ha hl x hx => by
      rcases List.mem_cons.1 hx with rfl | hx
      · exact ha
      · exact hl x hx) v
end T

mutual
def T.pre : T → List T
  | .mk r l => .mk r l :: T.pres l
def T.pres : List T → List T
  | [] => []
  | v :: l => v.pre ++ T.pres l
end
theorem T.pre_eq (v : T) : v.pre = v :: T.pres v.l := by cases v; rw [T.pre]; rfl
theorem T.pres_nil : T.pres [] = [] := by rw [T.pres]
theorem T.pres_cons (v : T) (l : List T) : T.pres (v :: l) = v.pre ++ T.pres l := by rw [T.pres]
theorem T.pres_append (l m : List T) : T.pres (l ++ m) = T.pres l ++ T.pres m := by
  induction l with
  | nil => simp [T.pres_nil]
  | cons v l ih => simp [T.pres_cons, ih]
theorem T.pres_snoc (l : List T) (x : T) : T.pres (l ++ [x]) = T.pres l ++ x.pre := by rw [T.pres_append, T.pres_cons, T.pres_nil, List.append_nil]

def T.size (v : T) : Nat := v.pre.length
def T.sizes (l : List T) : Nat := (T.pres l).length
theorem T.size_eq (v : T) : v.size = 1 + T.sizes v.l := by unfold T.size T.sizes; rw [T.pre_eq]; simp; omega
theorem T.sizes_nil : T.sizes [] = 0 := by unfold T.sizes; rw [T.pres_nil]; rfl
theorem T.sizes_cons (v : T) (l : List T) : T.sizes (v :: l) = v.size + T.sizes l := by unfold T.sizes T.size; rw [T.pres_cons, List.length_append]
theorem T.sizes_snoc (l : List T) (x : T) : T.sizes (l ++ [x]) = T.sizes l + x.size := by unfold T.sizes T.size; rw [T.pres_snoc, List.length_append]
theorem T.size_pos (v : T) : 1 ≤ v.size := by rw [T.size_eq]; omega
theorem T.len_sizes (l : List T) : l.length ≤ T.sizes l := by
  induction l with
  | nil => simp
  | cons v l ih => rw [T.sizes_cons, List.length_cons]; have := v.size_pos; omega
theorem T.sizes_take (l : List T) (k : Nat) : T.sizes (l.take k) ≤ T.sizes l := by
  induction l generalizing k with
  | nil => simp
  | cons v l ih =>
    cases k with
    | zero => simp [T.sizes_nil]
    | succ k => rw [List.take_succ_cons, T.sizes_cons, T.sizes_cons]; have := ih k; omega
theorem T.mem_sizes {l : List T} {x : T} (h : x ∈ l) : x.size ≤ T.sizes l := by
  induction l with
  | nil => cases h
  | cons v l ih =>
    rw [T.sizes_cons]
    rcases List.mem_cons.1 h with rfl | h
    · omega
    · have := ih h; omega

def T.rules (v : T) : List Int := v.pre.map T.r
def T.ars (v : T) : List Int := v.pre.map fun x => (x.l.length : Int)
theorem T.rules_len (v : T) : v.rules.length = v.size := by simp [T.rules, T.size]
theorem T.ars_len (v : T) : v.ars.length = v.size := by simp [T.ars, T.size]

mutual
def T.depth : T → Nat
  | .mk _ l => T.depths 0 l + 1
def T.depths (acc : Nat) : List T → Nat
  | [] => acc
  | v :: l => T.depths (max acc v.depth) l
end
theorem T.depth_eq (v : T) : v.depth = T.depths 0 v.l + 1 := by cases v; rw [T.depth]; rfl
theorem T.depths_snoc (l : List T) (x : T) : ∀ acc, T.depths acc (l ++ [x]) = max (T.depths acc l) x.depth := by
  induction l with
  | nil => intro acc; simp [T.depths]
  | cons v l ih => intro acc; simp only [List.cons_append, T.depths]; rw [ih]
theorem T.depths_le (l : List T) (h : ∀ x, x ∈ l → x.depth ≤ x.size) : ∀ acc, T.depths acc l ≤ max acc (T.sizes l) := by
  induction l with
  | nil => intro acc; simp [T.depths]; omega
  | cons v l ih =>
    intro acc
    rw [T.depths, T.sizes_cons]
    have h1 := ih (fun x hx => h x (List.mem_cons_of_mem _ hx)) (max acc v.depth)
    have h2 := h v (List.mem_cons_self ..)
    omega
theorem T.depth_le (v : T) : v.depth ≤ v.size := by
  induction v using T.ind with
  | h v ih =>
    rw [T.depth_eq, T.size_eq]
    have := T.depths_le v.l ih 0
    omega

/-- What of 'most' rules is left behind a term; -1 if it has more. -/
def leftT (n : Nat) (most : Int) : Int := if (n : Int) ≤ most then most - n else -1

/-! ### Order -/
def cmpI (a b : Int) : Int := if a < b then -1 else if b < a then 1 else 0
def cmpL : List Int → List Int → Int
  | [], [] => 0
  | [], _ :: _ => -1
  | _ :: _, [] => 1
  | a :: l, b :: m => if cmpI a b ≠ 0 then cmpI a b else cmpL l m
theorem cmpL_nil (m : List Int) : cmpL [] m = if m.length = 0 then 0 else -1 := by cases m <;> simp [cmpL]
theorem cmpL_cons_nil (a : Int) (l : List Int) : cmpL (a :: l) [] = 1 := by rw [cmpL]
theorem cmpL_cons (a b : Int) (l m : List Int) : cmpL (a :: l) (b :: m) = if cmpI a b ≠ 0 then cmpI a b else cmpL l m := by rw [cmpL]
theorem cmpI_swap (a b : Int) : cmpI b a = - cmpI a b := by unfold cmpI; split <;> split <;> (try split) <;> omega
theorem cmpI_self (a : Int) : cmpI a a = 0 := by unfold cmpI; simp
theorem cmpL_self (l : List Int) : cmpL l l = 0 := by
  induction l with
  | nil => rfl
  | cons a l ih => rw [cmpL_cons, cmpI_self, if_neg (by simp), ih]
theorem cmpL_swap (l : List Int) : ∀ m, cmpL m l = - cmpL l m := by
  induction l with
  | nil => intro m; cases m <;> simp [cmpL]
  | cons a l ih =>
    intro m
    cases m with
    | nil => simp [cmpL]
    | cons b m =>
      rw [cmpL_cons, cmpL_cons, cmpI_swap a b, ih]
      by_cases h : cmpI a b = 0 <;> simp [h]
theorem cmpI_three (a b : Int) : (a < b ∧ cmpI a b = -1) ∨ (b < a ∧ cmpI a b = 1) ∨ (a = b ∧ cmpI a b = 0) := by
  unfold cmpI
  rcases Int.lt_trichotomy a b with h | h | h
  · exact .inl ⟨h, if_pos h⟩
  · exact .inr (.inr ⟨h, by simp [h]⟩)
  · exact .inr (.inl ⟨h, by rw [if_neg (by omega), if_pos h]⟩)
theorem cmpL_trans (l : List Int) : ∀ m n, cmpL l m ≤ 0 → cmpL m n ≤ 0 → cmpL l n ≤ 0 := by
  induction l with
  | nil => intro m n _ _; cases n <;> simp [cmpL]
  | cons a l ih =>
    intro m n h1 h2
    cases m with
    | nil => simp [cmpL] at h1
    | cons b m =>
      cases n with
      | nil => simp [cmpL] at h2
      | cons c n =>
        rw [cmpL_cons] at h1 h2 ⊢
        rcases cmpI_three a b with ⟨p, q⟩ | ⟨p, q⟩ | ⟨p, q⟩ <;> rcases cmpI_three b c with ⟨p', q'⟩ | ⟨p', q'⟩ | ⟨p', q'⟩ <;> rcases cmpI_three a c with ⟨p'', q''⟩ | ⟨p'', q''⟩ | ⟨p'', q''⟩ <;> rw [q] at h1 <;> rw [q'] at h2 <;> rw [q''] <;> (try (exfalso; omega)) <;> simp_all
        exact ih m n h1 h2
theorem cmpL_range (l : List Int) : ∀ m, -1 ≤ cmpL l m ∧ cmpL l m ≤ 1 := by
  induction l with
  | nil => intro m; cases m <;> simp [cmpL]
  | cons a l ih =>
    intro m
    cases m with
    | nil => simp [cmpL]
    | cons b m =>
      rw [cmpL_cons]
      have := ih m
      rcases cmpI_three a b with ⟨_, q⟩ | ⟨_, q⟩ | ⟨_, q⟩ <;> rw [q] <;> simp <;> omega
theorem cmpL_append (l : List Int) : ∀ (m x y : List Int), l.length = m.length → cmpL (l ++ x) (m ++ y) = if cmpL l m ≠ 0 then cmpL l m else cmpL x y := by
  induction l with
  | nil =>
    intro m x y h
    cases m with
    | nil => simp [cmpL]
    | cons b m => simp at h
  | cons a l ih =>
    intro m x y h
    cases m with
    | nil => simp at h
    | cons b m =>
      rw [List.cons_append, List.cons_append, cmpL_cons, cmpL_cons, ih m x y (by simpa using h)]
      by_cases hc : cmpI a b = 0
      · simp [hc]
      · simp [hc]
theorem cmpL_eq {l : List Int} : ∀ {m : List Int}, cmpL l m = 0 → l = m := by
  induction l with
  | nil => intro m h; cases m with
    | nil => rfl
    | cons b m => simp [cmpL] at h
  | cons a l ih =>
    intro m h
    cases m with
    | nil => simp [cmpL] at h
    | cons b m =>
      rw [cmpL_cons] at h
      rcases cmpI_three a b with ⟨_, q⟩ | ⟨_, q⟩ | ⟨p, q⟩ <;> rw [q] at h
      · simp at h
      · simp at h
      · simp at h
        rw [p, ih h]

def T.cmp (a b : T) : Int := if cmpI a.size b.size ≠ 0 then cmpI a.size b.size else if cmpL a.rules b.rules ≠ 0 then cmpL a.rules b.rules else cmpL a.ars b.ars
def T.key (a : T) : List Int := (a.size : Int) :: (a.rules ++ a.ars)
theorem T.cmp_key (a b : T) : a.cmp b = cmpL a.key b.key := by
  unfold T.cmp T.key
  rw [cmpL_cons]
  rcases cmpI_three a.size b.size with ⟨p, q⟩ | ⟨p, q⟩ | ⟨p, q⟩ <;> rw [q]
  · simp
  · simp
  · rw [cmpL_append _ _ _ _ (by rw [T.rules_len, T.rules_len]; omega)]
theorem T.cmp_swap (a b : T) : b.cmp a = - a.cmp b := by rw [T.cmp_key, T.cmp_key, cmpL_swap]
theorem T.cmp_trans {a b c : T} (h : a.cmp b ≤ 0) (h' : b.cmp c ≤ 0) : a.cmp c ≤ 0 := by
  rw [T.cmp_key] at h h' ⊢
  exact cmpL_trans _ _ _ h h'
theorem T.cmp_range (a b : T) : -1 ≤ a.cmp b ∧ a.cmp b ≤ 1 := by rw [T.cmp_key]; exact cmpL_range _ _
theorem T.cmp_self (a : T) : a.cmp a = 0 := by rw [T.cmp_key]; exact cmpL_self _
theorem T.cmp_small {a b : T} (h : a.size < b.size) : a.cmp b = -1 := by
  have e : cmpI a.size b.size = -1 := by unfold cmpI; exact if_pos (by omega)
  unfold T.cmp
  rw [e]
  simp

end Go.Proofs.Ytbimpfciadbnjaa
