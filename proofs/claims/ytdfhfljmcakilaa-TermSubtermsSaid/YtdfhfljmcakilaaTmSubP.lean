/-
  The plain mathematics of the list of all different subterms: lists that ascend, insertion, what is left of a sorted list when equals that stand side by side fall away. Nothing is assumed.
-/
import Derived.Test.YtdfhfljmcakilaaTmPlain
namespace Go.Proofs.Ytdfhfljmcakilaa
open Go.RowKit

theorem T.cmp_lt_le {a b c : T} (h : a.cmp b < 0) (h' : b.cmp c ≤ 0) : a.cmp c < 0 := by
  have h1 := T.cmp_trans (Int.le_of_lt h) h'
  rcases Int.lt_or_eq_of_le h1 with h2 | h2
  · exact h2
  · have h3 : c.cmp a ≤ 0 := by rw [T.cmp_swap a c]; omega
    have h4 := T.cmp_trans h' h3
    rw [T.cmp_swap a b] at h4
    omega
theorem T.cmp_le_lt {a b c : T} (h : a.cmp b ≤ 0) (h' : b.cmp c < 0) : a.cmp c < 0 := by
  have h1 := T.cmp_trans h (Int.le_of_lt h')
  rcases Int.lt_or_eq_of_le h1 with h2 | h2
  · exact h2
  · have h3 : c.cmp a ≤ 0 := by rw [T.cmp_swap a c]; omega
    have h4 := T.cmp_trans h3 h
    rw [T.cmp_swap b c] at h4
    omega
theorem T.cmp_zero {a b : T} (h : a.cmp b = 0) : a.key = b.key := by rw [T.cmp_key] at h; exact cmpL_eq h
theorem T.cmp_of_key {a b : T} (h : a.key = b.key) : a.cmp b = 0 := by rw [T.cmp_key, h]; exact cmpL_self _
theorem T.key_size {a b : T} (h : a.key = b.key) : a.size = b.size := by
  unfold T.key at h
  have := (List.cons.inj h).1
  omega
theorem T.cmp_key_left {a b c : T} (h : a.key = b.key) : a.cmp c = b.cmp c := by rw [T.cmp_key, T.cmp_key, h]
theorem T.cmp_key_right {a b c : T} (h : a.key = b.key) : c.cmp a = c.cmp b := by rw [T.cmp_key, T.cmp_key, h]

/-- Strictly ascending. -/
def Asc (l : List T) : Prop := l.Pairwise fun a b => a.cmp b < 0
/-- The keys of a list's terms. -/
def KeysOf (l : List T) (k : List Int) : Prop := ∃ x, x ∈ l ∧ x.key = k

theorem asc_unique (l : List T) : ∀ (m : List T), Asc l → Asc m → (∀ k, KeysOf l k ↔ KeysOf m k) → l.map T.key = m.map T.key := by
  induction l with
  | nil =>
    intro m _ _ h
    cases m with
    | nil => rfl
    | cons b m =>
      obtain ⟨x, hx, _⟩ := (h b.key).2 ⟨b, List.mem_cons_self .., rfl⟩
      cases hx
  | cons a l ih =>
    intro m hl hm h
    cases m with
    | nil =>
      obtain ⟨x, hx, _⟩ := (h a.key).1 ⟨a, List.mem_cons_self .., rfl⟩
      cases hx
    | cons b m =>
      obtain ⟨ha, hl⟩ := List.pairwise_cons.1 hl
      obtain ⟨hb, hm⟩ := List.pairwise_cons.1 hm
      have hk : a.key = b.key := by
        obtain ⟨x, hx, hxk⟩ := (h a.key).1 ⟨a, List.mem_cons_self .., rfl⟩
        obtain ⟨y, hy, hyk⟩ := (h b.key).2 ⟨b, List.mem_cons_self .., rfl⟩
        rcases List.mem_cons.1 hx with rfl | hx
        · exact hxk.symm
        rcases List.mem_cons.1 hy with rfl | hy
        · exact hyk
        have h1 := hb x hx
        have h2 := ha y hy
        rw [T.cmp_key_right hxk] at h1
        rw [T.cmp_key_right hyk, T.cmp_swap b a] at h2
        omega
      rw [List.map_cons, List.map_cons, hk, ih m hl hm fun k => ?_]
      constructor
      · rintro ⟨x, hx, rfl⟩
        obtain ⟨y, hy, hyk⟩ := (h x.key).1 ⟨x, List.mem_cons_of_mem _ hx, rfl⟩
        rcases List.mem_cons.1 hy with rfl | hy
        · have := ha x hx
          rw [T.cmp_of_key (hk.trans hyk)] at this
          omega
        · exact ⟨y, hy, hyk⟩
      · rintro ⟨x, hx, rfl⟩
        obtain ⟨y, hy, hyk⟩ := (h x.key).2 ⟨x, List.mem_cons_of_mem _ hx, rfl⟩
        rcases List.mem_cons.1 hy with rfl | hy
        · have := hb x hx
          rw [T.cmp_of_key (hk.symm.trans hyk)] at this
          omega
        · exact ⟨y, hy, hyk⟩

/-! ### Insertion -/
def insN (t : T) (l : List T) : Nat → List T
  | 0 => t :: l
  | k + 1 => match l[k]? with
    | some x => if t.cmp x = 0 then l else if t.cmp x < 0 then insN t l k else l.take (k + 1) ++ t :: l.drop (k + 1)
    | none => insN t l k
def ins (t : T) (l : List T) : List T := insN t l l.length
theorem insN_eq {t x : T} {l : List T} {k : Nat} (hx : l[k]? = some x) (h : t.cmp x = 0) : insN t l (k + 1) = l := by rw [insN]; simp only [hx]; exact if_pos h
theorem insN_lt {t x : T} {l : List T} {k : Nat} (hx : l[k]? = some x) (h : t.cmp x < 0) : insN t l (k + 1) = insN t l k := by rw [insN]; simp only [hx]; rw [if_neg (by omega), if_pos h]
theorem insN_gt {t x : T} {l : List T} {k : Nat} (hx : l[k]? = some x) (h : 0 < t.cmp x) : insN t l (k + 1) = l.take (k + 1) ++ t :: l.drop (k + 1) := by rw [insN]; simp only [hx]; rw [if_neg (by omega), if_neg (by omega)]
theorem insN_put {t : T} {l : List T} : insN t l 0 = l.take 0 ++ t :: l.drop 0 := by rw [insN]; simp

theorem insN_spec (t : T) (l : List T) (hl : Asc l) : ∀ k, k ≤ l.length → (∀ j x, k ≤ j → l[j]? = some x → t.cmp x < 0) →
    Asc (insN t l k) ∧ (∀ q, KeysOf (insN t l k) q ↔ q = t.key ∨ KeysOf l q) ∧ (insN t l k).length ≤ l.length + 1 ∧ ∀ x, x ∈ insN t l k → x = t ∨ x ∈ l := by
  intro k
  induction k with
  | zero =>
    intro _ h
    rw [insN]
    refine ⟨List.pairwise_cons.2 ⟨fun x hx => ?_, hl⟩, fun q => ?_, by simp, fun x hx => List.mem_cons.1 hx⟩
    · obtain ⟨j, hj, rfl⟩ := List.getElem_of_mem hx
      exact h j _ (Nat.zero_le _) (List.getElem?_eq_getElem hj)
    · constructor
      · rintro ⟨x, hx, rfl⟩
        rcases List.mem_cons.1 hx with rfl | hx
        · exact .inl rfl
        · exact .inr ⟨x, hx, rfl⟩
      · rintro (rfl | ⟨x, hx, rfl⟩)
        · exact ⟨t, List.mem_cons_self .., rfl⟩
        · exact ⟨x, List.mem_cons_of_mem _ hx, rfl⟩
  | succ k ih =>
    intro hk h
    have hx := List.getElem?_eq_getElem (show k < l.length by omega)
    rcases Int.lt_trichotomy (t.cmp l[k]) 0 with hc | hc | hc
    · rw [insN_lt hx hc]
      refine ih (by omega) fun j x hj hjx => ?_
      by_cases e : j = k
      · subst e
        rw [hx] at hjx
        cases hjx
        exact hc
      · exact h j x (by omega) hjx
    · rw [insN_eq hx hc]
      refine ⟨hl, fun q => ⟨fun hq => .inr hq, ?_⟩, by omega, fun x hx => .inr hx⟩
      rintro (rfl | hq)
      · exact ⟨_, List.getElem_mem (show k < l.length by omega), (T.cmp_zero hc).symm⟩
      · exact hq
    · rw [insN_gt hx hc]
      have hsplit : l = l.take (k + 1) ++ l.drop (k + 1) := (List.take_append_drop _ _).symm
      have hlo : ∀ x, x ∈ l.take (k + 1) → x.cmp t < 0 := fun x hxm => by
        obtain ⟨j, hj, rfl⟩ := List.getElem_of_mem hxm
        rw [List.length_take] at hj
        have hjk : j ≤ k := by omega
        rw [List.getElem_take]
        have h0 : l[k].cmp t < 0 := by rw [T.cmp_swap t l[k]]; omega
        rcases Nat.lt_or_ge j k with h1 | h1
        · exact T.cmp_lt_le (List.pairwise_iff_getElem.1 hl j k (by omega) (by omega) h1) (Int.le_of_lt h0)
        · obtain rfl : j = k := by omega
          exact h0
      have hhi : ∀ x, x ∈ l.drop (k + 1) → t.cmp x < 0 := fun x hxm => by
        obtain ⟨j, hj, rfl⟩ := List.getElem_of_mem hxm
        rw [List.getElem_drop]
        exact h (k + 1 + j) _ (by omega) (List.getElem?_eq_getElem _)
      have hl' := hl
      unfold Asc at hl'
      rw [hsplit, List.pairwise_append] at hl'
      obtain ⟨a1, a2, a3⟩ := hl'
      refine ⟨List.pairwise_append.2 ⟨a1, List.pairwise_cons.2 ⟨hhi, a2⟩, fun x hx y hy => ?_⟩, fun q => ?_, ?_, fun x hxm => ?_⟩
      · rcases List.mem_cons.1 hy with rfl | hy
        · exact hlo x hx
        · exact a3 x hx y hy
      · constructor
        · rintro ⟨x, hxm, rfl⟩
          rcases List.mem_append.1 hxm with hxm | hxm
          · exact .inr ⟨x, List.mem_of_mem_take hxm, rfl⟩
          rcases List.mem_cons.1 hxm with rfl | hxm
          · exact .inl rfl
          · exact .inr ⟨x, List.mem_of_mem_drop hxm, rfl⟩
        · rintro (rfl | ⟨x, hxm, rfl⟩)
          · exact ⟨t, List.mem_append_right _ (List.mem_cons_self ..), rfl⟩
          · rw [hsplit] at hxm
            rcases List.mem_append.1 hxm with hxm | hxm
            · exact ⟨x, List.mem_append_left _ hxm, rfl⟩
            · exact ⟨x, List.mem_append_right _ (List.mem_cons_of_mem _ hxm), rfl⟩
      · simp; omega
      · rcases List.mem_append.1 hxm with hxm | hxm
        · exact .inr (List.mem_of_mem_take hxm)
        rcases List.mem_cons.1 hxm with rfl | hxm
        · exact .inl rfl
        · exact .inr (List.mem_of_mem_drop hxm)
theorem ins_spec (t : T) (l : List T) (hl : Asc l) : Asc (ins t l) ∧ (∀ q, KeysOf (ins t l) q ↔ q = t.key ∨ KeysOf l q) ∧ (ins t l).length ≤ l.length + 1 ∧ ∀ x, x ∈ ins t l → x = t ∨ x ∈ l :=
  insN_spec t l hl l.length (Nat.le_refl _) fun j x hj hx => by have := (List.getElem?_eq_some_iff.1 hx).1; omega
/-- What is greater than all goes behind all. -/
theorem ins_last (t : T) (l : List T) (h : ∀ x, x ∈ l → 0 < t.cmp x) : ins t l = l ++ [t] := by
  unfold ins
  rcases hn : l.length with _ | k
  · rw [List.eq_nil_of_length_eq_zero hn]; rfl
  · have hx := List.getElem?_eq_getElem (show k < l.length by omega)
    rw [insN_gt hx (h _ (List.getElem_mem _)), ← hn, List.take_length, List.drop_length]

def insAll (l m : List T) : List T := m.foldl (fun a x => ins x a) l
theorem insAll_nil (l : List T) : insAll l [] = l := rfl
theorem insAll_snoc (l m : List T) (x : T) : insAll l (m ++ [x]) = ins x (insAll l m) := by simp [insAll]
theorem insAll_cons (l m : List T) (x : T) : insAll l (x :: m) = insAll (ins x l) m := rfl
theorem insAll_spec (m : List T) : ∀ l, Asc l → Asc (insAll l m) ∧ (∀ q, KeysOf (insAll l m) q ↔ KeysOf m q ∨ KeysOf l q) ∧ (insAll l m).length ≤ l.length + m.length ∧ ∀ x, x ∈ insAll l m → x ∈ m ∨ x ∈ l := by
  induction m with
  | nil =>
    intro l hl
    rw [insAll_nil]
    exact ⟨hl, fun q => ⟨.inr, fun h => h.elim (fun ⟨x, hx, _⟩ => by cases hx) id⟩, by simp, fun x hx => .inr hx⟩
  | cons a m ih =>
    intro l hl
    rw [insAll_cons]
    obtain ⟨h1, h2, h3, h4⟩ := ins_spec a l hl
    obtain ⟨g1, g2, g3, g4⟩ := ih (ins a l) h1
    refine ⟨g1, fun q => ?_, by rw [List.length_cons]; omega, fun x hx => ?_⟩
    · rw [g2, h2]
      constructor
      · rintro (⟨x, hx, rfl⟩ | rfl | h)
        · exact .inl ⟨x, List.mem_cons_of_mem _ hx, rfl⟩
        · exact .inl ⟨a, List.mem_cons_self .., rfl⟩
        · exact .inr h
      · rintro (⟨x, hx, rfl⟩ | h)
        · rcases List.mem_cons.1 hx with rfl | hx
          · exact .inr (.inl rfl)
          · exact .inl ⟨x, hx, rfl⟩
        · exact .inr (.inr h)
    · rcases g4 x hx with h | h
      · exact .inl (List.mem_cons_of_mem _ h)
      rcases h4 x h with rfl | h
      · exact .inl (List.mem_cons_self ..)
      · exact .inr h

mutual
def T.sub : T → List T
  | .mk r l => ins (.mk r l) (T.subs [] l)
def T.subs (acc : List T) : List T → List T
  | [] => acc
  | v :: l => T.subs (insAll acc v.sub) l
end
theorem T.sub_eq (v : T) : v.sub = ins v (T.subs [] v.l) := by cases v; rw [T.sub]; rfl
theorem T.subs_nil (acc : List T) : T.subs acc [] = acc := by rw [T.subs]
theorem T.subs_cons (acc l : List T) (v : T) : T.subs acc (v :: l) = T.subs (insAll acc v.sub) l := by rw [T.subs]
theorem T.subs_snoc (l : List T) (x : T) : ∀ acc, T.subs acc (l ++ [x]) = insAll (T.subs acc l) x.sub := by
  induction l with
  | nil => intro acc; simp [T.subs]
  | cons v l ih => intro acc; simp only [List.cons_append, T.subs]; rw [ih]

theorem subs_spec (l : List T) (h : ∀ v, v ∈ l → Asc v.sub ∧ (∀ q, KeysOf v.sub q ↔ KeysOf v.pre q) ∧ v.sub.length ≤ v.size ∧ ∀ x, x ∈ v.sub → x.size ≤ v.size) :
    ∀ acc, Asc acc → Asc (T.subs acc l) ∧ (∀ q, KeysOf (T.subs acc l) q ↔ KeysOf (T.pres l) q ∨ KeysOf acc q) ∧ (T.subs acc l).length ≤ acc.length + T.sizes l ∧ ∀ x, x ∈ T.subs acc l → x.size ≤ T.sizes l ∨ x ∈ acc := by
  induction l with
  | nil =>
    intro acc ha
    rw [T.subs_nil, T.pres_nil, T.sizes_nil]
    exact ⟨ha, fun q => ⟨.inr, fun h => h.elim (fun ⟨x, hx, _⟩ => by cases hx) id⟩, by simp, fun x hx => .inr hx⟩
  | cons v l ih =>
    intro acc ha
    rw [T.subs_cons, T.pres_cons, T.sizes_cons]
    obtain ⟨v1, v2, v3, v4⟩ := h v (List.mem_cons_self ..)
    obtain ⟨h1, h2, h3, h4⟩ := insAll_spec v.sub acc ha
    obtain ⟨g1, g2, g3, g4⟩ := ih (fun x hx => h x (List.mem_cons_of_mem _ hx)) _ h1
    refine ⟨g1, fun q => ?_, by omega, fun x hx => ?_⟩
    · rw [g2, h2, v2]
      constructor
      · rintro (⟨x, hx, rfl⟩ | ⟨x, hx, rfl⟩ | h)
        · exact .inl ⟨x, List.mem_append_right _ hx, rfl⟩
        · exact .inl ⟨x, List.mem_append_left _ hx, rfl⟩
        · exact .inr h
      · rintro (⟨x, hx, rfl⟩ | h)
        · rcases List.mem_append.1 hx with hx | hx
          · exact .inr (.inl ⟨x, hx, rfl⟩)
          · exact .inl ⟨x, hx, rfl⟩
        · exact .inr (.inr h)
    · rcases g4 x hx with h | h
      · left; omega
      rcases h4 x h with h | h
      · have := v4 x h; left; omega
      · exact .inr h
theorem T.sub_spec (v : T) : Asc v.sub ∧ (∀ q, KeysOf v.sub q ↔ KeysOf v.pre q) ∧ v.sub.length ≤ v.size ∧ ∀ x, x ∈ v.sub → x.size ≤ v.size := by
  induction v using T.ind with
  | h v ih =>
    obtain ⟨g1, g2, g3, g4⟩ := subs_spec v.l ih [] List.Pairwise.nil
    obtain ⟨h1, h2, h3, h4⟩ := ins_spec v _ g1
    rw [T.sub_eq, T.pre_eq, T.size_eq]
    refine ⟨h1, fun q => ?_, by simp at g3; omega, fun x hx => ?_⟩
    · rw [h2, g2]
      constructor
      · rintro (rfl | ⟨x, hx, rfl⟩ | ⟨x, hx, _⟩)
        · exact ⟨v, List.mem_cons_self .., rfl⟩
        · exact ⟨x, List.mem_cons_of_mem _ hx, rfl⟩
        · cases hx
      · rintro ⟨x, hx, rfl⟩
        rcases List.mem_cons.1 hx with rfl | hx
        · exact .inl rfl
        · exact .inr (.inl ⟨x, hx, rfl⟩)
    · rcases h4 x hx with rfl | h
      · rw [T.size_eq]; exact Nat.le_refl _
      rcases g4 x h with h | h
      · omega
      · cases h
/-- The last of the subterms is the term. -/
theorem T.sub_last (v : T) : ∃ l, v.sub = l ++ [v] := by
  refine ⟨T.subs [] v.l, ?_⟩
  rw [T.sub_eq]
  refine ins_last v _ fun x hx => ?_
  obtain ⟨_, _, _, g4⟩ := subs_spec v.l (fun x _ => x.sub_spec) [] List.Pairwise.nil
  rcases g4 x hx with h | h
  · have := T.cmp_small (a := x) (b := v) (by rw [v.size_eq]; omega)
    rw [T.cmp_swap x v]
    omega
  · cases h

/-! ### Equals that stand side by side -/
def cpt (l : List T) : Nat → List T
  | 0 => []
  | n + 1 => match l[n]? with
    | some x => if n = 0 then [x] else match l[n - 1]? with
      | some y => if x.cmp y = 0 then cpt l n else cpt l n ++ [x]
      | none => []
    | none => []
theorem cpt_one {l : List T} {x : T} (hx : l[0]? = some x) : cpt l 1 = [x] := by rw [cpt]; simp only [hx]; rfl
theorem cpt_eq {l : List T} {n : Nat} {x y : T} (hx : l[n + 1]? = some x) (hy : l[n]? = some y) (h : x.cmp y = 0) : cpt l (n + 2) = cpt l (n + 1) := by
  rw [cpt]; simp only [hx, Nat.add_sub_cancel, hy, if_pos h, if_neg (Nat.succ_ne_zero n)]
theorem cpt_ne {l : List T} {n : Nat} {x y : T} (hx : l[n + 1]? = some x) (hy : l[n]? = some y) (h : x.cmp y ≠ 0) : cpt l (n + 2) = cpt l (n + 1) ++ [x] := by
  rw [cpt]; simp only [hx, Nat.add_sub_cancel, hy, if_neg h, if_neg (Nat.succ_ne_zero n)]
theorem cpt_spec (l : List T) (hs : l.Pairwise fun a b => a.cmp b ≤ 0) : ∀ n, n < l.length →
    Asc (cpt l (n + 1)) ∧ (∀ q, KeysOf (cpt l (n + 1)) q ↔ KeysOf (l.take (n + 1)) q) ∧ (∀ x y, x ∈ cpt l (n + 1) → l[n]? = some y → x.cmp y ≤ 0) ∧ (cpt l (n + 1)).length ≤ n + 1 ∧ ∀ x, x ∈ cpt l (n + 1) → x ∈ l := by
  intro n
  induction n with
  | zero =>
    intro hn
    have hx := List.getElem?_eq_getElem hn
    rw [cpt_one hx]
    refine ⟨by simp [Asc], fun q => ?_, fun x y hxm hy => ?_, by simp, fun x hxm => by simp at hxm; subst hxm; exact List.getElem_mem _⟩
    · rw [List.take_add_one, hx]; simp [KeysOf]
    · rw [hx] at hy; cases hy; simp at hxm; subst hxm; rw [T.cmp_self]; omega
  | succ n ih =>
    intro hn
    obtain ⟨h1, h2, h3, h4, h5⟩ := ih (by omega)
    have hx := List.getElem?_eq_getElem hn
    have hy := List.getElem?_eq_getElem (show n < l.length by omega)
    have hle := List.pairwise_iff_getElem.1 hs n (n + 1) (by omega) hn (by omega)
    have hk : ∀ q, KeysOf (l.take (n + 1 + 1)) q ↔ KeysOf (l.take (n + 1)) q ∨ q = l[n + 1].key := fun q => by
      rw [List.take_add_one, hx]
      simp only [KeysOf, Option.toList_some, List.mem_append, List.mem_singleton]
      constructor
      · rintro ⟨x, hxm | rfl, rfl⟩
        · exact .inl ⟨x, hxm, rfl⟩
        · exact .inr rfl
      · rintro (⟨x, hxm, rfl⟩ | rfl)
        · exact ⟨x, .inl hxm, rfl⟩
        · exact ⟨_, .inr rfl, rfl⟩
    by_cases hc : l[n + 1].cmp l[n] = 0
    · rw [cpt_eq hx hy hc]
      refine ⟨h1, fun q => ?_, fun x y hxm hym => ?_, by omega, h5⟩
      · rw [hk, h2]
        constructor
        · exact .inl
        · rintro (h | rfl)
          · exact h
          · exact ⟨l[n], by rw [List.take_add_one, hy, Option.toList_some]; exact List.mem_append_right _ (List.mem_singleton.2 rfl), (T.cmp_zero hc).symm⟩
      · rw [hx] at hym; cases hym
        exact T.cmp_trans (h3 x _ hxm hy) hle
    · have hlt : l[n].cmp l[n + 1] < 0 := by
        rw [T.cmp_swap l[n] l[n + 1]] at hc
        omega
      rw [cpt_ne hx hy hc]
      refine ⟨List.pairwise_append.2 ⟨h1, by simp, fun x hxm y hym => ?_⟩, fun q => ?_, fun x y hxm hym => ?_, by simp; omega, fun x hxm => ?_⟩
      · simp at hym; subst hym
        exact T.cmp_le_lt (h3 x _ hxm hy) hlt
      · rw [hk, ← h2]
        simp only [KeysOf, List.mem_append, List.mem_singleton]
        constructor
        · rintro ⟨x, hxm | rfl, rfl⟩
          · exact .inl ⟨x, hxm, rfl⟩
          · exact .inr rfl
        · rintro (⟨x, hxm, rfl⟩ | rfl)
          · exact ⟨x, .inl hxm, rfl⟩
          · exact ⟨_, .inr rfl, rfl⟩
      · rw [hx] at hym; cases hym
        rcases List.mem_append.1 hxm with hxm | hxm
        · exact Int.le_of_lt (T.cmp_le_lt (h3 x _ hxm hy) hlt)
        · simp at hxm; subst hxm; rw [T.cmp_self]; omega
      · rcases List.mem_append.1 hxm with hxm | hxm
        · exact h5 x hxm
        · simp at hxm; subst hxm; exact List.getElem_mem _

/-- A sorted arrangement of the preorder, equals left out, is the list of the subterms. -/
theorem cpt_sub (v : T) (l : List T) (hp : l.Perm v.pre) (hs : l.Pairwise fun a b => a.cmp b ≤ 0) : (cpt l l.length).map T.key = v.sub.map T.key ∧ ∀ x, x ∈ cpt l l.length → x ∈ l := by
  have hlen : l.length = v.size := hp.length_eq
  have hpos := v.size_pos
  obtain ⟨n, hn⟩ : ∃ n, l.length = n + 1 := ⟨l.length - 1, by omega⟩
  obtain ⟨h1, h2, h3, h4, h5⟩ := cpt_spec l hs n (by omega)
  rw [hn]
  refine ⟨asc_unique _ _ h1 v.sub_spec.1 fun q => ?_, h5⟩
  rw [h2, v.sub_spec.2.1, ← hn, List.take_length]
  constructor
  · rintro ⟨x, hx, rfl⟩
    exact ⟨x, hp.mem_iff.1 hx, rfl⟩
  · rintro ⟨x, hx, rfl⟩
    exact ⟨x, hp.mem_iff.2 hx, rfl⟩

end Go.Proofs.Ytdfhfljmcakilaa
