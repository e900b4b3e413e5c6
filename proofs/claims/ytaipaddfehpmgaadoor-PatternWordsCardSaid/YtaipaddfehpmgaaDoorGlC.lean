/-
  What the specification reckons of a tree and a text are the texts of the tree. With no program in it. Nothing is assumed.
-/
import Derived.Test.YtaipaddfehpmgaaDoorEnP
namespace Go.Proofs.YtaipaddfehpmgaaDoor

section
open Go.RowKit

/-- Repetitions. -/
inductive Star {α : Type} (P : List α → Prop) : List α → Prop
  | nil : Star P []
  | cons (x y : List α) : P x → Star P y → Star P (x ++ y)
mutual
/-- The texts of a tree. -/
def Lg : PT → List UInt8 → Prop
  | .mk k s l => fun u => (k = 2 ∧ u = []) ∨ (k = 3 ∧ ∃ c, u = [c] ∧ s.has c.toNat = true) ∨ (k = 4 ∧ LgC l u) ∨ (k = 5 ∧ LgA l u) ∨ (k = 6 ∧ LgR l u)
def LgC : List PT → List UInt8 → Prop
  | [] => fun u => u = []
  | t :: l => fun u => ∃ x y, u = x ++ y ∧ Lg t x ∧ LgC l y
def LgA : List PT → List UInt8 → Prop
  | [] => fun _ => False
  | t :: l => fun u => Lg t u ∨ LgA l u
def LgR : List PT → List UInt8 → Prop
  | [] => fun _ => False
  | t :: _ => fun u => Star (Lg t) u
end
theorem Lg_eq (t : PT) (u : List UInt8) : Lg t u ↔ ((t.k = 2 ∧ u = []) ∨ (t.k = 3 ∧ ∃ c, u = [c] ∧ t.s.has c.toNat = true) ∨ (t.k = 4 ∧ LgC t.l u) ∨ (t.k = 5 ∧ LgA t.l u) ∨ (t.k = 6 ∧ LgR t.l u)) := by
  cases t; rw [Lg]; rfl

/-- A position can follow another one. -/
def nx (Q : List Ps) (i j : Nat) : Prop := ∃ p, Q[i]? = some p ∧ bt p.n j = true
def Ch (Q : List Ps) (l : Int) : Nat → List Nat → Prop
  | i, [] => bt l i = true
  | i, j :: r => nx Q i j ∧ Ch Q l j r
def Ac (Q : List Ps) (P : Pa) : List Nat → Prop
  | [] => P.e = true
  | j :: r => bt P.f j = true ∧ Ch Q P.t j r
/-- Positions read a text. -/
def Rd (Q : List Ps) : List Nat → List UInt8 → Prop
  | [], u => u = []
  | i :: r, u => ∃ c v, u = c :: v ∧ (∃ p, Q[i]? = some p ∧ p.s.has c.toNat = true) ∧ Rd Q r v
theorem Rd.app {Q : List Ps} : ∀ {x y : List Nat} {u v : List UInt8}, Rd Q x u → Rd Q y v → Rd Q (x ++ y) (u ++ v)
  | [], _, _, _, h, h' => by rw [show _ = ([] : List UInt8) from h]; exact h'
  | i :: r, y, _, v, ⟨c, w, e, h1, h2⟩, h' => ⟨c, w ++ v, by rw [e]; rfl, h1, Rd.app h2 h'⟩
theorem Rd.split {Q : List Ps} : ∀ {x y : List Nat} {u : List UInt8}, Rd Q (x ++ y) u → ∃ a b, u = a ++ b ∧ Rd Q x a ∧ Rd Q y b
  | [], _, u, h => ⟨[], u, rfl, rfl, h⟩
  | i :: r, y, u, ⟨c, w, e, h1, h2⟩ => by
    obtain ⟨a, b, e2, h3, h4⟩ := Rd.split h2
    exact ⟨c :: a, b, by rw [e, e2]; rfl, ⟨c, a, rfl, h1, h3⟩, h4⟩

/-- A part lies over the positions from a on, below b. -/
structure Pin (Q : List Ps) (P : Pa) (a b : Nat) : Prop where
  len : b ≤ Q.length
  f : ∀ i, bt P.f i = true → a ≤ i ∧ i < b
  t : ∀ i, bt P.t i = true → a ≤ i ∧ i < b
  n : ∀ i j, a ≤ i → i < b → nx Q i j → a ≤ j ∧ j < b
/-- Two lists of positions with the same positions from a on, below b. -/
def Agr (Q Q' : List Ps) (a b : Nat) : Prop := ∀ i, a ≤ i → i < b → Q'[i]? = Q[i]?
theorem Ch.agr {Q Q' : List Ps} {P : Pa} {a b : Nat} (hp : Pin Q P a b) (h : Agr Q Q' a b) (l : Int) : ∀ (r : List Nat) (i : Nat), a ≤ i → i < b → (Ch Q' l i r ↔ Ch Q l i r)
  | [], _, _, _ => Iff.rfl
  | j :: r, i, h1, h2 => by
    have e : nx Q' i j ↔ nx Q i j := by unfold nx; rw [h i h1 h2]
    constructor
    · rintro ⟨h3, h4⟩
      have h5 := hp.n i j h1 h2 (e.1 h3)
      exact ⟨e.1 h3, (Ch.agr hp h l r j h5.1 h5.2).1 h4⟩
    · rintro ⟨h3, h4⟩
      have h5 := hp.n i j h1 h2 h3
      exact ⟨e.2 h3, (Ch.agr hp h l r j h5.1 h5.2).2 h4⟩
theorem Ac.agr {Q Q' : List Ps} {P : Pa} {a b : Nat} (hp : Pin Q P a b) (h : Agr Q Q' a b) : ∀ qs, Ac Q' P qs ↔ Ac Q P qs
  | [] => Iff.rfl
  | j :: r => by
    constructor
    · rintro ⟨h1, h2⟩; have h3 := hp.f j h1; exact ⟨h1, (Ch.agr hp h _ r j h3.1 h3.2).1 h2⟩
    · rintro ⟨h1, h2⟩; have h3 := hp.f j h1; exact ⟨h1, (Ch.agr hp h _ r j h3.1 h3.2).2 h2⟩
theorem Pin.agr {Q Q' : List Ps} {P : Pa} {a b : Nat} (hp : Pin Q P a b) (h : Agr Q Q' a b) (hl : Q.length ≤ Q'.length) : Pin Q' P a b :=
  ⟨Nat.le_trans hp.len hl, hp.f, hp.t, fun i j h1 h2 h3 => hp.n i j h1 h2 (by unfold nx at h3 ⊢; rwa [h i h1 h2] at h3)⟩
/-- All positions of a run lie within the part. -/
theorem Ch.mem {Q : List Ps} {P : Pa} {a b : Nat} (hp : Pin Q P a b) (l : Int) : ∀ (r : List Nat) (i : Nat), a ≤ i → i < b → Ch Q l i r → ∀ j ∈ r, a ≤ j ∧ j < b
  | [], _, _, _, _, j, hj => by cases hj
  | k :: r, i, h1, h2, ⟨h3, h4⟩, j, hj => by
    have h5 := hp.n i k h1 h2 h3
    rcases List.mem_cons.1 hj with rfl | hj
    · exact h5
    · exact Ch.mem hp l r k h5.1 h5.2 h4 j hj
theorem Ac.mem {Q : List Ps} {P : Pa} {a b : Nat} (hp : Pin Q P a b) : ∀ qs, Ac Q P qs → ∀ j ∈ qs, a ≤ j ∧ j < b
  | [], _, j, hj => by cases hj
  | k :: r, ⟨h1, h2⟩, j, hj => by
    have h3 := hp.f k h1
    rcases List.mem_cons.1 hj with rfl | hj
    · exact h3
    · exact Ch.mem hp _ r k h3.1 h3.2 h2 j hj
/-- The sets of the positions are the same. -/
def SameS (Q Q' : List Ps) (a b : Nat) : Prop := ∀ i, a ≤ i → i < b → (Q'[i]?).map (·.s) = (Q[i]?).map (·.s)
theorem Rd.same {Q Q' : List Ps} {a b : Nat} (h : SameS Q Q' a b) : ∀ (qs : List Nat) (u : List UInt8), (∀ j ∈ qs, a ≤ j ∧ j < b) → (Rd Q' qs u ↔ Rd Q qs u)
  | [], _, _ => Iff.rfl
  | i :: r, u, hm => by
    have hi := h i (hm i (List.mem_cons_self ..)).1 (hm i (List.mem_cons_self ..)).2
    have e : ∀ c : UInt8, (∃ p, Q'[i]? = some p ∧ p.s.has c.toNat = true) ↔ (∃ p, Q[i]? = some p ∧ p.s.has c.toNat = true) := fun c => by
      cases h1 : Q'[i]? <;> cases h2 : Q[i]? <;> rw [h1, h2] at hi <;> simp at hi ⊢
      rw [hi]
    have ih := fun v => Rd.same h r v (fun j hj => hm j (List.mem_cons_of_mem _ hj))
    constructor
    · rintro ⟨c, v, e1, h1, h2⟩; exact ⟨c, v, e1, (e c).1 h1, (ih v).1 h2⟩
    · rintro ⟨c, v, e1, h1, h2⟩; exact ⟨c, v, e1, (e c).2 h1, (ih v).2 h2⟩

/-- What the links of a set do. -/
theorem link_at (s n : Int) (hs : U6 s) : ∀ (l : List Ps) (i j : Nat), (linkL s n i l)[j]? = (l[j]?).map fun p => if bt s (i + j) = true then ⟨p.s, orS p.n n⟩ else p
  | [], _, _ => by simp [linkL]
  | p :: l, i, 0 => by
    rw [linkL, bitQ_bt hs]; simp
  | p :: l, i, j + 1 => by
    rw [linkL]
    simp only [List.getElem?_cons_succ]
    rw [link_at s n hs l (i + 1) j, show i + 1 + j = i + (j + 1) by omega]
theorem link_nx {s n : Int} (hs : U6 s) (Q : List Ps) (i j : Nat) : nx (linkL s n 0 Q) i j ↔ nx Q i j ∨ (i < Q.length ∧ bt s i = true ∧ bt n j = true) := by
  unfold nx
  rw [link_at s n hs Q 0 i, Nat.zero_add]
  cases hq : Q[i]? with
  | none =>
    have : ¬ i < Q.length := fun h => by rw [List.getElem?_eq_getElem h] at hq; cases hq
    simp [this]
  | some p =>
    have hl : i < Q.length := (List.getElem?_eq_some_iff.1 hq).1
    by_cases hb : bt s i = true
    · simp [hb, hl, bt_or]
    · simp [hb]
theorem link_same {s n : Int} (hs : U6 s) (Q : List Ps) (a b : Nat) : SameS Q (linkL s n 0 Q) a b := fun i _ _ => by
  rw [link_at s n hs Q 0 i]
  cases Q[i]? with
  | none => rfl
  | some p => simp; split <;> rfl
theorem link_agr {s n : Int} (hs : U6 s) (Q : List Ps) (a b : Nat) (h : ∀ i, bt s i = true → ¬ (a ≤ i ∧ i < b)) : Agr Q (linkL s n 0 Q) a b := fun i h1 h2 => by
  rw [link_at s n hs Q 0 i, Nat.zero_add]
  have : ¬ bt s i = true := fun e => h i e ⟨h1, h2⟩
  cases Q[i]? with
  | none => rfl
  | some p => simp [this]

/-- One part behind another one. -/
theorem join_ch {Q : List Ps} {P R : Pa} {a b c : Nat} (hp : Pin Q P a b) (hr : Pin Q R b c) (hu : U6 P.t) (r : List Nat) : ∀ i, a ≤ i → i < b → (Ch (linkL P.t R.f 0 Q) (if R.e = true then orS R.t P.t else R.t) i r ↔ ∃ x y, r = x ++ y ∧ Ch Q P.t i x ∧ Ac Q R y) := by
  have hR : Agr Q (linkL P.t R.f 0 Q) b c := link_agr hu Q b c (fun i h h' => by have := hp.t i h; omega)
  have hlast : ∀ i, a ≤ i → i < b → (bt (if R.e = true then orS R.t P.t else R.t) i = true ↔ R.e = true ∧ bt P.t i = true) := fun i h1 h2 => by
    have hn : bt R.t i = false := by
      cases h : bt R.t i
      · rfl
      · have := hr.t i h; omega
    cases he : R.e
    · simp [hn]
    · simp [bt_or, hn]
  have hlast2 : ∀ i, b ≤ i → (bt (if R.e = true then orS R.t P.t else R.t) i = true ↔ bt R.t i = true) := fun i h1 => by
    have hn : bt P.t i = false := by
      cases h : bt P.t i
      · rfl
      · have := hp.t i h; omega
    cases he : R.e
    · simp
    · simp [bt_or, hn]
  have hch2 : ∀ (r : List Nat) (i : Nat), b ≤ i → i < c → (Ch Q (if R.e = true then orS R.t P.t else R.t) i r ↔ Ch Q R.t i r) := by
    intro r
    induction r with
    | nil => intro i h1 h2; exact hlast2 i h1
    | cons j r ih =>
      intro i h1 h2
      constructor
      · rintro ⟨h3, h4⟩; have h5 := hr.n i j h1 h2 h3; exact ⟨h3, (ih j h5.1 h5.2).1 h4⟩
      · rintro ⟨h3, h4⟩; have h5 := hr.n i j h1 h2 h3; exact ⟨h3, (ih j h5.1 h5.2).2 h4⟩
  induction r with
  | nil =>
    intro i h1 h2
    refine (hlast i h1 h2).trans ?_
    constructor
    · rintro ⟨h3, h4⟩; exact ⟨[], [], rfl, h4, h3⟩
    · rintro ⟨x, y, h, h3, h4⟩
      cases x with
      | nil => cases y with
        | nil => exact ⟨h4, h3⟩
        | cons => cases h
      | cons => cases h
  | cons j r ih =>
    intro i h1 h2
    show (nx (linkL P.t R.f 0 Q) i j ∧ Ch (linkL P.t R.f 0 Q) _ j r) ↔ _
    rw [link_nx hu]
    constructor
    · rintro ⟨h3 | ⟨_, h3, h4⟩, h5⟩
      · have h6 := hp.n i j h1 h2 h3
        obtain ⟨x, y, e, h7, h8⟩ := (ih j h6.1 h6.2).1 h5
        exact ⟨j :: x, y, by rw [e]; rfl, ⟨h3, h7⟩, h8⟩
      · have h6 := hr.f j h4
        exact ⟨[], j :: r, rfl, h3, h4, (hch2 r j h6.1 h6.2).1 ((Ch.agr hr hR _ r j h6.1 h6.2).1 h5)⟩
    · rintro ⟨x, y, e, h3, h4⟩
      cases x with
      | nil =>
        cases e
        have h6 := hr.f j h4.1
        exact ⟨.inr ⟨by have := hp.len; omega, h3, h4.1⟩, (Ch.agr hr hR _ r j h6.1 h6.2).2 ((hch2 r j h6.1 h6.2).2 h4.2)⟩
      | cons k x =>
        cases e
        have h6 := hp.n i j h1 h2 h3.1
        exact ⟨.inl h3.1, (ih j h6.1 h6.2).2 ⟨x, y, rfl, h3.2, h4⟩⟩
theorem join_ac {Q : List Ps} {P R : Pa} {a b c : Nat} (hp : Pin Q P a b) (hr : Pin Q R b c) (hu : U6 P.t) (qs : List Nat) : Ac (joinS Q P R).1 (joinS Q P R).2 qs ↔ ∃ x y, qs = x ++ y ∧ Ac Q P x ∧ Ac Q R y := by
  have hR : Agr Q (linkL P.t R.f 0 Q) b c := link_agr hu Q b c (fun i h h' => by have := hp.t i h; omega)
  cases qs with
  | nil =>
    show (P.e && R.e) = true ↔ _
    rw [Bool.and_eq_true]
    constructor
    · rintro ⟨h1, h2⟩; exact ⟨[], [], rfl, h1, h2⟩
    · rintro ⟨x, y, h, h3, h4⟩
      cases x with
      | nil => cases y with
        | nil => exact ⟨h3, h4⟩
        | cons => cases h
      | cons => cases h
  | cons j r =>
    show (bt (if P.e = true then orS P.f R.f else P.f) j = true ∧ Ch (linkL P.t R.f 0 Q) (if R.e = true then orS R.t P.t else R.t) j r) ↔ _
    have hlast2 : ∀ (r : List Nat) (i : Nat), b ≤ i → i < c → (Ch (linkL P.t R.f 0 Q) (if R.e = true then orS R.t P.t else R.t) i r ↔ Ch Q R.t i r) := by
      intro r
      induction r with
      | nil =>
        intro i h1 h2
        have hn : bt P.t i = false := by
          cases h : bt P.t i
          · rfl
          · have := hp.t i h; omega
        show bt _ i = true ↔ bt R.t i = true
        cases he : R.e
        · simp
        · simp [bt_or, hn]
      | cons k r ih =>
        intro i h1 h2
        have e : nx (linkL P.t R.f 0 Q) i k ↔ nx Q i k := by unfold nx; rw [hR i h1 h2]
        constructor
        · rintro ⟨h3, h4⟩; have h5 := hr.n i k h1 h2 (e.1 h3); exact ⟨e.1 h3, (ih k h5.1 h5.2).1 h4⟩
        · rintro ⟨h3, h4⟩; have h5 := hr.n i k h1 h2 h3; exact ⟨e.2 h3, (ih k h5.1 h5.2).2 h4⟩
    have hf : bt (if P.e = true then orS P.f R.f else P.f) j = true ↔ bt P.f j = true ∨ (P.e = true ∧ bt R.f j = true) := by
      cases he : P.e
      · simp
      · simp [bt_or]
    rw [hf]
    constructor
    · rintro ⟨h1 | ⟨h1, h2⟩, h3⟩
      · have h4 := hp.f j h1
        obtain ⟨x, y, e, h5, h6⟩ := (join_ch hp hr hu r j h4.1 h4.2).1 h3
        exact ⟨j :: x, y, by rw [e]; rfl, ⟨h1, h5⟩, h6⟩
      · have h4 := hr.f j h2
        exact ⟨[], j :: r, rfl, h1, h2, (hlast2 r j h4.1 h4.2).1 h3⟩
    · rintro ⟨x, y, e, h3, h4⟩
      cases x with
      | nil =>
        cases e
        have h6 := hr.f j h4.1
        exact ⟨.inr ⟨h3, h4.1⟩, (hlast2 r j h6.1 h6.2).2 h4.2⟩
      | cons k x =>
        cases e
        have h6 := hp.f j h3.1
        exact ⟨.inl h3.1, (join_ch hp hr hu _ j h6.1 h6.2).2 ⟨x, y, rfl, h3.2, h4⟩⟩
theorem join_pin {Q : List Ps} {P R : Pa} {a b c : Nat} (hp : Pin Q P a b) (hr : Pin Q R b c) (hab : a ≤ b) (hbc : b ≤ c) (hu : U6 P.t) : Pin (joinS Q P R).1 (joinS Q P R).2 a c where
  len := by show c ≤ (linkL P.t R.f 0 Q).length; rw [linkL_len]; exact hr.len
  f := fun i h => by
    have h' : bt (if P.e = true then orS P.f R.f else P.f) i = true := h
    cases he : P.e <;> rw [he] at h' <;> simp [bt_or] at h'
    · have := hp.f i h'; omega
    · rcases h' with h' | h'
      · have := hp.f i h'; omega
      · have := hr.f i h'; omega
  t := fun i h => by
    have h' : bt (if R.e = true then orS R.t P.t else R.t) i = true := h
    cases he : R.e <;> rw [he] at h' <;> simp [bt_or] at h'
    · have := hr.t i h'; omega
    · rcases h' with h' | h'
      · have := hr.t i h'; omega
      · have := hp.t i h'; omega
  n := fun i j h1 h2 h3 => by
    rcases (link_nx hu Q i j).1 h3 with h3 | ⟨_, h3, h4⟩
    · rcases Nat.lt_or_ge i b with h | h
      · have := hp.n i j h1 h h3; omega
      · have := hr.n i j h h2 h3; omega
    · have := hr.f j h4; omega

/-- A part repeated. -/
theorem rep_ch {Q : List Ps} {P : Pa} {a b : Nat} (hp : Pin Q P a b) (hu : U6 P.t) (r : List Nat) : ∀ i, a ≤ i → i < b → Ch (linkL P.t P.f 0 Q) P.t i r → ∃ x y, r = x ++ y ∧ Ch Q P.t i x ∧ Star (Ac Q P) y := by
  induction r with
  | nil => intro i _ _ h; exact ⟨[], [], rfl, h, .nil⟩
  | cons j r ih =>
    intro i h1 h2 h
    obtain ⟨h3, h4⟩ := h
    rcases (link_nx hu Q i j).1 h3 with h3 | ⟨_, h3, h5⟩
    · have h6 := hp.n i j h1 h2 h3
      obtain ⟨x, y, e, h7, h8⟩ := ih j h6.1 h6.2 h4
      exact ⟨j :: x, y, by rw [e]; rfl, ⟨h3, h7⟩, h8⟩
    · have h6 := hp.f j h5
      obtain ⟨x, y, e, h7, h8⟩ := ih j h6.1 h6.2 h4
      exact ⟨[], j :: r, rfl, h3, by rw [e, ← List.cons_append]; exact .cons (j :: x) y ⟨h5, h7⟩ h8⟩
theorem rep_ch' {Q : List Ps} {P : Pa} {a b : Nat} (hp : Pin Q P a b) (hu : U6 P.t) {y : List Nat} (hy : Star (Ac Q P) y) : ∀ (x : List Nat) (i : Nat), a ≤ i → i < b → Ch Q P.t i x → Ch (linkL P.t P.f 0 Q) P.t i (x ++ y) := by
  induction hy with
  | nil =>
    intro x
    induction x with
    | nil => intro i _ _ h; exact h
    | cons j x ih =>
      intro i h1 h2 h
      have h3 := hp.n i j h1 h2 h.1
      exact ⟨(link_nx hu Q i j).2 (.inl h.1), ih j h3.1 h3.2 h.2⟩
  | cons u v hu' hv ihv =>
    intro x
    induction x with
    | nil =>
      intro i h1 h2 h
      cases u with
      | nil => exact ihv [] i h1 h2 h
      | cons j u =>
        have h3 := hp.f j hu'.1
        exact ⟨(link_nx hu Q i j).2 (.inr ⟨by have := hp.len; omega, h, hu'.1⟩), ihv u j h3.1 h3.2 hu'.2⟩
    | cons j x ih =>
      intro i h1 h2 h
      have h3 := hp.n i j h1 h2 h.1
      exact ⟨(link_nx hu Q i j).2 (.inl h.1), ih j h3.1 h3.2 h.2⟩
theorem rep_ac {Q : List Ps} {P : Pa} {a b : Nat} (hp : Pin Q P a b) (hu : U6 P.t) (qs : List Nat) : Ac (linkL P.t P.f 0 Q) ⟨true, P.f, P.t⟩ qs ↔ Star (Ac Q P) qs := by
  constructor
  · intro h
    cases qs with
    | nil => exact .nil
    | cons j r =>
      have h3 := hp.f j h.1
      obtain ⟨x, y, e, h7, h8⟩ := rep_ch hp hu r j h3.1 h3.2 h.2
      rw [e, ← List.cons_append]
      exact .cons (j :: x) y ⟨h.1, h7⟩ h8
  · intro h
    induction h with
    | nil => rfl
    | cons u v hu' hv ih =>
      cases u with
      | nil => exact ih
      | cons j u =>
        have h3 := hp.f j hu'.1
        exact ⟨hu'.1, rep_ch' hp hu hv u j h3.1 h3.2 hu'.2⟩
theorem rep_pin {Q : List Ps} {P : Pa} {a b : Nat} (hp : Pin Q P a b) (hu : U6 P.t) : Pin (linkL P.t P.f 0 Q) ⟨true, P.f, P.t⟩ a b where
  len := by rw [linkL_len]; exact hp.len
  f := hp.f
  t := hp.t
  n := fun i j h1 h2 h3 => by
    rcases (link_nx hu Q i j).1 h3 with h3 | ⟨_, _, h4⟩
    · exact hp.n i j h1 h2 h3
    · exact hp.f j h4
/-- Parts beside each other. -/
theorem alt_ac {Q : List Ps} {P R : Pa} {a b c : Nat} (hp : Pin Q P a b) (hr : Pin Q R b c) (qs : List Nat) : Ac Q (altS P R) qs ↔ Ac Q P qs ∨ Ac Q R qs := by
  have hch1 : ∀ (r : List Nat) (i : Nat), a ≤ i → i < b → (Ch Q (orS P.t R.t) i r ↔ Ch Q P.t i r) := by
    intro r
    induction r with
    | nil =>
      intro i h1 h2
      have hn : bt R.t i = false := by
        cases h : bt R.t i
        · rfl
        · have := hr.t i h; omega
      show bt (orS P.t R.t) i = true ↔ bt P.t i = true
      rw [bt_or, hn, Bool.or_false]
    | cons j r ih =>
      intro i h1 h2
      constructor
      · rintro ⟨h3, h4⟩; have h5 := hp.n i j h1 h2 h3; exact ⟨h3, (ih j h5.1 h5.2).1 h4⟩
      · rintro ⟨h3, h4⟩; have h5 := hp.n i j h1 h2 h3; exact ⟨h3, (ih j h5.1 h5.2).2 h4⟩
  have hch2 : ∀ (r : List Nat) (i : Nat), b ≤ i → i < c → (Ch Q (orS P.t R.t) i r ↔ Ch Q R.t i r) := by
    intro r
    induction r with
    | nil =>
      intro i h1 h2
      have hn : bt P.t i = false := by
        cases h : bt P.t i
        · rfl
        · have := hp.t i h; omega
      show bt (orS P.t R.t) i = true ↔ bt R.t i = true
      rw [bt_or, hn, Bool.false_or]
    | cons j r ih =>
      intro i h1 h2
      constructor
      · rintro ⟨h3, h4⟩; have h5 := hr.n i j h1 h2 h3; exact ⟨h3, (ih j h5.1 h5.2).1 h4⟩
      · rintro ⟨h3, h4⟩; have h5 := hr.n i j h1 h2 h3; exact ⟨h3, (ih j h5.1 h5.2).2 h4⟩
  cases qs with
  | nil =>
    show (P.e || R.e) = true ↔ _
    rw [Bool.or_eq_true]; rfl
  | cons j r =>
    show (bt (orS P.f R.f) j = true ∧ Ch Q (orS P.t R.t) j r) ↔ (bt P.f j = true ∧ Ch Q P.t j r) ∨ (bt R.f j = true ∧ Ch Q R.t j r)
    rw [bt_or, Bool.or_eq_true]
    constructor
    · rintro ⟨h1 | h1, h2⟩
      · have h3 := hp.f j h1; exact .inl ⟨h1, (hch1 r j h3.1 h3.2).1 h2⟩
      · have h3 := hr.f j h1; exact .inr ⟨h1, (hch2 r j h3.1 h3.2).1 h2⟩
    · rintro (⟨h1, h2⟩ | ⟨h1, h2⟩)
      · have h3 := hp.f j h1; exact ⟨.inl h1, (hch1 r j h3.1 h3.2).2 h2⟩
      · have h3 := hr.f j h1; exact ⟨.inr h1, (hch2 r j h3.1 h3.2).2 h2⟩
theorem alt_pin {Q : List Ps} {P R : Pa} {a b c : Nat} (hp : Pin Q P a b) (hr : Pin Q R b c) (hab : a ≤ b) (hbc : b ≤ c) : Pin Q (altS P R) a c where
  len := hr.len
  f := fun i h => by
    have h' : bt (orS P.f R.f) i = true := h
    rw [bt_or, Bool.or_eq_true] at h'
    rcases h' with h' | h'
    · have := hp.f i h'; omega
    · have := hr.f i h'; omega
  t := fun i h => by
    have h' : bt (orS P.t R.t) i = true := h
    rw [bt_or, Bool.or_eq_true] at h'
    rcases h' with h' | h'
    · have := hp.t i h'; omega
    · have := hr.t i h'; omega
  n := fun i j h1 h2 h3 => by
    rcases Nat.lt_or_ge i b with h | h
    · have := hp.n i j h1 h h3; omega
    · have := hr.n i j h h2 h3; omega
end

section
open Go.RowKit

mutual
/-- The classes of a tree. -/
def PT.lv : PT → Nat
  | .mk k _ l => (if k = 3 then 1 else 0) + PT.lvs l
def PT.lvs : List PT → Nat
  | [] => 0
  | v :: l => v.lv + PT.lvs l
end
theorem PT.lv_eq (v : PT) : v.lv = (if v.k = 3 then 1 else 0) + PT.lvs v.l := by cases v; rw [PT.lv]; rfl
theorem PT.lvs_nil : PT.lvs [] = 0 := by rw [PT.lvs]
theorem PT.lvs_cons (v : PT) (l : List PT) : PT.lvs (v :: l) = v.lv + PT.lvs l := by rw [PT.lvs]
theorem addT_q (ps : List Ps) (t : PT) : addT ps t = if t.k = 2 then (ps, ⟨true, 0, 0⟩) else if t.k = 3 then (ps ++ [⟨t.s, 0⟩], ⟨false, oneS ps.length, oneS ps.length⟩)
    else if t.k = 4 then catS ps ⟨true, 0, 0⟩ t.l else if t.k = 5 then altsS ps .zero t.l else if t.k = 6 then repS ps t.l else (ps, .zero) := by
  cases t; rw [addT]; rfl
theorem u0 : U6 0 := ⟨by decide, by decide⟩
theorem oneU (i : Nat) : U6 (oneS i) := by
  unfold oneS
  rw [IntKind.wrap_u64]
  exact ⟨Int.emod_nonneg _ (by decide), by have := Int.emod_lt_of_pos (2 ^ min i 64 : Int) (show (0 : Int) < 18446744073709551616 by decide); omega⟩

/-- A part over the positions from a on has these texts. -/
structure Sp (Q : List Ps) (P : Pa) (a : Nat) (X : List UInt8 → Prop) : Prop where
  uf : U6 P.f
  ut : U6 P.t
  pin : Pin Q P a Q.length
  lang : ∀ u, X u ↔ ∃ qs, Ac Q P qs ∧ Rd Q qs u
/-- What adding a tree does. -/
def SpA (Q : List Ps) (t : PT) : Prop := (addT Q t).1.length ≤ Q.length + t.lv ∧ Q.length ≤ (addT Q t).1.length ∧ Agr Q (addT Q t).1 0 Q.length ∧ Sp (addT Q t).1 (addT Q t).2 Q.length (Lg t)
theorem Agr.same {Q Q' : List Ps} {a b : Nat} (h : Agr Q Q' a b) : SameS Q Q' a b := fun i h1 h2 => by rw [h i h1 h2]
theorem lang_iff {Q Q' : List Ps} {P P' : Pa} {a b : Nat} (hp : Pin Q P a b) (hs : SameS Q Q' a b) (hac : ∀ qs, Ac Q' P' qs ↔ Ac Q P qs) (u : List UInt8) : (∃ qs, Ac Q' P' qs ∧ Rd Q' qs u) ↔ ∃ qs, Ac Q P qs ∧ Rd Q qs u := by
  constructor
  · rintro ⟨qs, h1, h2⟩
    have h3 := (hac qs).1 h1
    exact ⟨qs, h3, (Rd.same hs qs u (Ac.mem hp qs h3)).1 h2⟩
  · rintro ⟨qs, h1, h2⟩
    exact ⟨qs, (hac qs).2 h1, (Rd.same hs qs u (Ac.mem hp qs h1)).2 h2⟩
theorem none_lang (Q : List Ps) (e : Bool) (u : List UInt8) : (∃ qs, Ac Q ⟨e, 0, 0⟩ qs ∧ Rd Q qs u) ↔ e = true ∧ u = [] := by
  constructor
  · rintro ⟨qs, h1, h2⟩
    cases qs with
    | nil => exact ⟨h1, h2⟩
    | cons j r => have := h1.1; rw [bt_zero] at this; cases this
  · rintro ⟨h1, h2⟩
    exact ⟨[], h1, h2⟩
theorem none_pin (Q : List Ps) (e : Bool) (a : Nat) (ha : Q.length ≤ a) : Pin Q ⟨e, 0, 0⟩ a Q.length where
  len := Nat.le_refl _
  f := fun i h => by rw [bt_zero] at h; cases h
  t := fun i h => by rw [bt_zero] at h; cases h
  n := fun i j h1 h2 _ => by omega
theorem Agr.refl (Q : List Ps) (a b : Nat) : Agr Q Q a b := fun _ _ _ => rfl
theorem Agr.trans {Q Q' Q'' : List Ps} {a b : Nat} (h : Agr Q Q' a b) (h' : Agr Q' Q'' a b) : Agr Q Q'' a b := fun i h1 h2 => (h' i h1 h2).trans (h i h1 h2)
theorem Agr.sub {Q Q' : List Ps} {a b c d : Nat} (h : Agr Q Q' a b) (h1 : a ≤ c) (h2 : d ≤ b) : Agr Q Q' c d := fun i h3 h4 => h i (by omega) (by omega)

theorem cat_spec : ∀ (l : List PT), (∀ x, x ∈ l → ∀ Q : List Ps, Q.length + x.lv ≤ 64 → SpA Q x) → ∀ (Q : List Ps) (P : Pa) (a : Nat) (X : List UInt8 → Prop), a ≤ Q.length → Sp Q P a X → Q.length + PT.lvs l ≤ 64 →
    (catS Q P l).1.length ≤ Q.length + PT.lvs l ∧ Q.length ≤ (catS Q P l).1.length ∧ Agr Q (catS Q P l).1 0 a ∧ Sp (catS Q P l).1 (catS Q P l).2 a (fun u => ∃ x y, u = x ++ y ∧ X x ∧ LgC l y)
  | [], _, Q, P, a, X, _, hs, _ => by
    rw [catS]
    refine ⟨by show Q.length ≤ _; omega, Nat.le_refl _, Agr.refl _ _ _, hs.uf, hs.ut, hs.pin, fun u => ?_⟩
    rw [← hs.lang u]
    constructor
    · rintro ⟨x, y, e, h1, h2⟩
      rw [LgC] at h2
      rw [e, h2, List.append_nil]
      exact h1
    · intro h
      exact ⟨u, [], by simp, h, by rw [LgC]⟩
  | t :: l, hx, Q, P, a, X, ha, hs, hl => by
    rw [PT.lvs_cons] at hl
    obtain ⟨h1, h2, h3, h4⟩ := hx t (List.mem_cons_self ..) Q (by omega)
    have hag : Agr Q (addT Q t).1 a Q.length := h3.sub (Nat.zero_le _) (Nat.le_refl _)
    have hp1 : Pin (addT Q t).1 P a Q.length := hs.pin.agr hag h2
    have hlin : (joinS (addT Q t).1 P (addT Q t).2).1.length = (addT Q t).1.length := linkL_len _ _ _ _
    have hpj := join_pin hp1 h4.pin ha h2 hs.ut
    have hlj : ∀ u, (∃ x y, u = x ++ y ∧ X x ∧ Lg t y) ↔ ∃ qs, Ac (joinS (addT Q t).1 P (addT Q t).2).1 (joinS (addT Q t).1 P (addT Q t).2).2 qs ∧ Rd (joinS (addT Q t).1 P (addT Q t).2).1 qs u := fun u => by
      have hsame := link_same (s := P.t) (n := (addT Q t).2.f) hs.ut (addT Q t).1 a (addT Q t).1.length
      constructor
      · rintro ⟨x, y, e, h5, h6⟩
        obtain ⟨q1, h7, h8⟩ := (lang_iff hs.pin hag.same (Ac.agr hs.pin hag) x).2 ((hs.lang x).1 h5)
        obtain ⟨q2, h9, h10⟩ := (h4.lang y).1 h6
        have hac := (join_ac hp1 h4.pin hs.ut (q1 ++ q2)).2 ⟨q1, q2, rfl, h7, h9⟩
        refine ⟨q1 ++ q2, hac, ?_⟩
        rw [e]
        exact (Rd.same hsame _ _ (Ac.mem hpj _ hac)).2 (h8.app h10)
      · rintro ⟨qs, h5, h6⟩
        have h7 := (Rd.same hsame _ _ (Ac.mem hpj _ h5)).1 h6
        obtain ⟨x, y, e, h8, h9⟩ := (join_ac hp1 h4.pin hs.ut qs).1 h5
        subst e
        obtain ⟨u1, u2, e, h10, h11⟩ := Rd.split h7
        exact ⟨u1, u2, e, (hs.lang u1).2 ((lang_iff hs.pin hag.same (Ac.agr hs.pin hag) u1).1 ⟨x, h8, h10⟩), (h4.lang u2).2 ⟨y, h9, h11⟩⟩
    have hsj : Sp (joinS (addT Q t).1 P (addT Q t).2).1 (joinS (addT Q t).1 P (addT Q t).2).2 a (fun u => ∃ x y, u = x ++ y ∧ X x ∧ Lg t y) := {
      uf := by show U6 (if P.e = true then orS P.f (addT Q t).2.f else P.f); split; exact or_u _ _; exact hs.uf
      ut := by show U6 (if (addT Q t).2.e = true then orS (addT Q t).2.t P.t else (addT Q t).2.t); split; exact or_u _ _; exact h4.ut
      pin := by rw [hlin]; exact hpj
      lang := hlj }
    obtain ⟨k1, k2, k3, k4⟩ := cat_spec l (fun x hm => hx x (List.mem_cons_of_mem _ hm)) (joinS (addT Q t).1 P (addT Q t).2).1 (joinS (addT Q t).1 P (addT Q t).2).2 a _ (by rw [hlin]; omega) hsj (by rw [hlin]; omega)
    rw [hlin] at k1 k2
    have hlow : Agr (addT Q t).1 (joinS (addT Q t).1 P (addT Q t).2).1 0 a := link_agr hs.ut _ 0 a (fun i h h' => by have := hp1.t i h; omega)
    rw [catS, PT.lvs_cons]
    refine ⟨by show (catS _ _ l).1.length ≤ _; omega, by show _ ≤ (catS _ _ l).1.length; omega, ((h3.sub (Nat.le_refl _) ha).trans hlow).trans k3, k4.uf, k4.ut, k4.pin, fun u => ?_⟩
    show _ ↔ ∃ qs, Ac (catS (joinS (addT Q t).1 P (addT Q t).2).1 (joinS (addT Q t).1 P (addT Q t).2).2 l).1 (catS (joinS (addT Q t).1 P (addT Q t).2).1 (joinS (addT Q t).1 P (addT Q t).2).2 l).2 qs ∧ Rd (catS (joinS (addT Q t).1 P (addT Q t).2).1 (joinS (addT Q t).1 P (addT Q t).2).2 l).1 qs u
    rw [← k4.lang u]
    constructor
    · rintro ⟨x, y, e, h5, h6⟩
      rw [LgC] at h6
      obtain ⟨y1, y2, e2, h7, h8⟩ := h6
      exact ⟨x ++ y1, y2, by rw [e, e2, List.append_assoc], ⟨x, y1, rfl, h5, h7⟩, h8⟩
    · rintro ⟨x, y, e, ⟨x1, x2, e2, h5, h6⟩, h7⟩
      refine ⟨x1, x2 ++ y, by rw [e, e2, List.append_assoc], h5, ?_⟩
      rw [LgC]
      exact ⟨x2, y, rfl, h6, h7⟩
theorem alts_spec : ∀ (l : List PT), (∀ x, x ∈ l → ∀ Q : List Ps, Q.length + x.lv ≤ 64 → SpA Q x) → ∀ (Q : List Ps) (P : Pa) (a : Nat) (X : List UInt8 → Prop), a ≤ Q.length → Sp Q P a X → Q.length + PT.lvs l ≤ 64 →
    (altsS Q P l).1.length ≤ Q.length + PT.lvs l ∧ Q.length ≤ (altsS Q P l).1.length ∧ Agr Q (altsS Q P l).1 0 a ∧ Sp (altsS Q P l).1 (altsS Q P l).2 a (fun u => X u ∨ LgA l u)
  | [], _, Q, P, a, X, _, hs, _ => by
    rw [altsS]
    refine ⟨by show Q.length ≤ _; omega, Nat.le_refl _, Agr.refl _ _ _, hs.uf, hs.ut, hs.pin, fun u => ?_⟩
    rw [← hs.lang u, LgA, or_false]
  | t :: l, hx, Q, P, a, X, ha, hs, hl => by
    rw [PT.lvs_cons] at hl
    obtain ⟨h1, h2, h3, h4⟩ := hx t (List.mem_cons_self ..) Q (by omega)
    have hag : Agr Q (addT Q t).1 a Q.length := h3.sub (Nat.zero_le _) (Nat.le_refl _)
    have hp1 : Pin (addT Q t).1 P a Q.length := hs.pin.agr hag h2
    have hsj : Sp (addT Q t).1 (altS P (addT Q t).2) a (fun u => X u ∨ Lg t u) := {
      uf := or_u _ _
      ut := or_u _ _
      pin := alt_pin hp1 h4.pin ha h2
      lang := fun u => by
        rw [hs.lang u, h4.lang u, ← lang_iff hs.pin hag.same (Ac.agr hs.pin hag) u]
        constructor
        · rintro (⟨q, h5, h6⟩ | ⟨q, h5, h6⟩)
          · exact ⟨q, (alt_ac hp1 h4.pin q).2 (.inl h5), h6⟩
          · exact ⟨q, (alt_ac hp1 h4.pin q).2 (.inr h5), h6⟩
        · rintro ⟨q, h5, h6⟩
          rcases (alt_ac hp1 h4.pin q).1 h5 with h5 | h5
          · exact .inl ⟨q, h5, h6⟩
          · exact .inr ⟨q, h5, h6⟩ }
    obtain ⟨k1, k2, k3, k4⟩ := alts_spec l (fun x hm => hx x (List.mem_cons_of_mem _ hm)) (addT Q t).1 (altS P (addT Q t).2) a _ (by omega) hsj (by omega)
    rw [altsS, PT.lvs_cons]
    refine ⟨by show (altsS _ _ l).1.length ≤ _; omega, by show _ ≤ (altsS _ _ l).1.length; omega, (h3.sub (Nat.le_refl _) ha).trans k3, k4.uf, k4.ut, k4.pin, fun u => ?_⟩
    show _ ↔ ∃ qs, Ac (altsS (addT Q t).1 (altS P (addT Q t).2) l).1 (altsS (addT Q t).1 (altS P (addT Q t).2) l).2 qs ∧ Rd (altsS (addT Q t).1 (altS P (addT Q t).2) l).1 qs u
    rw [← k4.lang u, LgA, or_assoc]
theorem star_split {Q : List Ps} {P : Pa} {a b : Nat} (_hp : Pin Q P a b) {X : List UInt8 → Prop} (hX : ∀ u, X u ↔ ∃ qs, Ac Q P qs ∧ Rd Q qs u) (u : List UInt8) : Star X u ↔ ∃ qs, Star (Ac Q P) qs ∧ Rd Q qs u := by
  constructor
  · intro h
    induction h with
    | nil => exact ⟨[], .nil, rfl⟩
    | cons x y hx _ ih =>
      obtain ⟨q1, h1, h2⟩ := (hX x).1 hx
      obtain ⟨q2, h3, h4⟩ := ih
      exact ⟨q1 ++ q2, .cons q1 q2 h1 h3, h2.app h4⟩
  · rintro ⟨qs, h1, h2⟩
    induction h1 generalizing u with
    | nil => rw [show u = [] from h2]; exact .nil
    | cons x y hx _ ih =>
      obtain ⟨u1, u2, e, h3, h4⟩ := Rd.split h2
      rw [e]
      exact .cons u1 u2 ((hX u1).2 ⟨x, hx, h3⟩) (ih u2 h4)
theorem add_spec (t : PT) : ∀ Q : List Ps, Q.length + t.lv ≤ 64 → SpA Q t := by
  induction t using PT.ind with
  | h t ih =>
  intro Q hl
  unfold SpA
  rw [PT.lv_eq] at hl ⊢
  have hlg := Lg_eq t
  have hq := addT_q Q t
  by_cases h2 : t.k = 2
  · rw [if_pos h2] at hq
    rw [hq]
    refine ⟨by show Q.length ≤ _; omega, Nat.le_refl _, Agr.refl _ _ _, u0, u0, none_pin Q true Q.length (Nat.le_refl _), fun u => ?_⟩
    rw [hlg u, none_lang, h2]
    simp
  rw [if_neg h2] at hq
  by_cases h3 : t.k = 3
  · rw [if_pos h3] at hq hl
    rw [hq, if_pos h3]
    have hlen : (Q ++ [(⟨t.s, 0⟩ : Ps)]).length = Q.length + 1 := by simp
    have hat : (Q ++ [(⟨t.s, 0⟩ : Ps)])[Q.length]? = some ⟨t.s, 0⟩ := by simp
    have hone : ∀ i, bt (oneS Q.length) i = true ↔ i = Q.length := fun i => by
      rw [bt_one, decide_eq_true_iff]
      omega
    refine ⟨by show (Q ++ [_]).length ≤ _; rw [hlen]; omega, by show _ ≤ (Q ++ [_]).length; rw [hlen]; omega, fun i _ h => List.getElem?_append_left h, oneU _, oneU _, ⟨Nat.le_refl _, ?_, ?_, ?_⟩, fun u => ?_⟩
    · intro i h
      have := (hone i).1 h
      show _ ∧ i < (Q ++ [_]).length
      rw [hlen]; omega
    · intro i h
      have := (hone i).1 h
      show _ ∧ i < (Q ++ [_]).length
      rw [hlen]; omega
    · intro i j h4 h5 ⟨p, h6, h7⟩
      have h5' : i < Q.length + 1 := by rw [← hlen]; exact h5
      obtain rfl : i = Q.length := by omega
      rw [hat] at h6
      cases h6
      rw [bt_zero] at h7
      cases h7
    · rw [hlg u, h3]
      constructor
      · rintro (⟨h, _⟩ | ⟨_, c, e, hc⟩ | ⟨h, _⟩ | ⟨h, _⟩ | ⟨h, _⟩) <;> first | (cases h; done) | skip
        exact ⟨[Q.length], ⟨(hone _).2 rfl, (hone _).2 rfl⟩, c, [], e, ⟨_, hat, hc⟩, rfl⟩
      · rintro ⟨qs, h4, h5⟩
        cases qs with
        | nil => cases h4
        | cons j r =>
          obtain rfl := (hone j).1 h4.1
          cases r with
          | cons k r =>
            obtain ⟨p, h6, h7⟩ := h4.2.1
            rw [hat] at h6
            cases h6
            rw [bt_zero] at h7
            cases h7
          | nil =>
            obtain ⟨c, v, e, ⟨p, h6, h7⟩, h8⟩ := h5
            rw [hat] at h6
            cases h6
            refine .inr (.inl ⟨rfl, c, ?_, h7⟩)
            rw [e, show v = [] from h8]
  rw [if_neg h3] at hq hl ⊢
  rw [Nat.zero_add] at hl ⊢
  by_cases h4 : t.k = 4
  · rw [if_pos h4] at hq
    rw [hq]
    obtain ⟨k1, k2, k3, k4⟩ := cat_spec t.l ih Q ⟨true, 0, 0⟩ Q.length (fun u => u = []) (Nat.le_refl _) ⟨u0, u0, none_pin Q true Q.length (Nat.le_refl _), fun u => by rw [none_lang]; simp⟩ hl
    refine ⟨k1, k2, k3, k4.uf, k4.ut, k4.pin, fun u => ?_⟩
    rw [← k4.lang u, hlg u, h4]
    constructor
    · intro h
      simp at h
      exact ⟨[], u, rfl, rfl, h⟩
    · rintro ⟨x, y, e, rfl, h⟩
      simp
      rw [e]
      exact h
  rw [if_neg h4] at hq
  by_cases h5 : t.k = 5
  · rw [if_pos h5] at hq
    rw [hq]
    obtain ⟨k1, k2, k3, k4⟩ := alts_spec t.l ih Q .zero Q.length (fun _ => False) (Nat.le_refl _) ⟨u0, u0, none_pin Q false Q.length (Nat.le_refl _), fun u => by unfold Pa.zero; rw [none_lang]; simp⟩ hl
    refine ⟨k1, k2, k3, k4.uf, k4.ut, k4.pin, fun u => ?_⟩
    rw [← k4.lang u, hlg u, h5]
    simp
  rw [if_neg h5] at hq
  have hzero : ∀ u, (¬ ∃ qs, Ac Q Pa.zero qs ∧ Rd Q qs u) := fun u h => by
    unfold Pa.zero at h
    rw [none_lang] at h
    cases h.1
  by_cases h6 : t.k = 6
  · rw [if_pos h6] at hq
    rw [hq]
    cases hl0 : t.l with
    | nil =>
      rw [repS]
      refine ⟨by show Q.length ≤ _; omega, Nat.le_refl _, Agr.refl _ _ _, u0, u0, none_pin Q false Q.length (Nat.le_refl _), fun u => ?_⟩
      rw [hlg u, h6, hl0]
      constructor
      · intro h; simp [LgR] at h
      · intro h; exact absurd h (hzero u)
    | cons x r =>
      rw [hl0, PT.lvs_cons] at hl
      obtain ⟨k1, k2, k3, k4⟩ := ih x (by rw [hl0]; exact List.mem_cons_self ..) Q (by omega)
      have hlin : (linkL (addT Q x).2.t (addT Q x).2.f 0 (addT Q x).1).length = (addT Q x).1.length := linkL_len _ _ _ _
      rw [repS, PT.lvs_cons]
      refine ⟨by show (linkL _ _ _ _).length ≤ _; rw [hlin]; omega, by show _ ≤ (linkL _ _ _ _).length; rw [hlin]; exact k2, k3.trans (link_agr k4.ut _ _ _ (fun i h h' => by have := k4.pin.t i h; omega)), k4.uf, k4.ut, ?_, fun u => ?_⟩
      · show Pin (linkL _ _ _ _) _ _ (linkL _ _ _ _).length
        rw [hlin]
        exact rep_pin k4.pin k4.ut
      · rw [hlg u, h6, hl0]
        have hs := star_split k4.pin k4.lang u
        constructor
        · intro h
          simp [LgR] at h
          obtain ⟨qs, h7, h8⟩ := hs.1 h
          have hac := (rep_ac k4.pin k4.ut qs).2 h7
          exact ⟨qs, hac, (Rd.same (link_same k4.ut (addT Q x).1 Q.length (addT Q x).1.length) qs u (Ac.mem (rep_pin k4.pin k4.ut) qs hac)).2 h8⟩
        · rintro ⟨qs, h7, h8⟩
          have h9 := (Rd.same (link_same k4.ut (addT Q x).1 Q.length (addT Q x).1.length) qs u (Ac.mem (rep_pin k4.pin k4.ut) qs h7)).1 h8
          simp [LgR]
          exact hs.2 ⟨qs, (rep_ac k4.pin k4.ut qs).1 h7, h9⟩
  · rw [if_neg h6] at hq
    rw [hq]
    refine ⟨by show Q.length ≤ _; omega, Nat.le_refl _, Agr.refl _ _ _, u0, u0, none_pin Q false Q.length (Nat.le_refl _), fun u => ?_⟩
    rw [hlg u]
    constructor
    · rintro (⟨h, _⟩ | ⟨h, _⟩ | ⟨h, _⟩ | ⟨h, _⟩ | ⟨h, _⟩)
      · exact absurd h h2
      · exact absurd h h3
      · exact absurd h h4
      · exact absurd h h5
      · exact absurd h h6
    · intro h; exact absurd h (hzero u)

/-- What the states say of runs. -/
theorem fwd_path (ps : List Ps) (last : Int) : ∀ (L : List UInt8) (x : Int), U6 x → (bits BinOp.and IntKind.u64 (fwdL ps L x) last ≠ 0 ↔ ∃ i, bt x i = true ∧ ∃ qs, Ch ps last i qs ∧ Rd ps qs L ∧ ∀ j ∈ qs, j < 64)
  | [], x, _ => by
    rw [fwdL, and_ne]
    constructor
    · rintro ⟨i, h1, h2⟩; exact ⟨i, h1, [], h2, rfl, fun _ h => by cases h⟩
    · rintro ⟨i, h1, qs, h2, h3, _⟩
      cases qs with
      | nil => exact ⟨i, h1, h2⟩
      | cons j r => obtain ⟨c, v, e, _⟩ := h3; cases e
  | c :: r, x, h => by
    rw [fwdL, fwd_path ps last r _ (and_u _ _)]
    constructor
    · rintro ⟨j, h1, qs, h2, h3, h9⟩
      rw [bt_and, Bool.and_eq_true] at h1
      rcases (after_bt h j ps 0 0).1 h1.1 with h4 | ⟨k, p, h4, h5, h6⟩
      · rw [bt_zero] at h4; cases h4
      · obtain ⟨p', h7, h8, hj⟩ := (reads_bt c.toNat ps j).1 h1.2
        rw [Nat.zero_add] at h5
        refine ⟨k, h5, j :: qs, ⟨⟨p, h4, h6⟩, h2⟩, ⟨c, r, rfl, ⟨p', h7, h8⟩, h3⟩, fun q hq => ?_⟩
        rcases List.mem_cons.1 hq with rfl | hq
        · exact hj
        · exact h9 q hq
    · rintro ⟨k, h1, qs, h2, h3, h9⟩
      cases qs with
      | nil => cases h3
      | cons j qs =>
        obtain ⟨c', v, e, ⟨p', h7, h8⟩, h4⟩ := h3
        cases e
        obtain ⟨⟨p, h5, h6⟩, h2⟩ := h2
        have hj := h9 j (List.mem_cons_self ..)
        refine ⟨j, ?_, qs, h2, h4, fun q hq => h9 q (List.mem_cons_of_mem _ hq)⟩
        rw [bt_and, Bool.and_eq_true]
        exact ⟨(after_bt h j ps 0 0).2 (.inr ⟨k, p, h5, by rw [Nat.zero_add]; exact h1, h6⟩), (reads_bt c.toNat ps j).2 ⟨p', h7, h8, hj⟩⟩
theorem bt_1 (i : Nat) : bt 1 i = true ↔ i = 0 := by
  have : (1 : Int) = oneS 0 := by unfold oneS; rw [IntKind.wrap_u64]; decide
  rw [this, bt_one, decide_eq_true_iff]
  omega
theorem build_acc (t : PT) (hl : 1 + t.lv ≤ 64) (L : List UInt8) : accT (buildT t).1 (buildT t).2 L = true ↔ Lg t L := by
  obtain ⟨k1, k2, k3, k4⟩ := add_spec t [⟨.zero, 0⟩] (by simpa using hl)
  obtain ⟨r, hr⟩ : ∃ r, r = addT [⟨.zero, 0⟩] t := ⟨_, rfl⟩
  rw [← hr] at k1 k2 k3 k4
  have hb : buildT t = (r.1.set 0 ⟨(((r.1[0]?).getD (Ps.mk S4.zero 0)).s), r.2.f⟩, if r.2.e = true then orS r.2.t 1 else r.2.t) := by rw [hr]; rfl
  obtain ⟨Q', hQ⟩ : ∃ Q', Q' = r.1.set 0 ⟨(((r.1[0]?).getD (Ps.mk S4.zero 0)).s), r.2.f⟩ := ⟨_, rfl⟩
  obtain ⟨la, hla⟩ : ∃ la, la = if r.2.e = true then orS r.2.t 1 else r.2.t := ⟨_, rfl⟩
  rw [hb, ← hQ, ← hla]
  have k1' : r.1.length ≤ 64 := by simp at k1; omega
  have k2' : 1 ≤ r.1.length := by simpa using k2
  have hpin : Pin r.1 r.2 1 r.1.length := k4.pin
  have hag : Agr r.1 Q' 1 r.1.length := fun i h1 _ => by rw [hQ, List.getElem?_set_ne (by omega)]
  have h0 : Q'[0]? = some ⟨(((r.1[0]?).getD (Ps.mk S4.zero 0)).s), r.2.f⟩ := by rw [hQ, List.getElem?_set_self (by omega)]
  have hlast : ∀ i, 1 ≤ i → (bt la i = true ↔ bt r.2.t i = true) := fun i hi => by
    have hn : bt 1 i = false := by
      cases h : bt 1 i
      · rfl
      · have := (bt_1 i).1 h; omega
    rw [hla]
    split
    · rw [bt_or, hn, Bool.or_false]
    · exact Iff.rfl
  have hlast0 : bt la 0 = true ↔ r.2.e = true := by
    have hn : bt r.2.t 0 = false := by
      cases h : bt r.2.t 0
      · rfl
      · have := hpin.t 0 h; omega
    rw [hla]
    cases he : r.2.e
    · simp [hn]
    · simp [bt_or, (bt_1 0).2 rfl]
  have hch : ∀ (q : List Nat) (i : Nat), 1 ≤ i → i < r.1.length → (Ch Q' la i q ↔ Ch r.1 r.2.t i q) := by
    intro q
    induction q with
    | nil => intro i h1 _; exact hlast i h1
    | cons j q ih =>
      intro i h1 h2
      have e : nx Q' i j ↔ nx r.1 i j := by unfold nx; rw [hag i h1 h2]
      constructor
      · rintro ⟨h3, h4⟩; have h5 := hpin.n i j h1 h2 (e.1 h3); exact ⟨e.1 h3, (ih j h5.1 h5.2).1 h4⟩
      · rintro ⟨h3, h4⟩; have h5 := hpin.n i j h1 h2 h3; exact ⟨e.2 h3, (ih j h5.1 h5.2).2 h4⟩
  unfold accT
  rw [decide_eq_true_iff, fwd_path Q' la L 1 one_u, k4.lang L]
  constructor
  · rintro ⟨i, h1, qs, h2, h3, _⟩
    obtain rfl := (bt_1 i).1 h1
    have hac : Ac r.1 r.2 qs := by
      cases qs with
      | nil => exact hlast0.1 h2
      | cons j q =>
        obtain ⟨⟨p, h4, h5⟩, h6⟩ := h2
        rw [h0] at h4
        cases h4
        have h7 := hpin.f j h5
        exact ⟨h5, (hch q j h7.1 h7.2).1 h6⟩
    exact ⟨qs, hac, (Rd.same hag.same qs L (Ac.mem hpin qs hac)).1 h3⟩
  · rintro ⟨qs, h1, h2⟩
    have hm := Ac.mem hpin qs h1
    refine ⟨0, (bt_1 0).2 rfl, qs, ?_, (Rd.same hag.same qs L hm).2 h2, fun j hj => by have := hm j hj; omega⟩
    cases qs with
    | nil => exact hlast0.2 h1
    | cons j q =>
      have h7 := hpin.f j h1.1
      exact ⟨⟨_, h0, h1.1⟩, (hch q j h7.1 h7.2).2 h1.2⟩
end

section
open Go.RowKit

/-- A part of a text. -/
def sub (L : List UInt8) (i j : Nat) : List UInt8 := (L.drop i).take (j - i)
theorem sub_self (L : List UInt8) (i : Nat) : sub L i i = [] := by unfold sub; rw [Nat.sub_self, List.take_zero]
theorem sub_len {L : List UInt8} {i j : Nat} (hij : i ≤ j) (hj : j ≤ L.length) : (sub L i j).length = j - i := by unfold sub; rw [List.length_take, List.length_drop]; omega
theorem sub_add {L : List UInt8} {i j k : Nat} (h1 : i ≤ j) (h2 : j ≤ k) : sub L i k = sub L i j ++ sub L j k := by
  unfold sub
  rw [show k - i = (j - i) + (k - j) by omega, List.take_add, List.drop_drop, show i + (j - i) = j by omega]
theorem sub_split {L : List UInt8} {i j : Nat} {x y : List UInt8} (hij : i ≤ j) (hj : j ≤ L.length) (h : sub L i j = x ++ y) : ∃ k, i ≤ k ∧ k ≤ j ∧ x = sub L i k ∧ y = sub L k j := by
  have hl := sub_len hij hj
  rw [h, List.length_append] at hl
  have h2 := sub_add (L := L) (i := i) (j := i + x.length) (k := j) (by omega) (by omega)
  rw [h] at h2
  have h3 : x.length = (sub L i (i + x.length)).length := by rw [sub_len (by omega) (by omega)]; omega
  obtain ⟨h4, h5⟩ := List.append_inj h2 h3
  exact ⟨i + x.length, by omega, by omega, h4, h5⟩
theorem sub_one {L : List UInt8} {i j : Nat} {c : UInt8} (hij : i ≤ j) (hj : j ≤ L.length) : sub L i j = [c] ↔ j = i + 1 ∧ L[i]? = some c := by
  constructor
  · intro h
    have hl := sub_len hij hj
    rw [h] at hl
    have e : j = i + 1 := by simp at hl; omega
    subst e
    refine ⟨rfl, ?_⟩
    unfold sub at h
    have h1 : ((L.drop i).take (i + 1 - i))[0]? = some c := by rw [h]; rfl
    rw [List.getElem?_take] at h1
    simpa using h1
  · rintro ⟨rfl, h⟩
    unfold sub
    have hi : i < L.length := by omega
    rw [List.drop_eq_getElem_cons hi, show i + 1 - i = 1 by omega]
    rw [List.getElem?_eq_getElem hi] at h
    rw [Option.some.inj h]
    rfl
theorem sub_nil {L : List UInt8} {i j : Nat} (hij : i ≤ j) (hj : j ≤ L.length) (h : sub L i j = []) : i = j := by
  have := sub_len hij hj
  rw [h] at this
  simp at this
  omega
theorem star_snoc {P : List UInt8 → Prop} {x y : List UInt8} (h : Star P x) (hy : P y) : Star P (x ++ y) := by
  induction h with
  | nil => have := Star.cons y [] hy .nil; rwa [List.append_nil] at this
  | cons u v hu _ ih => rw [List.append_assoc]; exact .cons u (v ++ y) hu ih

/-- A row has the ends of the parts with a property that begin at the places of another row. -/
def Ends (L : List UInt8) (F Y : List Bool) (X : List UInt8 → Prop) : Prop := ∀ j, Y[j]? = some true ↔ ∃ i, i ≤ j ∧ j ≤ L.length ∧ F[i]? = some true ∧ X (sub L i j)
theorem orL_at {X Y : List Bool} (h : Y.length = X.length) (j : Nat) : (orL X Y)[j]? = some true ↔ X[j]? = some true ∨ Y[j]? = some true := by
  unfold orL
  rw [List.getElem?_zipWith]
  rcases Nat.lt_or_ge j X.length with hj | hj
  · rw [List.getElem?_eq_getElem hj, List.getElem?_eq_getElem (show j < Y.length by omega)]
    simp
  · rw [List.getElem?_eq_none hj, List.getElem?_eq_none (show Y.length ≤ j by omega)]
    simp
theorem new_false : ∀ {X Y : List Bool}, Y.length = X.length → anyNew X Y = false → ∀ j : Nat, Y[j]? = some true → X[j]? = some true
  | [], [], _, _, j, h => by simp at h
  | [], _ :: _, h, _, _, _ => by simp at h
  | _ :: _, [], h, _, _, _ => by simp at h
  | a :: X, b :: Y, hl, h, j, hj => by
    unfold anyNew at h
    simp only [List.zipWith_cons_cons, List.any_cons, Bool.or_eq_false_iff, id] at h
    cases j with
    | zero =>
      simp at hj ⊢
      subst hj
      simpa using h.1
    | succ j => exact new_false (by simpa using hl) h.2 j (by simpa using hj)
theorem or_same {X Y : List Bool} (h : Y.length = X.length) (hn : anyNew X Y = false) : orL X Y = X := by
  apply List.ext_getElem (orL_len h)
  intro j h1 h2
  have h3 := orL_at h j
  have h4 := new_false h hn j
  rw [List.getElem?_eq_getElem h1] at h3
  rw [List.getElem?_eq_getElem h2] at h3 h4
  cases hx : (orL X Y)[j] <;> cases hy : X[j] <;> simp_all
theorem rep_ends {L : List UInt8} {f : List Bool → List Bool} {P : List UInt8 → Prop} (hlen : ∀ Z : List Bool, Z.length = L.length + 1 → (f Z).length = L.length + 1) (hf : ∀ Z : List Bool, Z.length = L.length + 1 → Ends L Z (f Z) P) (F : List Bool) (_hFl : F.length = L.length + 1) :
    ∀ (g : Nat) (X : List Bool), X.length = L.length + 1 → cntF X < g → (∀ j : Nat, F[j]? = some true → X[j]? = some true) → (∀ j : Nat, X[j]? = some true → ∃ i, i ≤ j ∧ j ≤ L.length ∧ F[i]? = some true ∧ Star P (sub L i j)) →
    Ends L F (repR f g X) (Star P) := by
  intro g
  induction g with
  | zero => intro X _ h; omega
  | succ g ih =>
    intro X hX hc hFX hXR
    have hY : (f X).length = X.length := by rw [hlen X hX, hX]
    have hstep : ∀ j : Nat, (orL X (f X))[j]? = some true → ∃ i, i ≤ j ∧ j ≤ L.length ∧ F[i]? = some true ∧ Star P (sub L i j) := fun j h => by
      rcases (orL_at hY j).1 h with h | h
      · exact hXR j h
      · obtain ⟨k, h1, h2, h3, h4⟩ := (hf X hX j).1 h
        obtain ⟨i, h5, h6, h7, h8⟩ := hXR k h3
        exact ⟨i, by omega, h2, h7, by rw [sub_add h5 h1]; exact star_snoc h8 h4⟩
    rw [repR]
    split
    · rename_i hn
      exact ih _ (by rw [orL_len hY, hX]) (by have := cnt_orL X (f X) hY hn; omega) (fun j h => (orL_at hY j).2 (.inl (hFX j h))) hstep
    · rename_i hn
      rw [Bool.not_eq_true] at hn
      rw [or_same hY hn]
      intro j
      constructor
      · exact hXR j
      · rintro ⟨i, h1, h2, h3, h4⟩
        obtain ⟨u, hu⟩ : ∃ u, u = sub L i j := ⟨_, rfl⟩
        rw [← hu] at h4
        have key : ∀ u, Star P u → ∀ i : Nat, X[i]? = some true → i ≤ j → u = sub L i j → X[j]? = some true := by
          intro u hs
          induction hs with
          | nil => intro i h5 h6 h7; rw [← sub_nil h6 h2 h7.symm]; exact h5
          | cons x y hx _ ihs =>
            intro i h5 h6 h7
            obtain ⟨k, h8, h9, h10, h11⟩ := sub_split h6 h2 h7.symm
            have hk : X[k]? = some true := new_false hY hn k ((hf X hX k).2 ⟨i, h8, by omega, h5, by rw [← h10]; exact hx⟩)
            exact ihs k hk h9 h11
        exact key u h4 i (hFX i h3) h1 hu
theorem cat_ends {L : List UInt8} : ∀ (l : List PT), (∀ x, x ∈ l → ∀ F : List Bool, F.length = L.length + 1 → Ends L F (endsT L x F) (Lg x)) → ∀ F : List Bool, F.length = L.length + 1 → Ends L F (catE L l F) (LgC l)
  | [], _, F, hF, j => by
    rw [catE, LgC]
    constructor
    · intro h
      have hj : j < F.length := (List.getElem?_eq_some_iff.1 h).1
      exact ⟨j, Nat.le_refl _, by omega, h, sub_self _ _⟩
    · rintro ⟨i, h1, h2, h3, h4⟩
      rw [← sub_nil h1 h2 h4]
      exact h3
  | t :: l, hx, F, hF, j => by
    rw [catE, LgC]
    have h1 := hx t (List.mem_cons_self ..) F hF
    have hl := endsT_len L t F hF
    rw [cat_ends l (fun x hm => hx x (List.mem_cons_of_mem _ hm)) (endsT L t F) hl j]
    constructor
    · rintro ⟨k, h2, h3, h4, h5⟩
      obtain ⟨i, h6, h7, h8, h9⟩ := (h1 k).1 h4
      exact ⟨i, by omega, h3, h8, _, _, sub_add h6 h2, h9, h5⟩
    · rintro ⟨i, h2, h3, h4, x, y, e, h5, h6⟩
      obtain ⟨k, h7, h8, h9, h10⟩ := sub_split h2 h3 e
      exact ⟨k, h8, h3, (h1 k).2 ⟨i, h7, by omega, h4, by rw [← h9]; exact h5⟩, by rw [← h10]; exact h6⟩
theorem alt_ends {L : List UInt8} : ∀ (l : List PT), (∀ x, x ∈ l → ∀ F : List Bool, F.length = L.length + 1 → Ends L F (endsT L x F) (Lg x)) → ∀ F O : List Bool, F.length = L.length + 1 → O.length = L.length + 1 → ∀ j, (altE L l F O)[j]? = some true ↔ O[j]? = some true ∨ ∃ i, i ≤ j ∧ j ≤ L.length ∧ F[i]? = some true ∧ LgA l (sub L i j)
  | [], _, F, O, _, _, j => by
    rw [altE, LgA]
    simp
  | t :: l, hx, F, O, hF, hO, j => by
    rw [altE, LgA]
    have h1 := hx t (List.mem_cons_self ..) F hF
    have hl := endsT_len L t F hF
    have hY : (endsT L t F).length = O.length := by rw [hl, hO]
    rw [alt_ends l (fun x hm => hx x (List.mem_cons_of_mem _ hm)) F (orL O (endsT L t F)) hF (by rw [orL_len hY, hO]) j, orL_at hY, h1 j]
    constructor
    · rintro ((h | ⟨i, h2, h3, h4, h5⟩) | ⟨i, h2, h3, h4, h5⟩)
      · exact .inl h
      · exact .inr ⟨i, h2, h3, h4, .inl h5⟩
      · exact .inr ⟨i, h2, h3, h4, .inr h5⟩
    · rintro (h | ⟨i, h2, h3, h4, h5 | h5⟩)
      · exact .inl (.inl h)
      · exact .inl (.inr ⟨i, h2, h3, h4, h5⟩)
      · exact .inr ⟨i, h2, h3, h4, h5⟩
theorem cls_at (s : S4) : ∀ (L : List UInt8) (F : List Bool) (j : Nat), F.length = L.length + 1 → ((clsE s L F)[j]? = some true ↔ ∃ c, L[j]? = some c ∧ F[j]? = some true ∧ s.has c.toNat = true)
  | [], _, j, _ => by rw [clsE]; simp; simp
  | _ :: _, [], _, h => by simp at h
  | c :: r, b :: F, 0, _ => by rw [clsE]; simp
  | c :: r, b :: F, j + 1, h => by
    rw [clsE]
    simp only [List.getElem?_cons_succ]
    exact cls_at s r F j (by simpa using h)
theorem ends_lang (L : List UInt8) (t : PT) : t.fit = true → ∀ F : List Bool, F.length = L.length + 1 → Ends L F (endsT L t F) (Lg t) := by
  induction t using PT.ind with
  | h t ih =>
  intro hfit F hF j
  have hsub : PT.fits t.l = true := by rw [PT.fit_eq, Bool.and_eq_true] at hfit; exact hfit.2
  have IH : ∀ x, x ∈ t.l → ∀ F : List Bool, F.length = L.length + 1 → Ends L F (endsT L x F) (Lg x) := fun x hx => ih x hx (PT.fits_mem hsub hx)
  have hlg := Lg_eq t
  rw [endsT_eq]
  by_cases h2 : t.k = 2
  · rw [if_pos h2]
    constructor
    · intro h
      have hj : j < F.length := (List.getElem?_eq_some_iff.1 h).1
      exact ⟨j, Nat.le_refl _, by omega, h, (hlg _).2 (.inl ⟨h2, sub_self _ _⟩)⟩
    · rintro ⟨i, h3, h4, h5, h6⟩
      have h7 := (hlg _).1 h6
      rw [h2] at h7
      simp at h7
      rw [← sub_nil h3 h4 h7]
      exact h5
  rw [if_neg h2]
  by_cases h3 : t.k = 3
  · rw [if_pos h3]
    constructor
    · intro h
      cases j with
      | zero => simp at h
      | succ j =>
        rw [List.getElem?_cons_succ] at h
        obtain ⟨c, h4, h5, h6⟩ := (cls_at t.s L F j hF).1 h
        have hj : j < L.length := (List.getElem?_eq_some_iff.1 h4).1
        exact ⟨j, by omega, by omega, h5, (hlg _).2 (.inr (.inl ⟨h3, c, (sub_one (by omega) (by omega)).2 ⟨rfl, h4⟩, h6⟩))⟩
    · rintro ⟨i, h4, h5, h6, h7⟩
      have h8 := (hlg _).1 h7
      rw [h3] at h8
      simp at h8
      obtain ⟨c, h9, h10⟩ := h8
      obtain ⟨rfl, h11⟩ := (sub_one h4 h5).1 h9
      rw [List.getElem?_cons_succ]
      exact (cls_at t.s L F i hF).2 ⟨c, h11, h6, h10⟩
  rw [if_neg h3]
  have hgo : ∀ (K : Int) (X : List UInt8 → Prop), (∀ u, Lg t u ↔ X u) → ((∃ i, i ≤ j ∧ j ≤ L.length ∧ F[i]? = some true ∧ Lg t (sub L i j)) ↔ (∃ i, i ≤ j ∧ j ≤ L.length ∧ F[i]? = some true ∧ X (sub L i j))) := fun _ X h => by
    constructor
    · rintro ⟨i, a, b, c, d⟩; exact ⟨i, a, b, c, (h _).1 d⟩
    · rintro ⟨i, a, b, c, d⟩; exact ⟨i, a, b, c, (h _).2 d⟩
  by_cases h4 : t.k = 4
  · rw [if_pos h4, hgo 4 (LgC t.l) (fun u => by rw [hlg u, h4]; simp)]
    exact cat_ends t.l IH F hF j
  rw [if_neg h4]
  by_cases h5 : t.k = 5
  · rw [if_pos h5, hgo 5 (LgA t.l) (fun u => by rw [hlg u, h5]; simp)]
    rw [alt_ends t.l IH F _ hF (by simp) j]
    constructor
    · rintro (h | h)
      · rw [List.getElem?_replicate] at h
        split at h <;> cases h
      · exact h
    · exact .inr
  rw [if_neg h5]
  by_cases h6 : t.k = 6
  · rw [if_pos h6, hgo 6 (LgR t.l) (fun u => by rw [hlg u, h6]; simp)]
    rw [PT.fit_eq, h6] at hfit
    cases hl : t.l with
    | nil => rw [hl] at hfit; simp at hfit
    | cons x r =>
      rw [repE, LgR]
      have hx : x ∈ t.l := by rw [hl]; exact List.mem_cons_self ..
      exact rep_ends (fun Z hZ => endsT_len L x Z hZ) (IH x hx) F hF (L.length + 2) F hF (by have := List.count_le_length (a := false) (l := F); unfold cntF; omega) (fun _ h => h)
        (fun j h => ⟨j, Nat.le_refl _, by have := (List.getElem?_eq_some_iff.1 h).1; omega, h, by rw [sub_self]; exact .nil⟩) j
  · rw [if_neg h6]
    constructor
    · intro h
      rw [List.getElem?_replicate] at h
      split at h <;> cases h
    · rintro ⟨i, _, _, _, h⟩
      rcases (hlg _).1 h with ⟨h, _⟩ | ⟨h, _⟩ | ⟨h, _⟩ | ⟨h, _⟩ | ⟨h, _⟩
      · exact absurd h h2
      · exact absurd h h3
      · exact absurd h h4
      · exact absurd h h5
      · exact absurd h h6
theorem row0_ends {L : List UInt8} {Y : List Bool} {X : List UInt8 → Prop} (h : Ends L ((List.replicate (L.length + 1) false).set 0 true) Y X) : (Y[L.length]?).getD false = true ↔ X L := by
  have h1 := h L.length
  have h0 : ∀ i : Nat, ((List.replicate (L.length + 1) false).set 0 true)[i]? = some true ↔ i = 0 := fun i => by
    cases i with
    | zero => simp
    | succ i =>
      constructor
      · intro h
        rw [List.getElem?_set_ne (by omega), List.getElem?_replicate] at h
        split at h <;> cases h
      · intro h; cases h
  have hs : sub L 0 L.length = L := by unfold sub; simp
  constructor
  · intro h2
    have h3 : Y[L.length]? = some true := by
      cases hy : Y[L.length]? with
      | none => rw [hy] at h2; cases h2
      | some b => rw [hy] at h2; simp at h2; rw [h2]
    obtain ⟨i, _, _, h4, h5⟩ := h1.1 h3
    obtain rfl := (h0 i).1 h4
    rwa [hs] at h5
  · intro h2
    rw [h1.2 ⟨0, Nat.zero_le _, Nat.le_refl _, (h0 0).2 rfl, by rwa [hs]⟩]
    rfl
end

/-- The sets of a tree are sets of bytes. -/
def Sok (t : PT) : Prop := PT.rec (motive_1 := fun _ => Prop) (motive_2 := fun _ => Prop) (fun _ s _ ih => s.Ok ∧ ih) True (fun _ _ a b => a ∧ b) t
theorem Sok.here {t : PT} (h : Sok t) : t.s.Ok := by cases t; exact h.1
theorem Sok.mem {t x : PT} (h : Sok t) (hx : x ∈ t.l) : Sok x := by
  cases t with
  | mk k s l =>
    have h2 := h.2
    clear h
    induction l with
    | nil => cases hx
    | cons y l ih =>
      rcases List.mem_cons.1 hx with rfl | hx
      · exact h2.1
      · exact ih hx h2.2
end Go.Proofs.YtaipaddfehpmgaaDoor
