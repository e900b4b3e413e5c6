/-
  What the specification's search finds and counts is what the program's finds and counts. With no program in it. Nothing is assumed.
-/
import Derived.Test.YtaipaddfehpmgaaDoorRsB
import Derived.Test.YtaipaddfehpmgaaDoorPaTxt
namespace Go.Proofs.YtaipaddfehpmgaaDoor

section
open Go.RowKit

/-- A set of the specification, and the same set one place further. -/
structure Sh (x y : Int) : Prop where
  ux : U6 x
  uy : U6 y
  z : bt y 0 = false
  s : ∀ i, bt y (i + 1) = bt x i
theorem Sh.or {x y x' y' : Int} (h : Sh x y) (k : Sh x' y') : Sh (orS x x') (orS y y') := ⟨or_u _ _, or_u _ _, by rw [bt_or, h.z, k.z]; rfl, fun i => by rw [bt_or, bt_or, h.s, k.s]⟩
theorem Sh.ro {x y x' y' : Int} (h : Sh x y) (k : Sh x' y') : Sh (orS x x') (orS y' y) := ⟨or_u _ _, or_u _ _, by rw [bt_or, h.z, k.z]; rfl, fun i => by rw [bt_or, bt_or, h.s, k.s, Bool.or_comm]⟩
theorem Sh.zero : Sh 0 0 := ⟨u_zero6, u_zero6, bt_zero 0, fun i => by rw [bt_zero, bt_zero]⟩
theorem Sh.one {i : Nat} (h : i < 63) : Sh (oneS i) (oneS (i + 1)) := ⟨one_U _, one_U _, by rw [bt_one, decide_eq_false_iff_not]; omega, fun j => by
  rw [bt_one, bt_one, Bool.eq_iff_iff, decide_eq_true_iff, decide_eq_true_iff]
  omega⟩
theorem Sh.inj {x x' y : Int} (h : Sh x y) (k : Sh x' y) : x = x' := u_ext h.ux k.ux fun i => by rw [← h.s, ← k.s]
theorem Sh.inj' {x y y' : Int} (h : Sh x y) (k : Sh x y') : y = y' := u_ext h.uy k.uy fun i => by
  cases i with
  | zero => rw [h.z, k.z]
  | succ i => rw [h.s, k.s]
/-- The parts of both. -/
structure ShP (p q : Pa) : Prop where
  e : p.e = q.e
  f : Sh p.f q.f
  t : Sh p.t q.t
theorem ShP.join {p q p' q' : Pa} (h : ShP p q) (k : ShP p' q') (ps : List Ps) : ShP (rJoin p p') (joinS ps q q').2 := by
  unfold rJoin joinS
  refine ⟨by show (p.e && p'.e) = (q.e && q'.e); rw [h.e, k.e], ?_, ?_⟩
  · show Sh (if p.e = true then orS p.f p'.f else p.f) (if q.e = true then orS q.f q'.f else q.f)
    rw [h.e]
    split
    · exact h.f.or k.f
    · exact h.f
  · show Sh (if p'.e = true then orS p.t p'.t else p'.t) (if q'.e = true then orS q'.t q.t else q'.t)
    rw [k.e]
    split
    · exact h.t.ro k.t
    · exact k.t
theorem ShP.alt {p q p' q' : Pa} (h : ShP p q) (k : ShP p' q') : ShP (altS p p') (altS q q') := ⟨by show (p.e || p'.e) = (q.e || q'.e); rw [h.e, k.e], h.f.or k.f, h.t.or k.t⟩
/-- The positions of both: the program's begin with one more. -/
structure Sim (m : List S4 × List Int) (Q : List Ps) : Prop where
  l1 : m.2.length = m.1.length
  l2 : Q.length = m.1.length + 1
  z : Q[0]? = some ⟨.zero, 0⟩
  at_ : ∀ (i : Nat) s x, m.1[i]? = some s → m.2[i]? = some x → ∃ y, Q[i + 1]? = some ⟨s, y⟩ ∧ Sh x y
theorem linkL_at (s n : Int) : ∀ (l : List Ps) (i k : Nat), (linkL s n i l)[k]? = (l[k]?).map fun p => if bitQ s (i + k) = true then ⟨p.s, orS p.n n⟩ else p
  | [], i, k => by rw [linkL]; simp
  | p :: l, i, 0 => by rw [linkL]; simp
  | p :: l, i, k + 1 => by
    rw [linkL, List.getElem?_cons_succ, List.getElem?_cons_succ, linkL_at s n l (i + 1) k, show i + 1 + k = i + (k + 1) by omega]
theorem Sim.link {m : List S4 × List Int} {Q : List Ps} (h : Sim m Q) {x y x' y' : Int} (hl : Sh x y) (hf : Sh x' y') : Sim (m.1, lnkL x x' m.2) (linkL y y' 0 Q) := by
  refine ⟨by rw [lnk_len]; exact h.l1, by rw [linkL_len]; exact h.l2, ?_, fun i s v h1 h2 => ?_⟩
  · rw [linkL_at, h.z]
    show some (if bitQ y (0 + 0) = true then _ else _) = _
    rw [bitQ_bt hl.uy, hl.z]
    rfl
  · obtain ⟨u, hu⟩ : ∃ u, m.2[i]? = some u := by
      have := (List.getElem?_eq_some_iff.1 h2).1
      rw [lnk_len] at this
      exact ⟨_, List.getElem?_eq_getElem this⟩
    rw [lnk_at hu] at h2
    cases h2
    obtain ⟨z, hz, hs⟩ := h.at_ i s u h1 hu
    rw [linkL_at, hz]
    refine ⟨if bt x i = true then orS z y' else z, ?_, ?_⟩
    · show some (if bitQ y (0 + (i + 1)) = true then (⟨s, orS z y'⟩ : Ps) else ⟨s, z⟩) = _
      rw [Nat.zero_add, bitQ_bt hl.uy, hl.s]
      split <;> rfl
    · split
      · exact hs.or hf
      · exact hs
theorem Sim.snoc {m : List S4 × List Int} {Q : List Ps} (h : Sim m Q) (s : S4) : Sim (m.1 ++ [s], m.2 ++ [0]) (Q ++ [⟨s, 0⟩]) := by
  refine ⟨by rw [List.length_append, List.length_append, h.l1]; rfl, by rw [List.length_append, List.length_append, h.l2]; rfl, ?_, fun i s' v h1 h2 => ?_⟩
  · rw [List.getElem?_append_left (by rw [h.l2]; omega)]
    exact h.z
  · by_cases hi : i < m.1.length
    · rw [List.getElem?_append_left hi] at h1
      rw [List.getElem?_append_left (by rw [h.l1]; exact hi)] at h2
      obtain ⟨y, hy, hs⟩ := h.at_ i s' v h1 h2
      exact ⟨y, by rw [List.getElem?_append_left (by rw [h.l2]; omega)]; exact hy, hs⟩
    · have h3 := (List.getElem?_eq_some_iff.1 h1).1
      rw [List.length_append, List.length_singleton] at h3
      obtain rfl : i = m.1.length := by omega
      rw [List.getElem?_append_right (Nat.le_refl _), Nat.sub_self] at h1
      rw [List.getElem?_append_right (by rw [h.l1]; exact Nat.le_refl _), h.l1, Nat.sub_self] at h2
      cases h1
      cases h2
      refine ⟨0, ?_, Sh.zero⟩
      rw [List.getElem?_append_right (by rw [h.l2]; exact Nat.le_refl _), h.l2, Nat.sub_self]
      rfl
theorem catS_c (ps : List Ps) (p : Pa) (t : PT) (l : List PT) : catS ps p (t :: l) = catS (joinS (addT ps t).1 p (addT ps t).2).1 (joinS (addT ps t).1 p (addT ps t).2).2 l := by rw [catS]
theorem altsS_c (ps : List Ps) (p : Pa) (t : PT) (l : List PT) : altsS ps p (t :: l) = altsS (addT ps t).1 (altS p (addT ps t).2) l := by rw [altsS]
theorem add_sim (t : PT) : AlT t → t.fit = true → ∀ m Q, Sim m Q → m.1.length + t.lv ≤ 62 → Sim (rAdd m t).1 (addT Q t).1 ∧ ShP (rAdd m t).2 (addT Q t).2 := by
  induction t using PT.ind with
  | h t ih =>
  intro ha hf m Q hm hl
  have hkd := ha.kind
  have hfs : PT.fits t.l = true := by
    rw [PT.fit_eq, Bool.and_eq_true] at hf
    exact hf.2
  have hx : ∀ x, x ∈ t.l → ∀ m Q, Sim m Q → m.1.length + x.lv ≤ 62 → Sim (rAdd m x).1 (addT Q x).1 ∧ ShP (rAdd m x).2 (addT Q x).2 := fun x hx => ih x hx (ha.mem hx) (PT.fits_mem hfs hx)
  have hcat : ∀ (l : List PT), (∀ x, x ∈ l → ∀ m Q, Sim m Q → m.1.length + x.lv ≤ 62 → Sim (rAdd m x).1 (addT Q x).1 ∧ ShP (rAdd m x).2 (addT Q x).2) → ∀ m Q p q, Sim m Q → ShP p q → m.1.length + PT.lvs l ≤ 62 → Sim (rSeq false m p l).1 (catS Q q l).1 ∧ ShP (rSeq false m p l).2 (catS Q q l).2 := by
    intro l
    induction l with
    | nil => intro _ m Q p q h1 h2 _; rw [rSeq, catS]; exact ⟨h1, h2⟩
    | cons x l ihl =>
      intro hy m Q p q h1 h2 h3
      rw [PT.lvs_cons] at h3
      obtain ⟨k1, k2⟩ := hy x (List.mem_cons_self ..) m Q h1 (by omega)
      rw [rSeq_cons, if_neg (by decide), catS_c]
      have hlen := rAdd_len x m
      exact ihl (fun z hz => hy z (List.mem_cons_of_mem _ hz)) _ _ _ _ (k1.link h2.t k2.f) (h2.join k2 _) (by show (rAdd m x).1.1.length + _ ≤ 62; omega)
  have halt : ∀ (l : List PT), (∀ x, x ∈ l → ∀ m Q, Sim m Q → m.1.length + x.lv ≤ 62 → Sim (rAdd m x).1 (addT Q x).1 ∧ ShP (rAdd m x).2 (addT Q x).2) → ∀ m Q p q, Sim m Q → ShP p q → m.1.length + PT.lvs l ≤ 62 → Sim (rSeq true m p l).1 (altsS Q q l).1 ∧ ShP (rSeq true m p l).2 (altsS Q q l).2 := by
    intro l
    induction l with
    | nil => intro _ m Q p q h1 h2 _; rw [rSeq, altsS]; exact ⟨h1, h2⟩
    | cons x l ihl =>
      intro hy m Q p q h1 h2 h3
      rw [PT.lvs_cons] at h3
      obtain ⟨k1, k2⟩ := hy x (List.mem_cons_self ..) m Q h1 (by omega)
      rw [rSeq_cons, if_pos rfl, altsS_c]
      have hlen := rAdd_len x m
      exact ihl (fun z hz => hy z (List.mem_cons_of_mem _ hz)) _ _ _ _ k1 (h2.alt k2) (by omega)
  rw [PT.lv_eq] at hl
  rw [rAdd_eq, addT_q]
  by_cases k1 : t.k = 1
  · rw [if_pos k1, if_neg (by omega), if_neg (by omega), if_neg (by omega), if_neg (by omega), if_neg (by omega)]
    exact ⟨hm, rfl, Sh.zero, Sh.zero⟩
  rw [if_neg k1]
  by_cases k2 : t.k = 2
  · rw [if_pos k2, if_pos k2]
    exact ⟨hm, rfl, Sh.zero, Sh.zero⟩
  rw [if_neg k2, if_neg k2]
  by_cases k3 : t.k = 3
  · rw [if_pos k3] at hl
    rw [if_pos k3, if_pos k3]
    refine ⟨hm.snoc t.s, rfl, ?_, ?_⟩
    · show Sh (oneS m.1.length) (oneS Q.length)
      rw [hm.l2]
      exact Sh.one (by omega)
    · show Sh (oneS m.1.length) (oneS Q.length)
      rw [hm.l2]
      exact Sh.one (by omega)
  rw [if_neg k3, if_neg k3]
  rw [if_neg k3, Nat.zero_add] at hl
  by_cases k6 : t.k = 6
  · rw [if_pos k6, if_neg (by omega), if_neg (by omega), if_pos k6]
    rw [PT.fit_eq, Bool.and_eq_true] at hf
    have h1 := hf.1
    clear hcat halt ih
    revert hx hl h1
    generalize t.l = l
    intro hl hx h1
    cases l with
    | nil =>
      rw [k6] at h1
      simp at h1
    | cons x l =>
      rw [PT.lvs_cons] at hl
      obtain ⟨j1, j2⟩ := hx x (List.mem_cons_self ..) m Q hm (by omega)
      rw [rRep, repS]
      exact ⟨j1.link j2.t j2.f, rfl, j2.f, j2.t⟩
  rw [if_neg k6]
  by_cases k4 : t.k = 4
  · rw [if_pos k4, show (t.k == 5) = false by rw [k4]; rfl, show (t.k == 4) = true by rw [k4]; rfl]
    exact hcat t.l hx m Q _ _ hm ⟨rfl, Sh.zero, Sh.zero⟩ hl
  have k5 : t.k = 5 := by omega
  rw [if_neg k4, if_pos k5, show (t.k == 5) = true by rw [k5]; rfl, show (t.k == 4) = false by rw [k5]; rfl]
  exact halt t.l hx m Q _ _ hm ⟨rfl, Sh.zero, Sh.zero⟩ hl

/-- The machine of the specification. -/
def rOf (t : PT) : (List S4 × List Int) × Pa := rAdd ([], []) t
/-- A machine of the specification beside one of the program. -/
structure Mch (r : (List S4 × List Int) × Pa) (ps : List Ps) (last : Int) : Prop where
  l1 : r.1.2.length = r.1.1.length
  l2 : ps.length = r.1.1.length + 1
  lm : r.1.1.length ≤ 62
  f : ∃ y, ps[0]? = some ⟨.zero, y⟩ ∧ Sh r.2.f y
  at_ : ∀ (i : Nat) s x, r.1.1[i]? = some s → r.1.2[i]? = some x → ∃ y, ps[i + 1]? = some ⟨s, y⟩ ∧ Sh x y
  ul : U6 last
  l0 : bt last 0 = r.2.e
  ls : ∀ i, bt last (i + 1) = bt r.2.t i
theorem mch_of {t : PT} (ha : AlT t) (hf : t.fit = true) (hl : t.lv ≤ 62) : Mch (rOf t) (buildT t).1 (buildT t).2 := by
  obtain ⟨h1, h2⟩ := add_sim t ha hf ([], []) [⟨.zero, 0⟩] ⟨rfl, rfl, rfl, fun i s x h => by simp at h⟩ (by simpa using hl)
  unfold rOf buildT
  dsimp only
  refine ⟨h1.l1, by rw [List.length_set]; exact h1.l2, by have := rAdd_len t ([], []); simp only [List.length_nil] at this; omega, ⟨(addT [⟨.zero, 0⟩] t).2.f, ?_, h2.f⟩, fun i s x k1 k2 => ?_, ?_, ?_, fun i => ?_⟩
  · rw [h1.z, List.getElem?_set, if_pos rfl, if_pos (by rw [h1.l2]; omega)]
    rfl
  · obtain ⟨y, k3, k4⟩ := h1.at_ i s x k1 k2
    exact ⟨y, by rw [List.getElem?_set, if_neg (by omega)]; exact k3, k4⟩
  · split
    · exact or_u _ _
    · exact h2.t.uy
  · rw [h2.e]
    cases he : (addT [⟨.zero, 0⟩] t).2.e with
    | true => rw [if_pos rfl, bt_or, h2.t.z, show (1 : Int) = oneS 0 by decide, bt_one]; rfl
    | false => rw [if_neg (by decide), h2.t.z]
  · cases he : (addT [⟨.zero, 0⟩] t).2.e with
    | true => rw [if_pos rfl, bt_or, h2.t.s, show (1 : Int) = oneS 0 by decide, bt_one, decide_eq_false (by omega), Bool.or_false]
    | false => rw [if_neg (by decide), h2.t.s]
/-- A state of the specification beside one of the program. -/
def St (x y : Int) : Prop := (x = begZ ∧ y = 1) ∨ Sh x y
theorem beg_u : U6 begZ := ⟨by decide, by decide⟩
theorem beg_bt (i : Nat) : bt begZ i = decide (i = 63) := by
  rw [show begZ = oneS 63 by decide, bt_one, Bool.eq_iff_iff, decide_eq_true_iff, decide_eq_true_iff]
  omega
theorem one_bt (i : Nat) : bt 1 i = decide (i = 0) := by
  rw [show (1 : Int) = oneS 0 by decide, bt_one, Bool.eq_iff_iff, decide_eq_true_iff, decide_eq_true_iff]
  omega
theorem Sh.nbeg {x y : Int} (h : Sh x y) : x ≠ begZ := fun e => by
  have h1 := h.s 63
  rw [e, beg_bt] at h1
  have := bt_lt (x := y) (i := 64) (by rw [h1]; rfl)
  omega
theorem Sh.none {x y : Int} (h : Sh x y) : y ≠ 1 := fun e => by
  have h1 := h.z
  rw [e, one_bt] at h1
  cases h1
theorem St.ux {x y : Int} (h : St x y) : U6 x := by
  rcases h with ⟨rfl, _⟩ | h
  · exact beg_u
  · exact h.ux
theorem St.inj {x x' y : Int} (h : St x y) (k : St x' y) : x = x' := by
  rcases h with ⟨rfl, e⟩ | h
  · rcases k with ⟨rfl, _⟩ | k
    · rfl
    · exact absurd e k.none
  · rcases k with ⟨_, e⟩ | k
    · exact absurd e h.none
    · exact h.inj k
theorem St.inj' {x y y' : Int} (h : St x y) (k : St x y') : y = y' := by
  rcases h with ⟨e, rfl⟩ | h
  · rcases k with ⟨_, rfl⟩ | k
    · rfl
    · exact absurd e k.nbeg
  · rcases k with ⟨e, _⟩ | k
    · exact absurd e h.nbeg
    · exact h.inj' k
theorem hld_bt (b : Nat) (j : Nat) : ∀ (l : List S4) (i : Nat) (a : Int), bt (hldL b i l a) j = true ↔ bt a j = true ∨ ∃ k s, l[k]? = some s ∧ s.has b = true ∧ i + k = j ∧ j < 64
  | [], i, a => by
    rw [hldL]
    constructor
    · exact .inl
    · rintro (h | ⟨k, s, h, _⟩)
      · exact h
      · simp at h
  | s :: l, i, a => by
    rw [hldL, hld_bt b j l (i + 1)]
    constructor
    · rintro (h | ⟨k, s', h1, h2, h3, h4⟩)
      · by_cases hs : s.has b = true
        · rw [if_pos hs, bt_or, Bool.or_eq_true, bt_one, decide_eq_true_iff] at h
          rcases h with h | h
          · exact .inl h
          · exact .inr ⟨0, s, rfl, hs, by omega, by omega⟩
        · rw [if_neg hs] at h
          exact .inl h
      · exact .inr ⟨k + 1, s', h1, h2, by omega, h4⟩
    · rintro (h | ⟨k, s', h1, h2, h3, h4⟩)
      · left
        split
        · rw [bt_or, h]; rfl
        · exact h
      · cases k with
        | zero =>
          cases h1
          left
          rw [if_pos h2, bt_or, bt_one, decide_eq_true (show i = j ∧ i < 64 by omega), Bool.or_true]
        | succ k => exact .inr ⟨k, s', by simpa using h1, h2, by omega, h4⟩
theorem nxt_bt (st : Int) (j : Nat) : ∀ (l : List Int) (i : Nat) (a : Int), bt (nxtL st i l a) j = true ↔ bt a j = true ∨ ∃ k x, l[k]? = some x ∧ bt st (i + k) = true ∧ bt x j = true
  | [], i, a => by
    rw [nxtL]
    constructor
    · exact .inl
    · rintro (h | ⟨k, s, h, _⟩)
      · exact h
      · simp at h
  | x :: l, i, a => by
    rw [nxtL, nxt_bt st j l (i + 1)]
    constructor
    · rintro (h | ⟨k, s', h1, h2, h3⟩)
      · by_cases hs : bt st i = true
        · rw [if_pos hs, bt_or, Bool.or_eq_true] at h
          rcases h with h | h
          · exact .inl h
          · exact .inr ⟨0, x, rfl, hs, h⟩
        · rw [if_neg hs] at h
          exact .inl h
      · exact .inr ⟨k + 1, s', by simpa using h1, by rw [show i + (k + 1) = i + 1 + k by omega]; exact h2, h3⟩
    · rintro (h | ⟨k, s', h1, h2, h3⟩)
      · left
        split
        · rw [bt_or, h]; rfl
        · exact h
      · cases k with
        | zero =>
          cases h1
          left
          rw [Nat.add_zero] at h2
          rw [if_pos h2, bt_or, h3, Bool.or_true]
        | succ k => exact .inr ⟨k, s', by simpa using h1, by rw [show i + 1 + k = i + (k + 1) by omega]; exact h2, h3⟩
/-- One step of the specification's machine. -/
def rStep (r : (List S4 × List Int) × Pa) (b : Nat) (x : Int) : Int := bits BinOp.and IntKind.u64 (nxtR r.2 r.1.2 x) (hldL b 0 r.1.1 0)
theorem step_sim {r : (List S4 × List Int) × Pa} {ps : List Ps} {last : Int} (h : Mch r ps last) {x y : Int} (hs : St x y) (b : Nat) : Sh (rStep r b x) (stB ps b y) := by
  have huy : U6 y := by
    rcases hs with ⟨_, rfl⟩ | hs
    · exact one_u
    · exact hs.uy
  obtain ⟨y0, hy0, hf0⟩ := h.f
  have hread : ∀ i, bt (readsL b 0 ps 0) (i + 1) = bt (hldL b 0 r.1.1 0) i := fun i => by
    rw [Bool.eq_iff_iff, reads_bt, hld_bt, bt_zero]
    constructor
    · rintro ⟨p, h1, h2, h3⟩
      have hi := (List.getElem?_eq_some_iff.1 h1).1
      rw [h.l2] at hi
      obtain ⟨s, hs⟩ : ∃ s, r.1.1[i]? = some s := ⟨_, List.getElem?_eq_getElem (by omega)⟩
      obtain ⟨u, hu⟩ : ∃ u, r.1.2[i]? = some u := ⟨_, List.getElem?_eq_getElem (by rw [h.l1]; omega)⟩
      obtain ⟨v, hv, _⟩ := h.at_ i s u hs hu
      rw [h1] at hv
      cases hv
      exact .inr ⟨i, s, hs, h2, by omega, by omega⟩
    · rintro (h1 | ⟨k, s, h1, h2, h3, h4⟩)
      · cases h1
      · obtain rfl : k = i := by omega
        obtain ⟨u, hu⟩ : ∃ u, r.1.2[k]? = some u := ⟨_, List.getElem?_eq_getElem (by rw [h.l1]; exact (List.getElem?_eq_some_iff.1 h1).1)⟩
        obtain ⟨v, hv, hsv⟩ := h.at_ k s u h1 hu
        refine ⟨_, hv, h2, ?_⟩
        have h5 := (List.getElem?_eq_some_iff.1 h1).1
        have h6 := h.lm
        omega
  have hz : bt (readsL b 0 ps 0) 0 = false := by
    cases hc : bt (readsL b 0 ps 0) 0 with
    | false => rfl
    | true =>
      obtain ⟨p, h1, h2, _⟩ := (reads_bt b ps 0).1 hc
      rw [hy0] at h1
      cases h1
      rw [has_zero] at h2
      cases h2
  have hnext : ∀ i, bt (afterL y 0 ps 0) (i + 1) = bt (nxtR r.2 r.1.2 x) i := fun i => by
    rw [Bool.eq_iff_iff, after_bt huy, bt_zero]
    unfold nxtR
    rcases hs with ⟨rfl, rfl⟩ | hs
    · rw [if_pos rfl, ← hf0.s]
      constructor
      · rintro (h1 | ⟨k, p, h1, h2, h3⟩)
        · cases h1
        · rw [one_bt, decide_eq_true_iff, Nat.zero_add] at h2
          subst h2
          rw [hy0] at h1
          cases h1
          exact h3
      · exact fun h1 => .inr ⟨0, _, hy0, by rw [one_bt]; rfl, h1⟩
    · rw [if_neg hs.nbeg, nxt_bt, bt_zero]
      constructor
      · rintro (h1 | ⟨k, p, h1, h2, h3⟩)
        · cases h1
        · rw [Nat.zero_add] at h2
          cases k with
          | zero => rw [hs.z] at h2; cases h2
          | succ k =>
            have hi := (List.getElem?_eq_some_iff.1 h1).1
            rw [h.l2] at hi
            obtain ⟨s, hss⟩ : ∃ s, r.1.1[k]? = some s := ⟨_, List.getElem?_eq_getElem (by omega)⟩
            obtain ⟨u, hu⟩ : ∃ u, r.1.2[k]? = some u := ⟨_, List.getElem?_eq_getElem (by rw [h.l1]; omega)⟩
            obtain ⟨v, hv, hsv⟩ := h.at_ k s u hss hu
            rw [h1] at hv
            cases hv
            exact .inr ⟨k, u, hu, by rw [Nat.zero_add, ← hs.s]; exact h2, by rw [← hsv.s]; exact h3⟩
      · rintro (h1 | ⟨k, u, h1, h2, h3⟩)
        · cases h1
        · rw [Nat.zero_add] at h2
          obtain ⟨s, hss⟩ : ∃ s, r.1.1[k]? = some s := ⟨_, List.getElem?_eq_getElem (by rw [← h.l1]; exact (List.getElem?_eq_some_iff.1 h1).1)⟩
          obtain ⟨v, hv, hsv⟩ := h.at_ k s u hss h1
          exact .inr ⟨k + 1, _, hv, by rw [Nat.zero_add, hs.s]; exact h2, by show bt v (i + 1) = true; rw [hsv.s]; exact h3⟩
  unfold rStep stB
  exact ⟨and_u _ _, and_u _ _, by rw [bt_and, hz, Bool.and_false], fun i => by rw [bt_and, bt_and, hnext, hread]⟩
theorem acc_sim {r : (List S4 × List Int) × Pa} {ps : List Ps} {last : Int} (h : Mch r ps last) {x y : Int} (hs : St x y) : accR r.2 x = accQ last y := by
  unfold accR accQ
  rcases hs with ⟨rfl, rfl⟩ | hs
  · rw [if_pos rfl, Bool.eq_iff_iff, decide_eq_true_iff, and_ne, ← h.l0]
    constructor
    · exact fun h1 => ⟨0, by rw [one_bt]; rfl, h1⟩
    · rintro ⟨i, h1, h2⟩
      rw [one_bt, decide_eq_true_iff] at h1
      rw [← h1]
      exact h2
  · rw [if_neg hs.nbeg, Bool.eq_iff_iff, decide_eq_true_iff, bne_iff_ne, and_ne, and_ne]
    constructor
    · rintro ⟨i, h1, h2⟩
      exact ⟨i + 1, by rw [hs.s]; exact h1, by rw [h.ls]; exact h2⟩
    · rintro ⟨i, h1, h2⟩
      cases i with
      | zero => rw [hs.z] at h1; cases h1
      | succ i => exact ⟨i, by rw [← hs.s]; exact h1, by rw [← h.ls]; exact h2⟩
end

section
open Go.RowKit

theorem nodup_rel {α β : Type} [DecidableEq β] {R : α → β → Prop} (hR : ∀ a a' b, R a b → R a' b → a = a') : ∀ (A : List α) (B : List β), A.Nodup → (∀ a, a ∈ A → ∃ b, b ∈ B ∧ R a b) → A.length ≤ B.length
  | [], B, _, _ => Nat.zero_le _
  | a :: A, B, hn, hs => by
    have h1 := List.nodup_cons.1 hn
    obtain ⟨b, hb, hab⟩ := hs a (List.mem_cons_self ..)
    have h2 := nodup_rel hR A (B.erase b) h1.2 (fun x hx => by
      obtain ⟨c, hc, hxc⟩ := hs x (List.mem_cons_of_mem _ hx)
      refine ⟨c, (List.mem_erase_of_ne (fun e => ?_)).2 hc, hxc⟩
      subst e
      have := hR _ _ _ hab hxc
      subst this
      exact h1.1 hx)
    have h3 := List.length_erase_of_mem hb
    have h4 := List.length_pos_of_mem hb
    rw [h3] at h2
    rw [List.length_cons]
    omega

/-- A group: the positions of both machines, and how many bytes. -/
abbrev Gp := Int × Int × Int
def hitG (a b : Int) (g : Gp) : Bool := decide (g.1 = a ∧ g.2.1 = b)
/-- One byte more. -/
def gAdd (a b : Int) (G : List Gp) : List Gp := if G.any (hitG a b) = true then G.map (fun g => if hitG a b g = true then (g.1, g.2.1, g.2.2 + 1) else g) else G ++ [(a, b, 1)]
def gAll (r r' : (List S4 × List Int) × Pa) (bs : List Nat) (G : List Gp) : List Gp := bs.foldl (fun G b => gAdd (hldL b 0 r.1.1 0) (hldL b 0 r'.1.1 0) G) G
/-- The bytes of the alphabet. -/
def alB : List Nat := (List.range 95).map fun k => 32 + k
theorem alB_mem {b : Nat} : b ∈ alB ↔ 32 ≤ b ∧ b ≤ 126 := by
  unfold alB
  rw [List.mem_map]
  constructor
  · rintro ⟨k, hk, rfl⟩
    have := List.mem_range.1 hk
    omega
  · intro h
    exact ⟨b - 32, List.mem_range.2 (by omega), by omega⟩
/-- No two groups with the same positions. -/
def KD (G : List Gp) : Prop := G.Pairwise fun g h => ¬ (g.1 = h.1 ∧ g.2.1 = h.2.1)
def inc (a b : Int) (g : Gp) : Gp := if hitG a b g = true then (g.1, g.2.1, g.2.2 + 1) else g
theorem inc_key (a b : Int) (g : Gp) : (inc a b g).1 = g.1 ∧ (inc a b g).2.1 = g.2.1 := by
  unfold inc
  split <;> exact ⟨rfl, rfl⟩
theorem gAdd_eq (a b : Int) (G : List Gp) : gAdd a b G = if G.any (hitG a b) = true then G.map (inc a b) else G ++ [(a, b, 1)] := rfl
theorem gAdd_kd {a b : Int} {G : List Gp} (h : KD G) : KD (gAdd a b G) := by
  rw [gAdd_eq]
  split
  · unfold KD
    rw [List.pairwise_map]
    refine h.imp fun {g k} hg hk => hg ?_
    rwa [(inc_key a b g).1, (inc_key a b g).2, (inc_key a b k).1, (inc_key a b k).2] at hk
  · rename_i hn
    unfold KD
    rw [List.pairwise_append]
    refine ⟨h, List.pairwise_singleton _ _, fun g hg k hk => ?_⟩
    rw [List.mem_singleton] at hk
    subst hk
    intro he
    refine hn (List.any_eq_true.2 ⟨g, hg, ?_⟩)
    unfold hitG
    exact decide_eq_true he
theorem gAdd_has (a b : Int) (G : List Gp) : ∃ g, g ∈ gAdd a b G ∧ g.1 = a ∧ g.2.1 = b := by
  rw [gAdd_eq]
  split
  · rename_i h
    obtain ⟨g, hg, hh⟩ := List.any_eq_true.1 h
    have := of_decide_eq_true hh
    exact ⟨inc a b g, List.mem_map.2 ⟨g, hg, rfl⟩, by rw [(inc_key a b g).1]; exact this.1, by rw [(inc_key a b g).2]; exact this.2⟩
  · exact ⟨(a, b, 1), by simp, rfl, rfl⟩
theorem gAdd_keep {a b : Int} {G : List Gp} {g : Gp} (hg : g ∈ G) : ∃ k, k ∈ gAdd a b G ∧ k.1 = g.1 ∧ k.2.1 = g.2.1 := by
  rw [gAdd_eq]
  split
  · exact ⟨inc a b g, List.mem_map.2 ⟨g, hg, rfl⟩, inc_key a b g⟩
  · exact ⟨g, List.mem_append_left _ hg, rfl, rfl⟩
theorem gAdd_of {a b : Int} {G : List Gp} {g : Gp} (hg : g ∈ gAdd a b G) : (g.1 = a ∧ g.2.1 = b) ∨ ∃ k, k ∈ G ∧ k.1 = g.1 ∧ k.2.1 = g.2.1 := by
  rw [gAdd_eq] at hg
  split at hg
  · obtain ⟨k, hk, rfl⟩ := List.mem_map.1 hg
    exact .inr ⟨k, hk, (inc_key a b k).1.symm, (inc_key a b k).2.symm⟩
  · rcases List.mem_append.1 hg with h | h
    · exact .inr ⟨g, h, rfl, rfl⟩
    · rw [List.mem_singleton] at h
      subst h
      exact .inl ⟨rfl, rfl⟩
/-- A sum over the groups. -/
def sumG (f : Int → Int → Int) : List Gp → Int
  | [] => 0
  | g :: G => g.2.2 * f g.1 g.2.1 + sumG f G
theorem sumG_app (f : Int → Int → Int) (G H : List Gp) : sumG f (G ++ H) = sumG f G + sumG f H := by
  induction G with
  | nil => rw [List.nil_append, sumG]; omega
  | cons g G ih => rw [List.cons_append, sumG, sumG, ih]; omega
theorem sumG_inc (f : Int → Int → Int) (a b : Int) : ∀ (G : List Gp), KD G → G.any (hitG a b) = true → sumG f (G.map (inc a b)) = sumG f G + f a b
  | [], _, h => by simp at h
  | g :: G, hd, h => by
    have hd2 := List.pairwise_cons.1 hd
    rw [List.map_cons, sumG, sumG]
    by_cases hg : hitG a b g = true
    · have hno : G.map (inc a b) = G := by
        conv => rhs; rw [← List.map_id G]
        refine List.map_congr_left fun k hk => ?_
        unfold inc
        rw [if_neg (fun hh => ?_)]
        · rfl
        · have h1 := of_decide_eq_true hg
          have h2 := of_decide_eq_true hh
          exact hd2.1 k hk ⟨by rw [h1.1, h2.1], by rw [h1.2, h2.2]⟩
      have h1 := of_decide_eq_true hg
      rw [hno]
      unfold inc
      rw [if_pos hg]
      show (g.2.2 + 1) * f g.1 g.2.1 + sumG f G = _
      rw [h1.1, h1.2, Int.add_mul]
      omega
    · rw [List.any_cons, Bool.or_eq_true] at h
      have h2 := h.resolve_left hg
      rw [sumG_inc f a b G hd2.2 h2]
      unfold inc
      rw [if_neg hg]
      omega
theorem gAdd_sum (f : Int → Int → Int) {a b : Int} {G : List Gp} (h : KD G) : sumG f (gAdd a b G) = sumG f G + f a b := by
  rw [gAdd_eq]
  split
  · rename_i hn
    exact sumG_inc f a b G h hn
  · rw [sumG_app, sumG, sumG]
    show sumG f G + (1 * f a b + 0) = _
    omega
theorem gAdd_pos {a b : Int} {G : List Gp} (h : ∀ g, g ∈ G → 1 ≤ g.2.2) : ∀ g, g ∈ gAdd a b G → 1 ≤ g.2.2 := fun g hg => by
  rw [gAdd_eq] at hg
  split at hg
  · obtain ⟨k, hk, rfl⟩ := List.mem_map.1 hg
    have := h k hk
    unfold inc
    split
    · show 1 ≤ k.2.2 + 1
      omega
    · exact this
  · rcases List.mem_append.1 hg with h1 | h1
    · exact h g h1
    · rw [List.mem_singleton] at h1
      subst h1
      exact Int.le_refl 1
/-- A sum over bytes. -/
def sumB (f : Nat → Int) : List Nat → Int
  | [] => 0
  | b :: l => f b + sumB f l
section
variable {r r' : (List S4 × List Int) × Pa}
theorem gAll_spec : ∀ (bs : List Nat) (G : List Gp), KD G → (∀ g, g ∈ G → 1 ≤ g.2.2) → KD (gAll r r' bs G) ∧ (∀ g, g ∈ gAll r r' bs G → 1 ≤ g.2.2) ∧
    (∀ b, b ∈ bs → ∃ g, g ∈ gAll r r' bs G ∧ g.1 = hldL b 0 r.1.1 0 ∧ g.2.1 = hldL b 0 r'.1.1 0) ∧ (∀ g, g ∈ G → ∃ k, k ∈ gAll r r' bs G ∧ k.1 = g.1 ∧ k.2.1 = g.2.1) ∧
    (∀ g, g ∈ gAll r r' bs G → (∃ b, b ∈ bs ∧ g.1 = hldL b 0 r.1.1 0 ∧ g.2.1 = hldL b 0 r'.1.1 0) ∨ ∃ k, k ∈ G ∧ k.1 = g.1 ∧ k.2.1 = g.2.1) ∧
    ∀ f : Int → Int → Int, sumG f (gAll r r' bs G) = sumG f G + sumB (fun b => f (hldL b 0 r.1.1 0) (hldL b 0 r'.1.1 0)) bs
  | [], G, h, hp => ⟨h, hp, fun b hb => by simp at hb, fun g hg => ⟨g, hg, rfl, rfl⟩, fun g hg => .inr ⟨g, hg, rfl, rfl⟩, fun f => by
      show sumG f G = sumG f G + sumB _ []
      rw [sumB]; omega⟩
  | c :: bs, G, h, hp => by
    obtain ⟨h0, h1, h2, h3, h4, h5⟩ := gAll_spec bs (gAdd (hldL c 0 r.1.1 0) (hldL c 0 r'.1.1 0) G) (gAdd_kd h) (gAdd_pos hp)
    have e : gAll r r' (c :: bs) G = gAll r r' bs (gAdd (hldL c 0 r.1.1 0) (hldL c 0 r'.1.1 0) G) := rfl
    rw [e]
    refine ⟨h0, h1, fun b hb => ?_, fun g hg => ?_, fun g hg => ?_, fun f => ?_⟩
    · rcases List.mem_cons.1 hb with rfl | hb
      · obtain ⟨g, hg, k1, k2⟩ := gAdd_has (hldL b 0 r.1.1 0) (hldL b 0 r'.1.1 0) G
        obtain ⟨k, hk, k3, k4⟩ := h3 g hg
        exact ⟨k, hk, by rw [k3, k1], by rw [k4, k2]⟩
      · exact h2 b hb
    · obtain ⟨g', hg', k1, k2⟩ := gAdd_keep (a := hldL c 0 r.1.1 0) (b := hldL c 0 r'.1.1 0) hg
      obtain ⟨k, hk, k3, k4⟩ := h3 g' hg'
      exact ⟨k, hk, by rw [k3, k1], by rw [k4, k2]⟩
    · rcases h4 g hg with ⟨b, hb, k1⟩ | ⟨k, hk, k1, k2⟩
      · exact .inl ⟨b, List.mem_cons_of_mem _ hb, k1⟩
      · rcases gAdd_of hk with ⟨k3, k4⟩ | ⟨k', hk', k3, k4⟩
        · exact .inl ⟨c, List.mem_cons_self .., by rw [← k1, k3], by rw [← k2, k4]⟩
        · exact .inr ⟨k', hk', by rw [k3, k1], by rw [k4, k2]⟩
    · rw [h5 f, gAdd_sum f h, sumB]
      omega
end
/-- The groups of the alphabet. -/
def grps (r r' : (List S4 × List Int) × Pa) : List Gp := gAll r r' alB []
theorem grps_of {r r' : (List S4 × List Int) × Pa} {g : Gp} (hg : g ∈ grps r r') : ∃ b, (32 ≤ b ∧ b ≤ 126) ∧ g.1 = hldL b 0 r.1.1 0 ∧ g.2.1 = hldL b 0 r'.1.1 0 := by
  obtain ⟨_, _, _, _, h4, _⟩ := gAll_spec (r := r) (r' := r') alB [] List.Pairwise.nil (fun g hg => by simp at hg)
  rcases h4 g hg with ⟨b, hb, k⟩ | ⟨k, hk, _⟩
  · exact ⟨b, alB_mem.1 hb, k⟩
  · simp at hk
theorem grps_has (r r' : (List S4 × List Int) × Pa) {b : Nat} (hb : 32 ≤ b ∧ b ≤ 126) : ∃ g, g ∈ grps r r' ∧ g.1 = hldL b 0 r.1.1 0 ∧ g.2.1 = hldL b 0 r'.1.1 0 :=
  (gAll_spec (r := r) (r' := r') alB [] List.Pairwise.nil (fun g hg => by simp at hg)).2.2.1 b (alB_mem.2 hb)
theorem grps_sum (r r' : (List S4 × List Int) × Pa) (f : Int → Int → Int) : sumG f (grps r r') = sumB (fun b => f (hldL b 0 r.1.1 0) (hldL b 0 r'.1.1 0)) alB := by
  have := (gAll_spec (r := r) (r' := r') alB [] List.Pairwise.nil (fun g hg => by simp at hg)).2.2.2.2.2 f
  rw [sumG, Int.zero_add] at this
  exact this
theorem grps_pos {r r' : (List S4 × List Int) × Pa} {g : Gp} (hg : g ∈ grps r r') : 1 ≤ g.2.2 :=
  (gAll_spec (r := r) (r' := r') alB [] List.Pairwise.nil (fun g hg => by simp at hg)).2.1 g hg

/-- What follows a pair of states, group by group. -/
def nextR (r r' : (List S4 × List Int) × Pa) (G : List Gp) (z : P2) : List P2 := G.map fun g => (bits BinOp.and IntKind.u64 (nxtR r.2 r.1.2 z.1) g.1, bits BinOp.and IntKind.u64 (nxtR r'.2 r'.1.2 z.2) g.2.1)
/-- The specification's search: it stops where there are more than the limit. -/
def exR (next : P2 → List P2) : Nat → List P2 → List (List Nat) → List P2 × List (List Nat)
  | 0, found, edges => (found, edges)
  | g + 1, found, edges => match found[edges.length]? with
    | none => (found, edges)
    | some x => if 4096 < found.length then (found, edges) else exR next g (addsE found (next x) []).1 (edges ++ [(addsE found (next x) []).2])
theorem exR_spec {next : P2 → List P2} {s : P2} : ∀ (g : Nat) (F : List P2) (E : List (List Nat)), ExG next s F E → 4098 ≤ E.length + g → E.length ≤ 4097 → ExG next s (exR next g F E).1 (exR next g F E).2 ∧ (4096 < (exR next g F E).1.length ∨ (exR next g F E).2.length = (exR next g F E).1.length)
  | 0, F, E, hG, hg, hE => by omega
  | g + 1, F, E, hG, hg, hE => by
    rw [exR]
    cases hx : F[E.length]? with
    | none =>
      have h1 := List.getElem?_eq_none_iff.1 hx
      have h2 := hG.le
      exact ⟨hG, .inr (by show E.length = F.length; omega)⟩
    | some x =>
      dsimp only
      by_cases hm : 4096 < F.length
      · rw [if_pos hm]
        exact ⟨hG, .inl hm⟩
      · rw [if_neg hm]
        have h1 := (List.getElem?_eq_some_iff.1 hx).1
        exact exR_spec g _ _ (hG.step hx) (by rw [List.length_append, List.length_singleton]; omega) (by rw [List.length_append, List.length_singleton]; omega)
theorem searchR (next : P2 → List P2) (s : P2) : (4096 < (exR next 4098 [s] []).1.length ∧ ∃ E, ExG next s (exR next 4098 [s] []).1 E) ∨ ((exR next 4098 [s] []).1.length ≤ 4096 ∧ Whole next s (exR next 4098 [s] []).1 (exR next 4098 [s] []).2) := by
  obtain ⟨h1, h2⟩ := exR_spec 4098 [s] [] (ExG.start next s) (by simp) (by simp)
  by_cases hm : 4096 < (exR next 4098 [s] []).1.length
  · exact .inl ⟨hm, _, h1⟩
  · exact .inr ⟨by omega, h1, by omega, h2.resolve_left hm⟩
/-- The answer of the specification's Same, and the error. -/
def rSame (r r' : (List S4 × List Int) × Pa) : Bool × Int :=
  if 4096 < (exR (nextR r r' (grps r r')) 4098 [(begZ, begZ)] []).1.length then (false, 10) else ((exR (nextR r r' (grps r r')) 4098 [(begZ, begZ)] []).1.all (fun z => accR r.2 z.1 == accR r'.2 z.2), 0)
theorem zip_of {ps qs : List Ps} {z v : P2} (h : v ∈ stepP ps qs z) : ∃ b, (32 ≤ b ∧ b ≤ 126) ∧ v = (stB ps b z.1, stB qs b z.2) := by
  obtain ⟨i, hi⟩ := List.mem_iff_getElem?.1 h
  unfold stepP at hi
  obtain ⟨h1, h2⟩ := List.getElem?_zip_eq_some.1 hi
  unfold stepL rdL at h1 h2
  rw [List.map_map, List.getElem?_map, Option.map_eq_some_iff] at h1 h2
  obtain ⟨k, hk, e1⟩ := h1
  obtain ⟨k', hk', e2⟩ := h2
  rw [hk] at hk'
  cases hk'
  have hk2 := List.mem_of_getElem? hk
  refine ⟨32 + k, by have := List.mem_range.1 hk2; omega, ?_⟩
  exact Prod.ext e1.symm e2.symm
section
variable {r r' : (List S4 × List Int) × Pa} {ps qs : List Ps} {last last' : Int}
/-- Pairs of states beside each other. -/
def Pr (z z' : P2) : Prop := St z.1 z'.1 ∧ St z.2 z'.2
theorem Pr.inj {z v z' : P2} (h : Pr z z') (k : Pr v z') : z = v := Prod.ext (h.1.inj k.1) (h.2.inj k.2)
theorem Pr.inj' {z z' v' : P2} (h : Pr z z') (k : Pr z v') : z' = v' := Prod.ext (h.1.inj' k.1) (h.2.inj' k.2)
theorem pr_fwd (h : Mch r ps last) (h' : Mch r' qs last') {z z' v : P2} (hz : Pr z z') (hv : v ∈ nextR r r' (grps r r') z) : ∃ v', v' ∈ stepP ps qs z' ∧ Pr v v' := by
  unfold nextR at hv
  obtain ⟨g, hg, rfl⟩ := List.mem_map.1 hv
  obtain ⟨b, hb, e1, e2⟩ := grps_of hg
  refine ⟨(stB ps b z'.1, stB qs b z'.2), step_zip hb, ?_, ?_⟩
  · show St (bits BinOp.and IntKind.u64 (nxtR r.2 r.1.2 z.1) g.1) _
    rw [e1]
    exact .inr (step_sim h hz.1 b)
  · show St (bits BinOp.and IntKind.u64 (nxtR r'.2 r'.1.2 z.2) g.2.1) _
    rw [e2]
    exact .inr (step_sim h' hz.2 b)
theorem pr_bwd (h : Mch r ps last) (h' : Mch r' qs last') {z z' v' : P2} (hz : Pr z z') (hv : v' ∈ stepP ps qs z') : ∃ v, v ∈ nextR r r' (grps r r') z ∧ Pr v v' := by
  obtain ⟨b, hb, rfl⟩ := zip_of hv
  obtain ⟨g, hg, e1, e2⟩ := grps_has r r' hb
  refine ⟨_, List.mem_map.2 ⟨g, hg, rfl⟩, ?_, ?_⟩
  · show St (bits BinOp.and IntKind.u64 (nxtR r.2 r.1.2 z.1) g.1) _
    rw [e1]
    exact .inr (step_sim h hz.1 b)
  · show St (bits BinOp.and IntKind.u64 (nxtR r'.2 r'.1.2 z.2) g.2.1) _
    rw [e2]
    exact .inr (step_sim h' hz.2 b)
theorem same_eq (h : Mch r ps last) (h' : Mch r' qs last') : rSame r r' = (match exL (stepP ps qs) 4098 [((1 : Int), (1 : Int))] [] with
    | none => (false, 10)
    | some (F, _) => (alikeL last last' F, 0)) := by
  have h0 : Pr (begZ, begZ) ((1 : Int), (1 : Int)) := ⟨.inl ⟨rfl, rfl⟩, .inl ⟨rfl, rfl⟩⟩
  unfold rSame
  have hs := searchR (nextR r r' (grps r r')) (begZ, begZ)
  generalize exR (nextR r r' (grps r r')) 4098 [(begZ, begZ)] [] = X at hs ⊢
  rcases search (next := stepP ps qs) ((1 : Int), (1 : Int)) with ⟨e, F, E, hG, hm⟩ | ⟨F, E, e, hW⟩
  · rw [e]
    dsimp only
    rcases hs with ⟨k1, _⟩ | ⟨k1, kW⟩
    · rw [if_pos k1]
    · exfalso
      have := nodup_rel (R := fun z' z => Pr z z') (fun a a' b k1 k2 => k1.inj' k2) F _ hG.nd (hG.rc (fun z' => ∃ z, z ∈ X.1 ∧ Pr z z') ⟨_, kW.start, h0⟩ (fun z' ⟨z, hz, hp⟩ v' hv => by
        obtain ⟨v, h1, h2⟩ := pr_bwd h h' hp hv
        exact ⟨v, kW.closed hz h1, h2⟩))
      omega
  · rw [e]
    dsimp only
    have key : ∀ F', (∃ E', ExG (nextR r r' (grps r r')) (begZ, begZ) F' E') → F'.Nodup ∧ ∀ z, z ∈ F' → ∃ z', z' ∈ F ∧ Pr z z' := fun F' ⟨E', hE⟩ =>
      ⟨hE.nd, hE.rc (fun z => ∃ z', z' ∈ F ∧ Pr z z') ⟨_, hW.start, h0⟩ (fun z ⟨z', hz, hp⟩ v hv => by
        obtain ⟨v', h1, h2⟩ := pr_fwd h h' hp hv
        exact ⟨v', hW.closed hz h1, h2⟩)⟩
    rcases hs with ⟨k1, kE⟩ | ⟨k1, kW⟩
    · exfalso
      obtain ⟨j1, j2⟩ := key _ kE
      have := nodup_rel (R := Pr) (fun a a' b k1 k2 => k1.inj k2) _ F j1 j2
      have := hW.lm
      omega
    · rw [if_neg (by omega)]
      obtain ⟨_, j2⟩ := key _ ⟨_, kW.g⟩
      have j3 := hW.g.rc (fun z' => ∃ z, z ∈ X.1 ∧ Pr z z') ⟨_, kW.start, h0⟩ (fun z' ⟨z, hz, hp⟩ v' hv => by
        obtain ⟨v, h1, h2⟩ := pr_bwd h h' hp hv
        exact ⟨v, kW.closed hz h1, h2⟩)
      refine Prod.ext ?_ rfl
      show X.1.all (fun z => accR r.2 z.1 == accR r'.2 z.2) = alikeL last last' F
      unfold alikeL
      rw [Bool.eq_iff_iff, List.all_eq_true, List.all_eq_true]
      constructor
      · intro hall z' hz'
        obtain ⟨z, hz, hp⟩ := j3 z' hz'
        have := hall z hz
        rwa [acc_sim h hp.1, acc_sim h' hp.2] at this
      · intro hall z hz
        obtain ⟨z', hz', hp⟩ := j2 z hz
        rw [acc_sim h hp.1, acc_sim h' hp.2]
        exact hall z' hz'
end
theorem rsame_eq {t u : PT} (ha : AlT t) (hf : t.fit = true) (hl : t.lv ≤ 62) (ha' : AlT u) (hf' : u.fit = true) (hl' : u.lv ≤ 62) : rSame (rOf t) (rOf u) = sameT t u := by
  rw [same_eq (mch_of ha hf hl) (mch_of ha' hf' hl')]
  rfl
end

end Go.Proofs.YtaipaddfehpmgaaDoor
