/-
  Where the matches of a tree end, as the specification reckons it: rows of truth values. With no program in it. Nothing is assumed.
-/
import Derived.Test.YtaipaddfehpmgaaDoorPtPure
namespace Go.Proofs.YtaipaddfehpmgaaDoor

section
open Go.RowKit

/-- A bit of a set. -/
def bt (x : Int) (i : Nat) : Bool := (BitVec.ofInt 64 x).getLsbD i
/-- A number of 64 bits. -/
def U6 (x : Int) : Prop := 0 ≤ x ∧ x < 2 ^ 64
theorem wrap_u (n : Int) (h : U6 n) : IntKind.u64.wrap n = n := by
  rw [IntKind.wrap_u64]
  obtain ⟨h0, h1⟩ := h
  omega
theorem nat_u (a : BitVec 64) : U6 (a.toNat : Int) := ⟨Int.natCast_nonneg _, by have := a.isLt; omega⟩
theorem back_bv (a : BitVec 64) : BitVec.ofInt 64 (a.toNat : Int) = a := by
  rw [BitVec.ofInt_natCast, BitVec.ofNat_toNat, BitVec.setWidth_eq]
theorem and_bv (x y : Int) : bits BinOp.and IntKind.u64 x y = ((BitVec.ofInt 64 x &&& BitVec.ofInt 64 y).toNat : Int) := wrap_u _ (nat_u _)
theorem or_bv (x y : Int) : orS x y = ((BitVec.ofInt 64 x ||| BitVec.ofInt 64 y).toNat : Int) := wrap_u _ (nat_u _)
theorem and_u (x y : Int) : U6 (bits BinOp.and IntKind.u64 x y) := by rw [and_bv]; exact nat_u _
theorem or_u (x y : Int) : U6 (orS x y) := by rw [or_bv]; exact nat_u _
theorem bt_and (x y : Int) (i : Nat) : bt (bits BinOp.and IntKind.u64 x y) i = (bt x i && bt y i) := by
  unfold bt
  rw [and_bv, back_bv, BitVec.getLsbD_and]
theorem bt_or (x y : Int) (i : Nat) : bt (orS x y) i = (bt x i || bt y i) := by
  unfold bt
  rw [or_bv, back_bv, BitVec.getLsbD_or]
theorem bt_zero (i : Nat) : bt 0 i = false := by
  unfold bt
  simp
theorem u_zero {x : Int} (h : U6 x) (hz : ∀ i, bt x i = false) : x = 0 := by
  obtain ⟨n, rfl⟩ := Int.eq_ofNat_of_zero_le h.1
  have hn : n < 2 ^ 64 := by have := h.2; omega
  have : BitVec.ofInt 64 (n : Int) = 0#64 := BitVec.eq_of_getLsbD_eq fun i _ => by
    have := hz i
    unfold bt at this
    rw [this]; simp
  rw [BitVec.ofInt_natCast] at this
  have h2 := congrArg BitVec.toNat this
  rw [BitVec.toNat_ofNat, Nat.mod_eq_of_lt hn] at h2
  simp at h2
  omega
theorem ne_zero {x : Int} (h : U6 x) : x ≠ 0 ↔ ∃ i, bt x i = true := by
  constructor
  · intro hx
    apply Classical.byContradiction
    intro hn
    exact hx (u_zero h fun i => by
      cases hb : bt x i
      · rfl
      · exact absurd ⟨i, hb⟩ hn)
  · rintro ⟨i, hi⟩ rfl
    rw [bt_zero] at hi
    cases hi
theorem and_ne (x y : Int) : bits BinOp.and IntKind.u64 x y ≠ 0 ↔ ∃ i, bt x i = true ∧ bt y i = true := by
  rw [ne_zero (and_u x y)]
  constructor
  · rintro ⟨i, hi⟩
    rw [bt_and, Bool.and_eq_true] at hi
    exact ⟨i, hi⟩
  · rintro ⟨i, hi⟩
    exact ⟨i, by rw [bt_and, Bool.and_eq_true]; exact hi⟩
theorem bitQ_bt {s : Int} (h : U6 s) (i : Nat) : bitQ s i = bt s i := by
  obtain ⟨n, rfl⟩ := Int.eq_ofNat_of_zero_le h.1
  have hn : n < 2 ^ 64 := by have := h.2; omega
  have h1 : bt (n : Int) i = n.testBit i := by
    unfold bt
    rw [BitVec.ofInt_natCast, BitVec.getLsbD_ofNat]
    by_cases hi : i < 64
    · simp [hi]
    · have : n.testBit i = false := Nat.testBit_lt_two_pow (Nat.lt_of_lt_of_le hn (Nat.pow_le_pow_right (by decide) (by omega)))
      simp [hi, this]
  have h2 : n.testBit i = n.testBit i := rfl
  rw [h1]
  unfold bitQ
  have h3 : ((n : Int) / 2 ^ min i 64) = ((n / 2 ^ min i 64 : Nat) : Int) := by
    rw [Int.natCast_ediv]; simp
  rw [h3]
  have h4 : n / 2 ^ min i 64 < 2 ^ 64 := Nat.lt_of_le_of_lt (Nat.div_le_self _ _) hn
  have h5 := (bits_nat IntKind.u64 64 (by decide) (fun n h0 h1 => wrap_u n ⟨h0, h1⟩) (n / 2 ^ min i 64) 1 h4 (by decide)).1
  rw [show ((1 : Nat) : Int) = 1 from rfl] at h5
  rw [h5, Nat.and_one_is_mod]
  by_cases hi : i ≤ 64
  · rw [Nat.min_eq_left hi]
    rw [Nat.testBit_eq_decide_div_mod_eq]
    generalize n / 2 ^ i % 2 = r
    by_cases hr : r = 1
    · subst hr; rfl
    · have : ¬ ((r : Int) = 1) := by omega
      simp [hr, this]
  · rw [Nat.min_eq_right (by omega)]
    rw [Nat.div_eq_of_lt hn, Nat.testBit_lt_two_pow (Nat.lt_of_lt_of_le hn (Nat.pow_le_pow_right (by decide) (by omega)))]
    rfl
theorem bt_one (i j : Nat) : bt (oneS i) j = decide (i = j ∧ i < 64) := by
  unfold bt oneS
  by_cases hi : i < 64
  · rw [Nat.min_eq_left (by omega)]
    have h1 : ((2 : Int) ^ i) = ((2 ^ i : Nat) : Int) := by simp
    have h2 : 2 ^ i < 2 ^ 64 := Nat.pow_lt_pow_right (by decide) hi
    rw [wrap_u _ ⟨Int.pow_nonneg (by decide), by rw [h1]; exact_mod_cast h2⟩, h1, BitVec.ofInt_natCast, BitVec.getLsbD_ofNat, Nat.testBit_two_pow]
    by_cases hj : i = j
    · subst hj; simp [hi]
    · simp [hj]
  · rw [Nat.min_eq_right (by omega), IntKind.wrap_u64]
    have : ¬ (i = j ∧ i < 64) := fun h => hi h.2
    simp [this]

theorem after_bt {s : Int} (h : U6 s) (j : Nat) : ∀ (l : List Ps) (i : Nat) (a : Int), bt (afterL s i l a) j = true ↔ bt a j = true ∨ ∃ k p, l[k]? = some p ∧ bt s (i + k) = true ∧ bt p.n j = true
  | [], i, a => by
    rw [afterL]
    constructor
    · exact .inl
    · rintro (h | ⟨k, p, h, _⟩)
      · exact h
      · cases h
  | q :: l, i, a => by
    rw [afterL, after_bt h j l (i + 1), bitQ_bt h]
    constructor
    · rintro (h1 | ⟨k, p, h1, h2, h3⟩)
      · by_cases hb : bt s i = true
        · rw [if_pos hb, bt_or, Bool.or_eq_true] at h1
          rcases h1 with h1 | h1
          · exact .inl h1
          · exact .inr ⟨0, q, rfl, hb, h1⟩
        · rw [if_neg hb] at h1
          exact .inl h1
      · exact .inr ⟨k + 1, p, h1, by rw [show i + (k + 1) = i + 1 + k by omega]; exact h2, h3⟩
    · rintro (h1 | ⟨k, p, h1, h2, h3⟩)
      · left
        split
        · rw [bt_or, h1]; rfl
        · exact h1
      · cases k with
        | zero =>
          cases h1
          left
          rw [Nat.add_zero] at h2
          rw [if_pos h2, bt_or, h3]
          exact Bool.or_true _
        | succ k => exact .inr ⟨k, p, h1, by rw [show i + 1 + k = i + (k + 1) by omega]; exact h2, h3⟩
theorem sum_bt (f : Ps → Bool) (F : Nat → List Ps → Int → Int) (hF0 : ∀ i a, F i [] a = a) (hF1 : ∀ i p l a, F i (p :: l) a = F (i + 1) l (if f p = true then orS a (oneS i) else a)) (j : Nat) :
    ∀ (l : List Ps) (i : Nat) (a : Int), bt (F i l a) j = true ↔ bt a j = true ∨ ∃ k p, l[k]? = some p ∧ f p = true ∧ i + k = j ∧ j < 64
  | [], i, a => by
    rw [hF0]
    constructor
    · exact .inl
    · rintro (h | ⟨k, p, h, _⟩)
      · exact h
      · cases h
  | q :: l, i, a => by
    rw [hF1, sum_bt f F hF0 hF1 j l (i + 1)]
    constructor
    · rintro (h1 | ⟨k, p, h1, h2, h3, h4⟩)
      · by_cases hb : f q = true
        · rw [if_pos hb, bt_or, Bool.or_eq_true] at h1
          rcases h1 with h1 | h1
          · exact .inl h1
          · rw [bt_one] at h1
            obtain ⟨h2, h3⟩ := of_decide_eq_true h1
            exact .inr ⟨0, q, rfl, hb, h2, by omega⟩
        · rw [if_neg hb] at h1
          exact .inl h1
      · exact .inr ⟨k + 1, p, h1, h2, by omega, h4⟩
    · rintro (h1 | ⟨k, p, h1, h2, h3, h4⟩)
      · left
        split
        · rw [bt_or, h1]; rfl
        · exact h1
      · cases k with
        | zero =>
          cases h1
          left
          rw [if_pos h2, bt_or, bt_one, decide_eq_true (show i = j ∧ i < 64 by omega)]
          exact Bool.or_true _
        | succ k => exact .inr ⟨k, p, h1, h2, by omega, h4⟩
theorem before_bt (s : Int) (ps : List Ps) (j : Nat) : bt (beforeL s 0 ps 0) j = true ↔ ∃ p, ps[j]? = some p ∧ bits BinOp.and IntKind.u64 p.n s ≠ 0 ∧ j < 64 := by
  rw [sum_bt (fun p => decide (bits BinOp.and IntKind.u64 p.n s ≠ 0)) (beforeL s) (fun _ _ => rfl) (fun i p l a => by
    rw [beforeL]
    by_cases h : bits BinOp.and IntKind.u64 p.n s = 0
    · rw [if_pos h, if_neg (by rw [decide_eq_true_iff]; exact fun q => q h)]
    · rw [if_neg h, if_pos (decide_eq_true h)]) j ps 0 0, bt_zero]
  constructor
  · rintro (h | ⟨k, p, h1, h2, h3, h4⟩)
    · cases h
    · obtain rfl : k = j := by omega
      exact ⟨p, h1, of_decide_eq_true h2, h4⟩
  · rintro ⟨p, h1, h2, h3⟩
    exact .inr ⟨j, p, h1, decide_eq_true h2, by omega, h3⟩
theorem reads_bt (c : Nat) (ps : List Ps) (j : Nat) : bt (readsL c 0 ps 0) j = true ↔ ∃ p, ps[j]? = some p ∧ p.s.has c = true ∧ j < 64 := by
  rw [sum_bt (fun p => p.s.has c) (readsL c) (fun _ _ => rfl) (fun i p l a => by rw [readsL]) j ps 0 0, bt_zero]
  constructor
  · rintro (h | ⟨k, p, h1, h2, h3, h4⟩)
    · cases h
    · obtain rfl : k = j := by omega
      exact ⟨p, h1, h2, h4⟩
  · rintro ⟨p, h1, h2, h3⟩
    exact .inr ⟨j, p, h1, h2, by omega, h3⟩
theorem bt_lt {x : Int} {i : Nat} (h : bt x i = true) : i < 64 := by
  unfold bt at h
  rcases Nat.lt_or_ge i 64 with h1 | h1
  · exact h1
  · rw [BitVec.getLsbD_of_ge _ _ h1] at h
    cases h
/-- What can come after, and what can come before. -/
theorem dual {x : Int} (h : U6 x) (y : Int) (ps : List Ps) : bits BinOp.and IntKind.u64 (afterL x 0 ps 0) y ≠ 0 ↔ bits BinOp.and IntKind.u64 x (beforeL y 0 ps 0) ≠ 0 := by
  rw [and_ne, and_ne]
  constructor
  · rintro ⟨j, h1, h2⟩
    rcases (after_bt h j ps 0 0).1 h1 with h1 | ⟨k, p, h3, h4, h5⟩
    · rw [bt_zero] at h1; cases h1
    · rw [Nat.zero_add] at h4
      exact ⟨k, h4, (before_bt y ps k).2 ⟨p, h3, (and_ne _ _).2 ⟨j, h5, h2⟩, bt_lt h4⟩⟩
  · rintro ⟨k, h1, h2⟩
    obtain ⟨p, h3, h4, _⟩ := (before_bt y ps k).1 h2
    obtain ⟨j, h5, h6⟩ := (and_ne _ _).1 h4
    exact ⟨j, (after_bt h j ps 0 0).2 (.inr ⟨k, p, h3, by rw [Nat.zero_add]; exact h1, h5⟩), h6⟩

/-- The state behind a text. -/
def fwdL (ps : List Ps) : List UInt8 → Int → Int
  | [], x => x
  | c :: r, x => fwdL ps r (bits BinOp.and IntKind.u64 (afterL x 0 ps 0) (readsL c.toNat 0 ps 0))
/-- The positions from which a text leads to the end of a match. -/
def backL (ps : List Ps) (last : Int) : List UInt8 → Int
  | [] => last
  | c :: r => beforeL (bits BinOp.and IntKind.u64 (readsL c.toNat 0 ps 0) (backL ps last r)) 0 ps 0
theorem back_cons {x : Int} (h : U6 x) (ps : List Ps) (last : Int) (c : UInt8) (r : List UInt8) : bits BinOp.and IntKind.u64 x (backL ps last (c :: r)) ≠ 0 ↔ ∃ j, bt (afterL x 0 ps 0) j = true ∧ bt (readsL c.toNat 0 ps 0) j = true ∧ bt (backL ps last r) j = true := by
  rw [backL, ← dual h, and_ne]
  constructor
  · rintro ⟨j, h1, h2⟩
    rw [bt_and, Bool.and_eq_true] at h2
    exact ⟨j, h1, h2⟩
  · rintro ⟨j, h1, h2⟩
    exact ⟨j, h1, by rw [bt_and, Bool.and_eq_true]; exact h2⟩
theorem fwd_back (ps : List Ps) (last : Int) : ∀ (L : List UInt8) (x : Int), U6 x → (bits BinOp.and IntKind.u64 (fwdL ps L x) last ≠ 0 ↔ bits BinOp.and IntKind.u64 x (backL ps last L) ≠ 0)
  | [], x, _ => Iff.rfl
  | c :: r, x, h => by
    rw [fwdL, fwd_back ps last r _ (and_u _ _), back_cons h, and_ne]
    constructor
    · rintro ⟨j, h1, h2⟩
      rw [bt_and, Bool.and_eq_true] at h1
      exact ⟨j, h1.1, h1.2, h2⟩
    · rintro ⟨j, h1, h2, h3⟩
      exact ⟨j, by rw [bt_and, Bool.and_eq_true]; exact ⟨h1, h2⟩, h3⟩

theorem hope_bt (ps : List Ps) (last : Int) (j : Nat) : ∀ (r : List UInt8) (c : UInt8), bt ((hopeL ps last (c :: r)).headD 0) j = true ↔ bt (readsL c.toNat 0 ps 0) j = true ∧ ∃ m, m ≤ r.length ∧ bt (backL ps last (r.take m)) j = true := by
  intro r
  induction r generalizing j with
  | nil =>
    intro c
    have h0 : bt (beforeL 0 0 ps 0) j = false := by
      cases hb : bt (beforeL 0 0 ps 0) j
      · rfl
      · obtain ⟨p, _, h2, _⟩ := (before_bt 0 ps j).1 hb
        obtain ⟨i, _, h3⟩ := (and_ne _ _).1 h2
        rw [bt_zero] at h3
        cases h3
    show bt (bits BinOp.and IntKind.u64 (readsL c.toNat 0 ps 0) (orS last (beforeL 0 0 ps 0))) j = true ↔ _
    rw [bt_and, bt_or, h0, Bool.or_false, Bool.and_eq_true]
    constructor
    · rintro ⟨h1, h2⟩
      exact ⟨h1, 0, Nat.le_refl _, h2⟩
    · rintro ⟨h1, m, hm, h2⟩
      rw [List.take_nil] at h2
      exact ⟨h1, h2⟩
  | cons c' r ih =>
    intro c
    show bt (bits BinOp.and IntKind.u64 (readsL c.toNat 0 ps 0) (orS last (beforeL ((hopeL ps last (c' :: r)).headD 0) 0 ps 0))) j = true ↔ _
    rw [bt_and, bt_or, Bool.and_eq_true, Bool.or_eq_true]
    constructor
    · rintro ⟨h1, h2 | h2⟩
      · exact ⟨h1, 0, Nat.zero_le _, h2⟩
      · obtain ⟨p, h3, h4, h5⟩ := (before_bt _ ps j).1 h2
        obtain ⟨q, h6, h7⟩ := (and_ne _ _).1 h4
        obtain ⟨h8, m, hm, h9⟩ := (ih q c').1 h7
        refine ⟨h1, m + 1, by simp; omega, ?_⟩
        rw [List.take_succ_cons, backL]
        exact (before_bt _ ps j).2 ⟨p, h3, (and_ne _ _).2 ⟨q, h6, by rw [bt_and, h8, h9]; rfl⟩, h5⟩
    · rintro ⟨h1, m, hm, h2⟩
      refine ⟨h1, ?_⟩
      cases m with
      | zero => exact .inl h2
      | succ m =>
        right
        rw [List.take_succ_cons, backL] at h2
        obtain ⟨p, h3, h4, h5⟩ := (before_bt _ ps j).1 h2
        obtain ⟨q, h6, h7⟩ := (and_ne _ _).1 h4
        rw [bt_and, Bool.and_eq_true] at h7
        exact (before_bt _ ps j).2 ⟨p, h3, (and_ne _ _).2 ⟨q, h6, (ih q c').2 ⟨h7.1, m, by simp at hm; omega, h7.2⟩⟩, h5⟩
theorem hopeL_drop (ps : List Ps) (last : Int) : ∀ (L : List UInt8) (i : Nat), i ≤ L.length → (hopeL ps last L).drop i = hopeL ps last (L.drop i)
  | L, 0, _ => rfl
  | [], i + 1, h => by simp at h
  | c :: r, i + 1, h => by
    rw [hopeL, List.drop_succ_cons, List.drop_succ_cons]
    exact hopeL_drop ps last r i (by simpa using h)

/-- Where the search stops: nothing longer is matched, and what it has found is. -/
theorem run_spec (ps : List Ps) (last : Int) : ∀ (L : List UInt8) (z : Int) (i : Nat), U6 z →
    (∀ m, runL ps (hopeL ps last L) z i - i < m → m ≤ L.length → bits BinOp.and IntKind.u64 z (backL ps last (L.take m)) = 0) ∧
    (i < runL ps (hopeL ps last L) z i → runL ps (hopeL ps last L) z i - i ≤ L.length ∧ bits BinOp.and IntKind.u64 z (backL ps last (L.take (runL ps (hopeL ps last L) z i - i))) ≠ 0)
  | [], z, i, hz => by
    have h0 : bits BinOp.and IntKind.u64 (afterL z 0 ps 0) 0 = 0 := by
      apply Classical.byContradiction
      intro h
      obtain ⟨j, _, h1⟩ := (and_ne _ _).1 h
      rw [bt_zero] at h1
      cases h1
    have hr : runL ps (hopeL ps last []) z i = i := by
      rw [hopeL, runL, if_pos h0]
    rw [hr]
    exact ⟨fun m h1 h2 => by simp at h2; omega, fun h => absurd h (Nat.lt_irrefl _)⟩
  | c :: r, z, i, hz => by
    obtain ⟨h0, hh⟩ : ∃ h0, h0 = (hopeL ps last (c :: r)).headD 0 := ⟨_, rfl⟩
    have hb := fun j => hope_bt ps last j r c
    rw [← hh] at hb
    have hcons : hopeL ps last (c :: r) = h0 :: hopeL ps last r := by rw [hh]; rfl
    rw [hcons, runL]
    have key : ∀ m, m ≤ r.length → bits BinOp.and IntKind.u64 z (backL ps last (c :: r.take m)) ≠ 0 → bits BinOp.and IntKind.u64 (bits BinOp.and IntKind.u64 (afterL z 0 ps 0) h0) (backL ps last (r.take m)) ≠ 0 := by
      intro m hm h1
      obtain ⟨j, h2, h3, h4⟩ := (back_cons hz ps last c _).1 h1
      exact (and_ne _ _).2 ⟨j, by rw [bt_and, h2, (hb j).2 ⟨h3, m, hm, h4⟩]; rfl, h4⟩
    have yek : ∀ m, bits BinOp.and IntKind.u64 (bits BinOp.and IntKind.u64 (afterL z 0 ps 0) h0) (backL ps last (r.take m)) ≠ 0 → bits BinOp.and IntKind.u64 z (backL ps last (c :: r.take m)) ≠ 0 := by
      intro m h1
      obtain ⟨j, h2, h3⟩ := (and_ne _ _).1 h1
      rw [bt_and, Bool.and_eq_true] at h2
      exact (back_cons hz ps last c _).2 ⟨j, h2.1, ((hb j).1 h2.2).1, h3⟩
    by_cases hz0 : bits BinOp.and IntKind.u64 (afterL z 0 ps 0) h0 = 0
    · rw [if_pos hz0]
      refine ⟨fun m h1 h2 => ?_, fun h => absurd h (Nat.lt_irrefl _)⟩
      obtain ⟨m, rfl⟩ : ∃ k, m = k + 1 := ⟨m - 1, by omega⟩
      rw [List.take_succ_cons]
      apply Classical.byContradiction
      intro h3
      have := key m (by simp at h2; omega) h3
      rw [hz0] at this
      obtain ⟨j, h4, _⟩ := (and_ne _ _).1 this
      rw [bt_zero] at h4
      cases h4
    · rw [if_neg hz0]
      obtain ⟨ih1, ih2⟩ := run_spec ps last r (bits BinOp.and IntKind.u64 (afterL z 0 ps 0) h0) (i + 1) (and_u _ _)
      have hle := runL_le ps (hopeL ps last r) (bits BinOp.and IntKind.u64 (afterL z 0 ps 0) h0) (i + 1)
      obtain ⟨e, he⟩ : ∃ e, e = runL ps (hopeL ps last r) (bits BinOp.and IntKind.u64 (afterL z 0 ps 0) h0) (i + 1) := ⟨_, rfl⟩
      rw [← he] at ih1 ih2 hle ⊢
      refine ⟨fun m h1 h2 => ?_, fun h => ?_⟩
      · obtain ⟨m, rfl⟩ : ∃ k, m = k + 1 := ⟨m - 1, by omega⟩
        rw [List.take_succ_cons]
        apply Classical.byContradiction
        intro h3
        have hm : m ≤ r.length := by simp at h2; omega
        exact key m hm h3 (ih1 m (by omega) hm)
      · by_cases h1 : i + 1 < e
        · obtain ⟨h2, h3⟩ := ih2 h1
          have he2 : e - i = (e - (i + 1)) + 1 := by omega
          rw [he2, List.take_succ_cons]
          exact ⟨by simp; omega, yek _ h3⟩
        · obtain rfl : e = i + 1 := by omega
          obtain ⟨j, h2⟩ := (ne_zero (and_u _ _)).1 hz0
          have h2' := h2
          rw [bt_and, Bool.and_eq_true] at h2'
          obtain ⟨h3, m, hm, h4⟩ := (hb j).1 h2'.2
          have h5 : bits BinOp.and IntKind.u64 (bits BinOp.and IntKind.u64 (afterL z 0 ps 0) h0) (backL ps last (r.take m)) ≠ 0 := (and_ne _ _).2 ⟨j, h2, h4⟩
          have h6 : m = 0 := by
            apply Classical.byContradiction
            intro hne
            exact h5 (ih1 m (by omega) hm)
          subst h6
          have h7 := yek 0 h5
          rw [show i + 1 - i = 0 + 1 by omega, List.take_succ_cons]
          exact ⟨by simp, h7⟩

/-- Whether the automaton accepts a text. -/
def accT (ps : List Ps) (last : Int) (L : List UInt8) : Bool := decide (bits BinOp.and IntKind.u64 (fwdL ps L 1) last ≠ 0)
theorem one_u : U6 1 := ⟨by decide, by decide⟩
theorem acc_run (ps : List Ps) (last : Int) (L : List UInt8) (i : Nat) (hi : i ≤ L.length) :
    (∀ j, runL ps ((hopeL ps last L).drop i) 1 i < j → j ≤ L.length → accT ps last ((L.drop i).take (j - i)) = false) ∧
    (i < runL ps ((hopeL ps last L).drop i) 1 i → accT ps last ((L.drop i).take (runL ps ((hopeL ps last L).drop i) 1 i - i)) = true) := by
  rw [hopeL_drop ps last L i hi]
  obtain ⟨h1, h2⟩ := run_spec ps last (L.drop i) 1 i one_u
  have hle := runL_le ps (hopeL ps last (L.drop i)) 1 i
  obtain ⟨e, he⟩ : ∃ e, e = runL ps (hopeL ps last (L.drop i)) 1 i := ⟨_, rfl⟩
  rw [← he] at h1 h2 hle ⊢
  constructor
  · intro j hj hn
    have := h1 (j - i) (by omega) (by rw [List.length_drop]; omega)
    unfold accT
    rw [decide_eq_false_iff_not]
    intro h
    exact (fwd_back ps last _ 1 one_u).1 h this
  · intro h
    unfold accT
    exact decide_eq_true ((fwd_back ps last _ 1 one_u).2 (h2 h).2)
end

section
open Go.RowKit

theorem u_nat {x : Int} (h : U6 x) : x = ((BitVec.ofInt 64 x).toNat : Int) := by
  obtain ⟨h0, h1⟩ := h
  rw [BitVec.toNat_ofInt]
  omega
theorem u_ext {x y : Int} (hx : U6 x) (hy : U6 y) (h : ∀ i, bt x i = bt y i) : x = y := by
  rw [u_nat hx, u_nat hy, show BitVec.ofInt 64 x = BitVec.ofInt 64 y from BitVec.eq_of_getLsbD_eq fun i _ => h i]
theorem one_U (i : Nat) : U6 (oneS i) := by
  unfold oneS
  rw [IntKind.wrap_u64]
  exact ⟨Int.emod_nonneg _ (by decide), by have := Int.emod_lt_of_pos (2 ^ min i 64 : Int) (show (0 : Int) < 18446744073709551616 by decide); omega⟩
theorem orQ_S (x : Int) (c : Nat) : orQ x c = orS x (oneS (c % 64)) := by
  unfold orQ orS oneS
  rw [Nat.min_eq_left (by omega)]
theorem orQ_U (x : Int) (c : Nat) : U6 (orQ x c) := by rw [orQ_S]; exact or_u _ _
theorem hasQ_bt {x : Int} (h : U6 x) (c : Nat) : hasQ x c = bt x (c % 64) := by
  rw [← bitQ_bt h]
  unfold hasQ bitQ
  rw [Nat.min_eq_left (by omega)]
theorem bt_orQ (x : Int) (c i : Nat) : bt (orQ x c) i = (bt x i || decide (c % 64 = i)) := by
  rw [orQ_S, bt_or, bt_one]
  congr 1
  rw [Bool.eq_iff_iff]
  simp
  omega
theorem hasQ_mod {x : Int} (h : U6 x) (c : Nat) : hasQ x c = ((x / 2 ^ (c % 64)).tmod 2 == 1) := by
  obtain ⟨n, rfl⟩ := Int.eq_ofNat_of_zero_le h.1
  have hn : n < 2 ^ 64 := by have := h.2; omega
  unfold hasQ
  have h3 : ((n : Int) / 2 ^ (c % 64)) = ((n / 2 ^ (c % 64) : Nat) : Int) := by
    rw [Int.natCast_ediv]; simp
  rw [h3]
  have h4 : n / 2 ^ (c % 64) < 2 ^ 64 := Nat.lt_of_le_of_lt (Nat.div_le_self _ _) hn
  have h5 := (bits_nat IntKind.u64 64 (by decide) (fun n h0 h1 => wrap_u n ⟨h0, h1⟩) (n / 2 ^ (c % 64)) 1 h4 (by decide)).1
  rw [show ((1 : Nat) : Int) = 1 from rfl] at h5
  rw [h5, Nat.and_one_is_mod]
  generalize n / 2 ^ (c % 64) = q
  have : ((q : Int).tmod 2) = ((q % 2 : Nat) : Int) := by
    rw [Int.tmod_eq_emod_of_nonneg (by omega)]; omega
  rw [this]
theorem orQ_same {x : Int} (h : U6 x) {c : Nat} (hb : hasQ x c = true) : orQ x c = x := by
  rw [hasQ_bt h] at hb
  refine u_ext (orQ_U _ _) h fun i => ?_
  rw [bt_orQ]
  by_cases hi : c % 64 = i
  · rw [← hi, hb]; rfl
  · rw [decide_eq_false hi, Bool.or_false]
theorem orQ_sum {x : Int} (h : U6 x) {c : Nat} (hb : hasQ x c = false) : orQ x c = IntKind.u64.wrap (x + IntKind.u64.wrap (2 ^ (c % 64))) := by
  rw [hasQ_bt h] at hb
  have h1 : IntKind.u64.wrap (2 ^ (c % 64)) = oneS (c % 64) := by unfold oneS; rw [Nat.min_eq_left (by omega)]
  have h2 : BitVec.ofInt 64 x &&& BitVec.ofInt 64 (oneS (c % 64)) = 0#64 := BitVec.eq_of_getLsbD_eq fun i _ => by
    rw [BitVec.getLsbD_and]
    show (bt x i && bt (oneS (c % 64)) i) = _
    rw [bt_one]
    by_cases hi : c % 64 = i
    · rw [← hi, hb]; simp
    · simp [hi]
  have h3 : IntKind.u64.wrap (x + oneS (c % 64)) = ((BitVec.ofInt 64 (x + oneS (c % 64))).toNat : Int) := by
    rw [IntKind.wrap_u64, BitVec.toNat_ofInt]; omega
  rw [h1, orQ_S, or_bv, h3, BitVec.ofInt_add, BitVec.add_eq_or_of_and_eq_zero _ _ h2]

/-- A set of four numbers of 64 bits. -/
def S4.Ok (s : S4) : Prop := U6 s.a ∧ U6 s.b ∧ U6 s.c ∧ U6 s.d
theorem zero_U : U6 0 := ⟨by decide, by decide⟩
theorem S4.zero_ok : S4.zero.Ok := ⟨zero_U, zero_U, zero_U, zero_U⟩
theorem S4.add_ok {s : S4} (h : s.Ok) (c : Nat) : (s.add c).Ok := by
  obtain ⟨h0, h1, h2, h3⟩ := h
  unfold S4.add
  split
  · exact ⟨orQ_U _ _, h1, h2, h3⟩
  · exact ⟨h0, orQ_U _ _, h2, h3⟩
  · exact ⟨h0, h1, orQ_U _ _, h3⟩
  · exact ⟨h0, h1, h2, orQ_U _ _⟩
theorem S4.Ok.get_ok {s : S4} (h : s.Ok) (k : Nat) : U6 (s.get k) := by
  obtain ⟨h0, h1, h2, h3⟩ := h
  unfold S4.get
  split <;> assumption
theorem addsL_ok : ∀ (n : Nat) (s : S4) (c : Nat), s.Ok → (addsL n s c).Ok
  | 0, _, _, h => h
  | n + 1, _, c, h => addsL_ok n _ (c + 1) (S4.add_ok h c)
theorem S4.add_same {s : S4} (h : s.Ok) {c : Nat} (hb : s.has c = true) : s.add c = s := by
  unfold S4.has at hb
  have hq := orQ_same (h.get_ok (c / 64)) hb
  unfold S4.get at hq
  unfold S4.add
  split <;> rename_i hc <;> simp_all
theorem has_add {s : S4} (h : s.Ok) {c d : Nat} (hc : c < 256) (hd : d < 256) : (s.add c).has d = (s.has d || decide (c = d)) := by
  have key : ∀ x : Int, U6 x → hasQ (orQ x c) d = (hasQ x d || decide (c % 64 = d % 64)) := fun x hx => by
    rw [hasQ_bt (orQ_U _ _), hasQ_bt hx, bt_orQ]
  have hg := h.get_ok
  unfold S4.has
  by_cases he : c / 64 = d / 64
  · rw [show (s.add c).get (d / 64) = orQ (s.get (d / 64)) c by
      unfold S4.add S4.get
      rw [he]
      rcases div64' hd with h | h | h | h <;> (rw [h]; rfl), key _ (hg _)]
    congr 1
    rw [Bool.eq_iff_iff]
    simp
    omega
  · rw [show (s.add c).get (d / 64) = s.get (d / 64) by
      unfold S4.add S4.get
      rcases div64' hc with h | h | h | h <;> rcases div64' hd with h' | h' | h' | h' <;> rw [h, h'] <;> (first | rfl | (exact absurd (h.trans h'.symm) he))]
    rw [decide_eq_false (fun e => he (by rw [e])), Bool.or_false]
where
  div64' {c : Nat} (hc : c < 256) : c / 64 = 0 ∨ c / 64 = 1 ∨ c / 64 = 2 ∨ c / 64 = 3 := by omega
theorem S4.ext {s t : S4} (hs : s.Ok) (ht : t.Ok) (h : ∀ c, c < 256 → s.has c = t.has c) : s = t := by
  have key : ∀ (k : Nat), k < 4 → s.get k = t.get k := fun k hk => by
    refine u_ext (hs.get_ok k) (ht.get_ok k) fun i => ?_
    by_cases hi : i < 64
    · have h1 := h (k * 64 + i) (by omega)
      unfold S4.has at h1
      rw [show (k * 64 + i) / 64 = k by omega, hasQ_bt (hs.get_ok k), hasQ_bt (ht.get_ok k), show (k * 64 + i) % 64 = i by omega] at h1
      exact h1
    · have hz : ∀ x : Int, bt x i = false := fun x => by
        unfold bt
        exact BitVec.getLsbD_of_ge _ _ (by omega)
      rw [hz, hz]
  obtain ⟨a, b, c, d⟩ := s
  obtain ⟨a', b', c', d'⟩ := t
  have k0 : a = a' := key 0 (by decide)
  have k1 : b = b' := key 1 (by decide)
  have k2 : c = c' := key 2 (by decide)
  have k3 : d = d' := key 3 (by decide)
  rw [k0, k1, k2, k3]
theorem has_zero (c : Nat) : S4.zero.has c = false := by
  unfold S4.has
  rw [hasQ_bt (S4.zero_ok.get_ok _)]
  have : S4.zero.get (c / 64) = 0 := by unfold S4.get S4.zero; split <;> rfl
  rw [this, bt_zero]

/-- rest, from a byte on. -/
def restL (s : S4) : Nat → S4 → Nat → S4
  | 0, o, _ => o
  | n + 1, o, c => restL s n (if s.has c = true then o else o.add c) (c + 1)
def restS (s : S4) : S4 := restL s 95 .zero 32
theorem restL_ok (s : S4) : ∀ (n : Nat) (o : S4) (c : Nat), o.Ok → (restL s n o c).Ok
  | 0, _, _, h => h
  | n + 1, o, c, h => by
    rw [restL]
    refine restL_ok s n _ (c + 1) ?_
    split
    · exact h
    · exact S4.add_ok h c
theorem has_restL (s : S4) (d : Nat) (hd : d < 256) : ∀ (n : Nat) (o : S4) (c : Nat), o.Ok → c + n ≤ 256 → (restL s n o c).has d = (o.has d || (decide (c ≤ d) && decide (d < c + n) && !s.has d))
  | 0, o, c, _, _ => by
    rw [restL]
    have : (decide (c ≤ d) && decide (d < c + 0)) = false := by
      rw [Bool.and_eq_false_iff]
      by_cases h : c ≤ d
      · right; simp; omega
      · left; simp; omega
    rw [this]; simp
  | n + 1, o, c, h, hn => by
    have ho : (if s.has c = true then o else o.add c).Ok := by
      split
      · exact h
      · exact S4.add_ok h c
    rw [restL, has_restL s d hd n _ (c + 1) ho (by omega)]
    by_cases hs : s.has c = true
    · rw [if_pos hs, Bool.eq_iff_iff]
      simp
      constructor
      · rintro (h1 | h1)
        · exact .inl h1
        · exact .inr ⟨by omega, h1.2⟩
      · rintro (h1 | h1)
        · exact .inl h1
        · have : c ≠ d := fun e => by rw [e, h1.2] at hs; cases hs
          exact .inr ⟨by omega, h1.2⟩
    · rw [if_neg hs, has_add h (by omega) hd, Bool.eq_iff_iff]
      simp at hs
      simp
      constructor
      · rintro ((h1 | h1) | h1)
        · exact .inl h1
        · subst h1; exact .inr ⟨by omega, hs⟩
        · exact .inr ⟨by omega, h1.2⟩
      · rintro (h1 | h1)
        · exact .inl (.inl h1)
        · by_cases he : c = d
          · exact .inl (.inr he)
          · exact .inr ⟨by omega, h1.2⟩
theorem andNot_bt {x y : Int} (i : Nat) : bt (bits BinOp.andNot IntKind.u64 x y) i = (bt x i && !bt y i) := by
  have h : bits BinOp.andNot IntKind.u64 x y = ((BitVec.ofInt 64 x &&& ~~~BitVec.ofInt 64 y).toNat : Int) := wrap_u _ (nat_u _)
  unfold bt
  rw [h, back_bv, BitVec.getLsbD_and, BitVec.getLsbD_not]
  by_cases hi : i < 64
  · simp [hi]
  · rw [BitVec.getLsbD_of_ge (BitVec.ofInt 64 x) i (by omega)]; simp
theorem andNot_U (x y : Int) : U6 (bits BinOp.andNot IntKind.u64 x y) := by
  have h : bits BinOp.andNot IntKind.u64 x y = ((BitVec.ofInt 64 x &&& ~~~BitVec.ofInt 64 y).toNat : Int) := wrap_u _ (nat_u _)
  rw [h]
  exact nat_u _
theorem alpha_ok : S4.alpha.Ok := ⟨⟨by decide, by decide⟩, ⟨by decide, by decide⟩, ⟨by decide, by decide⟩, ⟨by decide, by decide⟩⟩
theorem without_ok (s t : S4) : (s.without t).Ok := ⟨andNot_U _ _, andNot_U _ _, andNot_U _ _, andNot_U _ _⟩
theorem has_without {s t : S4} (hs : s.Ok) (ht : t.Ok) (c : Nat) (_hc : c < 256) : (s.without t).has c = (s.has c && !t.has c) := by
  unfold S4.has
  rw [hasQ_bt ((without_ok s t).get_ok _), hasQ_bt (hs.get_ok _), hasQ_bt (ht.get_ok _)]
  have : (s.without t).get (c / 64) = bits BinOp.andNot IntKind.u64 (s.get (c / 64)) (t.get (c / 64)) := by
    unfold S4.without S4.get
    split <;> rfl
  rw [this, andNot_bt]
theorem has_alpha : ∀ c, c < 256 → S4.alpha.has c = (decide (32 ≤ c) && decide (c ≤ 126)) := by
  have h : (List.range 256).all (fun c => S4.alpha.has c == (decide (32 ≤ c) && decide (c ≤ 126))) = true := by kernel_rfl
  intro c hc
  have := List.all_eq_true.1 h c (List.mem_range.2 hc)
  simpa using this
theorem rest_eq {s : S4} (hs : s.Ok) : restS s = S4.alpha.without s := by
  refine S4.ext (restL_ok s _ _ _ S4.zero_ok) (without_ok _ _) fun c hc => ?_
  unfold restS
  rw [has_restL s c hc _ _ _ S4.zero_ok (by decide), has_zero, has_without alpha_ok hs c hc, has_alpha c hc, Bool.false_or]
  congr 2
  rw [Bool.eq_iff_iff]
  simp
  omega
theorem without_zero : S4.alpha.without .zero = S4.alpha := by
  refine S4.ext (without_ok _ _) alpha_ok fun c hc => ?_
  rw [has_without alpha_ok S4.zero_ok c hc, has_zero]
  simp
end

section
open Go.RowKit

def clsE (s : S4) : List UInt8 → List Bool → List Bool
  | c :: r, b :: F => (b && s.has c.toNat) :: clsE s r F
  | _, _ => []
def orL (X Y : List Bool) : List Bool := List.zipWith (fun a b => a || b) X Y
def anyNew (X Y : List Bool) : Bool := (List.zipWith (fun a b => b && !a) X Y).any id
def repR (f : List Bool → List Bool) : Nat → List Bool → List Bool
  | 0, X => X
  | g + 1, X => if anyNew X (f X) = true then repR f g (orL X (f X)) else orL X (f X)
mutual
def endsT (L : List UInt8) : PT → List Bool → List Bool
  | .mk k s l => fun F => if k = 2 then F else if k = 3 then false :: clsE s L F else if k = 4 then catE L l F else if k = 5 then altE L l F (List.replicate (L.length + 1) false)
    else if k = 6 then repE L l F else List.replicate (L.length + 1) false
def catE (L : List UInt8) : List PT → List Bool → List Bool
  | [] => fun F => F
  | t :: l => fun F => catE L l (endsT L t F)
def altE (L : List UInt8) : List PT → List Bool → List Bool → List Bool
  | [] => fun _ O => O
  | t :: l => fun F O => altE L l F (orL O (endsT L t F))
def repE (L : List UInt8) : List PT → List Bool → List Bool
  | [] => fun F => F
  | t :: _ => fun F => repR (endsT L t) (L.length + 2) F
end
theorem endsT_eq (L : List UInt8) (t : PT) (F : List Bool) : endsT L t F = if t.k = 2 then F else if t.k = 3 then false :: clsE t.s L F else if t.k = 4 then catE L t.l F else if t.k = 5 then altE L t.l F (List.replicate (L.length + 1) false)
    else if t.k = 6 then repE L t.l F else List.replicate (L.length + 1) false := by
  cases t; rw [endsT]; rfl
theorem clsE_len (s : S4) : ∀ (L : List UInt8) (F : List Bool), F.length = L.length + 1 → (clsE s L F).length = L.length
  | [], _, _ => by rw [clsE]; rfl; simp
  | c :: r, [], h => by simp at h
  | c :: r, b :: F, h => by
    rw [clsE, List.length_cons, clsE_len s r F (by simpa using h)]; rfl
theorem orL_len {X Y : List Bool} (h : Y.length = X.length) : (orL X Y).length = X.length := by
  unfold orL; rw [List.length_zipWith, h, Nat.min_self]
theorem repR_len {f : List Bool → List Bool} {n : Nat} (hf : ∀ F, F.length = n → (f F).length = n) : ∀ (g : Nat) (X : List Bool), X.length = n → (repR f g X).length = n
  | 0, _, h => h
  | g + 1, X, h => by
    have h1 : (orL X (f X)).length = n := by rw [orL_len (by rw [hf X h, h]), h]
    rw [repR]
    split
    · exact repR_len hf g _ h1
    · exact h1
theorem endsT_len (L : List UInt8) (t : PT) : ∀ F, F.length = L.length + 1 → (endsT L t F).length = L.length + 1 := by
  have hc : ∀ l : List PT, (∀ x, x ∈ l → ∀ F, F.length = L.length + 1 → (endsT L x F).length = L.length + 1) → ∀ F, F.length = L.length + 1 → (catE L l F).length = L.length + 1 := by
    intro l
    induction l with
    | nil => intro _ F h; rw [catE]; exact h
    | cons t l ih => intro hx F h; rw [catE]; exact ih (fun x hm => hx x (List.mem_cons_of_mem _ hm)) _ (hx t (List.mem_cons_self ..) F h)
  have ha : ∀ l : List PT, (∀ x, x ∈ l → ∀ F, F.length = L.length + 1 → (endsT L x F).length = L.length + 1) → ∀ F O, F.length = L.length + 1 → O.length = L.length + 1 → (altE L l F O).length = L.length + 1 := by
    intro l
    induction l with
    | nil => intro _ F O _ h; rw [altE]; exact h
    | cons t l ih => intro hx F O h h'; rw [altE]; exact ih (fun x hm => hx x (List.mem_cons_of_mem _ hm)) _ _ h (by rw [orL_len (by rw [hx t (List.mem_cons_self ..) F h, h'])]; exact h')
  induction t using PT.ind with
  | h t ih =>
  intro F h
  rw [endsT_eq]
  split
  · exact h
  split
  · rw [List.length_cons, clsE_len _ _ _ h]
  split
  · exact hc _ ih F h
  split
  · exact ha _ ih F _ h (by simp)
  split
  · match hl : t.l with
    | [] => rw [repE]; exact h
    | x :: r => rw [repE]; exact repR_len (ih x (by rw [hl]; exact List.mem_cons_self ..)) _ _ h
  · simp
theorem clsE_at (s : S4) : ∀ (L : List UInt8) (F : List Bool) (i : Nat) (c : UInt8) (b : Bool), L[i]? = some c → F[i]? = some b → (clsE s L F)[i]? = some (b && s.has c.toNat)
  | [], _, i, _, _, h, _ => by simp at h
  | _ :: _, [], i, _, _, _, h => by simp at h
  | c :: r, b :: F, 0, _, _, h, h' => by simp at h h'; subst h; subst h'; rw [clsE]; rfl
  | c :: r, b :: F, i + 1, c', b', h, h' => by rw [clsE]; exact clsE_at s r F i c' b' (by simpa using h) (by simpa using h')

/-- The head of a row, the rest false. -/
def fillL (R : List Bool) (k : Nat) : List Bool := R.take k ++ List.replicate (R.length - k) false
theorem fillL_len (R : List Bool) (k : Nat) (h : k ≤ R.length) : (fillL R k).length = R.length := by unfold fillL; simp; omega
theorem fillL_zero (R : List Bool) : fillL R 0 = List.replicate R.length false := by unfold fillL; simp
theorem fillL_set (R : List Bool) (k : Nat) (h : k < R.length) : (fillL R k).set k R[k] = fillL R (k + 1) := by
  have e : R.take (k + 1) = R.take k ++ [R[k]] := by rw [List.take_add_one, List.getElem?_eq_getElem h]; rfl
  have hl : (R.take k).length = k := by rw [List.length_take]; omega
  unfold fillL
  rw [List.set_append_right _ _ (by omega), hl, Nat.sub_self, e, List.append_assoc, show R.length - k = (R.length - (k + 1)) + 1 by omega, List.replicate_succ]
  rfl
theorem fillL_one (R : List Bool) (h : 0 < R.length) (h0 : R[0] = false) : fillL R 1 = List.replicate R.length false := by
  rw [← fillL_set R 0 h, fillL_zero, h0]
  rw [show R.length = (R.length - 1) + 1 by omega, List.replicate_succ]
  simp
theorem fillL_all (R : List Bool) : fillL R R.length = R := by unfold fillL; simp
/-- The head of a row brought together with another one. -/
def orK (X Y : List Bool) (k : Nat) : List Bool := (orL X Y).take k ++ X.drop k
theorem orK_zero (X Y : List Bool) : orK X Y 0 = X := by unfold orK; simp
theorem orK_len {X Y : List Bool} (h : Y.length = X.length) (k : Nat) (hk : k ≤ X.length) : (orK X Y k).length = X.length := by
  unfold orK; simp [orL_len h]; omega
theorem orK_at {X Y : List Bool} (h : Y.length = X.length) (k : Nat) (hk : k < X.length) : (orK X Y k)[k]? = some X[k] := by
  unfold orK
  rw [List.getElem?_append_right (by simp [orL_len h]; omega)]
  simp [orL_len h, Nat.min_eq_left (Nat.le_of_lt hk)]
theorem orK_set {X Y : List Bool} (h : Y.length = X.length) (k : Nat) (hk : k < X.length) : (orK X Y k).set k (X[k] || Y[k]) = orK X Y (k + 1) := by
  have hl := orL_len h
  have hx : (orL X Y)[k]? = some (X[k] || Y[k]) := by
    unfold orL
    rw [List.getElem?_zipWith, List.getElem?_eq_getElem hk, List.getElem?_eq_getElem (by omega)]
  have e : (orL X Y).take (k + 1) = (orL X Y).take k ++ [X[k] || Y[k]] := by rw [List.take_add_one, hx]; rfl
  have hk2 : ((orL X Y).take k).length = k := by rw [List.length_take]; omega
  unfold orK
  rw [List.set_append_right _ _ (by omega), hk2, Nat.sub_self, e, List.append_assoc, List.drop_eq_getElem_cons hk]
  rfl
theorem orK_all {X Y : List Bool} (h : Y.length = X.length) : orK X Y X.length = orL X Y := by
  unfold orK
  rw [List.take_of_length_le (by rw [orL_len h]; exact Nat.le_refl _)]
  simp
/-- Whether the first places bring something new. -/
def newK (X Y : List Bool) (k : Nat) : Bool := anyNew (X.take k) (Y.take k)
theorem newK_zero (X Y : List Bool) : newK X Y 0 = false := by unfold newK anyNew; simp
theorem newK_succ {X Y : List Bool} (h : Y.length = X.length) (k : Nat) (hk : k < X.length) : newK X Y (k + 1) = (newK X Y k || (Y[k] && !X[k])) := by
  unfold newK anyNew
  rw [List.take_add_one, List.take_add_one, List.getElem?_eq_getElem hk, List.getElem?_eq_getElem (by omega)]
  rw [List.zipWith_append (by simp; omega)]
  simp
theorem newK_all {X Y : List Bool} (h : Y.length = X.length) : newK X Y X.length = anyNew X Y := by
  unfold newK
  rw [List.take_of_length_le (Nat.le_refl _), List.take_of_length_le (by omega)]
/-- The places that are not yet true. -/
def cntF (X : List Bool) : Nat := X.count false
theorem cnt_orL : ∀ (X Y : List Bool), Y.length = X.length → anyNew X Y = true → cntF (orL X Y) < cntF X
  | [], [], _, h => by simp [anyNew] at h
  | [], _ :: _, h, _ => by simp at h
  | _ :: _, [], h, _ => by simp at h
  | a :: X, b :: Y, hl, h => by
    have hl' : Y.length = X.length := by simpa using hl
    have hle : cntF (orL X Y) ≤ cntF X := le X Y hl'
    unfold anyNew at h
    simp only [List.zipWith_cons_cons, List.any_cons, Bool.or_eq_true, id] at h
    show cntF ((a || b) :: orL X Y) < cntF (a :: X)
    unfold cntF at *
    rw [List.count_cons, List.count_cons]
    rcases h with h | h
    · cases a <;> cases b <;> simp at h ⊢
      omega
    · have := cnt_orL X Y hl' h
      unfold cntF at this
      cases a <;> cases b <;> simp <;> omega
where
  le : ∀ (X Y : List Bool), Y.length = X.length → cntF (orL X Y) ≤ cntF X
    | [], [], _ => Nat.le_refl _
    | [], _ :: _, h => by simp at h
    | _ :: _, [], h => by simp at h
    | a :: X, b :: Y, h => by
      have := le X Y (by simpa using h)
      show cntF ((a || b) :: orL X Y) ≤ cntF (a :: X)
      unfold cntF at *
      rw [List.count_cons, List.count_cons]
      cases a <;> cases b <;> simp <;> omega
end


section
open Go.RowKit
/-- Whether a pattern matches a text. -/
def accS (p s : ByteArray) : Bool := match parseT p.data.toList with
  | .ok t _ => accT (buildT t).1 (buildT t).2 s.data.toList
  | .bad _ => false
theorem err_ok {p : ByteArray} (h : errP p = 0) : ∃ t m, parseT p.data.toList = .ok t m ∧ ¬ (p.size < 1 ∨ 40 < p.size) := by
  unfold errP at h
  split at h
  · cases h
  · rename_i hs
    split at h
    · cases h
    · rename_i t m hq
      exact ⟨t, m, hq, hs⟩
theorem extract_list (s : ByteArray) (i j : Nat) : (s.extract i j).data.toList = (s.data.toList.drop i).take (j - i) := by
  rw [ByteArray.data_extract, Array.toList_extract, List.extract_eq_take_drop]
end
end Go.Proofs.YtaipaddfehpmgaaDoor
