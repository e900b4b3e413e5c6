/-
  The automata, bit by bit: what a text leads to, and where the search for a match stops. With no program in it. Nothing is assumed.
-/
import Derived.Test.YtbogiigdadljpaaDoorPtPure
namespace Go.Proofs.YtbogiigdadljpaaDoor
open Go.RowKit

/-- A bit of a set. -/
def bt (x : Int) (i : Nat) : Bool := (BitVec.ofInt 64 x).getLsbD i
/-- A number of 64 bits. -/
def U6 (x : Int) : Prop := 0 ≤ x ∧ x < 2 ^ 64
theorem wrap_u (n : Int) (h : U6 n) : IntKind.u64.wrap n = n := by
  rw [IntKind.wrap_u64]
  obtain ⟨h0, h1⟩ := h
  omega
theorem nat_u (a : BitVec 64) : U6 (a.toNat : Int) := ⟨Int.natCast_nonneg _, by have := a.isLt; omega⟩
theorem back_bv (a : BitVec 64) : BitVec.ofInt 64 (a.toNat : Int) = a := by
  rw [BitVec.ofInt_natCast, BitVec.ofNat_toNat, BitVec.setWidth_eq]
theorem and_bv (x y : Int) : bits BinOp.and IntKind.u64 x y = ((BitVec.ofInt 64 x &&& BitVec.ofInt 64 y).toNat : Int) := wrap_u _ (nat_u _)
theorem or_bv (x y : Int) : orS x y = ((BitVec.ofInt 64 x ||| BitVec.ofInt 64 y).toNat : Int) := wrap_u _ (nat_u _)
theorem and_u (x y : Int) : U6 (bits BinOp.and IntKind.u64 x y) := by rw [and_bv]; exact nat_u _
theorem or_u (x y : Int) : U6 (orS x y) := by rw [or_bv]; exact nat_u _
theorem bt_and (x y : Int) (i : Nat) : bt (bits BinOp.and IntKind.u64 x y) i = (bt x i && bt y i) := by
  unfold bt
  rw [and_bv, back_bv, BitVec.getLsbD_and]
theorem bt_or (x y : Int) (i : Nat) : bt (orS x y) i = (bt x i || bt y i) := by
  unfold bt
  rw [or_bv, back_bv, BitVec.getLsbD_or]
theorem bt_zero (i : Nat) : bt 0 i = false := by
  unfold bt
  simp
theorem u_zero {x : Int} (h : U6 x) (hz : ∀ i, bt x i = false) : x = 0 := by
  obtain ⟨n, rfl⟩ := Int.eq_ofNat_of_zero_le h.1
  have hn : n < 2 ^ 64 := by have := h.2; omega
  have : BitVec.ofInt 64 (n : Int) = 0#64 := BitVec.eq_of_getLsbD_eq fun i _ => by
    have := hz i
    unfold bt at this
    rw [this]; simp
  rw [BitVec.ofInt_natCast] at this
  have h2 := congrArg BitVec.toNat this
  rw [BitVec.toNat_ofNat, Nat.mod_eq_of_lt hn] at h2
  simp at h2
  omega
theorem ne_zero {x : Int} (h : U6 x) : x ≠ 0 ↔ ∃ i, bt x i = true := by
  constructor
  · intro hx
    apply Classical.byContradiction
    intro hn
    exact hx (u_zero h fun i => by
      cases hb : bt x i
      · rfl
      · exact absurd ⟨i, hb⟩ hn)
  · rintro ⟨i, hi⟩ rfl
    rw [bt_zero] at hi
    cases hi
theorem and_ne (x y : Int) : bits BinOp.and IntKind.u64 x y ≠ 0 ↔ ∃ i, bt x i = true ∧ bt y i = true := by
  rw [ne_zero (and_u x y)]
  constructor
  · rintro ⟨i, hi⟩
    rw [bt_and, Bool.and_eq_true] at hi
    exact ⟨i, hi⟩
  · rintro ⟨i, hi⟩
    exact ⟨i, by rw [bt_and, Bool.and_eq_true]; exact hi⟩
theorem bitQ_bt {s : Int} (h : U6 s) (i : Nat) : bitQ s i = bt s i := by
  obtain ⟨n, rfl⟩ := Int.eq_ofNat_of_zero_le h.1
  have hn : n < 2 ^ 64 := by have := h.2; omega
  have h1 : bt (n : Int) i = n.testBit i := by
    unfold bt
    rw [BitVec.ofInt_natCast, BitVec.getLsbD_ofNat]
    by_cases hi : i < 64
    · simp [hi]
    · have : n.testBit i = false := Nat.testBit_lt_two_pow (Nat.lt_of_lt_of_le hn (Nat.pow_le_pow_right (by decide) (by omega)))
      simp [hi, this]
  have h2 : n.testBit i = n.testBit i := rfl
  rw [h1]
  unfold bitQ
  have h3 : ((n : Int) / 2 ^ min i 64) = ((n / 2 ^ min i 64 : Nat) : Int) := by
    rw [Int.natCast_ediv]; simp
  rw [h3]
  have h4 : n / 2 ^ min i 64 < 2 ^ 64 := Nat.lt_of_le_of_lt (Nat.div_le_self _ _) hn
  have h5 := (bits_nat IntKind.u64 64 (by decide) (fun n h0 h1 => wrap_u n ⟨h0, h1⟩) (n / 2 ^ min i 64) 1 h4 (by decide)).1
  rw [show ((1 : Nat) : Int) = 1 from rfl] at h5
  rw [h5, Nat.and_one_is_mod]
  by_cases hi : i ≤ 64
  · rw [Nat.min_eq_left hi]
    rw [Nat.testBit_eq_decide_div_mod_eq]
    generalize n / 2 ^ i % 2 = r
    by_cases hr : r = 1
    · subst hr; rfl
    · have : ¬ ((r : Int) = 1) := by omega
      simp [hr, this]
  · rw [Nat.min_eq_right (by omega)]
    rw [Nat.div_eq_of_lt hn, Nat.testBit_lt_two_pow (Nat.lt_of_lt_of_le hn (Nat.pow_le_pow_right (by decide) (by omega)))]
    rfl
theorem bt_one (i j : Nat) : bt (oneS i) j = decide (i = j ∧ i < 64) := by
  unfold bt oneS
  by_cases hi : i < 64
  · rw [Nat.min_eq_left (by omega)]
    have h1 : ((2 : Int) ^ i) = ((2 ^ i : Nat) : Int) := by simp
    have h2 : 2 ^ i < 2 ^ 64 := Nat.pow_lt_pow_right (by decide) hi
    rw [wrap_u _ ⟨Int.pow_nonneg (by decide), by rw [h1]; exact_mod_cast h2⟩, h1, BitVec.ofInt_natCast, BitVec.getLsbD_ofNat, Nat.testBit_two_pow]
    by_cases hj : i = j
    · subst hj; simp [hi]
    · simp [hj]
  · rw [Nat.min_eq_right (by omega), IntKind.wrap_u64]
    have : ¬ (i = j ∧ i < 64) := fun h => hi h.2
    simp [this]

theorem after_bt {s : Int} (h : U6 s) (j : Nat) : ∀ (l : List Ps) (i : Nat) (a : Int), bt (afterL s i l a) j = true ↔ bt a j = true ∨ ∃ k p, l[k]? = some p ∧ bt s (i + k) = true ∧ bt p.n j = true
  | [], i, a => by
    rw [afterL]
    constructor
    · exact .inl
    · rintro (h | ⟨k, p, h, _⟩)
      · exact h
      · cases h
  | q :: l, i, a => by
    rw [afterL, after_bt h j l (i + 1), bitQ_bt h]
    constructor
    · rintro (h1 | ⟨k, p, h1, h2, h3⟩)
      · by_cases hb : bt s i = true
        · rw [if_pos hb, bt_or, Bool.or_eq_true] at h1
          rcases h1 with h1 | h1
          · exact .inl h1
          · exact .inr ⟨0, q, rfl, hb, h1⟩
        · rw [if_neg hb] at h1
          exact .inl h1
      · exact .inr ⟨k + 1, p, h1, by rw [show i + (k + 1) = i + 1 + k by omega]; exact h2, h3⟩
    · rintro (h1 | ⟨k, p, h1, h2, h3⟩)
      · left
        split
        · rw [bt_or, h1]; rfl
        · exact h1
      · cases k with
        | zero =>
          cases h1
          left
          rw [Nat.add_zero] at h2
          rw [if_pos h2, bt_or, h3]
          exact Bool.or_true _
        | succ k => exact .inr ⟨k, p, h1, by rw [show i + 1 + k = i + (k + 1) by omega]; exact h2, h3⟩
theorem sum_bt (f : Ps → Bool) (F : Nat → List Ps → Int → Int) (hF0 : ∀ i a, F i [] a = a) (hF1 : ∀ i p l a, F i (p :: l) a = F (i + 1) l (if f p = true then orS a (oneS i) else a)) (j : Nat) :
    ∀ (l : List Ps) (i : Nat) (a : Int), bt (F i l a) j = true ↔ bt a j = true ∨ ∃ k p, l[k]? = some p ∧ f p = true ∧ i + k = j ∧ j < 64
  | [], i, a => by
    rw [hF0]
    constructor
    · exact .inl
    · rintro (h | ⟨k, p, h, _⟩)
      · exact h
      · cases h
  | q :: l, i, a => by
    rw [hF1, sum_bt f F hF0 hF1 j l (i + 1)]
    constructor
    · rintro (h1 | ⟨k, p, h1, h2, h3, h4⟩)
      · by_cases hb : f q = true
        · rw [if_pos hb, bt_or, Bool.or_eq_true] at h1
          rcases h1 with h1 | h1
          · exact .inl h1
          · rw [bt_one] at h1
            obtain ⟨h2, h3⟩ := of_decide_eq_true h1
            exact .inr ⟨0, q, rfl, hb, h2, by omega⟩
        · rw [if_neg hb] at h1
          exact .inl h1
      · exact .inr ⟨k + 1, p, h1, h2, by omega, h4⟩
    · rintro (h1 | ⟨k, p, h1, h2, h3, h4⟩)
      · left
        split
        · rw [bt_or, h1]; rfl
        · exact h1
      · cases k with
        | zero =>
          cases h1
          left
          rw [if_pos h2, bt_or, bt_one, decide_eq_true (show i = j ∧ i < 64 by omega)]
          exact Bool.or_true _
        | succ k => exact .inr ⟨k, p, h1, h2, by omega, h4⟩
theorem before_bt (s : Int) (ps : List Ps) (j : Nat) : bt (beforeL s 0 ps 0) j = true ↔ ∃ p, ps[j]? = some p ∧ bits BinOp.and IntKind.u64 p.n s ≠ 0 ∧ j < 64 := by
  rw [sum_bt (fun p => decide (bits BinOp.and IntKind.u64 p.n s ≠ 0)) (beforeL s) (fun _ _ => rfl) (fun i p l a => by
    rw [beforeL]
    by_cases h : bits BinOp.and IntKind.u64 p.n s = 0
    · rw [if_pos h, if_neg (by rw [decide_eq_true_iff]; exact fun q => q h)]
    · rw [if_neg h, if_pos (decide_eq_true h)]) j ps 0 0, bt_zero]
  constructor
  · rintro (h | ⟨k, p, h1, h2, h3, h4⟩)
    · cases h
    · obtain rfl : k = j := by omega
      exact ⟨p, h1, of_decide_eq_true h2, h4⟩
  · rintro ⟨p, h1, h2, h3⟩
    exact .inr ⟨j, p, h1, decide_eq_true h2, by omega, h3⟩
theorem reads_bt (c : Nat) (ps : List Ps) (j : Nat) : bt (readsL c 0 ps 0) j = true ↔ ∃ p, ps[j]? = some p ∧ p.s.has c = true ∧ j < 64 := by
  rw [sum_bt (fun p => p.s.has c) (readsL c) (fun _ _ => rfl) (fun i p l a => by rw [readsL]) j ps 0 0, bt_zero]
  constructor
  · rintro (h | ⟨k, p, h1, h2, h3, h4⟩)
    · cases h
    · obtain rfl : k = j := by omega
      exact ⟨p, h1, h2, h4⟩
  · rintro ⟨p, h1, h2, h3⟩
    exact .inr ⟨j, p, h1, h2, by omega, h3⟩
theorem bt_lt {x : Int} {i : Nat} (h : bt x i = true) : i < 64 := by
  unfold bt at h
  rcases Nat.lt_or_ge i 64 with h1 | h1
  · exact h1
  · rw [BitVec.getLsbD_of_ge _ _ h1] at h
    cases h
/-- What can come after, and what can come before. -/
theorem dual {x : Int} (h : U6 x) (y : Int) (ps : List Ps) : bits BinOp.and IntKind.u64 (afterL x 0 ps 0) y ≠ 0 ↔ bits BinOp.and IntKind.u64 x (beforeL y 0 ps 0) ≠ 0 := by
  rw [and_ne, and_ne]
  constructor
  · rintro ⟨j, h1, h2⟩
    rcases (after_bt h j ps 0 0).1 h1 with h1 | ⟨k, p, h3, h4, h5⟩
    · rw [bt_zero] at h1; cases h1
    · rw [Nat.zero_add] at h4
      exact ⟨k, h4, (before_bt y ps k).2 ⟨p, h3, (and_ne _ _).2 ⟨j, h5, h2⟩, bt_lt h4⟩⟩
  · rintro ⟨k, h1, h2⟩
    obtain ⟨p, h3, h4, _⟩ := (before_bt y ps k).1 h2
    obtain ⟨j, h5, h6⟩ := (and_ne _ _).1 h4
    exact ⟨j, (after_bt h j ps 0 0).2 (.inr ⟨k, p, h3, by rw [Nat.zero_add]; exact h1, h5⟩), h6⟩

/-- The state behind a text. -/
def fwdL (ps : List Ps) : List UInt8 → Int → Int
  | [], x => x
  | c :: r, x => fwdL ps r (bits BinOp.and IntKind.u64 (afterL x 0 ps 0) (readsL c.toNat 0 ps 0))
/-- The positions from which a text leads to the end of a match. -/
def backL (ps : List Ps) (last : Int) : List UInt8 → Int
  | [] => last
  | c :: r => beforeL (bits BinOp.and IntKind.u64 (readsL c.toNat 0 ps 0) (backL ps last r)) 0 ps 0
theorem back_cons {x : Int} (h : U6 x) (ps : List Ps) (last : Int) (c : UInt8) (r : List UInt8) : bits BinOp.and IntKind.u64 x (backL ps last (c :: r)) ≠ 0 ↔ ∃ j, bt (afterL x 0 ps 0) j = true ∧ bt (readsL c.toNat 0 ps 0) j = true ∧ bt (backL ps last r) j = true := by
  rw [backL, ← dual h, and_ne]
  constructor
  · rintro ⟨j, h1, h2⟩
    rw [bt_and, Bool.and_eq_true] at h2
    exact ⟨j, h1, h2⟩
  · rintro ⟨j, h1, h2⟩
    exact ⟨j, h1, by rw [bt_and, Bool.and_eq_true]; exact h2⟩
theorem fwd_back (ps : List Ps) (last : Int) : ∀ (L : List UInt8) (x : Int), U6 x → (bits BinOp.and IntKind.u64 (fwdL ps L x) last ≠ 0 ↔ bits BinOp.and IntKind.u64 x (backL ps last L) ≠ 0)
  | [], x, _ => Iff.rfl
  | c :: r, x, h => by
    rw [fwdL, fwd_back ps last r _ (and_u _ _), back_cons h, and_ne]
    constructor
    · rintro ⟨j, h1, h2⟩
      rw [bt_and, Bool.and_eq_true] at h1
      exact ⟨j, h1.1, h1.2, h2⟩
    · rintro ⟨j, h1, h2, h3⟩
      exact ⟨j, by rw [bt_and, Bool.and_eq_true]; exact ⟨h1, h2⟩, h3⟩

theorem hope_bt (ps : List Ps) (last : Int) (j : Nat) : ∀ (r : List UInt8) (c : UInt8), bt ((hopeL ps last (c :: r)).headD 0) j = true ↔ bt (readsL c.toNat 0 ps 0) j = true ∧ ∃ m, m ≤ r.length ∧ bt (backL ps last (r.take m)) j = true := by
  intro r
  induction r generalizing j with
  | nil =>
    intro c
    have h0 : bt (beforeL 0 0 ps 0) j = false := by
      cases hb : bt (beforeL 0 0 ps 0) j
      · rfl
      · obtain ⟨p, _, h2, _⟩ := (before_bt 0 ps j).1 hb
        obtain ⟨i, _, h3⟩ := (and_ne _ _).1 h2
        rw [bt_zero] at h3
        cases h3
    show bt (bits BinOp.and IntKind.u64 (readsL c.toNat 0 ps 0) (orS last (beforeL 0 0 ps 0))) j = true ↔ _
    rw [bt_and, bt_or, h0, Bool.or_false, Bool.and_eq_true]
    constructor
    · rintro ⟨h1, h2⟩
      exact ⟨h1, 0, Nat.le_refl _, h2⟩
    · rintro ⟨h1, m, hm, h2⟩
      rw [List.take_nil] at h2
      exact ⟨h1, h2⟩
  | cons c' r ih =>
    intro c
    show bt (bits BinOp.and IntKind.u64 (readsL c.toNat 0 ps 0) (orS last (beforeL ((hopeL ps last (c' :: r)).headD 0) 0 ps 0))) j = true ↔ _
    rw [bt_and, bt_or, Bool.and_eq_true, Bool.or_eq_true]
    constructor
    · rintro ⟨h1, h2 | h2⟩
      · exact ⟨h1, 0, Nat.zero_le _, h2⟩
      · obtain ⟨p, h3, h4, h5⟩ := (before_bt _ ps j).1 h2
        obtain ⟨q, h6, h7⟩ := (and_ne _ _).1 h4
        obtain ⟨h8, m, hm, h9⟩ := (ih q c').1 h7
        refine ⟨h1, m + 1, by simp; omega, ?_⟩
        rw [List.take_succ_cons, backL]
        exact (before_bt _ ps j).2 ⟨p, h3, (and_ne _ _).2 ⟨q, h6, by rw [bt_and, h8, h9]; rfl⟩, h5⟩
    · rintro ⟨h1, m, hm, h2⟩
      refine ⟨h1, ?_⟩
      cases m with
      | zero => exact .inl h2
      | succ m =>
        right
        rw [List.take_succ_cons, backL] at h2
        obtain ⟨p, h3, h4, h5⟩ := (before_bt _ ps j).1 h2
        obtain ⟨q, h6, h7⟩ := (and_ne _ _).1 h4
        rw [bt_and, Bool.and_eq_true] at h7
        exact (before_bt _ ps j).2 ⟨p, h3, (and_ne _ _).2 ⟨q, h6, (ih q c').2 ⟨h7.1, m, by simp at hm; omega, h7.2⟩⟩, h5⟩
theorem hopeL_drop (ps : List Ps) (last : Int) : ∀ (L : List UInt8) (i : Nat), i ≤ L.length → (hopeL ps last L).drop i = hopeL ps last (L.drop i)
  | L, 0, _ => rfl
  | [], i + 1, h => by simp at h
  | c :: r, i + 1, h => by
    rw [hopeL, List.drop_succ_cons, List.drop_succ_cons]
    exact hopeL_drop ps last r i (by simpa using h)

/-- Where the search stops: nothing longer is matched, and what it has found is. -/
theorem run_spec (ps : List Ps) (last : Int) : ∀ (L : List UInt8) (z : Int) (i : Nat), U6 z →
    (∀ m, runL ps (hopeL ps last L) z i - i < m → m ≤ L.length → bits BinOp.and IntKind.u64 z (backL ps last (L.take m)) = 0) ∧
    (i < runL ps (hopeL ps last L) z i → runL ps (hopeL ps last L) z i - i ≤ L.length ∧ bits BinOp.and IntKind.u64 z (backL ps last (L.take (runL ps (hopeL ps last L) z i - i))) ≠ 0)
  | [], z, i, hz => by
    have h0 : bits BinOp.and IntKind.u64 (afterL z 0 ps 0) 0 = 0 := by
      apply Classical.byContradiction
      intro h
      obtain ⟨j, _, h1⟩ := (and_ne _ _).1 h
      rw [bt_zero] at h1
      cases h1
    have hr : runL ps (hopeL ps last []) z i = i := by
      rw [hopeL, runL, if_pos h0]
    rw [hr]
    exact ⟨fun m h1 h2 => by simp at h2; omega, fun h => absurd h (Nat.lt_irrefl _)⟩
  | c :: r, z, i, hz => by
    obtain ⟨h0, hh⟩ : ∃ h0, h0 = (hopeL ps last (c :: r)).headD 0 := ⟨_, rfl⟩
    have hb := fun j => hope_bt ps last j r c
    rw [← hh] at hb
    have hcons : hopeL ps last (c :: r) = h0 :: hopeL ps last r := by rw [hh]; rfl
    rw [hcons, runL]
    have key : ∀ m, m ≤ r.length → bits BinOp.and IntKind.u64 z (backL ps last (c :: r.take m)) ≠ 0 → bits BinOp.and IntKind.u64 (bits BinOp.and IntKind.u64 (afterL z 0 ps 0) h0) (backL ps last (r.take m)) ≠ 0 := by
      intro m hm h1
      obtain ⟨j, h2, h3, h4⟩ := (back_cons hz ps last c _).1 h1
      exact (and_ne _ _).2 ⟨j, by rw [bt_and, h2, (hb j).2 ⟨h3, m, hm, h4⟩]; rfl, h4⟩
    have yek : ∀ m, bits BinOp.and IntKind.u64 (bits BinOp.and IntKind.u64 (afterL z 0 ps 0) h0) (backL ps last (r.take m)) ≠ 0 → bits BinOp.and IntKind.u64 z (backL ps last (c :: r.take m)) ≠ 0 := by
      intro m h1
      obtain ⟨j, h2, h3⟩ := (and_ne _ _).1 h1
      rw [bt_and, Bool.and_eq_true] at h2
      exact (back_cons hz ps last c _).2 ⟨j, h2.1, ((hb j).1 h2.2).1, h3⟩
    by_cases hz0 : bits BinOp.and IntKind.u64 (afterL z 0 ps 0) h0 = 0
    · rw [if_pos hz0]
      refine ⟨fun m h1 h2 => ?_, fun h => absurd h (Nat.lt_irrefl _)⟩
      obtain ⟨m, rfl⟩ : ∃ k, m = k + 1 := ⟨m - 1, by omega⟩
      rw [List.take_succ_cons]
      apply Classical.byContradiction
      intro h3
      have := key m (by simp at h2; omega) h3
      rw [hz0] at this
      obtain ⟨j, h4, _⟩ := (and_ne _ _).1 this
      rw [bt_zero] at h4
      cases h4
    · rw [if_neg hz0]
      obtain ⟨ih1, ih2⟩ := run_spec ps last r (bits BinOp.and IntKind.u64 (afterL z 0 ps 0) h0) (i + 1) (and_u _ _)
      have hle := runL_le ps (hopeL ps last r) (bits BinOp.and IntKind.u64 (afterL z 0 ps 0) h0) (i + 1)
      obtain ⟨e, he⟩ : ∃ e, e = runL ps (hopeL ps last r) (bits BinOp.and IntKind.u64 (afterL z 0 ps 0) h0) (i + 1) := ⟨_, rfl⟩
      rw [← he] at ih1 ih2 hle ⊢
      refine ⟨fun m h1 h2 => ?_, fun h => ?_⟩
      · obtain ⟨m, rfl⟩ : ∃ k, m = k + 1 := ⟨m - 1, by omega⟩
        rw [List.take_succ_cons]
        apply Classical.byContradiction
        intro h3
        have hm : m ≤ r.length := by simp at h2; omega
        exact key m hm h3 (ih1 m (by omega) hm)
      · by_cases h1 : i + 1 < e
        · obtain ⟨h2, h3⟩ := ih2 h1
          have he2 : e - i = (e - (i + 1)) + 1 := by omega
          rw [he2, List.take_succ_cons]
          exact ⟨by simp; omega, yek _ h3⟩
        · obtain rfl : e = i + 1 := by omega
          obtain ⟨j, h2⟩ := (ne_zero (and_u _ _)).1 hz0
          have h2' := h2
          rw [bt_and, Bool.and_eq_true] at h2'
          obtain ⟨h3, m, hm, h4⟩ := (hb j).1 h2'.2
          have h5 : bits BinOp.and IntKind.u64 (bits BinOp.and IntKind.u64 (afterL z 0 ps 0) h0) (backL ps last (r.take m)) ≠ 0 := (and_ne _ _).2 ⟨j, h2, h4⟩
          have h6 : m = 0 := by
            apply Classical.byContradiction
            intro hne
            exact h5 (ih1 m (by omega) hm)
          subst h6
          have h7 := yek 0 h5
          rw [show i + 1 - i = 0 + 1 by omega, List.take_succ_cons]
          exact ⟨by simp, h7⟩

/-- Whether the automaton accepts a text. -/
def accT (ps : List Ps) (last : Int) (L : List UInt8) : Bool := decide (bits BinOp.and IntKind.u64 (fwdL ps L 1) last ≠ 0)
theorem one_u : U6 1 := ⟨by decide, by decide⟩
theorem acc_run (ps : List Ps) (last : Int) (L : List UInt8) (i : Nat) (hi : i ≤ L.length) :
    (∀ j, runL ps ((hopeL ps last L).drop i) 1 i < j → j ≤ L.length → accT ps last ((L.drop i).take (j - i)) = false) ∧
    (i < runL ps ((hopeL ps last L).drop i) 1 i → accT ps last ((L.drop i).take (runL ps ((hopeL ps last L).drop i) 1 i - i)) = true) := by
  rw [hopeL_drop ps last L i hi]
  obtain ⟨h1, h2⟩ := run_spec ps last (L.drop i) 1 i one_u
  have hle := runL_le ps (hopeL ps last (L.drop i)) 1 i
  obtain ⟨e, he⟩ : ∃ e, e = runL ps (hopeL ps last (L.drop i)) 1 i := ⟨_, rfl⟩
  rw [← he] at h1 h2 hle ⊢
  constructor
  · intro j hj hn
    have := h1 (j - i) (by omega) (by rw [List.length_drop]; omega)
    unfold accT
    rw [decide_eq_false_iff_not]
    intro h
    exact (fwd_back ps last _ 1 one_u).1 h this
  · intro h
    unfold accT
    exact decide_eq_true ((fwd_back ps last _ 1 one_u).2 (h2 h).2)
end Go.Proofs.YtbogiigdadljpaaDoor
