/-
  The states of the patterns .*a, .*a. and so on, counted. With no program in it. Nothing is assumed.
-/
import Derived.Test.YtedfcngadaalpaaDoorPaTxt
namespace Go.Proofs.YtedfcngadaalpaaDoor
open Go.RowKit

/-- What follows the position k of .*a and n points; the position 0 is the start. -/
def nxN (n k : Nat) : Nat := if k < 2 then 6 else if k + 1 < n + 3 then 2 ^ (k + 1) else 0
def psN (n : Nat) : List Ps := ⟨.zero, (nxN n 0 : Nat)⟩ :: ⟨.alpha, (nxN n 1 : Nat)⟩ :: ⟨S4.zero.add 97, (nxN n 2 : Nat)⟩ :: (List.range n).map fun j => ⟨.alpha, (nxN n (j + 3) : Nat)⟩
theorem psN_at (n j : Nat) (h : j < n) : (psN n)[j + 3]? = some ⟨.alpha, (nxN n (j + 3) : Nat)⟩ := by
  show ((List.range n).map _)[j]? = _
  rw [List.getElem?_map, List.getElem?_range h]
  rfl
theorem psN_len (n : Nat) : (psN n).length = n + 3 := by
  unfold psN
  simp
theorem psN_n (n k : Nat) (p : Ps) (h : (psN n)[k]? = some p) : p.n = (nxN n k : Nat) := by
  have hk := (List.getElem?_eq_some_iff.1 h).1
  rw [psN_len] at hk
  rcases k with _ | _ | _ | k
  · cases h; rfl
  · cases h; rfl
  · cases h; rfl
  · rw [psN_at n k (by omega)] at h
    cases h; rfl
theorem nx_bt {n k : Nat} (hn : n ≤ 13) (hk : k < n + 3) (i : Nat) : bt (nxN n k : Nat) i = true ↔ (k < 2 ∧ (i = 1 ∨ i = 2)) ∨ (2 ≤ k ∧ i = k + 1 ∧ i < n + 3) := by
  unfold nxN
  by_cases h2 : k < 2
  · rw [if_pos h2, bt_nat (by decide)]
    have h6 : Nat.testBit 6 i = true ↔ i = 1 ∨ i = 2 := by
      rcases i with _ | _ | _ | i
      · decide
      · decide
      · decide
      · have : Nat.testBit 6 (i + 3) = false := by
          rw [show i + 3 = i + 1 + 1 + 1 from rfl, Nat.testBit_add_one, Nat.testBit_add_one, Nat.testBit_add_one]
          simp
        rw [this]
        simp
    rw [h6]
    omega
  · rw [if_neg h2]
    by_cases h3 : k + 1 < n + 3
    · rw [if_pos h3, bt_nat (Nat.pow_lt_pow_right (by decide) (by omega)), Nat.testBit_two_pow, decide_eq_true_iff]
      omega
    · rw [if_neg h3]
      show bt 0 i = true ↔ _
      rw [bt_zero]
      simp
      omega
theorem set_has (n i b : Nat) (hi : 1 ≤ i) (hin : i < n + 3) (hb : 32 ≤ b ∧ b ≤ 126) : ∃ p, (psN n)[i]? = some p ∧ (p.s.has b = true ↔ (i = 2 → b = 97)) := by
  have hal : S4.alpha.has b = true := by rw [has_alpha b (by omega)]; simp; omega
  rcases i with _ | _ | _ | i
  · omega
  · exact ⟨_, rfl, by simp [hal]⟩
  · refine ⟨_, rfl, ?_⟩
    show (S4.zero.add 97).has b = true ↔ _
    rw [has_add S4.zero_ok (by decide) (by omega), has_zero]
    simp
    omega
  · exact ⟨_, psN_at n i (by omega), by simp [hal]⟩
theorem stN_bt {n b : Nat} (hn : n ≤ 13) (hb : 32 ≤ b ∧ b ≤ 126) {x : Int} (hx : U6 x) (i : Nat) :
    bt (stB (psN n) b x) i = true ↔ 1 ≤ i ∧ i < n + 3 ∧ (if i ≤ 2 then (bt x 0 = true ∨ bt x 1 = true) ∧ (i = 2 → b = 97) else bt x (i - 1) = true) := by
  unfold stB
  rw [bt_and, Bool.and_eq_true]
  constructor
  · rintro ⟨h1, h2⟩
    obtain ⟨p, h3, h4, _⟩ := (reads_bt b (psN n) i).1 h2
    have hi := (List.getElem?_eq_some_iff.1 h3).1
    rw [psN_len] at hi
    have hi1 : 1 ≤ i := by
      rcases i with _ | i
      · cases h3
        rw [has_zero] at h4
        cases h4
      · omega
    obtain ⟨p', h5, h6⟩ := set_has n i b hi1 hi hb
    rw [h3] at h5
    cases h5
    refine ⟨hi1, hi, ?_⟩
    rcases (after_bt hx i (psN n) 0 0).1 h1 with h7 | ⟨k, q, h7, h8, h9⟩
    · rw [bt_zero] at h7; cases h7
    · rw [Nat.zero_add] at h8
      have hk := (List.getElem?_eq_some_iff.1 h7).1
      rw [psN_len] at hk
      rw [psN_n n k q h7, nx_bt hn hk] at h9
      rcases h9 with ⟨k1, k2⟩ | ⟨k1, k2, k3⟩
      · rw [if_pos (by omega)]
        refine ⟨?_, h6.1 h4⟩
        rcases k with _ | _ | k
        · exact .inl h8
        · exact .inr h8
        · omega
      · rw [if_neg (by omega), show i - 1 = k by omega]
        exact h8
  · rintro ⟨h1, h2, h3⟩
    obtain ⟨p, h5, h6⟩ := set_has n i b h1 h2 hb
    by_cases h2i : i ≤ 2
    · rw [if_pos h2i] at h3
      refine ⟨(after_bt hx i (psN n) 0 0).2 (.inr ?_), (reads_bt b (psN n) i).2 ⟨p, h5, h6.2 h3.2, by omega⟩⟩
      rcases h3.1 with h | h
      · exact ⟨0, _, rfl, h, (nx_bt (k := 0) hn (by omega) i).2 (.inl ⟨by decide, by omega⟩)⟩
      · exact ⟨1, _, rfl, h, (nx_bt (k := 1) hn (by omega) i).2 (.inl ⟨by decide, by omega⟩)⟩
    · rw [if_neg h2i] at h3
      obtain ⟨q, hq⟩ : ∃ q, (psN n)[i - 1]? = some q := ⟨_, List.getElem?_eq_getElem (by rw [psN_len]; omega)⟩
      refine ⟨(after_bt hx i (psN n) 0 0).2 (.inr ⟨i - 1, q, hq, by rw [Nat.zero_add]; exact h3, ?_⟩), (reads_bt b (psN n) i).2 ⟨p, h5, h6.2 (by omega), by omega⟩⟩
      rw [psN_n n _ q hq, nx_bt hn (by omega)]
      exact .inr ⟨by omega, by omega, h2⟩
/-- The state with the number y. -/
def stY (y : Nat) : Int := ((2 * (2 * y + 1) : Nat) : Int)
theorem stY_bt {n y : Nat} (hn : n ≤ 13) (hy : y < 2 ^ (n + 1)) (i : Nat) : bt (stY y) i = true ↔ i = 1 ∨ (2 ≤ i ∧ y.testBit (i - 2) = true) := by
  have hp : 2 ^ (n + 1) ≤ 2 ^ 14 := Nat.pow_le_pow_right (by decide) (by omega)
  unfold stY
  rw [bt_nat (by omega)]
  rcases i with _ | _ | i
  · rw [Nat.testBit_zero]
    simp
  · rw [Nat.testBit_add_one, show 2 * (2 * y + 1) / 2 = 2 * y + 1 by omega, Nat.testBit_zero]
    simp
  · rw [Nat.testBit_add_one, show 2 * (2 * y + 1) / 2 = 2 * y + 1 by omega, Nat.testBit_add_one, show (2 * y + 1) / 2 = y by omega]
    constructor
    · intro h
      exact .inr ⟨by omega, by rw [show i + 1 + 1 - 2 = i by omega]; exact h⟩
    · rintro (h | ⟨_, h⟩)
      · omega
      · rwa [show i + 1 + 1 - 2 = i by omega] at h
theorem stY_u {n y : Nat} (hn : n ≤ 13) (hy : y < 2 ^ (n + 1)) : U6 (stY y) := by
  have hp : 2 ^ (n + 1) ≤ 2 ^ 14 := Nat.pow_le_pow_right (by decide) (by omega)
  unfold stY
  exact ⟨by omega, by omega⟩
/-- One where the byte is a. -/
def isA (b : Nat) : Nat := if b = 97 then 1 else 0
theorem next_bt (n y b i : Nat) : ((2 * y + isA b) % 2 ^ (n + 1)).testBit i = true ↔ i < n + 1 ∧ (if i = 0 then b = 97 else y.testBit (i - 1) = true) := by
  rw [Nat.testBit_mod_two_pow, Bool.and_eq_true, decide_eq_true_iff]
  refine and_congr_right fun _ => ?_
  rcases i with _ | i
  · rw [Nat.testBit_zero, if_pos rfl, decide_eq_true_iff]
    unfold isA
    split <;> omega
  · rw [Nat.testBit_add_one, if_neg (by omega), show (2 * y + isA b) / 2 = y by unfold isA; split <;> omega, Nat.add_sub_cancel]
theorem step_gen {n b y : Nat} (hn : n ≤ 13) (hb : 32 ≤ b ∧ b ≤ 126) {x : Int} (hx : U6 x) (h01 : bt x 0 = true ∨ bt x 1 = true) (hh : ∀ i, 2 ≤ i → i < n + 2 → (bt x i = true ↔ y.testBit (i - 2) = true)) :
    stB (psN n) b x = stY ((2 * y + isA b) % 2 ^ (n + 1)) := by
  have hz : (2 * y + isA b) % 2 ^ (n + 1) < 2 ^ (n + 1) := Nat.mod_lt _ (Nat.pow_pos (by decide))
  refine u_ext (and_u _ _) (stY_u hn hz) fun i => ?_
  rw [Bool.eq_iff_iff, stN_bt hn hb hx, stY_bt hn hz, next_bt]
  rcases i with _ | _ | _ | i
  · simp
  · simp [h01]
  · constructor
    · rintro ⟨_, _, h3⟩
      rw [if_pos (by omega)] at h3
      exact .inr ⟨by omega, by omega, by rw [if_pos (by omega)]; exact h3.2 rfl⟩
    · rintro (h | ⟨_, _, h⟩)
      · omega
      · rw [if_pos (by omega)] at h
        exact ⟨by omega, by omega, by rw [if_pos (by omega)]; exact ⟨h01, fun _ => h⟩⟩
  · constructor
    · rintro ⟨_, h2, h3⟩
      rw [if_neg (by omega)] at h3
      refine .inr ⟨by omega, by omega, ?_⟩
      rw [if_neg (by omega)]
      exact (hh _ (by omega) (by omega)).1 h3
    · rintro (h | ⟨_, h2, h⟩)
      · omega
      · rw [if_neg (by omega)] at h
        refine ⟨by omega, by omega, ?_⟩
        rw [if_neg (by omega)]
        exact (hh _ (by omega) (by omega)).2 h
theorem step_y {n b y : Nat} (hn : n ≤ 13) (hb : 32 ≤ b ∧ b ≤ 126) (hy : y < 2 ^ (n + 1)) : stB (psN n) b (stY y) = stY ((2 * y + isA b) % 2 ^ (n + 1)) :=
  step_gen hn hb (stY_u hn hy) (.inr ((stY_bt hn hy 1).2 (.inl rfl))) fun i h1 _ => by
    rw [stY_bt hn hy]
    constructor
    · rintro (h | ⟨_, h⟩)
      · omega
      · exact h
    · exact fun h => .inr ⟨h1, h⟩
theorem step_1 {n b : Nat} (hn : n ≤ 13) (hb : 32 ≤ b ∧ b ≤ 126) : stB (psN n) b 1 = stY (isA b % 2 ^ (n + 1)) := by
  have h1 : ∀ i, bt 1 i = true ↔ i = 0 := fun i => by
    rw [show (1 : Int) = oneS 0 by decide, bt_one, decide_eq_true_iff]
    omega
  have := step_gen (n := n) (b := b) (y := 0) hn hb one_u (.inl ((h1 0).2 rfl)) fun i h2 _ => by
    rw [h1]
    simp
    omega
  rw [this]
  simp
theorem stY_inj {y z : Nat} (h : stY y = stY z) : y = z := by
  unfold stY at h
  omega
theorem stY_one (y : Nat) : stY y ≠ 1 := by
  unfold stY
  omega
/-- All states. -/
def allN (n : Nat) : List Int := 1 :: (List.range (2 ^ (n + 1))).map stY
theorem allN_len (n : Nat) : (allN n).length = 2 ^ (n + 1) + 1 := by
  unfold allN
  simp
theorem allN_nodup (n : Nat) : (allN n).Nodup := by
  unfold allN
  rw [List.nodup_cons]
  refine ⟨fun h => ?_, ?_⟩
  · obtain ⟨y, _, hy⟩ := List.mem_map.1 h
    exact stY_one y hy
  · exact List.Pairwise.map _ (fun a b (h : a ≠ b) e => h (stY_inj e)) List.nodup_range
theorem allN_mem {n : Nat} {x : Int} : x ∈ allN n ↔ x = 1 ∨ ∃ y, y < 2 ^ (n + 1) ∧ x = stY y := by
  unfold allN
  rw [List.mem_cons, List.mem_map]
  constructor
  · rintro (h | ⟨y, h1, h2⟩)
    · exact .inl h
    · exact .inr ⟨y, List.mem_range.1 h1, h2.symm⟩
  · rintro (h | ⟨y, h1, h2⟩)
    · exact .inl h
    · exact .inr ⟨y, List.mem_range.2 h1, h2.symm⟩
theorem allN_step {n : Nat} (hn : n ≤ 13) {x : Int} (hx : x ∈ allN n) {b : Nat} (hb : 32 ≤ b ∧ b ≤ 126) : stB (psN n) b x ∈ allN n := by
  rw [allN_mem] at hx ⊢
  right
  rcases hx with rfl | ⟨y, hy, rfl⟩
  · exact ⟨_, Nat.mod_lt _ (Nat.pow_pos (by decide)), step_1 hn hb⟩
  · exact ⟨_, Nat.mod_lt _ (Nat.pow_pos (by decide)), step_y hn hb hy⟩
/-- What holds of the start and goes on by steps holds of all. -/
theorem allN_reach {n : Nat} (hn : n ≤ 13) {P : Int → Prop} (h1 : P 1) (hs : ∀ x b, 32 ≤ b → b ≤ 126 → P x → P (stB (psN n) b x)) : ∀ x, x ∈ allN n → P x := by
  have key : ∀ y, y < 2 ^ (n + 1) → P (stY y) := by
    intro y
    induction y using Nat.strongRecOn with
    | ind y ih =>
      intro hy
      by_cases h0 : y = 0
      · subst h0
        have := hs 1 98 (by decide) (by decide) h1
        rwa [step_1 hn (by decide), show isA 98 % 2 ^ (n + 1) = 0 by rw [show isA 98 = 0 from rfl]; exact Nat.zero_mod _] at this
      · have h2 := ih (y / 2) (by omega) (by omega)
        by_cases hm : y % 2 = 1
        · have := hs _ 97 (by decide) (by decide) h2
          rwa [step_y hn (by decide) (by omega), show isA 97 = 1 from rfl, show 2 * (y / 2) + 1 = y by omega, Nat.mod_eq_of_lt hy] at this
        · have := hs _ 98 (by decide) (by decide) h2
          rwa [step_y hn (by decide) (by omega), show isA 98 = 0 from rfl, show 2 * (y / 2) + 0 = y by omega, Nat.mod_eq_of_lt hy] at this
  intro x hx
  rcases allN_mem.1 hx with rfl | ⟨y, hy, rfl⟩
  · exact h1
  · exact key y hy
theorem pow_le {n : Nat} (h : n ≤ 10) : 2 ^ (n + 1) ≤ 2048 := Nat.le_trans (Nat.pow_le_pow_right (by decide) (show n + 1 ≤ 11 by omega)) (by decide)
theorem pow_ge {n : Nat} (h : 11 ≤ n) : 4096 ≤ 2 ^ (n + 1) := Nat.le_trans (show 4096 ≤ 2 ^ 12 by decide) (Nat.pow_le_pow_right (by decide) (show 12 ≤ n + 1 by omega))
theorem few_one {n : Nat} (hn : n ≤ 10) {F : List Int} {E : List (List Nat)} (h : ExG (stepL (psN n)) 1 F E) : F.length ≤ 4096 := by
  have h1 := h.rc (fun x => x ∈ allN n) (by show (1 : Int) ∈ allN n; exact allN_mem.2 (.inl rfl)) (fun x hx y hy => by
    obtain ⟨b, hb, rfl⟩ := step_of hy
    exact allN_step (by omega) hx hb)
  have h2 := nodup_sub F (allN n) h.nd h1
  rw [allN_len] at h2
  have := pow_le hn
  omega
theorem many_one {n : Nat} (hn : 11 ≤ n) (h13 : n ≤ 13) {F : List Int} {E : List (List Nat)} (h : Whole (stepL (psN n)) 1 F E) : False := by
  have h1 := allN_reach h13 (P := fun x => x ∈ F) h.start (fun x b hb1 hb2 hx => h.closed hx (step_mem ⟨hb1, hb2⟩))
  have h2 := nodup_sub (allN n) F (allN_nodup n) h1
  rw [allN_len] at h2
  have := pow_ge hn
  have := h.lm
  omega
theorem zip_self (l : List Int) : List.zip l l = l.map fun x => (x, x) := by
  induction l with
  | nil => rfl
  | cons a l ih => rw [List.zip_cons_cons, ih, List.map_cons]
theorem few_two {n : Nat} (hn : n ≤ 10) {F : List P2} {E : List (List Nat)} (h : ExG (stepP (psN n) (psN n)) ((1 : Int), (1 : Int)) F E) : F.length ≤ 4096 := by
  have h1 := h.rc (fun z => z ∈ (allN n).map fun x => (x, x)) (by show ((1 : Int), (1 : Int)) ∈ _; exact List.mem_map.2 ⟨1, allN_mem.2 (.inl rfl), rfl⟩) (fun x hx y hy => by
    obtain ⟨z, hz, rfl⟩ := List.mem_map.1 hx
    unfold stepP at hy
    dsimp only at hy
    rw [zip_self] at hy
    obtain ⟨v, hv, rfl⟩ := List.mem_map.1 hy
    obtain ⟨b, hb, rfl⟩ := step_of hv
    exact List.mem_map.2 ⟨_, allN_step (by omega) hz hb, rfl⟩)
  have h2 := nodup_sub F _ h.nd h1
  rw [List.length_map, allN_len] at h2
  have := pow_le hn
  omega
theorem many_two {n : Nat} (hn : 11 ≤ n) (h13 : n ≤ 13) {F : List P2} {E : List (List Nat)} (h : Whole (stepP (psN n) (psN n)) ((1 : Int), (1 : Int)) F E) : False := by
  have h1 := allN_reach h13 (P := fun x => (x, x) ∈ F) h.start (fun x b hb1 hb2 hx => h.closed hx (step_zip ⟨hb1, hb2⟩))
  have h2 := nodup_sub ((allN n).map fun x => (x, x)) F (List.Pairwise.map _ (fun a b (h : a ≠ b) e => h (congrArg Prod.fst e)) (allN_nodup n)) (fun z hz => by
    obtain ⟨x, hx, rfl⟩ := List.mem_map.1 hz
    exact h1 x hx)
  rw [List.length_map, allN_len] at h2
  have := pow_ge hn
  have := h.lm
  omega
/-- The tree of .*a and n points. -/
def tN (n : Nat) : PT := .mk 4 .zero ([.mk 6 .zero [.mk 3 .alpha []], .mk 3 (S4.zero.add 97) []] ++ List.replicate n (.mk 3 .alpha []))
/-- The pattern. -/
def pB : Nat → ByteArray
  | 0 => ⟨#[46, 42, 97]⟩
  | n + 1 => pB n ++ ⟨#[46]⟩
theorem build_N : ∀ n, n ≤ 13 → buildT (tN n) = (psN n, ((2 ^ (n + 2) : Nat) : Int))
  | 0, _ => by kernel_rfl
  | 1, _ => by kernel_rfl
  | 2, _ => by kernel_rfl
  | 3, _ => by kernel_rfl
  | 4, _ => by kernel_rfl
  | 5, _ => by kernel_rfl
  | 6, _ => by kernel_rfl
  | 7, _ => by kernel_rfl
  | 8, _ => by kernel_rfl
  | 9, _ => by kernel_rfl
  | 10, _ => by kernel_rfl
  | 11, _ => by kernel_rfl
  | 12, _ => by kernel_rfl
  | 13, _ => by kernel_rfl
  | n + 14, h => by omega
theorem parse_N : ∀ n, n ≤ 13 → errP (pB n) = 0 ∧ parseT (pB n).data.toList = .ok (tN n) (n + 3)
  | 0, _ => ⟨by kernel_rfl, by kernel_rfl⟩
  | 1, _ => ⟨by kernel_rfl, by kernel_rfl⟩
  | 2, _ => ⟨by kernel_rfl, by kernel_rfl⟩
  | 3, _ => ⟨by kernel_rfl, by kernel_rfl⟩
  | 4, _ => ⟨by kernel_rfl, by kernel_rfl⟩
  | 5, _ => ⟨by kernel_rfl, by kernel_rfl⟩
  | 6, _ => ⟨by kernel_rfl, by kernel_rfl⟩
  | 7, _ => ⟨by kernel_rfl, by kernel_rfl⟩
  | 8, _ => ⟨by kernel_rfl, by kernel_rfl⟩
  | 9, _ => ⟨by kernel_rfl, by kernel_rfl⟩
  | 10, _ => ⟨by kernel_rfl, by kernel_rfl⟩
  | 11, _ => ⟨by kernel_rfl, by kernel_rfl⟩
  | 12, _ => ⟨by kernel_rfl, by kernel_rfl⟩
  | 13, _ => ⟨by kernel_rfl, by kernel_rfl⟩
  | n + 14, h => by omega
theorem tp_N {n : Nat} (h : n ≤ 13) : TP (pB n) (tN n) := by
  obtain ⟨h1, h2⟩ := parse_N n h
  obtain ⟨t, ht⟩ := TP.of h1
  obtain ⟨m, hm⟩ := ht.parse
  rw [h2] at hm
  cases hm
  exact ht
/-- The errors of Words and of Same. -/
theorem lim_few {n : Nat} (h : n ≤ 10) : (wordsR (tN n) 1).2 = 0 ∧ (sameT (tN n) (tN n)).2 = 0 := by
  have hb := build_N n (by omega)
  constructor
  · have e : wordsR (tN n) 1 = wordsT (tN n) 1 := by
      unfold wordsR
      rw [if_neg (by decide)]
      rfl
    rw [e]
    rcases search (next := stepL (buildT (tN n)).1) (1 : Int) with ⟨_, F, E, h1, h2⟩ | ⟨F, E, h1, h2⟩
    · rw [hb] at h1
      have := few_one h h1
      omega
    · rw [words_whole h2 h1]
      have h3 : cntT (tN n) 1 ≤ 0 + ((stepL (buildT (tN n)).1 1).length : Nat) := by
        unfold cntT
        rw [cntG]
        exact cap_le (fun y => by rw [cntG]; split <;> decide) _ 0
      rw [stepL_len] at h3
      rw [if_neg (by omega)]
  · rcases search (next := stepP (buildT (tN n)).1 (buildT (tN n)).1) ((1 : Int), (1 : Int)) with ⟨_, F, E, h1, h2⟩ | ⟨F, E, h1, h2⟩
    · rw [hb] at h1
      have := few_two h h1
      omega
    · unfold sameT
      rw [h1]
theorem lim_many {n : Nat} (h : 11 ≤ n) (h13 : n ≤ 13) : (wordsR (tN n) 1).2 = 10 ∧ (sameT (tN n) (tN n)).2 = 10 := by
  have hb := build_N n h13
  constructor
  · have e : wordsR (tN n) 1 = wordsT (tN n) 1 := by
      unfold wordsR
      rw [if_neg (by decide)]
      rfl
    rw [e]
    rcases search (next := stepL (buildT (tN n)).1) (1 : Int) with ⟨h0, _⟩ | ⟨F, E, h1, h2⟩
    · unfold wordsT
      rw [h0]
    · rw [hb] at h2
      exact (many_one h h13 h2).elim
  · rcases search (next := stepP (buildT (tN n)).1 (buildT (tN n)).1) ((1 : Int), (1 : Int)) with ⟨h0, _⟩ | ⟨F, E, h1, h2⟩
    · unfold sameT
      rw [h0]
    · rw [hb] at h2
      exact (many_two h h13 h2).elim
end Go.Proofs.YtedfcngadaalpaaDoor
