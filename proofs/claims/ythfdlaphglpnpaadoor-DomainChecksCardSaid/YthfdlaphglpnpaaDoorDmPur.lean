/-
  The plain mathematics of numbers and tuples of a valid domain. Nothing is assumed.
-/
import Derived.Test.YthfdlaphglpnpaaDoorDmChd
import Derived.Test.YthfdlaphglpnpaaDoorDmRix
namespace Go.Proofs.YthfdlaphglpnpaaDoor
open Go.RowKit

theorem fit_all {t : Int} : ∀ {a : List V}, fitE t a = 0 → fitN t a = a.length ∧ ∀ v, v ∈ a → v.chk = 0 ∧ v.t = t := by
  intro a
  induction a with
  | nil => intro _; exact ⟨rfl, fun v h => by cases h⟩
  | cons v a ih =>
    intro h
    by_cases hc : v.chk = 0
    · by_cases ht : v.t = t
      · obtain ⟨h1, h2⟩ := fitN_ok (a := a) hc ht
        rw [h2] at h
        obtain ⟨k1, k2⟩ := ih h
        refine ⟨by rw [h1, k1]; rfl, fun x hx => ?_⟩
        rcases List.mem_cons.1 hx with rfl | hx
        · exact ⟨hc, ht⟩
        · exact k2 x hx
      · rw [(fitN_ty (a := a) hc ht).2] at h; cases h
    · rw [(fitN_chk (t := t) (a := a) hc).2] at h; exact absurd h hc
theorem axE_ok {t : Int} {a : List V} (h : axE t a = 0) : dupV a = false ∧ ∀ v, v ∈ a → v.chk = 0 ∧ v.t = t := by
  unfold axE at h
  split at h
  · cases h
  · rename_i hd
    obtain ⟨h1, h2⟩ := fit_all h
    rw [h1, List.take_length] at hd
    exact ⟨by simpa using hd, h2⟩
theorem axsE_ok : ∀ {l : List (List V)} {ts : List Int}, l.length = ts.length → axsE ts l = 0 → ∀ a, a ∈ l → dupV a = false := by
  intro l
  induction l with
  | nil => intro ts _ _ a h; cases h
  | cons b l ih =>
    intro ts hl h a ha
    cases ts with
    | nil => simp at hl
    | cons t ts =>
      by_cases hz : axE t b = 0
      · rw [axsE_yes hz] at h
        rcases List.mem_cons.1 ha with rfl | ha
        · exact (axE_ok hz).1
        · exact ih (by simpa using hl) h a ha
      · rw [axsE_no hz] at h; exact absurd h hz
theorem chkD_ok {l : List (List V)} {ts : List Int} (h : chkD l ts = 0) : (∀ a, a ∈ l → dupV a = false) ∧ prodL l ≤ 4096 := by
  unfold chkD at h
  split at h
  · cases h
  · rename_i hl
    split at h
    · rename_i hz; exact absurd h hz
    · rename_i hz
      split at h
      · cases h
      · rename_i hg
        refine ⟨axsE_ok (l := l) (ts := ts) (by omega) (by omega), ?_⟩
        unfold largeD at hg
        simp at hg
        exact hg

theorem dup_no {a : List V} (h : dupV a = false) {i j : Nat} (hij : i < j) (hj : j < a.length) : (a.getD i zeroV).eqb (a.getD j zeroV) = false := by
  have hp : a.Pairwise (fun x y => x.eqb y = false) := Classical.byContradiction fun hc => by rw [(dupV_iff a).2 hc] at h; cases h
  rw [List.pairwise_iff_getElem] at hp
  have := hp i j (by omega) hj hij
  simpa [List.getD, hj, show i < a.length by omega] using this
theorem eqb_self (v : V) : v.eqb v = true := (eqb_iff v v).2 (V.cmp_self v)
theorem plc_self {a : List V} (h : dupV a = false) {i : Nat} (hi : i < a.length) : plc (a.getD i zeroV) 0 a = (i : Int) := by
  rcases plc_range (a.getD i zeroV) a 0 with h0 | ⟨k, hk, he, heq, hl⟩
  · exfalso
    have key : ∀ (b : List V) (j : Nat) (n : Nat), j < b.length → plc (b.getD j zeroV) n b ≠ -1 := by
      intro b
      induction b with
      | nil => intro j n hj; simp at hj
      | cons x b ih =>
        intro j n hj e
        rw [plc] at e
        split at e
        · omega
        · rename_i hx
          cases j with
          | zero => exact hx (eqb_self x)
          | succ j => exact ih j (n + 1) (by simpa using hj) (by simpa using e)
    exact key a i 0 hi h0
  · rw [show ((0 : Nat) : Int) = 0 from rfl] at he
    rw [he]
    have hki : k = i := by
      rcases Nat.lt_trichotomy k i with hlt | h' | hlt
      · rw [dup_no h hlt hi] at heq; cases heq
      · exact h'
      · have := hl i hlt
        rw [eqb_self] at this
        cases this
    omega

theorem w64_nat (n : Nat) (h : n ≤ 4611686018427387904) : wrap64 (n : Int) = (n : Int) := IntWalk.wrap64_in (n : Int) ⟨by omega, by omega⟩
theorem w64_mul (a b : Nat) (h : a * b ≤ 4611686018427387904) : wrap64 ((a : Int) * (b : Int)) = ((a * b : Nat) : Int) := by rw [← Int.natCast_mul]; exact w64_nat _ h
theorem w64_add (a b : Nat) (h : a + b ≤ 4611686018427387904) : wrap64 ((a : Int) + (b : Int)) = ((a + b : Nat) : Int) := by rw [← Int.natCast_add]; exact w64_nat _ h

theorem idx_digs : ∀ {l : List (List V)}, (∀ a, a ∈ l → dupV a = false) → (∀ a, a ∈ l → a.length ≠ 0) → ∀ (m n : Nat), (n + 1) * prodL l ≤ 4611686018427387904 → idxF (n : Int) l (digs l m).1 = some ((n * prodL l + m % prodL l : Nat) : Int) := by
  intro l
  induction l with
  | nil => intro _ _ m n _; rw [digs, idxF_nil, prodL, Nat.mul_one, Nat.mod_one, Nat.add_zero]
  | cons a l ih =>
    intro hd hne m n hb
    have ha := hne a (by simp)
    have hP := prodL_pos (fun x hx => hne x (by simp [hx]) : ∀ x, x ∈ l → x.length ≠ 0)
    rw [digs]
    have hr : (digs l m).2 % a.length < a.length := Nat.mod_lt _ (by omega)
    have hp := plc_self (hd a (by simp)) hr
    rw [idxF_yes (by rw [hp]; omega), hp]
    rw [prodL] at hb
    have hb2 : (n + 1) * a.length * prodL l ≤ 4611686018427387904 := by rw [Nat.mul_assoc]; exact hb
    obtain ⟨q, hq⟩ : ∃ q, (digs l m).2 % a.length = q := ⟨_, rfl⟩
    rw [hq] at hr ⊢
    have hnk : n * a.length + q + 1 ≤ (n + 1) * a.length := by rw [Nat.add_mul, Nat.one_mul]; omega
    have hb3 : (n * a.length + q + 1) * prodL l ≤ 4611686018427387904 := Nat.le_trans (Nat.mul_le_mul_right _ hnk) hb2
    have hb4 : n * a.length + q + 1 ≤ 4611686018427387904 := by
      exact Nat.le_trans (Nat.le_mul_of_pos_right (n * a.length + q + 1) hP) hb3
    have e1 := w64_mul n a.length (Nat.le_trans (Nat.le_trans (Nat.le_add_right _ q) (Nat.le_succ _)) hb4)
    have e2 := w64_add (n * a.length) q (Nat.le_trans (Nat.le_succ _) hb4)
    rw [e1, e2, ih (fun x hx => hd x (by simp [hx])) (fun x hx => hne x (by simp [hx])) m _ hb3, prodL]
    congr 2
    rw [digs_two] at hq
    rw [Nat.mul_comm a.length (prodL l), Nat.mod_mul, hq, Nat.add_mul, Nat.mul_comm (prodL l) q, Nat.mul_assoc, Nat.mul_comm a.length (prodL l)]
    omega
theorem digs_add : ∀ {l : List (List V)}, (∀ a, a ∈ l → a.length ≠ 0) → ∀ q j, (digs l (q * prodL l + j)).1 = (digs l j).1 := by
  intro l
  induction l with
  | nil => intro _ q j; rfl
  | cons a l ih =>
    intro hne q j
    have hP := prodL_pos (fun x hx => hne x (by simp [hx]) : ∀ x, x ∈ l → x.length ≠ 0)
    have e : q * prodL (a :: l) + j = (q * a.length) * prodL l + j := by rw [prodL, Nat.mul_assoc]
    rw [digs, digs, e, ih (fun x hx => hne x (by simp [hx])), digs_two, digs_two]
    rw [show (q * a.length) * prodL l + j = j + prodL l * (q * a.length) by rw [Nat.mul_comm (prodL l)]; omega, Nat.add_mul_div_left _ _ hP, Nat.add_mul_mod_self_right]
theorem idxF_none : ∀ {l : List (List V)}, hasNil l = true → ∀ (n : Int) (t : List V), t.length = l.length → idxF n l t = none := by
  intro l
  induction l with
  | nil => intro h; cases h
  | cons a l ih =>
    intro h n t ht
    cases t with
    | nil => simp at ht
    | cons u t =>
      by_cases hp : plc u 0 a < 0
      · exact idxF_no hp
      · rw [idxF_yes hp]
        rw [hasNil_cons, Bool.or_eq_true] at h
        rcases h with h | h
        · obtain rfl := List.eq_nil_of_length_eq_zero (of_decide_eq_true h)
          exact absurd (show plc u 0 [] < 0 from by show (-1 : Int) < 0; decide) hp
        · exact ih h _ t (by simpa using ht)
theorem idx_some : ∀ {l : List (List V)}, (∀ a, a ∈ l → a.length ≠ 0) → ∀ (n : Nat) (t : List V) (K : Int), t.length = l.length → (n + 1) * prodL l ≤ 4611686018427387904 → idxF (n : Int) l t = some K →
    ∃ j, j < prodL l ∧ K = ((n * prodL l + j : Nat) : Int) ∧ V.cmps (digs l j).1 t = 0 := by
  intro l
  induction l with
  | nil =>
    intro _ n t K ht _ h
    rw [idxF_nil] at h
    cases h
    obtain rfl := List.eq_nil_of_length_eq_zero ht
    exact ⟨0, by decide, by rw [prodL, Nat.mul_one, Nat.add_zero], V.cmps_00⟩
  | cons a l ih =>
    intro hne n t K ht hb h
    have hP := prodL_pos (fun x hx => hne x (by simp [hx]) : ∀ x, x ∈ l → x.length ≠ 0)
    cases t with
    | nil => simp at ht
    | cons u t =>
      by_cases hp : plc u 0 a < 0
      · rw [idxF_no hp] at h; cases h
      · rw [idxF_yes hp] at h
        rcases plc_range u a 0 with h0 | ⟨p, hpl, he, heq, _⟩
        · rw [show ((0 : Nat) : Int) = 0 from rfl] at h0; omega
        · rw [show ((0 : Nat) : Int) = 0 from rfl, Int.zero_add] at he
          rw [he] at h
          rw [prodL] at hb
          have hb2 : (n + 1) * a.length * prodL l ≤ 4611686018427387904 := by rw [Nat.mul_assoc]; exact hb
          have hnk : n * a.length + p + 1 ≤ (n + 1) * a.length := by rw [Nat.add_mul, Nat.one_mul]; omega
          have hb3 : (n * a.length + p + 1) * prodL l ≤ 4611686018427387904 := Nat.le_trans (Nat.mul_le_mul_right _ hnk) hb2
          have hb4 : n * a.length + p + 1 ≤ 4611686018427387904 := by
            exact Nat.le_trans (Nat.le_mul_of_pos_right (n * a.length + p + 1) hP) hb3
          have e1 := w64_mul n a.length (Nat.le_trans (Nat.le_trans (Nat.le_add_right _ p) (Nat.le_succ _)) hb4)
          have e2 := w64_add (n * a.length) p (Nat.le_trans (Nat.le_succ _) hb4)
          rw [e1, e2] at h
          obtain ⟨j, hj, hK, hc⟩ := ih (fun x hx => hne x (by simp [hx])) _ t K (by simpa using ht) hb3 h
          refine ⟨p * prodL l + j, ?_, ?_, ?_⟩
          · rw [prodL]
            have : (p + 1) * prodL l ≤ a.length * prodL l := Nat.mul_le_mul_right _ hpl
            rw [Nat.add_mul, Nat.one_mul] at this
            omega
          · rw [hK, prodL, Nat.add_mul, Nat.mul_assoc]
            congr 1
            omega
          · rw [digs, digs_add (fun x hx => hne x (by simp [hx])), digs_two]
            have hdiv : (p * prodL l + j) / prodL l = p := by
              rw [Nat.add_comm, Nat.mul_comm p, Nat.add_mul_div_left _ _ hP, Nat.div_eq_of_lt hj, Nat.zero_add]
            rw [hdiv, Nat.mod_eq_of_lt hpl, V.cmps_cons, if_neg (by rw [(eqb_iff _ _).1 heq]; simp)]
            exact hc

/-- The number of a tuple with a number. -/
theorem index_at {l : List (List V)} (hd : ∀ a, a ∈ l → dupV a = false) (hp : prodL l ≤ 4096) {m : Nat} (hm : m < prodL l) : idxD l (digs l m).1 = some (m : Int) := by
  have hne : ∀ a, a ∈ l → a.length ≠ 0 := hasNil_no (by
    by_cases h : hasNil l = false
    · exact h
    · have := prodL_nil (by simpa using h); omega)
  have h := idx_digs hd hne m 0 (by omega)
  rw [Nat.zero_mul, Nat.zero_add, Nat.mod_eq_of_lt hm] at h
  unfold idxD
  rw [if_pos ⟨by rw [szD_eq, if_pos (by omega)]; rfl, digs_len l m⟩]
  exact h
/-- The tuple with the number of a tuple. -/
theorem at_index {l : List (List V)} (hp : prodL l ≤ 4096) {t : List V} {K : Int} (h : idxD l t = some K) : atE l K = 0 ∧ V.eqs (atL l K) t = true := by
  unfold idxD at h
  split at h
  · rename_i hc
    obtain ⟨_, hlen⟩ := hc
    by_cases hn : hasNil l = true
    · rw [idxF_none hn 0 t hlen] at h; cases h
    · obtain ⟨j, hj, hK, hcm⟩ := idx_some (hasNil_no (by simpa using hn)) 0 t K hlen (by omega) h
      rw [Nat.zero_mul, Nat.zero_add] at hK
      subst hK
      have hsz : szE l = 0 ∧ szN l = prodL l := by
        unfold szE szN
        rw [szD_eq, if_pos (show prodL l ≤ 1152921504606846976 by omega)]
        exact ⟨rfl, rfl⟩
      obtain ⟨h1, h2⟩ := atE_in (l := l) (N := (j : Int)) hsz.1 (by rw [hsz.2]; rintro (h | h) <;> omega)
      refine ⟨h1, ?_⟩
      rw [h2, Int.toNat_natCast]
      unfold V.eqs
      rw [hcm]
      rfl
  · cases h

end Go.Proofs.YthfdlaphglpnpaaDoor
