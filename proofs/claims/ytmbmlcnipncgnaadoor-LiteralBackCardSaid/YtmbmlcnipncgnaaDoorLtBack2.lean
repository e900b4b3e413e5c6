/-
  What is written for a tuple is read again; two values are equal just if Compare says so; how long a literal is. Nothing is assumed.
-/
import Derived.Test.YtmbmlcnipncgnaaDoorLtBack
import Derived.Test.YtmbmlcnipncgnaaDoorLtRefCmp
namespace Go.Proofs.YtmbmlcnipncgnaaDoor
open Go.RowKit

/-! ### Tuples -/
theorem all_back (L : List UInt8) (all : List V) (hv : ∀ v, v ∈ all → v.chk = 0) :
    ∀ (l acc : List V) (g i : Nat), all = acc ++ l → l.length < g → L.drop i = restL acc l → i + (restL acc l).length = L.length → allL L g acc i = .ok all L.length
  | [], acc, g, i, ha, hg, h, hi => by
    rw [List.append_nil] at ha
    subst ha
    have hr : restL all [] = [] := by unfold restL; rw [V.lits_nil, V.litT_nil]; split <;> rfl
    rw [hr] at hi
    cases g with
    | zero => exact absurd hg (by omega)
    | succ g =>
      have hi2 : i = L.length := by simpa using hi
      rw [allL, if_pos (by omega), hi2]
  | v :: l, acc, g, i, ha, hg, h, hi => by
    cases g with
    | zero => exact absurd hg (by omega)
    | succ g =>
      have hvv : v.chk = 0 := hv v (by rw [ha]; simp)
      have hstop : Stops (V.litT l) := by
        cases l with
        | nil => rw [V.litT_nil]; exact Stops.nil
        | cons x l => rw [V.litT_cons]; exact Stops.cons _ _ rfl (by decide)
      have ih := fun i => all_back L all hv l (acc ++ [v]) g i (by rw [ha]; simp) (by rw [List.length_cons] at hg; omega)
      have hr2 : restL (acc ++ [v]) l = V.litT l := by unfold restL; rw [if_neg (by simp)]
      rw [hr2] at ih
      have hpos : 0 < v.lit.length := by
        rcases Nat.eq_zero_or_pos v.lit.length with h0 | h0
        · have h1 := (parse_lit hvv).1
          have hnil := List.eq_nil_of_length_eq_zero h0
          rw [hnil] at h1
          simp [oneL, pk, intL, isD] at h1
        · exact h0
      by_cases h0 : acc = []
      · subst h0
        have hr : restL [] (v :: l) = v.lit ++ V.litT l := by unfold restL; rw [if_pos rfl, V.lits_cons]
        rw [hr] at h hi
        rw [List.length_append] at hi
        rw [allL, if_neg (by omega)]
        unfold sepL
        rw [if_pos rfl, PR.bind_ok, back hvv hstop h, PR.bind_ok]
        exact ih _ (drop_add h) (by omega)
      · have hr : restL acc (v :: l) = [44, 32] ++ (v.lit ++ V.litT l) := by unfold restL; rw [if_neg h0, V.litT_cons]; rfl
        rw [hr] at h hi
        rw [List.length_append, List.length_append] at hi
        have h2 := drop_add h
        rw [allL, if_neg (by simp at hi; omega)]
        unfold sepL
        rw [if_neg h0, word_back [44, 32] L _ i h, PR.bind_ok, back hvv hstop h2, PR.bind_ok]
        exact ih _ (drop_add h2) (by simp at hi ⊢; omega)
theorem lits_ge : ∀ l : List V, (∀ v, v ∈ l → v.chk = 0) → l.length ≤ (V.litT l).length
  | [], _ => by simp
  | v :: l, h => by
    have ih := lits_ge l fun x hx => h x (List.mem_cons_of_mem _ hx)
    rw [V.litT_cons]
    simp
    omega
theorem parseAll_lits {l : List V} (h : ∀ v, v ∈ l → v.chk = 0) : parseAllL (V.lits l) = (l, 0, 0) := by
  have hlen : l.length < (V.lits l).length + 1 := by
    cases l with
    | nil => simp
    | cons v l =>
      have := lits_ge l fun x hx => h x (List.mem_cons_of_mem _ hx)
      rw [V.lits_cons]
      have hp : 0 < v.lit.length := by
        rcases Nat.eq_zero_or_pos v.lit.length with h0 | h0
        · have h1 := (parse_lit (h v (by simp))).1
          have hnil := List.eq_nil_of_length_eq_zero h0
          rw [hnil] at h1
          simp [oneL, pk, intL, isD] at h1
        · exact h0
      simp
      omega
  have := all_back (V.lits l) l h l [] ((V.lits l).length + 1) 0 rfl hlen (by unfold restL; rw [if_pos rfl]; rfl) (by unfold restL; rw [if_pos rfl]; omega)
  unfold parseAllL
  rw [this]
  exact if_pos rfl

/-! ### Equality -/
theorem cmpI_zero {a b : Int} (h : cmpI a b = 0) : a = b := by
  unfold cmpI at h
  split at h
  · omega
  · split at h <;> omega
theorem cmpS_zero {a b : ByteArray} (h : cmpS a b = 0) : a = b := by
  unfold cmpS at h
  rw [compareBytes_eq] at h
  split at h
  · rename_i he
    exact str_inj (by rw [ByteArray.toList_eq, ByteArray.toList_eq, he])
  · split at h <;> omega
theorem cmps_zero : ∀ (l m : List V), (∀ x, x ∈ l → ∀ y, x.cmp y = 0 → x = y) → V.cmps l m = 0 → l = m
  | [], m, _, h => by
    rw [V.cmps_nil] at h
    split at h
    · rename_i h0
      exact (List.eq_nil_of_length_eq_zero h0).symm
    · omega
  | a :: l, [], _, h => by rw [V.cmps_cons_nil] at h; omega
  | a :: l, b :: m, ih, h => by
    rw [V.cmps_cons] at h
    by_cases h0 : a.cmp b = 0
    · rw [if_neg (by rw [h0]; simp)] at h
      rw [ih a (by simp) b h0, cmps_zero l m (fun x hx => ih x (List.mem_cons_of_mem _ hx)) h]
    · rw [if_pos h0] at h
      exact absurd h h0
theorem V.cmp_zero (a : V) : ∀ b : V, a.cmp b = 0 → a = b := by
  induction a using V.ind with
  | h a ih =>
    intro b h
    rw [V.cmp_eq] at h
    by_cases h1 : cmpI a.t b.t = 0
    · rw [if_neg (by rw [h1]; simp)] at h
      by_cases h2 : cmpI a.n b.n = 0
      · rw [if_neg (by rw [h2]; simp)] at h
        by_cases h3 : cmpS a.s b.s = 0
        · rw [if_neg (by rw [h3]; simp)] at h
          have h4 := cmps_zero a.l b.l ih h
          have e := mk_eq (v := a) (cmpI_zero h1) (cmpI_zero h2) (cmpS_zero h3) h4
          rw [e, V.eta]
        · rw [if_pos h3] at h; exact absurd h h3
      · rw [if_pos h2] at h; exact absurd h h2
    · rw [if_pos h1] at h; exact absurd h h1
theorem cmps_self2 (l : List V) (h : ∀ x, x ∈ l → x.cmp x = 0) : V.cmps l l = 0 := by
  induction l with
  | nil => rw [V.cmps_nil]; rfl
  | cons a l ih => rw [V.cmps_cons, if_neg (by rw [h a (List.mem_cons_self ..)]; simp)]; exact ih fun x hx => h x (List.mem_cons_of_mem _ hx)
theorem cmp_self2 (v : V) : v.cmp v = 0 := by
  induction v using V.ind with
  | h v ih => rw [V.cmp_eq, if_neg (by rw [cmpI_eq rfl]; simp), if_neg (by rw [cmpI_eq rfl]; simp), if_neg (by rw [cmpS_eq rfl]; simp)]; exact cmps_self2 _ ih
theorem eqb_self (v : V) : v.eqb v = true := by unfold V.eqb; rw [cmp_self2]; rfl
/-- Different values have different literals. -/
theorem lit_eqb {v u : V} (hv : v.chk = 0) (hu : u.chk = 0) : ((str v.lit).toList == (str u.lit).toList) = v.eqb u := by
  by_cases h : v = u
  · subst h
    rw [eqb_self]
    exact beq_self_eq_true _
  · have h1 : v.eqb u = false := by
      unfold V.eqb
      exact beq_eq_false_iff_ne.2 fun e => h (V.cmp_zero v u e)
    rw [h1]
    refine beq_eq_false_iff_ne.2 fun e => h ?_
    have e2 := str_inj e
    have e3 : v.lit = u.lit := by
      have := congrArg (fun s : ByteArray => s.data.toList) e2
      simpa [str_list] using this
    have p1 := (parse_lit hv).2
    have p2 := (parse_lit hu).2
    rw [e3, p2] at p1
    exact (congrArg Prod.fst p1).symm

/-! ### Lengths -/
theorem escL_len2 : ∀ l : List UInt8, (∀ c, c ∈ l → 32 ≤ c.toNat ∧ c.toNat ≤ 126) → (escL l).length ≤ 2 * l.length
  | [], _ => by simp [escL]
  | c :: l, h => by
    have ih := escL_len2 l fun x hx => h x (List.mem_cons_of_mem _ hx)
    have hc := h c (by simp)
    rw [escL_cons, List.length_append]
    have : (escB c).length ≤ 2 := by
      unfold escB
      split
      · simp
      · rw [if_neg (by omega)]; simp
    simp
    omega
theorem lit3 {v : V} (h : v.chk = 0) (ht : v.t = 3) : v.lit.length ≤ 130 := by
  rcases chk_cases h with h | h | h | h | h | h | h | h <;> (try (have := h.1; omega))
  have h3 := (chkText_ok h.2.2.1).2.1
  have := escL_len2 v.s.data.toList (chkText_ok h.2.2.1).2.2
  rw [V.lit_eq, ht]
  simp only [Int.reduceEq, if_false, if_true]
  unfold quoteL
  rw [lt_len] at this
  simp
  omega
theorem lit6 {v : V} (h : v.chk = 0) (ht : v.t = 6) : v.lit.length ≤ 2114 := by
  rcases chk_cases h with h | h | h | h | h | h | h | h <;> (try (have := h.1; omega))
  obtain ⟨_, _, _, hl, hc⟩ := h
  have := V.lits_len 130 v.l fun x hx => lit3 (chkL_mem 3 v.l hc x hx).2 (chkL_mem 3 v.l hc x hx).1
  rw [V.lit_eq, ht]
  simp only [Int.reduceEq, if_false, if_true, List.length_cons, List.length_append, List.length_nil]
  have : v.l.length * (130 + 2) ≤ 16 * 132 := Nat.mul_le_mul_right 132 hl
  omega
theorem lit_short {v : V} (h : v.chk = 0) : v.lit.length ≤ 20000 := by
  have h0 := h
  rcases chk_cases h with h | h | h | h | h | h | h | h
  · rw [V.lit_eq, h.1]
    simp only [if_true]
    split <;> decide
  · have := lit_len2 h0 h.1; omega
  · rw [V.lit_eq, h.1]
    simp only [Int.reduceEq, if_false, if_true, List.length_cons, List.length_nil]
    omega
  · have := lit3 h0 h.1; omega
  · have h3 := (chkText_ok h.2.2.1).2.1
    have := quoteL_len v.s.data.toList
    rw [V.lit_eq, h.1]
    simp only [Int.reduceEq, if_false, if_true, List.length_cons]
    rw [lt_len] at this
    omega
  · obtain ⟨ht, _, _, hl, hc⟩ := h
    have := V.lits_len 258 v.l fun x hx => lit_len2 (chkL_mem 2 v.l hc x hx).2 (chkL_mem 2 v.l hc x hx).1
    rw [V.lit_eq, ht]
    simp only [Int.reduceEq, if_false, if_true, List.length_cons, List.length_append, List.length_nil]
    have : v.l.length * (258 + 2) ≤ 16 * 260 := Nat.mul_le_mul_right 260 hl
    omega
  · have := lit6 h0 h.1; omega
  · obtain ⟨ht, _, _, hl, hc⟩ := h
    have := V.lits_len 2114 v.l fun x hx => lit6 (chkR_mem _ v.l hc x hx).2.2.2.2 (chkR_mem _ v.l hc x hx).1
    rw [V.lit_eq, ht]
    simp only [Int.reduceEq, if_false, List.length_cons, List.length_append, List.length_nil]
    have : v.l.length * (2114 + 2) ≤ 8 * 2116 := Nat.mul_le_mul_right 2116 hl
    omega
theorem lits_short {l : List V} (h : ∀ v, v ∈ l → v.chk = 0) (hl : l.length ≤ 30) : (V.lits l).length ≤ 700000 := by
  have := V.lits_len 20000 l fun x hx => lit_short (h x hx)
  have h2 : l.length * (20000 + 2) ≤ 30 * 20002 := Nat.mul_le_mul_right 20002 hl
  omega

end Go.Proofs.YtmbmlcnipncgnaaDoor
