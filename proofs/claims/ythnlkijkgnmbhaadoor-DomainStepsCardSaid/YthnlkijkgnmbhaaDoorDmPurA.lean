/-
  The plain mathematics of a valid domain: no value twice in an axis; neighbouring tuples are different. Nothing is assumed.
-/
import Derived.Test.YthnlkijkgnmbhaaDoorDmChd
import Derived.Test.YthnlkijkgnmbhaaDoorDmAtA
namespace Go.Proofs.YthnlkijkgnmbhaaDoor
open Go.RowKit

theorem fit_all {t : Int} : ∀ {a : List V}, fitE t a = 0 → fitN t a = a.length ∧ ∀ v, v ∈ a → v.chk = 0 ∧ v.t = t := by
  intro a
  induction a with
  | nil => intro _; exact ⟨rfl, fun v h => by cases h⟩
  | cons v a ih =>
    intro h
    by_cases hc : v.chk = 0
    · by_cases ht : v.t = t
      · obtain ⟨h1, h2⟩ := fitN_ok (a := a) hc ht
        rw [h2] at h
        obtain ⟨k1, k2⟩ := ih h
        refine ⟨by rw [h1, k1]; rfl, fun x hx => ?_⟩
        rcases List.mem_cons.1 hx with rfl | hx
        · exact ⟨hc, ht⟩
        · exact k2 x hx
      · rw [(fitN_ty (a := a) hc ht).2] at h; cases h
    · rw [(fitN_chk (t := t) (a := a) hc).2] at h; exact absurd h hc
theorem axE_ok {t : Int} {a : List V} (h : axE t a = 0) : dupV a = false ∧ ∀ v, v ∈ a → v.chk = 0 ∧ v.t = t := by
  unfold axE at h
  split at h
  · cases h
  · rename_i hd
    obtain ⟨h1, h2⟩ := fit_all h
    rw [h1, List.take_length] at hd
    exact ⟨by simpa using hd, h2⟩
theorem axsE_ok : ∀ {l : List (List V)} {ts : List Int}, l.length = ts.length → axsE ts l = 0 → ∀ a, a ∈ l → dupV a = false := by
  intro l
  induction l with
  | nil => intro ts _ _ a h; cases h
  | cons b l ih =>
    intro ts hl h a ha
    cases ts with
    | nil => simp at hl
    | cons t ts =>
      by_cases hz : axE t b = 0
      · rw [axsE_yes hz] at h
        rcases List.mem_cons.1 ha with rfl | ha
        · exact (axE_ok hz).1
        · exact ih (by simpa using hl) h a ha
      · rw [axsE_no hz] at h; exact absurd h hz
theorem chkD_ok {l : List (List V)} {ts : List Int} (h : chkD l ts = 0) : (∀ a, a ∈ l → dupV a = false) ∧ prodL l ≤ 4096 := by
  unfold chkD at h
  split at h
  · cases h
  · rename_i hl
    split at h
    · rename_i hz; exact absurd h hz
    · rename_i hz
      split at h
      · cases h
      · rename_i hg
        refine ⟨axsE_ok (l := l) (ts := ts) (by omega) (by omega), ?_⟩
        unfold largeD at hg
        simp at hg
        exact hg

theorem dup_no {a : List V} (h : dupV a = false) {i j : Nat} (hij : i < j) (hj : j < a.length) : (a.getD i zeroV).eqb (a.getD j zeroV) = false := by
  have hp : a.Pairwise (fun x y => x.eqb y = false) := Classical.byContradiction fun hc => by rw [(dupV_iff a).2 hc] at h; cases h
  rw [List.pairwise_iff_getElem] at hp
  have := hp i j (by omega) hj hij
  simpa [List.getD, hj, show i < a.length by omega] using this
theorem eqb_self (v : V) : v.eqb v = true := (eqb_iff v v).2 (V.cmp_self v)

theorem cmps_cons {a b : V} {l m : List V} (h : V.cmps (a :: l) (b :: m) = 0) : a.cmp b = 0 ∧ V.cmps l m = 0 := by
  rw [V.cmps] at h
  split at h
  · rename_i h2; exact absurd h h2
  · rename_i h2; exact ⟨by simpa using h2, h⟩
theorem cmps_digs : ∀ {l : List (List V)}, (∀ a, a ∈ l → dupV a = false) → (∀ a, a ∈ l → a.length ≠ 0) → ∀ {m n : Nat}, V.cmps (digs l m).1 (digs l n).1 = 0 → m % prodL l = n % prodL l
  | [], _, _, m, n, _ => by rw [prodL, Nat.mod_one, Nat.mod_one]
  | a :: l, hd, hne, m, n, h => by
    rw [digs, digs] at h
    obtain ⟨h1, h2⟩ := cmps_cons h
    have h3 := cmps_digs (fun x hx => hd x (by simp [hx])) (fun x hx => hne x (by simp [hx])) h2
    rw [digs_two, digs_two] at h1
    have ha := hne a (by simp)
    have hda := hd a (by simp)
    have hlt1 := Nat.mod_lt (m / prodL l) (show 0 < a.length by omega)
    have hlt2 := Nat.mod_lt (n / prodL l) (show 0 < a.length by omega)
    have hcm := (eqb_iff _ _).2 h1
    have hdg : m / prodL l % a.length = n / prodL l % a.length := by
      rcases Nat.lt_trichotomy (m / prodL l % a.length) (n / prodL l % a.length) with hlt | he | hlt
      · rw [dup_no hda hlt hlt2] at hcm; cases hcm
      · exact he
      · have hx := V.anti (a.getD (m / prodL l % a.length) zeroV) (a.getD (n / prodL l % a.length) zeroV)
        rw [h1] at hx
        have hy := (eqb_iff (a.getD (n / prodL l % a.length) zeroV) (a.getD (m / prodL l % a.length) zeroV)).2 (by omega)
        rw [dup_no hda hlt hlt1] at hy
        cases hy
    rw [prodL, Nat.mul_comm, Nat.mod_mul, Nat.mod_mul, h3, hdg]
/-- Neighbours are different. -/
theorem tup_next {l : List (List V)} (hd : ∀ a, a ∈ l → dupV a = false) {m : Nat} (hm : m + 1 < prodL l) : V.eqs (digs l m).1 (digs l (m + 1)).1 = false := by
  have hne : ∀ a, a ∈ l → a.length ≠ 0 := hasNil_no (by
    by_cases h : hasNil l = false
    · exact h
    · have := prodL_nil (by simpa using h); omega)
  by_cases h : V.cmps (digs l m).1 (digs l (m + 1)).1 = 0
  · have h2 := cmps_digs hd hne h
    rw [Nat.mod_eq_of_lt (by omega), Nat.mod_eq_of_lt hm] at h2
    omega
  · unfold V.eqs
    exact beq_eq_false_iff_ne.2 h

end Go.Proofs.YthnlkijkgnmbhaaDoor
