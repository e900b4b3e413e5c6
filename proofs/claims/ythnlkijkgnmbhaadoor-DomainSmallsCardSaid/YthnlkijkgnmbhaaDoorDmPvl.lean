/-
  The first values of each type are valid and differ: the domain that Small returns checks. Nothing is assumed.
-/
import Derived.Test.YthnlkijkgnmbhaaDoorDmRsm
import Derived.Test.YthnlkijkgnmbhaaDoorDmChd
namespace Go.Proofs.YthnlkijkgnmbhaaDoor
open Go.RowKit

def letF : Nat → Nat → List UInt8
  | 0, _ => []
  | f + 1, m => if m ≤ 1 then [] else letF f (m / 2) ++ [UInt8.ofNat (97 + m % 2)]
theorem letF_eq : ∀ f m : Nat, m < 2 ^ f → letF f m = letL m
  | 0, m, h => by
    have : m = 0 := by simpa using h
    subst this
    exact (letL_one (by omega)).symm
  | f + 1, m, h => by
    rw [letF]
    by_cases h1 : m ≤ 1
    · rw [if_pos h1, letL_one h1]
    · rw [if_neg h1, letL_two (by omega), letF_eq f (m / 2) (by rw [Nat.pow_succ] at h; omega)]

/-- The first values once more, by a recursion that the kernel can reckon. -/
def gText (i : Nat) : V := .mk 3 0 (strB (letF 8 (i + 1))) []
def gPat (i : Nat) : V := .mk 8 0 (strB (letF 8 (i + 2))) []
def gInts (i : Nat) : V := .mk 5 0 ⟨#[]⟩ ((letF 8 (i + 1)).map fun c => .mk 2 ((c.toNat : Int) - 97) ⟨#[]⟩ [])
def gTexts (i : Nat) : V := .mk 6 0 ⟨#[]⟩ ((letF 8 (i + 1)).map fun c => .mk 3 0 (cellB c) [])
def gTable (i : Nat) : V := .mk 7 0 ⟨#[]⟩ ((letF 8 (i + 1)).map fun c => .mk 6 0 ⟨#[]⟩ [.mk 3 0 (cellB c) []])

def okF (t : Int) (f : Nat → V) (m : Nat) : Bool := (List.range m).all fun i => (f i).chk == 0 && ((f i).t == t && (List.range i).all fun j => !(f j).eqb (f i))

set_option maxRecDepth 100000 in
theorem ok1 : okF 1 fBool 2 = true := by decide +kernel
set_option maxRecDepth 100000 in
theorem ok2 : okF 2 fInt 64 = true := by decide +kernel
set_option maxRecDepth 100000 in
theorem ok4 : okF 4 fBits 64 = true := by decide +kernel
set_option maxRecDepth 100000 in
theorem ok3 : okF 3 gText 64 = true := by decide +kernel
set_option maxRecDepth 100000 in
theorem ok8 : okF 8 gPat 64 = true := by decide +kernel
set_option maxRecDepth 100000 in
theorem ok5 : okF 5 gInts 64 = true := by decide +kernel
set_option maxRecDepth 100000 in
theorem ok6 : okF 6 gTexts 64 = true := by decide +kernel
set_option maxRecDepth 100000 in
theorem ok7 : okF 7 gTable 64 = true := by decide +kernel

theorem g_eq {i : Nat} (h : i < 65) : gText i = fText i ∧ gPat i = fPat i ∧ gInts i = fInts i ∧ gTexts i = fTexts i ∧ gTable i = fTable i := by
  have e1 := letF_eq 8 (i + 1) (by omega)
  have e2 := letF_eq 8 (i + 2) (by omega)
  unfold gText gPat gInts gTexts gTable fText fPat fInts fTexts fTable
  rw [e1, e2]
  exact ⟨rfl, rfl, rfl, rfl, rfl⟩
theorem okF_of {t : Int} {f g : Nat → V} {m : Nat} (h : okF t g m = true) (he : ∀ i, i < m → g i = f i) : ∀ i, i < m → (f i).chk = 0 ∧ (f i).t = t ∧ ∀ j, j < i → (f j).eqb (f i) = false := by
  intro i hi
  have h1 := List.all_eq_true.1 h i (List.mem_range.2 hi)
  rw [Bool.and_eq_true, Bool.and_eq_true, beq_iff_eq, beq_iff_eq, he i hi] at h1
  refine ⟨h1.1, h1.2.1, fun j hj => ?_⟩
  have h2 := List.all_eq_true.1 h1.2.2 j (List.mem_range.2 hj)
  rw [he j (by omega)] at h2
  simpa using h2
theorem fst_ok {t : Int} (ht : isTy t = true) {m : Nat} (hm : m ≤ 64) : ∀ i, i < cntOf t m → (fstOf t i).chk = 0 ∧ (fstOf t i).t = t ∧ ∀ j, j < i → (fstOf t j).eqb (fstOf t i) = false := by
  have hc : t = 1 ∧ cntOf t m ≤ 2 ∨ t ≠ 1 ∧ cntOf t m ≤ 64 := by unfold cntOf; split <;> omega
  have key : ∀ i, i < (if t = 1 then 2 else 64) → (fstOf t i).chk = 0 ∧ (fstOf t i).t = t ∧ ∀ j, j < i → (fstOf t j).eqb (fstOf t i) = false := by
    obtain ⟨h1, h8⟩ := isTy_yes ht
    rcases ty_cases h1 h8 with rfl | rfl | rfl | rfl | rfl | rfl | rfl | rfl
    · exact okF_of ok1 fun _ _ => rfl
    · exact okF_of ok2 fun _ _ => rfl
    · exact okF_of ok3 fun i hi => (g_eq (show i < 65 by simp at hi; omega)).1
    · exact okF_of ok4 fun _ _ => rfl
    · exact okF_of ok5 fun i hi => (g_eq (show i < 65 by simp at hi; omega)).2.2.1
    · exact okF_of ok6 fun i hi => (g_eq (show i < 65 by simp at hi; omega)).2.2.2.1
    · exact okF_of ok7 fun i hi => (g_eq (show i < 65 by simp at hi; omega)).2.2.2.2
    · exact okF_of ok8 fun i hi => (g_eq (show i < 65 by simp at hi; omega)).2.1
  intro i hi
  refine key i ?_
  rcases hc with ⟨e, h⟩ | ⟨e, h⟩
  · rw [if_pos e]; omega
  · rw [if_neg e]; omega

theorem fit_all {t : Int} : ∀ {a : List V}, (∀ v, v ∈ a → v.chk = 0 ∧ v.t = t) → fitN t a = a.length ∧ fitE t a = 0
  | [], _ => ⟨rfl, rfl⟩
  | v :: a, h => by
    have h0 := h v (by simp)
    have h1 := fit_all (t := t) (a := a) fun x hx => h x (by simp [hx])
    have h2 := fitN_ok (a := a) h0.1 h0.2
    rw [h2.1, h2.2, h1.1, h1.2]
    exact ⟨rfl, rfl⟩
theorem axE_fst {t : Int} (ht : isTy t = true) {m : Nat} (hm : m ≤ 64) : axE t (axOf m t) = 0 := by
  have hok := fst_ok ht hm
  have h1 : ∀ v, v ∈ axOf m t → v.chk = 0 ∧ v.t = t := fun v hv => by
    obtain ⟨i, hi, rfl⟩ := List.mem_map.1 hv
    have h := hok i (List.mem_range.1 hi)
    exact ⟨h.1, h.2.1⟩
  have h2 := fit_all h1
  have hp : (axOf m t).Pairwise (fun a b => a.eqb b = false) := by
    unfold axOf
    rw [List.pairwise_map]
    refine List.Pairwise.imp_of_mem ?_ (List.pairwise_lt_range (n := cntOf t m))
    intro a b _ hb hab
    exact (hok b (List.mem_range.1 hb)).2.2 a hab
  unfold axE
  rw [h2.1, h2.2, List.take_length, if_neg (fun e => (dupV_iff _).1 e hp)]
theorem axsE_fst {m : Nat} (hm : m ≤ 64) : ∀ {ts : List Int}, allTy ts = true → axsE ts (ts.map (axOf m)) = 0
  | [], _ => rfl
  | t :: ts, h => by
    have h' : isTy t = true ∧ allTy ts = true := by
      rw [← Bool.and_eq_true]
      exact h
    rw [List.map_cons, axsE_yes (axE_fst h'.1 hm)]
    exact axsE_fst hm h'.2
/-- The domain that Small returns without an error is valid. -/
theorem chkD_small {ts : List Int} {n : Int} (h : smE ts n = 0) : chkD (smLs ts n) ts = 0 := by
  have hl : smLs ts n = ts.map (axOf n.toNat) := if_pos h
  unfold smE at h
  by_cases h1 : 4 < ts.length
  · rw [if_pos h1] at h; cases h
  rw [if_neg h1] at h
  by_cases h2 : allTy ts = false
  · rw [if_pos h2] at h; cases h
  rw [if_neg h2] at h
  by_cases h3 : n < 0 ∨ 64 < n
  · rw [if_pos h3] at h; cases h
  rw [if_neg h3] at h
  by_cases h4 : largeD (ts.map (axOf n.toNat)) = true
  · rw [if_pos h4] at h; cases h
  have h5 := axsE_fst (m := n.toNat) (by omega) (by simpa using h2 : allTy ts = true)
  rw [hl]
  unfold chkD
  rw [if_neg (fun e => e (List.length_map ..)), if_neg (fun e => e h5), if_neg h4]
theorem smLs_len (ts : List Int) (n : Int) : ∀ a, a ∈ smLs ts n → a.length ≤ 1000 := by
  intro a ha
  unfold smLs at ha
  split at ha
  · rename_i h
    obtain ⟨t, _, rfl⟩ := List.mem_map.1 ha
    have h1 := axOf_len n.toNat t
    have : n ≤ 64 := by
      unfold smE at h
      split at h
      · cases h
      split at h
      · cases h
      split at h
      · cases h
      omega
    omega
  · cases ha

end Go.Proofs.YthnlkijkgnmbhaaDoor
