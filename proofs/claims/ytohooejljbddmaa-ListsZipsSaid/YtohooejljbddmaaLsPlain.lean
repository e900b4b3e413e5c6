/-
  The plain mathematics of layer 7 (functions of lists of integers), with no program in it: what the functions compute, told on lists of integers. Nothing is assumed.
-/
import Derived.WalkKit
import Derived.Lib.Hide
namespace Go.Proofs.Ytohooejljbddmaa
open Go.RowKit

/-! ### Elements -/

/-- The element with the index k; negative ones count from the end. -/
def elo (l : List Int) (k : Int) : Option Int := if 0 ≤ k then l[k.toNat]? else if 0 ≤ k + l.length then l[(k + l.length).toNat]? else none
def elv (l : List Int) (k : Int) : Int := (elo l k).getD 0
def ele (l : List Int) (k : Int) : Int := if (elo l k).isSome then 0 else 7
theorem el_none {l : List Int} {k : Int} (h : elo l k = none) : elv l k = 0 ∧ ele l k = 7 := by simp [elv, ele, h]
theorem el_some {l : List Int} {k z : Int} (h : elo l k = some z) : elv l k = z ∧ ele l k = 0 := by simp [elv, ele, h]
theorem elo_at {l : List Int} {i : Nat} (h : i < l.length) : elo l i = some l[i] := by
  unfold elo
  rw [if_pos (by omega)]
  simp [h]
theorem elo_neg {l : List Int} {i : Nat} {k : Int} (h : i < l.length) (hk : k + l.length = i) : elo l k = some l[i] := by
  unfold elo
  rw [if_neg (by omega), if_pos (by omega), hk]
  simp [h]
theorem elo_out {l : List Int} {k : Int} (h : k < -(l.length : Int) ∨ (l.length : Int) ≤ k) : elo l k = none := by
  unfold elo
  rcases h with h | h
  · rw [if_neg (by omega), if_neg (by omega)]
  · rw [if_pos (by omega), List.getElem?_eq_none]
    omega

/-! ### Parts -/

def tk (l : List Int) (n : Int) : List Int := l.take n.toNat
def dr (l : List Int) (n : Int) : List Int := l.drop n.toNat
theorem tk_dr (l : List Int) (n : Int) : tk l n ++ dr l n = l := List.take_append_drop _ _
theorem tk_len (l : List Int) (n : Int) : (tk l n).length ≤ l.length := by unfold tk; simp; omega
theorem dr_len (l : List Int) (n : Int) : (dr l n).length ≤ l.length := by unfold dr; simp
theorem take_snoc {α : Type} (l : List α) (k : Nat) (h : k < l.length) : l.take (k + 1) = l.take k ++ [l[k]] := List.take_succ_eq_append_getElem h

/-! ### Permitted numbers -/

def perm (n : Int) : Bool := decide (-1000000 ≤ n) && decide (n ≤ 1000000)
theorem perm_yes {n : Int} (h : perm n = true) : -1000000 ≤ n ∧ n ≤ 1000000 := by simpa [perm] using h
theorem perm_no {n : Int} (h : perm n = false) : n < -1000000 ∨ 1000000 < n := by
  simp [perm] at h
  omega
theorem perm_mk {n : Int} (h0 : -1000000 ≤ n) (h1 : n ≤ 1000000) : perm n = true := by simp [perm, h0, h1]
def okL (l : List Int) : Bool := l.all perm
theorem okL_nil : okL [] = true := rfl
theorem okL_at {l : List Int} (h : okL l = true) {i : Nat} {z : Int} (hz : l[i]? = some z) : perm z = true := List.all_eq_true.1 h z (List.mem_of_getElem? hz)
theorem okL_bad {l : List Int} {i : Nat} {z : Int} (hz : l[i]? = some z) (h : perm z = false) : okL l = false := by
  refine List.all_eq_false.2 ⟨z, List.mem_of_getElem? hz, ?_⟩
  rw [h]; simp
theorem okL_snoc (l : List Int) (k : Nat) (h : k < l.length) : okL (l.take (k + 1)) = (okL (l.take k) && perm l[k]) := by
  unfold okL
  rw [take_snoc l k h, List.all_append]
  simp
theorem okL_all (l : List Int) (k : Nat) (h : l.length ≤ k) : okL (l.take k) = okL l := by rw [List.take_of_length_le h]
theorem okL_take {l : List Int} {k : Nat} (h : okL (l.take k) = false) : okL l = false := by
  obtain ⟨x, hx, hp⟩ := List.all_eq_false.1 h
  exact List.all_eq_false.2 ⟨x, List.mem_of_mem_take hx, hp⟩

/-- The list, or nothing; the error. -/
def yes (b : Bool) (l : List Int) : List Int := if b then l else []
def rng (b : Bool) : Int := if b then 0 else 1
theorem yes_t (l : List Int) : yes true l = l := rfl
theorem yes_f (l : List Int) : yes false l = [] := rfl
theorem yes_len (b : Bool) (l : List Int) : (yes b l).length ≤ l.length := by cases b <;> simp [yes]

/-! ### Sums -/

def sumK (l : List Int) : Nat → Int
  | 0 => 0
  | k + 1 => sumK l k + l.getD k 0
def runK (l : List Int) : Nat → List Int
  | 0 => []
  | k + 1 => runK l k ++ [sumK l (k + 1)]
theorem runK_len (l : List Int) (k : Nat) : (runK l k).length = k := by
  induction k with
  | zero => rfl
  | succ k ih => simp [runK, ih]
theorem runK_at (l : List Int) : ∀ (n k : Nat), k < n → (runK l n)[k]? = some (sumK l (k + 1))
  | 0, k, h => absurd h (by omega)
  | n + 1, k, h => by
    rw [runK]
    have hl := runK_len l n
    by_cases e : k = n
    · subst e
      rw [List.getElem?_append_right (by omega), hl]
      simp
    · rw [List.getElem?_append_left (by omega)]
      exact runK_at l n k (by omega)
theorem sumK_succ (l : List Int) (k : Nat) (h : k < l.length) : sumK l (k + 1) = sumK l k + l[k] := by
  rw [sumK]
  simp [h]
theorem sumK_bd (l : List Int) (hp : okL l = true) : ∀ k, k ≤ l.length → -1000000 * (k : Int) ≤ sumK l k ∧ sumK l k ≤ 1000000 * k
  | 0, _ => by simp [sumK]
  | k + 1, h => by
    have ih := sumK_bd l hp k (by omega)
    have hz := perm_yes (okL_at hp (List.getElem?_eq_getElem (show k < l.length by omega)))
    rw [sumK_succ l k (by omega)]
    omega
def smV (l : List Int) : Int := if okL l && perm (sumK l l.length) then sumK l l.length else 0
def smE (l : List Int) : Int := rng (okL l && perm (sumK l l.length))
def rnB (l : List Int) : Bool := okL l && okL (runK l l.length)

/-! ### Order -/

def srt (l : List Int) : List Int := l.mergeSort fun x y => decide (x ≤ y)
theorem srt_perm (l : List Int) : (srt l).Perm l := List.mergeSort_perm l _
theorem srt_len (l : List Int) : (srt l).length = l.length := (srt_perm l).length_eq
theorem srt_sorted (l : List Int) : (srt l).Pairwise (· ≤ ·) := by
  have := List.pairwise_mergeSort (le := fun x y : Int => decide (x ≤ y)) (fun a b c h1 h2 => by simp at *; omega) (fun a b => by simp; omega) l
  exact this.imp fun h => by simpa using h
theorem srt_unique {l m : List Int} (hs : m.Pairwise (· ≤ ·)) (hp : m.Perm l) : m = srt l :=
  List.Perm.eq_of_pairwise (fun _ _ _ _ h1 h2 => Int.le_antisymm h1 h2) hs (srt_sorted l) (hp.trans (srt_perm l).symm)
theorem srt_idem (l : List Int) : srt (srt l) = srt l := (srt_unique (srt_sorted l) (List.Perm.refl _)).symm
theorem srt_rev (l : List Int) : srt l.reverse = srt l := (srt_unique (srt_sorted l.reverse) ((srt_perm _).trans (List.reverse_perm l)))
theorem srt_le (l : List Int) (i j : Nat) (a b : Int) (hij : i < j) (ha : (srt l)[i]? = some a) (hb : (srt l)[j]? = some b) : a ≤ b := by
  obtain ⟨hi, rfl⟩ := List.getElem?_eq_some_iff.1 ha
  obtain ⟨hj, rfl⟩ := List.getElem?_eq_some_iff.1 hb
  exact List.pairwise_iff_getElem.1 (srt_sorted l) i j hi hj hij
theorem ins_sorted {out : List Int} {x : Int} {k : Nat} (hs : out.Pairwise (· ≤ ·)) (h1 : ∀ j y, k ≤ j → out[j]? = some y → x < y) (h2 : ∀ y, 0 < k → out[k - 1]? = some y → y ≤ x) (hk : k ≤ out.length) :
    (out.take k ++ (x :: out.drop k)).Pairwise (· ≤ ·) := by
  have hsp := hs
  rw [← List.take_append_drop k out] at hsp
  obtain ⟨p1, p2, p3⟩ := List.pairwise_append.1 hsp
  refine List.pairwise_append.2 ⟨p1, List.pairwise_cons.2 ⟨fun y hy => ?_, p2⟩, fun y hy z hz => ?_⟩
  · obtain ⟨j, hj⟩ := List.mem_iff_getElem?.1 hy
    rw [List.getElem?_drop] at hj
    exact Int.le_of_lt (h1 _ y (by omega) hj)
  · rcases List.mem_cons.1 hz with rfl | hz
    · obtain ⟨j, hj⟩ := List.mem_iff_getElem?.1 hy
      rw [List.getElem?_take] at hj
      split at hj
      · rename_i hlt
        have hlast := h2 _ (by omega) (List.getElem?_eq_getElem (show k - 1 < out.length by omega))
        by_cases e : j = k - 1
        · subst e
          rw [List.getElem?_eq_getElem (by omega), Option.some.injEq] at hj
          omega
        · obtain ⟨hjl, hje⟩ := List.getElem?_eq_some_iff.1 hj
          have := List.pairwise_iff_getElem.1 hs j (k - 1) hjl (by omega) (by omega)
          omega
      · cases hj
    · exact p3 y hy z hz
theorem ins_perm (out : List Int) (x : Int) (k : Nat) : (out.take k ++ (x :: out.drop k)).Perm (out ++ [x]) := by
  refine (List.perm_middle).trans ?_
  rw [List.take_append_drop]
  exact (List.perm_append_singleton x out).symm
theorem ins_srt {l : List Int} {x : Int} {k : Nat} (h1 : ∀ j y, k ≤ j → (srt l)[j]? = some y → x < y) (h2 : ∀ y, 0 < k → (srt l)[k - 1]? = some y → y ≤ x) (hk : k ≤ l.length) :
    (srt l).take k ++ (x :: (srt l).drop k) = srt (l ++ [x]) :=
  srt_unique (ins_sorted (srt_sorted l) h1 h2 (by rw [srt_len]; exact hk)) ((ins_perm _ _ _).trans ((srt_perm l).append_right _))

/-- The greatest and the least one. -/
def mxL (l : List Int) : Int := (srt l).getD (l.length - 1) 0
def mnL (l : List Int) : Int := (srt l).getD 0 0
theorem mx_of {l : List Int} {m : Int} (hm : m ∈ l) (h : ∀ x, x ∈ l → x ≤ m) : m = mxL l := by
  have hl : 0 < l.length := List.length_pos_of_mem hm
  have hlt : l.length - 1 < (srt l).length := by rw [srt_len]; omega
  have hg : mxL l = (srt l)[l.length - 1] := by simp [mxL, hlt]
  have hin : mxL l ∈ l := (srt_perm l).mem_iff.1 (by rw [hg]; exact List.getElem_mem hlt)
  have h1 := h _ hin
  obtain ⟨j, hj, he⟩ := List.mem_iff_getElem.1 ((srt_perm l).mem_iff.2 hm)
  by_cases e : j = l.length - 1
  · subst e
    omega
  · have hj2 : j < l.length - 1 := by rw [srt_len] at hj; omega
    have := List.pairwise_iff_getElem.1 (srt_sorted l) j (l.length - 1) hj hlt hj2
    omega
theorem mn_of {l : List Int} {m : Int} (hm : m ∈ l) (h : ∀ x, x ∈ l → m ≤ x) : m = mnL l := by
  have hl : 0 < l.length := List.length_pos_of_mem hm
  have hlt : 0 < (srt l).length := by rw [srt_len]; omega
  have hg : mnL l = (srt l)[0] := by simp [mnL, hlt]
  have hin : mnL l ∈ l := (srt_perm l).mem_iff.1 (by rw [hg]; exact List.getElem_mem hlt)
  have h1 := h _ hin
  obtain ⟨j, hj, he⟩ := List.mem_iff_getElem.1 ((srt_perm l).mem_iff.2 hm)
  by_cases e : j = 0
  · subst e
    omega
  · have := List.pairwise_iff_getElem.1 (srt_sorted l) 0 j hlt hj (by omega)
    omega
theorem mx_el (l : List Int) (h : 0 < l.length) : elv (srt l) (-1) = mxL l ∧ ele (srt l) (-1) = 0 := by
  have hlt : l.length - 1 < (srt l).length := by rw [srt_len]; omega
  have := el_some (elo_neg (k := -1) hlt (by rw [srt_len]; omega))
  refine ⟨this.1.trans ?_, this.2⟩
  simp [mxL, hlt]
theorem mn_el (l : List Int) (h : 0 < l.length) : elv (srt l) 0 = mnL l ∧ ele (srt l) 0 = 0 := by
  have hlt : 0 < (srt l).length := by rw [srt_len]; omega
  have := el_some (elo_at (l := srt l) (i := 0) hlt)
  refine ⟨this.1.trans ?_, this.2⟩
  simp [mnL, hlt]
def mxV (l : List Int) : Int := elv (srt l) (-1)
def mxE (l : List Int) : Int := ele (srt l) (-1)
def mnV (l : List Int) : Int := elv (srt l) 0
def mnE (l : List Int) : Int := ele (srt l) 0
theorem srt_nil : srt [] = [] := by simp [srt]

/-! ### Each one once; how often -/

def cnt (l : List Int) (n : Int) : Int := ((l.filter fun x => x == n).length : Int)
theorem cnt_snoc (l : List Int) (n : Int) (k : Nat) (h : k < l.length) : cnt (l.take (k + 1)) n = cnt (l.take k) n + if l[k] == n then 1 else 0 := by
  unfold cnt
  rw [take_snoc l k h, List.filter_append, List.length_append]
  cases hh : (l[k] == n) <;> simp [hh]
theorem cnt_bd (l : List Int) (n : Int) : 0 ≤ cnt l n ∧ cnt l n ≤ l.length := by
  unfold cnt
  exact ⟨by omega, by have := List.length_filter_le (fun x => x == n) l; omega⟩
theorem cnt_perm {l m : List Int} (h : l.Perm m) (n : Int) : cnt l n = cnt m n := by
  unfold cnt
  rw [(h.filter _).length_eq]
theorem cnt_zero {l : List Int} {n : Int} (h : l.contains n = false) : cnt l n = 0 := by
  unfold cnt
  rw [List.filter_eq_nil_iff.2]
  · rfl
  · intro x hx he
    rw [beq_iff_eq] at he
    subst he
    simp [hx] at h
theorem cnt_pos {l : List Int} {n : Int} (h : l.contains n = true) : 0 < cnt l n := by
  unfold cnt
  have hm : n ∈ l.filter fun x => x == n := List.mem_filter.2 ⟨by simpa using h, by simp⟩
  have := List.length_pos_of_mem hm
  omega

def unq (l : List Int) : List Int := l.foldl (fun acc x => if acc.contains x then acc else acc ++ [x]) []
theorem unq_snoc (l : List Int) (k : Nat) (h : k < l.length) : unq (l.take (k + 1)) = if (unq (l.take k)).contains l[k] then unq (l.take k) else unq (l.take k) ++ [l[k]] := by
  unfold unq
  rw [take_snoc l k h, List.foldl_append]
  rfl
theorem unq_hit (l : List Int) (k : Nat) (h : k < l.length) (hc : (unq (l.take k)).contains l[k] = true) : unq (l.take (k + 1)) = unq (l.take k) := by rw [unq_snoc l k h, if_pos hc]
theorem unq_miss (l : List Int) (k : Nat) (h : k < l.length) (hc : (unq (l.take k)).contains l[k] = false) : unq (l.take (k + 1)) = unq (l.take k) ++ [l[k]] := by rw [unq_snoc l k h, if_neg (by rw [hc]; simp)]
theorem unq_len (l : List Int) : ∀ k, k ≤ l.length → (unq (l.take k)).length ≤ k
  | 0, _ => by simp [unq]
  | k + 1, h => by
    have ih := unq_len l k (by omega)
    rw [unq_snoc l k (by omega)]
    split
    · omega
    · simp; omega

/-! ### Selections -/

def selK (p : Int → Bool) (l : List Int) (k : Nat) : List Int := (l.take k).filter p
theorem selK_hit (p : Int → Bool) (l : List Int) (k : Nat) (h : k < l.length) (hp : p l[k] = true) : selK p l (k + 1) = selK p l k ++ [l[k]] := by
  unfold selK
  rw [take_snoc l k h, List.filter_append]
  simp [hp]
theorem selK_miss (p : Int → Bool) (l : List Int) (k : Nat) (h : k < l.length) (hp : p l[k] = false) : selK p l (k + 1) = selK p l k := by
  unfold selK
  rw [take_snoc l k h, List.filter_append]
  simp [hp]
theorem selK_len (p : Int → Bool) (l : List Int) (k : Nat) : (selK p l k).length ≤ l.length := by
  unfold selK
  have := List.length_filter_le p (l.take k)
  simp at this
  omega

/-! ### Sums of two lists -/

def zipK (a b : List Int) : Nat → List Int
  | 0 => []
  | k + 1 => zipK a b k ++ [a.getD k 0 + b.getD k 0]
def zipL (a b : List Int) : List Int := zipK a b (min a.length b.length)
theorem zipK_len (a b : List Int) (k : Nat) : (zipK a b k).length = k := by
  induction k with
  | zero => rfl
  | succ k ih => simp [zipK, ih]
theorem zipK_comm (a b : List Int) (k : Nat) : zipK a b k = zipK b a k := by
  induction k with
  | zero => rfl
  | succ k ih => rw [zipK, zipK, ih, Int.add_comm]
theorem zipL_comm (a b : List Int) : zipL a b = zipL b a := by
  unfold zipL
  rw [zipK_comm, Nat.min_comm]
def zpB (a b : List Int) : Bool := okL a && okL b && okL (zipL a b)
theorem zpB_comm (a b : List Int) : zpB a b = zpB b a := by
  unfold zpB
  rw [zipL_comm, Bool.and_comm (okL a)]

/-! ### What the loops have built after k rounds -/

def tkK (l : List Int) (k : Nat) : List Int := l.take k
theorem tkK_snoc (l : List Int) (k : Nat) (h : k < l.length) : tkK l (k + 1) = tkK l k ++ [l[k]] := take_snoc l k h
theorem tkK_len (l : List Int) (k : Nat) : (tkK l k).length ≤ l.length := by unfold tkK; simp; omega
def drK (l : List Int) (m k : Nat) : List Int := (l.take k).drop m
theorem drK_hit (l : List Int) (m k : Nat) (h : k < l.length) (hm : m ≤ k) : drK l m (k + 1) = drK l m k ++ [l[k]] := by
  unfold drK
  rw [take_snoc l k h, List.drop_append_of_le_length (by simp; omega)]
theorem drK_miss (l : List Int) (m k : Nat) (_h : k < l.length) (hm : k < m) : drK l m (k + 1) = drK l m k := by
  unfold drK
  rw [List.drop_of_length_le (by simp; omega), List.drop_of_length_le (by simp; omega)]
theorem drK_len (l : List Int) (m k : Nat) : (drK l m k).length ≤ l.length := by unfold drK; simp; omega
def rvK (l : List Int) (k : Nat) : List Int := l.reverse.take k
theorem rvK_snoc (l : List Int) (k : Nat) (h : k < l.length) : rvK l (k + 1) = rvK l k ++ [l[l.length - 1 - k]] := by
  unfold rvK
  rw [take_snoc l.reverse k (by simpa using h)]
  simp
theorem rvK_len (l : List Int) (k : Nat) : (rvK l k).length ≤ l.length := by unfold rvK; simp; omega
def uqK (l : List Int) (k : Nat) : List Int := unq (l.take k)
theorem uqK_hit (l : List Int) (k : Nat) (h : k < l.length) (hc : (uqK l k).contains l[k] = true) : uqK l (k + 1) = uqK l k := unq_hit l k h hc
theorem uqK_miss (l : List Int) (k : Nat) (h : k < l.length) (hc : (uqK l k).contains l[k] = false) : uqK l (k + 1) = uqK l k ++ [l[k]] := unq_miss l k h hc
theorem uqK_len (l : List Int) (k : Nat) (h : k ≤ l.length) : (uqK l k).length ≤ l.length := Nat.le_trans (unq_len l k h) h
theorem uqK_all (l : List Int) (k : Nat) (h : l.length ≤ k) : uqK l k = unq l := by unfold uqK; rw [List.take_of_length_le h]
def abv (n : Int) (x : Int) : Bool := decide (n < x)
def evn (x : Int) : Bool := decide (x.tmod 2 = 0)
def sel (p : Int → Bool) (l : List Int) : List Int := l.filter p
theorem selK_all (p : Int → Bool) (l : List Int) (k : Nat) (h : l.length ≤ k) : selK p l k = sel p l := by unfold selK sel; rw [List.take_of_length_le h]
/-- Each element changed. -/
def mpK (f : Int → Int) (l : List Int) (k : Nat) : List Int := (l.take k).map f
theorem mpK_snoc (f : Int → Int) (l : List Int) (k : Nat) (h : k < l.length) : mpK f l (k + 1) = mpK f l k ++ [f l[k]] := by
  unfold mpK
  rw [take_snoc l k h, List.map_append]
  rfl
theorem mpK_len (f : Int → Int) (l : List Int) (k : Nat) : (mpK f l k).length ≤ l.length := by unfold mpK; simp; omega
theorem mpK_at (f : Int → Int) (l : List Int) (k : Nat) (h : k ≤ l.length) : (mpK f l k).length = k := by unfold mpK; simp; omega
theorem zipK_snoc (a b : List Int) (k : Nat) (ha : k < a.length) (hb : k < b.length) : zipK a b (k + 1) = zipK a b k ++ [a[k] + b[k]] := by
  rw [zipK]
  simp [ha, hb]
theorem runK_snoc (l : List Int) (k : Nat) : runK l (k + 1) = runK l k ++ [sumK l (k + 1)] := rfl

def srK (l : List Int) (k : Nat) : List Int := srt (l.take k)
theorem srK_zero (l : List Int) : srK l 0 = [] := by simp [srK, srt]
theorem srK_len (l : List Int) (k : Nat) (h : k ≤ l.length) : (srK l k).length = k := by unfold srK; rw [srt_len]; simp; omega
theorem srK_all (l : List Int) (k : Nat) (h : l.length ≤ k) : srK l k = srt l := by unfold srK; rw [List.take_of_length_le h]
theorem srK_ins (l : List Int) (i k : Nat) (hi : i < l.length) (h1 : ∀ j y, k ≤ j → (srK l i)[j]? = some y → l[i] < y) (h2 : ∀ y, 0 < k → (srK l i)[k - 1]? = some y → y ≤ l[i]) (hk : k ≤ i) :
    (srK l i).take k ++ [l[i]] ++ (srK l i).drop k = srK l (i + 1) := by
  unfold srK at *
  rw [take_snoc l i hi, List.append_assoc, List.singleton_append]
  exact ins_srt h1 h2 (by simp; omega)

theorem uqK_has (l : List Int) (k : Nat) (h : k < l.length) (y : Int) : (uqK l (k + 1)).contains y = ((uqK l k).contains y || y == l[k]) := by
  cases hc : (uqK l k).contains l[k] with
  | true =>
    rw [uqK_hit l k h hc]
    by_cases e : y = l[k]
    · subst e
      rw [hc]
      simp
    · have : (y == l[k]) = false := by simpa using e
      rw [this, Bool.or_false]
  | false =>
    rw [uqK_miss l k h hc, List.contains_append]
    simp
    rfl
theorem uqK_zero (l : List Int) : uqK l 0 = [] := by simp [uqK, unq]

end Go.Proofs.Ytohooejljbddmaa
