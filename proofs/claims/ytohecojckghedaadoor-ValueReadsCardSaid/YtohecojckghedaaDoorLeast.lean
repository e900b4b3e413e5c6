/-
  The default value of a type is valid, and no valid value comes before it: the plain mathematics.
-/
import Derived.Test.YtohecojckghedaaDoorOrder
import Derived.Test.YtohecojckghedaaDoorDefault
namespace Go.Proofs.YtohecojckghedaaDoor
open Go.RowKit

theorem chk_ty {v : V} (h : v.chk = 0) : 1 ≤ v.t ∧ v.t ≤ 8 := by
  rw [V.chk_eq] at h
  by_cases ho : v.t < 1 ∨ 8 < v.t
  · rw [if_pos ho] at h; omega
  · omega
theorem chk_form {v : V} (h : v.chk = 0) : badForm v.t v.n v.s v.l.length = false := by
  have ht := chk_ty h
  rw [V.chk_eq, if_neg (by omega)] at h
  by_cases hb : badForm v.t v.n v.s v.l.length = true
  · rw [if_pos hb] at h; omega
  · simpa using hb
theorem chk_range {n lo hi : Int} (h : chkRange n lo hi = 0) : lo ≤ n ∧ n ≤ hi := by
  unfold chkRange at h
  by_cases hc : n < lo ∨ hi < n
  · rw [if_pos hc] at h; omega
  · omega

theorem default_chk {t : Int} (h1 : 1 ≤ t) (h8 : t ≤ 8) : (dflt t).chk = 0 := by
  rcases ty_cases h1 h8 with rfl | rfl | rfl | rfl | rfl | rfl | rfl | rfl <;> (rw [V.chk_eq]; simp only [dflt_l, V.chkL_nil, V.chkR_nil]; decide)
theorem default_t {t : Int} (h1 : 1 ≤ t) (h8 : t ≤ 8) : (dflt t).t = t := by unfold dflt; rw [if_pos ⟨h1, h8⟩]; rfl

theorem lex_le {x y : Int} (hx : x ≤ 0) (hy : y ≤ 0) : lex x y ≤ 0 := by
  unfold lex; split <;> omega
theorem cmpI_le {a b : Int} (h : a ≤ b) : cmpI a b ≤ 0 := by
  unfold cmpI; split
  · omega
  · rw [if_neg (by omega)]; omega
theorem bytes_nil (l : List UInt8) : Lib.compareBytes [] l ≤ 0 := by cases l <;> simp [Lib.compareBytes]

theorem default_least {v : V} (h : v.chk = 0) : (dflt v.t).cmp v ≤ 0 := by
  have ⟨h1, h8⟩ := chk_ty h
  have hf := chk_form h
  have hc := V.chk_at v v.t rfl h1 h8 hf
  rw [h] at hc
  have hl : V.cmps (dflt v.t).l v.l ≤ 0 := by
    rw [dflt_l]
    cases v.l with
    | nil => rw [V.cmps_00]; omega
    | cons b m => rw [V.cmps_01]; omega
  rw [V.cmp_lex, default_t h1 h8]
  refine lex_le (cmpI_le (Int.le_refl _)) (lex_le (cmpI_le ?_) (lex_le ?_ hl))
  · unfold dflt
    rw [if_pos ⟨h1, h8⟩]
    show (if v.t = 2 then -1000000 else 0) ≤ v.n
    by_cases h2 : v.t = 2
    · rw [if_pos h2]
      rw [if_neg (by omega), if_pos h2] at hc
      exact (chk_range hc.symm).1
    · rw [if_neg h2]
      by_cases ht1 : v.t = 1
      · rw [if_pos ht1] at hc
        exact (chk_range hc.symm).1
      · by_cases ht4 : v.t = 4
        · rw [if_neg ht1, if_neg h2, if_pos ht4] at hc
          exact (chk_range hc.symm).1
        · have hn : v.n = 0 := by
            simp only [badForm, usesNum, ht1, h2, ht4, Bool.or_eq_false_iff, Bool.and_eq_false_iff] at hf
            simpa using hf.1.1
          omega
  · unfold dflt
    rw [if_pos ⟨h1, h8⟩]
    show cmpS (if v.t = 8 then ⟨#[32]⟩ else ⟨#[]⟩) v.s ≤ 0
    by_cases ht8 : v.t = 8
    · rw [if_pos ht8]
      rw [if_neg (by omega), if_neg (by omega), if_neg (by omega), if_neg (by omega), if_pos ht8] at hc
      unfold chkText at hc
      by_cases hsz : v.s.size < 1 ∨ 40 < v.s.size
      · rw [if_pos hsz] at hc; omega
      rw [if_neg hsz] at hc
      unfold cmpS
      cases hl : v.s.data.toList with
      | nil =>
        have : v.s.size = 0 := by
          have := congrArg List.length hl
          simpa using this
        omega
      | cons c cs =>
        rw [hl] at hc
        unfold chkBytes at hc
        have hb : badByte c = false := by
          cases hbb : badByte c
          · rfl
          · rw [List.any_cons, hbb, Bool.true_or, if_pos rfl] at hc; omega
        have h32 : 32 ≤ c.toNat := by
          simp only [badByte, Bool.or_eq_false_iff, decide_eq_false_iff_not] at hb
          omega
        show Lib.compareBytes [32] (c :: cs) ≤ 0
        rw [bytes_lex]
        refine lex_le (cmpI_le ?_) (bytes_nil _)
        have : (32 : UInt8).toNat = 32 := rfl
        omega
    · rw [if_neg ht8]
      exact bytes_nil _

end Go.Proofs.YtohecojckghedaaDoor
