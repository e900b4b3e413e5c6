/-
  follow, At and Replace of the program. Nothing is assumed.
-/
import Derived.Test.YtdfhfljmcakilaaTmClone
import Derived.Deep.RegionHeldLaw
namespace Go.Proofs.Ytdfhfljmcakilaa
open Go.RowKit

set_option maxHeartbeats 400000 in
theorem isIndex_any (i n : Int) (w : World) : Calls Try.prog 48 #[.int .i64 i, .int .i64 n] w fun e w' => e = .returned (.bool (decide (0 ≤ i ∧ i < n))) ∧ w' = w := by
  by_cases h1 : 0 ≤ i
  · by_cases h2 : i < n
    · have HH := Lib.hid (decide_eq_true (show 0 ≤ i ∧ i < n from ⟨h1, h2⟩))
      go_enter Try.func48, Try.ntmps48
      go_wp2_with fail
      go_ret
      exact ⟨ret_bool (by first | (rw [HH.out]; done) | (simp <;> omega)), rfl⟩
    · have HH := Lib.hid (decide_eq_false (show ¬ (0 ≤ i ∧ i < n) from fun h => h2 h.2))
      go_enter Try.func48, Try.ntmps48
      go_wp2_with fail
      go_ret
      exact ⟨ret_bool (by first | (rw [HH.out]; done) | (simp <;> omega)), rfl⟩
  · have HH := Lib.hid (decide_eq_false (show ¬ (0 ≤ i ∧ i < n) from fun h => h1 h.1))
    go_enter Try.func48, Try.ntmps48
    go_wp2_with fail
    go_ret
    exact ⟨ret_bool (by first | (rw [HH.out]; done) | (simp <;> omega)), rfl⟩

/-- A term in two cells of block b at o. -/
def At (w : World) (B b o : Nat) (u : T) : Prop := ∃ oe ce, w.cell? ⟨b, o, none⟩ = some (.int .i64 u.r) ∧ w.cell? ⟨b, o + 1, none⟩ = some (.slice oe u.l.length ce) ∧ Rep w B (.slice oe u.l.length ce) u.l

set_option maxRecDepth 100000 in
set_option maxHeartbeats 1600000 in
theorem follow_any (b o : Nat) (v : T) (y : Value) (p : List Int) (w : World) (B : Nat) (hat : At w B b o v) (hy : HoldsI w B y p) :
    Calls Try.prog 38 #[.pointer (some ⟨b, o, none⟩), y] w fun e w' => w' = w ∧
      ((v.follow p = none ∧ e = .returned (.pointer none)) ∨ (∃ b2 o2 u, v.follow p = some u ∧ e = .returned (.pointer (some ⟨b2, o2, none⟩)) ∧ Place w b o v p b2 o2 u ∧ At w B b2 o2 u)) := by
  obtain ⟨oy, cy, rfl, _, _, hel⟩ := hy
  go_enter Try.func38, Try.ntmps38
  go_wp2_with fail
  go_loopw [0, 9] (fun t i wr => ∃ (k b2 o2 : Nat) (u : T), k ≤ p.length ∧ t = .pointer (some ⟨b2, o2, none⟩) ∧ i = .int .i64 k ∧ Hid (Place w b o v (p.take k) b2 o2 u) ∧ Hid (At w B b2 o2 u) ∧ Hid (v.follow p = u.follow (p.drop k)) ∧ wr = w) (fun _ i _ => p.length - (intOf i).toNat)
  case atStart => exact ⟨0, b, o, v, Nat.zero_le _, rfl, rfl, Place.here _ _ _, hat, rfl, rfl⟩
  case round =>
    obtain ⟨k, b2, o2, u, hk, rfl, rfl, HP, HA, HF, hwr⟩ := hrel
    obtain rfl := hwr.symm
    by_cases hlt : k < p.length
    · obtain ⟨by1, oy1, rfl, _, hcy⟩ := hel k _ (List.getElem?_eq_getElem hlt)
      obtain ⟨oe, ce, c0, c1, hre⟩ := HA.out
      have HT := Lib.hid (List.take_succ_eq_append_getElem hlt)
      have HDR := Lib.hid (List.drop_eq_getElem_cons hlt)
      by_cases hin : 0 ≤ p[k] ∧ p[k] < (u.l.length : Int)
      · obtain ⟨n, hn⟩ : ∃ n : Nat, p[k] = n := ⟨p[k].toNat, by omega⟩
        have hnl : n < u.l.length := by omega
        have HI := Lib.hid (isIndex_any n u.l.length)
        have hdec : decide (0 ≤ (n : Int) ∧ (n : Int) < (u.l.length : Int)) = true := decide_eq_true (by omega)
        rw [hdec] at HI
        rw [hn] at hcy
        have HN := Lib.hid hn
        obtain ⟨oa', ca', he, _, _, hel2⟩ := hre.slice
        cases he
        obtain ⟨b3, off3, oe3, ce3, rfl, hb3, d0, d1, hr3⟩ := hel2 n _ (List.getElem?_eq_getElem hnl)
        have q0 : (0 : Int) ≤ (n : Int) := by omega
        have q1 : (n : Int) < (u.l.length : Int) := by omega
        have HAN : Hid (At w B b3 (off3 + n * 2) u.l[n]) := Lib.hid ⟨oe3, ce3, d0, d1, hr3⟩
        have HPN : Hid (Place w b o v (p.take (k + 1)) b3 (off3 + n * 2) u.l[n]) := by
          refine Lib.hid ?_
          rw [HT.out, hn]
          exact HP.out.snoc c1 (List.getElem?_eq_getElem hnl)
        have HFN : Hid (v.follow p = u.l[n].follow (p.drop (k + 1))) := by
          refine Lib.hid ?_
          rw [HF.out, HDR.out, hn, T.follow, if_pos (by omega)]
          simp only [Int.toNat_natCast, List.getElem?_eq_getElem hnl]
        clear hin hn hel2 hel d0 d1 hdec
        go_wp2_with fail
        refine (HI.out _).mono ?_
        rintro e w1 ⟨rfl, rfl⟩
        go_wp2_with fail
        go_roundw
        case rel => exact ⟨k + 1, b3, off3 + n * 2, u.l[n], hlt, by first | rfl | simp, by go_num, HPN, HAN, HFN, by first | trivial | rfl⟩
        case measure => simp [intOf]; omega
      · have HI := Lib.hid (isIndex_any p[k] u.l.length)
        rw [decide_eq_false hin] at HI
        have HNO : Hid (v.follow p = none) := by
          refine Lib.hid ?_
          rw [HF.out, HDR.out, T.follow]
          split
          · rw [List.getElem?_eq_none (by omega)]
          · rfl
        clear hin hel
        go_wp2_with fail
        refine (HI.out _).mono ?_
        rintro e w1 ⟨rfl, rfl⟩
        go_wp2_with fail
        go_ret
        exact ⟨rfl, .inl ⟨HNO.out, rfl⟩⟩
    · have HE : Hid (v.follow p = some u) := by
        refine Lib.hid ?_
        rw [HF.out, List.drop_of_length_le (by omega), T.follow]
      have HPE : Hid (Place w b o v p b2 o2 u) := by
        have h := HP.out
        rw [List.take_of_length_le (by omega)] at h
        exact Lib.hid h
      go_wp2_with fail
      go_ret
      exact ⟨rfl, .inr ⟨b2, o2, u, HE.out, rfl, HPE.out, HA.out⟩⟩

end Go.Proofs.Ytdfhfljmcakilaa
