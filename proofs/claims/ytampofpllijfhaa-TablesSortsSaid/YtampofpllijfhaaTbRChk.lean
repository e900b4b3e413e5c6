/-
  Check of the reference. Nothing is assumed.
-/
import Derived.Test.YtampofpllijfhaaTbChk
namespace Go.Proofs.Ytampofpllijfhaa
open Go.RowKit

set_option maxRecDepth 100000 in
set_option maxHeartbeats 1600000 in
theorem rchk_any (x : Value) (t : List (List ByteArray)) (w : World) (B : Nat) (hx : HoldsT w (· < B) x t) (hB : B ≤ w.heap.size) :
    Calls Try.prog 14 #[x] w fun e w' => e = .returned (.int .i64 (chkT t)) ∧ Below w.heap.size w w' := by
  have HX := Lib.hid hx
  obtain ⟨oa, ca, rfl, _, _⟩ := hx.form
  clear hx
  by_cases h8 : 8 < (t.length : Int)
  · have HZ := Lib.hid (chkT_big h8)
    go_enter Try.func14, Try.ntmps14
    go_wp2_with fail
    go_ret
    exact ⟨ret_int HZ.out.symm, Below.refl _ _⟩
  have HZ := Lib.hid (chkT_in h8)
  go_enter Try.func14, Try.ntmps14
  go_wp2_with fail
  go_loopw [3] (fun i wr => ∃ k : Nat, k ≤ t.length ∧ i = .int .i64 k ∧ Hid (firstE (rowE (colsT t)) (t.drop k) = firstE (rowE (colsT t)) t) ∧ Below w.heap.size w wr) (fun i _ => t.length - (intOf i).toNat)
  case atStart => exact ⟨0, Nat.zero_le _, rfl, Lib.hid rfl, Below.refl _ _⟩
  case round =>
    obtain ⟨k, hk, rfl, HD, hbel⟩ := hrel
    obtain ⟨wo, hwo⟩ : ∃ wo : World, wo = wr := ⟨_, rfl⟩
    subst hwo
    by_cases hlt : k < t.length
    · have HS := Lib.hid (firstE_at (rowE (colsT t)) t k hlt)
      have h0t : 0 < t.length := by omega
      obtain ⟨b, off, o, cr, rfl, hb, h0, hrow⟩ := HX.out.at_ (List.getElem?_eq_getElem hlt)
      obtain ⟨b', off', o', cr', he, _, g0, _⟩ := HX.out.at_ (List.getElem?_eq_getElem h0t)
      cases he
      simp only [Nat.add_zero] at g0
      have HCT := Lib.hid (colsT_at h0t)
      have HQ := Lib.hid hrow
      have HH := Lib.hid h0
      have HBB := Lib.hid (Nat.lt_of_lt_of_le hb hB)
      rw [← hbel.cell (p := ⟨b, _, none⟩) HBB.out] at h0 g0
      have hki : (k : Int) < (t.length : Int) := by omega
      have hki0 : (0 : Int) ≤ (k : Int) := by omega
      have hk00 : (0 : Int) < (t.length : Int) := by omega
      obtain ⟨r, hrk⟩ : ∃ r, t[k] = r := ⟨_, rfl⟩
      rw [hrk] at h0 HH HQ HS
      clear hrk hrow
      by_cases h1 : (r.length : Int) < 1
      · have HV := Lib.hid (rowE_size (n := colsT t) (.inl h1))
        clear g0
        go_wp2_with fail
        go_ret
        refine ⟨ret_int ?_, hbel⟩
        rw [HZ.out, ← HD.out, HS.out, HV.out]
        rfl
      by_cases h2 : 8 < (r.length : Int)
      · have HV := Lib.hid (rowE_size (n := colsT t) (.inr h2))
        clear g0
        go_wp2_with fail
        go_ret
        refine ⟨ret_int ?_, hbel⟩
        rw [HZ.out, ← HD.out, HS.out, HV.out]
        rfl
      by_cases h3 : r.length = t[0].length
      · have HV := Lib.hid (rowE_in h1 h2 (by rw [HCT.out]; exact h3 : r.length = colsT t))
        have hne : ((r.length : Int) != (t[0].length : Int)) = false := by rw [h3]; simp
        clear h3
        go_wp2_with fail
        go_quiet (fail)
        go_wp2_with fail
        clear h0 g0
        go_loopw [4] (fun i wr => ∃ j : Nat, j ≤ r.length ∧ i = .int .i64 j ∧ Hid (firstE cellE (r.drop j) = firstE cellE r) ∧ Below w.heap.size w wr) (fun i _ => r.length - (intOf i).toNat)
        case atStart => exact ⟨0, Nat.zero_le _, rfl, Lib.hid rfl, hbel.trans (below_drewN _ _ _)⟩
        case round =>
          obtain ⟨j, hj, rfl, HE, hbel2⟩ := hrel
          obtain ⟨wp, hwp⟩ : ∃ wp : World, wp = wr := ⟨_, rfl⟩
          subst hwp
          have h0 := HH.out
          rw [← hbel2.cell (p := ⟨b, _, none⟩) HBB.out] at h0
          by_cases hjl : j < r.length
          · have HS2 := Lib.hid (firstE_at cellE r j hjl)
            obtain ⟨b2, off2, rfl, hb2, hc⟩ := HQ.out.at_ (List.getElem?_eq_getElem hjl)
            have HHC := Lib.hid hc
            have HBC := Lib.hid (Nat.lt_of_lt_of_le hb2 hB)
            rw [← hbel2.cell (p := ⟨b2, _, none⟩) HBC.out] at hc
            have hji : (j : Int) < (r.length : Int) := by omega
            have hji0 : (0 : Int) ≤ (j : Int) := by omega
            obtain ⟨s, hrs⟩ : ∃ s, r[j] = s := ⟨_, rfl⟩
            rw [hrs] at hc HHC HS2
            clear hrs
            by_cases hsz : 64 < (s.size : Int)
            · have HW := Lib.hid (cellE_big hsz)
              go_wp2_with fail
              go_ret
              refine ⟨ret_int ?_, hbel2⟩
              rw [HZ.out, ← HD.out, HS.out, HV.out, ← HE.out, HS2.out, HW.out]
              rfl
            · have HW := Lib.hid (cellE_in hsz)
              go_wp2_with fail
              clear h0 hc
              go_loopw [5] (fun i wr => ∃ m : Nat, m ≤ s.size ∧ i = .int .i64 m ∧ Hid (firstE byteE (s.data.toList.drop m) = firstE byteE s.data.toList) ∧ Below w.heap.size w wr) (fun i _ => s.size - (intOf i).toNat)
              case atStart => exact ⟨0, Nat.zero_le _, rfl, Lib.hid rfl, hbel2⟩
              case round =>
                obtain ⟨m, hm, rfl, HF, hbel3⟩ := hrel
                have h0 := HH.out
                rw [← hbel3.cell (p := ⟨b, _, none⟩) HBB.out] at h0
                have hc := HHC.out
                rw [← hbel3.cell (p := ⟨b2, _, none⟩) HBC.out] at hc
                by_cases hml : m < s.size
                · have HS3 := Lib.hid (bytes_at s m hml)
                  have hmi : (m : Int) < (s.size : Int) := by omega
                  by_cases h1 : (s[m].toNat : Int) < 32
                  · have HB1 := Lib.hid (byte_low h1)
                    go_wp2_with fail
                    go_ret
                    refine ⟨ret_int ?_, hbel3⟩
                    rw [HZ.out, ← HD.out, HS.out, HV.out, ← HE.out, HS2.out, HW.out, ← HF.out, HS3.out, HB1.out]
                    rfl
                  by_cases h2 : 126 < (s[m].toNat : Int)
                  · have HB1 := Lib.hid (byte_high h2)
                    go_wp2_with fail
                    go_ret
                    refine ⟨ret_int ?_, hbel3⟩
                    rw [HZ.out, ← HD.out, HS.out, HV.out, ← HE.out, HS2.out, HW.out, ← HF.out, HS3.out, HB1.out]
                    rfl
                  · have HB1 := Lib.hid (byte_good h1 h2)
                    go_wp2_with fail
                    go_roundw
                    case rel => exact ⟨m + 1, hml, by go_num, Lib.hid (by rw [← HF.out, HS3.out, HB1.out, if_pos rfl]), hbel3⟩
                    case measure => simp [intOf]; omega
                · obtain rfl : m = s.size := by omega
                  go_wp2_with fail
                  go_roundw
                  case rel => exact ⟨j + 1, hjl, by go_num, Lib.hid (by
                    rw [← HE.out, HS2.out, HW.out, ← HF.out, bytes_end, if_pos rfl]), hbel3⟩
                  case measure => simp [intOf]; omega
          · obtain rfl : j = r.length := by omega
            go_wp2_with fail
            go_roundw
            case rel => exact ⟨k + 1, hlt, by go_num, Lib.hid (by rw [← HD.out, HS.out, HV.out, ← HE.out, firstE_end, if_pos rfl]), hbel2⟩
            case measure => simp [intOf]; omega
      · have HV := Lib.hid (rowE_form h1 h2 (by rw [HCT.out]; exact h3 : r.length ≠ colsT t))
        have hne : ((r.length : Int) != (t[0].length : Int)) = true := by rw [bne_iff_ne]; omega
        clear h3
        go_wp2_with fail
        go_quiet (fail)
        go_wp2_with fail
        go_ret
        refine ⟨ret_int ?_, hbel.trans (below_drewN _ _ _)⟩
        rw [HZ.out, ← HD.out, HS.out, HV.out]
        rfl
    · obtain rfl : k = t.length := by omega
      go_wp2_with fail
      go_ret
      refine ⟨ret_int ?_, hbel⟩
      rw [HZ.out, ← HD.out, firstE_end]

end Go.Proofs.Ytampofpllijfhaa
