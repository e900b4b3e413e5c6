/-
  checkAxis and Check of package domain. Nothing is assumed.
-/
import Derived.Test.YthnlkijkgnmbhaaDoorDmChk
namespace Go.Proofs.YthnlkijkgnmbhaaDoor
open Go.RowKit

theorem Rep.take {w : World} {B ca n : Nat} {oa : Option Addr} {l : List V} (h : Rep w B (.slice oa l.length ca) l) (hn : n ≤ l.length) : Rep w B (.slice oa n ca) (l.take n) := by
  obtain ⟨m, hm⟩ : ∃ m, l.length = m := ⟨_, rfl⟩
  rw [hm] at h hn
  cases h with
  | empty oa cap =>
    obtain rfl : n = 0 := by omega
    exact .empty _ _
  | arr b off cap l sl hb hl hm2 hc hr =>
    have hlt : (l.take n).length = n := by rw [List.length_take]; omega
    have h := Rep.arr (w := w) (B := B) b off ca (l.take n) sl hb (by rw [hlt]; omega) (by rw [hlt]; omega) (fun i v hv => ?_) (fun i v hv => ?_)
    · rw [hlt] at h; exact h
    · rw [List.getElem?_take] at hv
      split at hv
      · exact hc i v hv
      · cases hv
    · rw [List.getElem?_take] at hv
      split at hv
      · exact hr i v hv
      · cases hv

set_option maxRecDepth 100000 in
set_option maxHeartbeats 1600000 in
theorem checkAxis_any (a : List V) (t : Int) (x : Value) (w : World) (B : Nat) (hx : Rep w B x a) (hB : B ≤ w.heap.size) (hl : a.length ≤ 1000) :
    Calls Tryd.prog 32 #[x, .int .i64 t] w fun e w' => e = .returned (.int .i64 (axE t a)) ∧ Below w.heap.size w w' := by
  have HC := Lib.hid (countFitting_any a t x w B hx hB)
  have HX := Lib.hid hx
  obtain ⟨oa, ca, rfl, hlc, hlm, _⟩ := hx.slice
  have hfl := fitN_le t a
  obtain ⟨n, hn⟩ : ∃ n, fitN t a = n := ⟨_, rfl⟩
  have HRT := Lib.hid (HX.out.take (n := n) (by omega))
  have HDU := Lib.hid (show axE t a = if dupV (a.take n) = true then 6 else fitE t a by unfold axE; rw [hn])
  have hln : (a.take n).length = n := by rw [List.length_take]; omega
  rw [hn] at HC hfl
  have hn0 : (0 : Int) ≤ (n : Int) := by omega
  have hn1 : (n : Int) ≤ (ca : Int) := by omega
  have HLN := Lib.hid hln
  have HL := Lib.hid hl
  clear hx hn hln hl
  go_enter Tryd.func32, Tryd.ntmps32
  go_wp2_with fail
  refine HC.out.mono ?_
  rintro e w1 ⟨rfl, hb1⟩
  have HB1 := Lib.hid hb1
  have HR := Lib.hid (hasRep_any (a.take n) (.slice oa n ca) w1 B (HRT.out.later (hb1.mono hB)) (Nat.le_trans hB hb1.size) (by rw [HLN.out]; have := HL.out; omega))
  clear hb1
  go_wp2_with fail
  refine HR.out.mono ?_
  rintro e w2 ⟨rfl, hb2⟩
  have HB2 := Lib.hid (HB1.out.trans (hb2.mono HB1.out.size))
  clear hb2
  by_cases hd : dupV (a.take n) = true
  · have HD := Lib.hid hd
    go_wp2_with fail
    go_ret
    exact ⟨ret_int (by rw [HDU.out, if_pos HD.out]), HB2.out⟩
  · have HD := Lib.hid hd
    go_wp2_with fail
    go_ret
    exact ⟨ret_int (by rw [HDU.out, if_neg HD.out]), HB2.out⟩

theorem axsE_no {t : Int} {ts : List Int} {a : List V} {l : List (List V)} (h : axE t a ≠ 0) : axsE (t :: ts) (a :: l) = axE t a := if_pos h
theorem axsE_yes {t : Int} {ts : List Int} {a : List V} {l : List (List V)} (h : axE t a = 0) : axsE (t :: ts) (a :: l) = axsE ts l := if_neg (fun e => e h)
theorem axsE_nil (ts : List Int) : axsE ts [] = 0 := by cases ts <;> rfl

set_option maxRecDepth 100000 in
set_option maxHeartbeats 1600000 in
theorem dcheck_any (l : List (List V)) (ts : List Int) (x y : Value) (w : World) (B : Nat) (hx : LAx w B x l) (hy : LInts w B y ts) (hB : B ≤ w.heap.size) (hl : ∀ a, a ∈ l → a.length ≤ 1000) :
    Calls Tryd.prog 17 #[.agg #[x], y] w fun e w' => e = .returned (.int .i64 (chkD l ts)) ∧ Below w.heap.size w w' := by
  have HX := Lib.hid hx
  obtain ⟨oa, ca, rfl, _, hlm⟩ := hx.form
  obtain ⟨oy, cy, rfl, hym, hely⟩ := hy
  have HEY := Lib.hid hely
  have HL := Lib.hid hl
  clear hx hely hl
  have hd : (w.alloc (.cells #[.slice oa l.length ca] 24)).cell? ⟨w.heap.size, 0, none⟩ = some (.slice oa l.length ca) := cell_at _ _ _ _ _ rfl
  have HB0 := Lib.hid (below1 w (.cells #[.slice oa l.length ca] 24))
  by_cases hlen : l.length = ts.length
  · have hlb : ((l.length : Int) != (ts.length : Int)) = false := by rw [hlen]; simp
    have HLEN := Lib.hid hlen
    clear hlen
    go_enter Tryd.func17, Tryd.ntmps17
    go_wp2_with fail
    clear hd
    go_loopw [17] (fun i wr => ∃ k : Nat, k ≤ l.length ∧ i = .int .i64 k ∧ Hid (axsE (ts.drop k) (l.drop k) = axsE ts l) ∧ Below (w.heap.size + 1) (w.alloc (.cells #[.slice oa l.length ca] 24)) wr) (fun i _ => l.length - (intOf i).toNat)
    case atStart => exact ⟨0, Nat.zero_le _, rfl, Lib.hid rfl, Below.refl _ _⟩
    case round =>
      obtain ⟨k, hk, rfl, HD, hbel⟩ := hrel
      have HBW := Lib.hid (HB0.out.trans (hbel.mono (Nat.le_succ _)))
      by_cases hlt : k < l.length
      · have hltt : k < ts.length := by rw [← HLEN.out]; exact hlt
        have HS1 := Lib.hid (drop_l l k hlt)
        have HS2 := Lib.hid (drop_l ts k hltt)
        obtain ⟨b, off, oe, ce, rfl, hb, hc, hr⟩ := HX.out.at_ (List.getElem?_eq_getElem hlt)
        rw [← HBW.out.cell (p := ⟨b, _, none⟩) (Nat.lt_of_lt_of_le hb hB)] at hc
        obtain ⟨b2, off2, c2, rfl, hb2, hc2, hi2⟩ := HEY.out k _ (List.getElem?_eq_getElem hltt)
        cases hi2
        rw [← HBW.out.cell (p := ⟨b2, _, none⟩) (Nat.lt_of_lt_of_le hb2 hB)] at hc2
        have hki : (k : Int) < (l.length : Int) := by omega
        have hkt : (k : Int) < (ts.length : Int) := by omega
        have hki0 : (0 : Int) ≤ (k : Int) := by omega
        obtain ⟨a, hak⟩ : ∃ a, l[k] = a := ⟨_, rfl⟩
        obtain ⟨t, htk⟩ : ∃ t, ts[k] = t := ⟨_, rfl⟩
        have ham : a ∈ l := by rw [← hak]; exact List.getElem_mem hlt
        rw [hak] at hc hr HS1
        rw [htk] at hc2 HS2
        have hsr := HBW.out.size
        have HC := Lib.hid (checkAxis_any a t _ wr B (hr.later (HBW.out.mono hB)) (by omega) (HL.out a ham))
        clear hr hak htk ham
        go_wp2_with fail
        refine HC.out.mono ?_
        rintro e w4 ⟨rfl, hb4⟩
        have HB4 := Lib.hid (hbel.trans (hb4.mono (by have := hbel.size; simp at this; omega)))
        clear hb4
        by_cases hz : axE t a = 0
        · have fz := neqf hz
          have HZ := Lib.hid hz
          clear hz
          go_wp2_with fail
          go_roundw
          case rel => exact ⟨k + 1, hlt, by go_num, Lib.hid (by rw [← HD.out, HS1.out, HS2.out, axsE_yes HZ.out]), HB4.out⟩
          case measure => simp [intOf]; omega
        · have fz := neqt hz
          have HZ := Lib.hid hz
          have HF := Lib.hid (show chkD l ts = axE t a by
            have h : axsE ts l = axE t a := by rw [← HD.out, HS1.out, HS2.out, axsE_no HZ.out]
            unfold chkD
            rw [if_neg (fun e => e HLEN.out), h, if_pos HZ.out])
          clear hz
          go_wp2_with fail
          go_ret
          exact ⟨ret_int HF.out.symm, HB0.out.trans (HB4.out.mono (Nat.le_succ _))⟩
      · have hd2 := dbox hbel
        have HZ := Lib.hid (show axsE ts l = 0 by rw [← HD.out, show l.drop k = [] from List.drop_of_length_le (by omega), axsE_nil])
        have HLG := Lib.hid (isLarge_any l _ wr B (HX.out.later (HBW.out.mono hB)) (Nat.le_trans hB HBW.out.size))
        go_wp2_with fail
        refine HLG.out.mono ?_
        rintro e w4 ⟨rfl, hb4⟩
        have HB4 := Lib.hid (HBW.out.trans (hb4.mono HBW.out.size))
        clear hb4
        by_cases hlg : largeD l = true
        · have HF := Lib.hid (show chkD l ts = 11 by unfold chkD; rw [if_neg (fun e => e HLEN.out), HZ.out, if_neg (by simp), if_pos hlg])
          go_wp2_with fail
          go_ret
          exact ⟨ret_int HF.out.symm, HB4.out⟩
        · have HF := Lib.hid (show chkD l ts = 0 by unfold chkD; rw [if_neg (fun e => e HLEN.out), HZ.out, if_neg (by simp), if_neg hlg])
          go_wp2_with fail
          go_ret
          exact ⟨ret_int HF.out.symm, HB4.out⟩
  · have hlb : ((l.length : Int) != (ts.length : Int)) = true := bne_iff_ne.2 (by omega)
    have HF := Lib.hid (show chkD l ts = 2 from if_pos hlen)
    clear hlen
    go_enter Tryd.func17, Tryd.ntmps17
    go_wp2_with fail
    go_ret
    exact ⟨ret_int HF.out.symm, HB0.out⟩

end Go.Proofs.YthnlkijkgnmbhaaDoor
