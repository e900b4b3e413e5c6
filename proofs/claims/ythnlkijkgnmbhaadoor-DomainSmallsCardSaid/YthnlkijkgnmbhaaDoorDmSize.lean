/-
  few; Size and isLarge of the program, Size of the reference. Nothing is assumed.
-/
import Derived.Test.YthnlkijkgnmbhaaDoorDmBase
namespace Go.Proofs.YthnlkijkgnmbhaaDoor
open Go.RowKit

set_option maxHeartbeats 400000 in
theorem isEmpty_any (a : List V) (oa : Option Addr) (ca : Nat) (w : World) :
    Calls Tryd.prog 23 #[.slice oa a.length ca] w fun e w' => e = .returned (.bool (isNil a)) ∧ w = w' := by
  by_cases h : (a.length : Int) = 0
  · have HZ := Lib.hid (show isNil a = true from decide_eq_true (by omega))
    go_enter Tryd.func23, Tryd.ntmps23
    go_wp2_with fail
    go_ret
    exact ⟨ret_bool HZ.out.symm, rfl⟩
  · have HZ := Lib.hid (show isNil a = false from decide_eq_false (by omega))
    go_enter Tryd.func23, Tryd.ntmps23
    go_wp2_with fail
    go_ret
    exact ⟨ret_bool (by rw [HZ.out]; exact beq_eq_false_iff_ne.2 h), rfl⟩

def fstNil : Int → List (List V) → Int
  | _, [] => -1
  | i, a :: l => if isNil a = true then i else fstNil (i + 1) l
theorem fstNil_ge : ∀ (l : List (List V)) (i : Nat), decide (0 ≤ fstNil i l) = hasNil l := by
  intro l
  induction l with
  | nil => intro i; rfl
  | cons a l ih =>
    intro i
    rw [fstNil, hasNil_cons]
    by_cases h : isNil a = true
    · rw [if_pos h, h]; simp
    · rw [if_neg h, show ((i : Int) + 1) = ((i + 1 : Nat) : Int) by omega, ih (i + 1)]
      simp [h]

set_option maxRecDepth 100000 in
set_option maxHeartbeats 800000 in
theorem indexNil_any (l : List (List V)) (x : Value) (w : World) (B : Nat) (hx : LAx w B x l) (hB : B ≤ w.heap.size) :
    Calls Tryd.prog 37 #[x, .func (.func 23) #[] #[]] w fun e w' => e = .returned (.int .i64 (fstNil 0 l)) ∧ Below w.heap.size w w' := by
  have HX := Lib.hid hx
  obtain ⟨oa, ca, rfl, hlc, hlm⟩ := hx.form
  clear hx
  go_enter Tryd.func37, Tryd.ntmps37
  go_wp2_with fail
  go_loopw [8] (fun i wr => ∃ k : Nat, k ≤ l.length ∧ i = .int .i64 k ∧ Hid (fstNil k (l.drop k) = fstNil 0 l) ∧ Below w.heap.size w wr) (fun i _ => l.length - (intOf i).toNat)
  case atStart => exact ⟨0, Nat.zero_le _, rfl, Lib.hid rfl, Below.refl _ _⟩
  case round =>
    obtain ⟨k, hk, rfl, HD, hbel⟩ := hrel
    by_cases hlt : k < l.length
    · have HS := Lib.hid (drop_l l k hlt)
      obtain ⟨b, off, oe, ce, rfl, hb, h0, hrep⟩ := HX.out.at_ (List.getElem?_eq_getElem hlt)
      rw [← hbel.cell (p := ⟨b, _, none⟩) (Nat.lt_of_lt_of_le hb hB)] at h0
      have hki : (k : Int) < (l.length : Int) := by omega
      have hki0 : (0 : Int) ≤ (k : Int) := by omega
      clear hrep
      go_wp2_with fail
      refine (isEmpty_any l[k] oe ce wr).mono ?_
      rintro e w4 ⟨rfl, rfl⟩
      by_cases hz : isNil l[k] = true
      · have HT := Lib.hid hz
        go_wp2_with fail
        go_ret
        exact ⟨ret_int (by rw [← HD.out, HS.out, fstNil, if_pos HT.out]), hbel⟩
      · have HT := Lib.hid hz
        go_wp2_with fail
        go_roundw
        case rel => exact ⟨k + 1, hlt, by go_num, Lib.hid (by rw [← HD.out, HS.out, fstNil, if_neg HT.out]; rfl), hbel⟩
        case measure => simp [intOf]; omega
    · go_wp2_with fail
      go_ret
      exact ⟨ret_int (by rw [← HD.out, List.drop_of_length_le (by omega), fstNil]), hbel⟩

set_option maxHeartbeats 400000 in
theorem containsNil_any (l : List (List V)) (x : Value) (w : World) (B : Nat) (hx : LAx w B x l) (hB : B ≤ w.heap.size) :
    Calls Tryd.prog 22 #[x, .func (.func 23) #[] #[]] w fun e w' => e = .returned (.bool (hasNil l)) ∧ Below w.heap.size w w' := by
  have HC := Lib.hid (indexNil_any l x w B hx hB)
  have HG := Lib.hid (fstNil_ge l 0)
  obtain ⟨oa, ca, rfl, hlc, hlm⟩ := hx.form
  clear hx
  go_enter Tryd.func22, Tryd.ntmps22
  go_wp2_with fail
  refine HC.out.mono ?_
  rintro e w4 ⟨rfl, hb⟩
  go_wp2_with fail
  go_ret
  exact ⟨ret_bool HG.out, hb⟩

theorem szF_cons_big {n : Int} {a : List V} {l : List (List V)} (h : 1152921504606846976 / (a.length : Int) < n) : szF n (a :: l) = none := if_pos h
theorem szF_cons_in {n : Int} {a : List V} {l : List (List V)} (h : ¬ 1152921504606846976 / (a.length : Int) < n) : szF n (a :: l) = szF (n * (a.length : Int)) l := if_neg h
theorem ret_two {a b c d : Int} (h : a = b) (h' : c = d) : Ending.returned (.tuple #[.int .i64 a, .int .i64 c]) = .returned (.tuple #[.int .i64 b, .int .i64 d]) := by rw [h, h']
theorem szN_none {l : List (List V)} (h : szD l = none) : szN l = 0 ∧ szE l = 11 := by unfold szN szE; rw [h]; exact ⟨rfl, rfl⟩
theorem szN_some {l : List (List V)} {n : Int} (h : szD l = some n) : szN l = n ∧ szE l = 0 := by unfold szN szE; rw [h]; exact ⟨rfl, rfl⟩
theorem mul_in {n k : Nat} (hk : k ≠ 0) (h : ¬ 1152921504606846976 / (k : Int) < (n : Int)) : n * k ≤ 1152921504606846976 := by
  rw [div_lt n k (by omega)] at h
  omega

set_option maxRecDepth 100000 in
set_option maxHeartbeats 1600000 in
theorem size_any (l : List (List V)) (x : Value) (w : World) (B : Nat) (hx : LAx w B x l) (hB : B ≤ w.heap.size) :
    Calls Tryd.prog 9 #[.agg #[x]] w fun e w' => e = .returned (.tuple #[.int .i64 (szN l), .int .i64 (szE l)]) ∧ Below w.heap.size w w' := by
  have HX := Lib.hid hx
  obtain ⟨oa, ca, rfl, hlc, hlm⟩ := hx.form
  have hB0 : Below w.heap.size w (w.alloc (.cells #[.slice oa l.length ca] 24)) := below1 _ _
  have hd : (w.alloc (.cells #[.slice oa l.length ca] 24)).cell? ⟨w.heap.size, 0, none⟩ = some (.slice oa l.length ca) := cell_at _ _ _ _ _ rfl
  have HC := Lib.hid (containsNil_any l _ _ B (hx.later (hB0.mono hB)) (by simp; omega))
  have HB0 := Lib.hid hB0
  have HHD := Lib.hid hd
  clear hx hB0 hd
  go_enter Tryd.func9, Tryd.ntmps9
  go_wp2_with fail
  refine HC.out.mono ?_
  rintro e w4 ⟨rfl, hb4⟩
  have hd4 : w4.cell? ⟨w.heap.size, 0, none⟩ = some (.slice oa l.length ca) := (hb4.cell (p := ⟨w.heap.size, 0, none⟩) (by simp)).trans HHD.out
  have HB4 := Lib.hid (HB0.out.trans (hb4.mono (by simp)))
  clear hb4
  by_cases hn : hasNil l = true
  · have HZ := Lib.hid (szN_some (show szD l = some 0 from if_pos hn))
    go_wp2_with fail
    go_ret2
    exact ⟨ret_two HZ.out.1.symm HZ.out.2.symm, HB4.out⟩
  · have HD := Lib.hid (show szD l = szF 1 l from if_neg hn)
    have hnn := hasNil_no (by simpa using hn)
    have HN := Lib.hid hnn
    have HF := Lib.hid hn
    clear hnn
    go_wp2_with fail
    clear hd4
    go_loopw [14, 4] (fun i s wr => ∃ k n : Nat, k ≤ l.length ∧ i = .int .i64 k ∧ s = .int .i64 n ∧ 1 ≤ n ∧ n ≤ 1152921504606846976 ∧ Hid (szF n (l.drop k) = szF 1 l) ∧ Below w.heap.size w wr) (fun i _ _ => l.length - (intOf i).toNat)
    case atStart => exact ⟨0, 1, Nat.zero_le _, rfl, rfl, Nat.le_refl _, by omega, Lib.hid rfl, HB4.out⟩
    case round =>
      obtain ⟨k, n, hk, rfl, rfl, hn1, hn2, HE, hbel⟩ := hrel
      by_cases hlt : k < l.length
      · have HS := Lib.hid (drop_l l k hlt)
        obtain ⟨b, off, oe, ce, rfl, hb, h0, hrep⟩ := HX.out.at_ (List.getElem?_eq_getElem hlt)
        rw [← hbel.cell (p := ⟨b, _, none⟩) (Nat.lt_of_lt_of_le hb hB)] at h0
        have hki : (k : Int) < (l.length : Int) := by omega
        have hki0 : (0 : Int) ≤ (k : Int) := by omega
        have HAL := Lib.hid (HN.out l[k] (List.getElem_mem hlt))
        clear hrep
        obtain ⟨a, hak⟩ : ∃ a, l[k] = a := ⟨_, rfl⟩
        rw [hak] at h0 HS HAL
        clear hak
        have hal : (a.length : Int) ≠ 0 := by have := HAL.out; omega
        by_cases hbig : 1152921504606846976 / (a.length : Int) < (n : Int)
        · have HV := Lib.hid (szF_cons_big (l := l.drop (k + 1)) hbig)
          go_wp2_with fail
          go_ret2
          have e1 := szN_none (show szD l = none by rw [HD.out, ← HE.out, HS.out, HV.out])
          exact ⟨ret_two e1.1.symm e1.2.symm, hbel⟩
        · have HV := Lib.hid (szF_cons_in (l := l.drop (k + 1)) hbig)
          have hmul := mul_in HAL.out hbig
          have hpos : 1 ≤ n * a.length := Nat.mul_pos hn1 (by have := HAL.out; omega)
          have hwr : wrap64 ((n : Int) * (a.length : Int)) = ((n * a.length : Nat) : Int) := by
            rw [← Int.natCast_mul]
            exact IntWalk.wrap64_in _ (by omega)
          have HWR := Lib.hid hwr
          have HM := Lib.hid (And.intro hmul hpos)
          clear hmul hpos
          go_wp2_with fail
          go_roundw
          case rel => exact ⟨k + 1, n * a.length, hlt, by go_num, by first | rfl | rw [HWR.out], HM.out.2, HM.out.1, Lib.hid (by rw [← HE.out, HS.out, HV.out, Int.natCast_mul]), hbel⟩
          case measure => simp [intOf]; omega
      · go_wp2_with fail
        go_ret2
        have e1 := szN_some (show szD l = some (n : Int) by rw [HD.out, ← HE.out, List.drop_of_length_le (by omega), szF])
        exact ⟨ret_two e1.1.symm e1.2.symm, hbel⟩

set_option maxRecDepth 100000 in
set_option maxHeartbeats 1600000 in
theorem rsize_any (l : List (List V)) (x : Value) (w : World) (B : Nat) (hx : LAx w B x l) (hB : B ≤ w.heap.size) :
    Calls Tryd.prog 10 #[.agg #[x]] w fun e w' => e = .returned (.tuple #[.int .i64 (szN l), .int .i64 (szE l)]) ∧ Below w.heap.size w w' := by
  have HX := Lib.hid hx
  obtain ⟨oa, ca, rfl, hlc, hlm⟩ := hx.form
  clear hx
  go_enter Tryd.func10, Tryd.ntmps10
  go_wp2_with fail
  have HB0 := Lib.hid (below1 w (.cells #[.slice oa l.length ca] 24))
  have HBX := Lib.hid (Below.refl (w.heap.size + 1) (w.alloc (.cells #[.slice oa l.length ca] 24)))
  go_loopw [4] (fun i wr => ∃ k : Nat, k ≤ l.length ∧ i = .int .i64 k ∧ Hid (hasNil (l.drop k) = hasNil l) ∧ Below (w.heap.size + 1) (w.alloc (.cells #[.slice oa l.length ca] 24)) wr) (fun i _ => l.length - (intOf i).toNat)
  case atStart => exact ⟨0, Nat.zero_le _, rfl, Lib.hid rfl, HBX.out⟩
  case round =>
    obtain ⟨k, hk, rfl, HD, hbel⟩ := hrel
    have hd := dbox hbel
    by_cases hlt : k < l.length
    · have HS := Lib.hid (drop_l l k hlt)
      obtain ⟨b, off, oe, ce, rfl, hb, h0, hrep⟩ := HX.out.at_ (List.getElem?_eq_getElem hlt)
      have HBW := Lib.hid (HB0.out.trans (hbel.mono (Nat.le_succ _)))
      rw [← HBW.out.cell (p := ⟨b, _, none⟩) (Nat.lt_of_lt_of_le hb hB)] at h0
      have hki : (k : Int) < (l.length : Int) := by omega
      have hki0 : (0 : Int) ≤ (k : Int) := by omega
      clear hrep
      obtain ⟨a, hak⟩ : ∃ a, l[k] = a := ⟨_, rfl⟩
      rw [hak] at h0 HS
      have HAK := Lib.hid hak
      clear hak
      by_cases hz : ((a.length : Int) == 0) = true
      · have HN := Lib.hid (hasNil_of (HAK.out ▸ List.getElem_mem hlt) (by simpa using hz))
        go_wp2_with fail
        go_ret2
        have e1 := szN_some (show szD l = some 0 from if_pos HN.out)
        exact ⟨ret_two e1.1.symm e1.2.symm, HBW.out⟩
      · have hz' : ((a.length : Int) == 0) = false := by simpa using hz
        have HT := Lib.hid (show isNil a = false from decide_eq_false (by simpa using hz))
        clear hz
        go_wp2_with fail
        go_roundw
        case rel => exact ⟨k + 1, hlt, by go_num, Lib.hid (by rw [← HD.out, HS.out, hasNil_cons, HT.out, Bool.false_or]), hbel⟩
        case measure => simp [intOf]; omega
    · have HN := Lib.hid (show hasNil l = false by rw [← HD.out, List.drop_of_length_le (by omega), hasNil_nil])
      have HSZ := Lib.hid (show szD l = szF 1 l from if_neg (by rw [HN.out]; simp))
      clear HD
      go_wp2_with fail
      clear hlt hk
      go_loopw [6, 5] (fun i s wr => ∃ k n : Nat, k ≤ l.length ∧ i = .int .i64 k ∧ s = .int .i64 n ∧ 1 ≤ n ∧ n ≤ 1152921504606846976 ∧ Hid (szF n (l.drop k) = szF 1 l) ∧ Below (w.heap.size + 1) (w.alloc (.cells #[.slice oa l.length ca] 24)) wr) (fun i _ _ => l.length - (intOf i).toNat)
      case atStart => exact ⟨0, 1, Nat.zero_le _, rfl, rfl, Nat.le_refl _, by omega, Lib.hid rfl, hbel⟩
      case round =>
        clear hd hbel
        obtain ⟨k, n, hk, rfl, rfl, hn1, hn2, HE, hbel⟩ := hrel
        have hd := dbox hbel
        have HBW := Lib.hid (HB0.out.trans (hbel.mono (Nat.le_succ _)))
        by_cases hlt : k < l.length
        · have HS := Lib.hid (drop_l l k hlt)
          obtain ⟨b, off, oe, ce, rfl, hb, h0, hrep⟩ := HX.out.at_ (List.getElem?_eq_getElem hlt)
          rw [← HBW.out.cell (p := ⟨b, _, none⟩) (Nat.lt_of_lt_of_le hb hB)] at h0
          have hki : (k : Int) < (l.length : Int) := by omega
          have hki0 : (0 : Int) ≤ (k : Int) := by omega
          have HAL := Lib.hid (hasNil_no HN.out l[k] (List.getElem_mem hlt))
          clear hrep
          obtain ⟨a, hak⟩ : ∃ a, l[k] = a := ⟨_, rfl⟩
          rw [hak] at h0 HS HAL
          clear hak
          have hal : (a.length : Int) ≠ 0 := by have := HAL.out; omega
          by_cases hbig : 1152921504606846976 / (a.length : Int) < (n : Int)
          · have HV := Lib.hid (szF_cons_big (l := l.drop (k + 1)) hbig)
            go_wp2_with fail
            go_ret2
            have e1 := szN_none (show szD l = none by rw [HSZ.out, ← HE.out, HS.out, HV.out])
            exact ⟨ret_two e1.1.symm e1.2.symm, HBW.out⟩
          · have HV := Lib.hid (szF_cons_in (l := l.drop (k + 1)) hbig)
            have hmul := mul_in HAL.out hbig
            have hpos : 1 ≤ n * a.length := Nat.mul_pos hn1 (by have := HAL.out; omega)
            have hwr : wrap64 ((n : Int) * (a.length : Int)) = ((n * a.length : Nat) : Int) := by
              rw [← Int.natCast_mul]
              exact IntWalk.wrap64_in _ (by omega)
            have HWR := Lib.hid hwr
            have HM := Lib.hid (And.intro hmul hpos)
            clear hmul hpos
            go_wp2_with fail
            go_roundw
            case rel => exact ⟨k + 1, n * a.length, hlt, by go_num, by first | rfl | rw [HWR.out], HM.out.2, HM.out.1, Lib.hid (by rw [← HE.out, HS.out, HV.out, Int.natCast_mul]), hbel⟩
            case measure => simp [intOf]; omega
        · go_wp2_with fail
          go_ret2
          have e1 := szN_some (show szD l = some (n : Int) by rw [HSZ.out, ← HE.out, List.drop_of_length_le (by omega), szF])
          exact ⟨ret_two e1.1.symm e1.2.symm, HBW.out⟩

/-- Are there more than may be listed? -/
def largeD (l : List (List V)) : Bool := decide (4096 < prodL l)

set_option maxRecDepth 100000 in
set_option maxHeartbeats 800000 in
theorem isLarge_any (l : List (List V)) (x : Value) (w : World) (B : Nat) (hx : LAx w B x l) (hB : B ≤ w.heap.size) :
    Calls Tryd.prog 24 #[.agg #[x]] w fun e w' => e = .returned (.bool (largeD l)) ∧ Below w.heap.size w w' := by
  obtain ⟨oa, ca, rfl, hlc, hlm⟩ := hx.form
  have HC := Lib.hid (size_any l _ _ B (hx.later ((below1 w (.cells #[.slice oa l.length ca] 24)).mono hB)) (by simp; omega))
  have HB0 := Lib.hid (below1 w (.cells #[.slice oa l.length ca] 24))
  have hd : (w.alloc (.cells #[.slice oa l.length ca] 24)).cell? ⟨w.heap.size, 0, none⟩ = some (.slice oa l.length ca) := cell_at _ _ _ _ _ rfl
  clear hx
  have hez := szD_eq l
  cases hsz : szD l with
  | none =>
    have HZ := Lib.hid (szN_none hsz)
    have HL := Lib.hid (show largeD l = true by
      rw [hsz] at hez
      split at hez
      · cases hez
      · exact decide_eq_true (by omega))
    rw [HZ.out.1, HZ.out.2] at HC
    clear hez hsz
    go_enter Tryd.func24, Tryd.ntmps24
    go_wp2_with fail
    refine HC.out.mono ?_
    rintro e w4 ⟨rfl, hb4⟩
    go_wp2_with fail
    go_ret
    exact ⟨ret_bool HL.out.symm, HB0.out.trans (hb4.mono (by simp))⟩
  | some n =>
    have HZ := Lib.hid (szN_some hsz)
    obtain ⟨hn, hp⟩ := szD_some hsz
    subst hn
    have HL := Lib.hid (show largeD l = decide (4096 < (prodL l : Int)) from decide_eq_decide.2 (by omega))
    rw [HZ.out.1, HZ.out.2] at HC
    clear hez hsz
    go_enter Tryd.func24, Tryd.ntmps24
    go_wp2_with fail
    refine HC.out.mono ?_
    rintro e w4 ⟨rfl, hb4⟩
    go_wp2_with fail
    go_ret
    exact ⟨ret_bool HL.out.symm, HB0.out.trans (hb4.mono (by simp))⟩

end Go.Proofs.YthnlkijkgnmbhaaDoor
