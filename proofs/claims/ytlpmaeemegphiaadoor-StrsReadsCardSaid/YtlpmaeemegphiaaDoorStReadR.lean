/-
  Read of the reference. Nothing is assumed.
-/
import Derived.Test.YtlpmaeemegphiaaDoorStRead
namespace Go.Proofs.YtlpmaeemegphiaaDoor
open Go.RowKit

theorem head48 (D : ByteArray) (hp : 0 < D.size) : D.data.toList.head? = some (D[0]'hp) := by
  rw [List.head?_eq_getElem?]
  exact list_at D 0 hp
theorem numl_nil {D : ByteArray} (h : D.size = 0) : numl D.data.toList = false := by rw [nil_of_sz h]; rfl
theorem one48 {D : ByteArray} (hp : 0 < D.size) (h1 : D.size = 1) (h : (D[0]'hp) = 48) : D.data.toList = [48] := by
  have e := list_at D 0 hp
  have hl := list_len D
  rw [h1] at hl
  obtain ⟨c, hc⟩ := List.length_eq_one_iff.1 hl
  rw [hc] at e ⊢
  rw [h] at e
  cases e
  rfl
theorem numl_zz {D : ByteArray} (hp : 0 < D.size) (h1 : 1 < D.size) (h : (D[0]'hp) = 48) : numl D.data.toList = false := by
  unfold numl
  have e1 : D.data.toList ≠ [48] := by
    intro e
    have := list_len D
    rw [e] at this
    simp at this
    omega
  rw [decide_eq_false e1, head48 D hp, h]
  simp
theorem numl_ok {D : ByteArray} (hp : 0 < D.size) (h : (D[0]'hp) ≠ 48 ∨ D.size = 1) (ha : D.data.toList.all isDig = true) : numl D.data.toList = true := by
  unfold numl
  rw [ha]
  rcases Decidable.em ((D[0]'hp) = 48) with h2 | h2
  · rw [decide_eq_true (one48 hp (by rcases h with h | h; exact absurd h2 h; exact h) h2)]
    rfl
  · have e1 : D.data.toList ≠ [] := by
      intro e
      have := list_len D
      rw [e] at this
      simp at this
      omega
    rw [head48 D hp, decide_eq_true e1]
    simp [h2]
theorem rbad_no {b : Bool} {ds : List UInt8} (h : numl ds = false) : rbad b ds = true := by unfold rbad; rw [h]; rfl

set_option maxRecDepth 100000 in
set_option maxHeartbeats 1600000 in
theorem rread_false (s : ByteArray) (w : World) (hs : s.size ≤ 1000) (hn : ∀ h : 0 < s.size, (s[0]'h) ≠ 45) :
    Calls Tryd.prog 34 #[.string s] w fun e w' => e = .returned (.tuple #[.int .i64 (rn false s.data.toList), .int .i64 (re false s.data.toList)]) ∧ Below w.heap.size w w' := by
  by_cases h0 : s.size = 0
  · obtain ⟨f1, f2, f3⟩ := nil_fct h0
    have HN := Lib.hid (r_bad (b := false) (rbad_no (numl_nil h0)))
    have h0' : (s.size : Int) = 0 := by omega
    clear f3 hn h0 hs
    go_enter Tryd.func34, Tryd.ntmps34
    go_wp2_with fail
    go_ret2
    exact ⟨ret_ii HN.out.1.symm HN.out.2.symm, Below.refl _ _⟩
  obtain ⟨f1, f2⟩ := ne_fct h0
  have hp : 0 < s.size := by omega
  have hp' : (0 : Int) < (s.size : Int) := by omega
  have hb : (((s[0]'hp).toNat : Int) == 45) = false := by
    rw [beq_eq_false_iff_ne]
    intro e
    exact hn hp (UInt8.toNat_inj.1 (by show (s[0]'hp).toNat = 45; omega))
  have hz := byte48 (s[0]'hp)
  clear hn h0
  by_cases h48 : (s[0]'hp) = 48
  · rw [decide_eq_true h48] at hz
    by_cases h1 : 1 < s.size
    · have HN := Lib.hid (r_bad (b := false) (rbad_no (numl_zz hp h1 h48)))
      have h1' : (1 : Int) < (s.size : Int) := by omega
      clear h48
      go_enter Tryd.func34, Tryd.ntmps34
      go_wp2_with fail
      go_ret2
      exact ⟨ret_ii HN.out.1.symm HN.out.2.symm, Below.refl _ _⟩
    · have HG := Lib.hid (numl_ok hp (.inr (by omega)))
      have HBD : Hid (numl s.data.toList = true → rbad false s.data.toList = false) := Lib.hid (fun h => by unfold rbad; rw [h]; rfl)
      have h1' : ¬ ((1 : Int) < (s.size : Int)) := by omega
      clear h48
      go_enter Tryd.func34, Tryd.ntmps34
      go_wp2_with fail
      go_loop [5] (fun v => ∃ i : Nat, i ≤ s.size ∧ v = .int .i64 i ∧ Hid (∀ j, j < i → ∀ hj : j < s.size, isDig (s[j]'hj) = true)) (fun v => s.size - (intOf v).toNat)
      case atStart => exact ⟨0, Nat.zero_le _, rfl, Lib.hid fun j hj => absurd hj (Nat.not_lt_zero j)⟩
      case round =>
        obtain ⟨i, hi, rfl, HD⟩ := hrel
        by_cases hlt : i < s.size
        · by_cases hd : isDig (s[i]'hlt) = true
          · have HD2 : Hid (∀ j, j < i + 1 → ∀ hj : j < s.size, isDig (s[j]'hj) = true) := Lib.hid (fun j h hj => by
              rcases Nat.lt_or_ge j i with h1 | h1
              · exact HD.out j h1 hj
              · obtain rfl : j = i := by omega
                exact hd)
            obtain ⟨hb1, hb2⟩ := isDig_yes hd
            have hb1' : ¬ (((s[i]'hlt).toNat : Int) < 48) := by omega
            have hb2' : ¬ (57 < ((s[i]'hlt).toNat : Int)) := by omega
            clear hd HD
            go_wp2_with fail
            go_round
            case rel => exact ⟨i + 1, hlt, by go_num, HD2⟩
            case measure => simp [intOf]; omega
          · have hd' : isDig (s[i]'hlt) = false := by simpa using hd
            have HN := Lib.hid (r_bad (b := false) (rbad_no (numl_bad s i hlt hd')))
            rcases isDig_no hd' with h1 | h1
            · have hb1 : ((s[i]'hlt).toNat : Int) < 48 := by omega
              clear hd hd' h1
              go_wp2_with fail
              go_ret2
              exact ⟨ret_ii HN.out.1.symm HN.out.2.symm, Below.refl _ _⟩
            · have hb1 : ¬ (((s[i]'hlt).toNat : Int) < 48) := by omega
              have hb2 : 57 < ((s[i]'hlt).toNat : Int) := by omega
              clear hd hd' h1
              go_wp2_with fail
              go_ret2
              exact ⟨ret_ii HN.out.1.symm HN.out.2.symm, Below.refl _ _⟩
        · obtain rfl : i = s.size := by omega
          have hn := HG.out (all_dig s fun j hj => HD.out j hj hj)
          have HD3 := Lib.hid (numl_dig s hn)
          have HB : Hid (rbad false s.data.toList = false) := Lib.hid (HBD.out hn)
          clear hn HD HG HBD
          go_wp2_with fail
          go_loop [6, 7] (fun v x => ∃ (pos : Nat) (n : Int), pos ≤ s.size ∧ x = .int .i64 pos ∧ v = .int .i64 n ∧ 0 ≤ n ∧ n ≤ 1000000 ∧ Hid (nm 0 s.data.toList = nm n (s.data.toList.drop pos))) (fun _ x => s.size - (intOf x).toNat)
          case atStart => exact ⟨0, 0, Nat.zero_le _, rfl, rfl, by omega, by omega, Lib.hid rfl⟩
          case round =>
            obtain ⟨pos, n, hpos, rfl, rfl, hn0, hn1, HV⟩ := hrel
            by_cases hlt : pos < s.size
            · have HR := Lib.hid (nm_at s pos hlt n)
              obtain ⟨hb1, hb2⟩ := HD3.out pos hlt
              by_cases ho : 1000000 < 10 * n + (((s[pos]'hlt).toNat : Int) - 48)
              · have HO : Hid (nm 0 s.data.toList = none) := Lib.hid (by rw [HV.out, HR.out, if_pos (by omega)])
                clear HR HV
                go_wp2_with fail
                go_ret2
                exact ⟨ret_ii (r_over HB.out HO.out).1.symm (r_over HB.out HO.out).2.symm, Below.refl _ _⟩
              · have HO : Hid (nm 0 s.data.toList = nm (10 * n + (((s[pos]'hlt).toNat : Int) - 48)) (s.data.toList.drop (pos + 1))) := Lib.hid (by rw [HV.out, HR.out, if_neg (by omega), Int.mul_comm n 10])
                clear HR HV
                go_wp2_with fail
                go_round
                case rel => exact ⟨pos + 1, _, hlt, by go_num, rfl, by omega, by omega, HO⟩
                case measure => simp [intOf]; omega
            · obtain rfl : pos = s.size := by omega
              have HO : Hid (nm 0 s.data.toList = some n) := Lib.hid (by rw [HV.out, nm_end])
              clear HV
              go_wp2_with fail
              go_ret2
              exact ⟨ret_ii (r_ok HB.out HO.out).1.symm (r_ok HB.out HO.out).2.symm, Below.refl _ _⟩
  · rw [decide_eq_false h48] at hz
    have HG := Lib.hid (numl_ok hp (.inl h48))
    have HBD : Hid (numl s.data.toList = true → rbad false s.data.toList = false) := Lib.hid (fun h => by unfold rbad; rw [h]; rfl)
    clear h48
    go_enter Tryd.func34, Tryd.ntmps34
    go_wp2_with fail
    go_loop [5] (fun v => ∃ i : Nat, i ≤ s.size ∧ v = .int .i64 i ∧ Hid (∀ j, j < i → ∀ hj : j < s.size, isDig (s[j]'hj) = true)) (fun v => s.size - (intOf v).toNat)
    case atStart => exact ⟨0, Nat.zero_le _, rfl, Lib.hid fun j hj => absurd hj (Nat.not_lt_zero j)⟩
    case round =>
      obtain ⟨i, hi, rfl, HD⟩ := hrel
      by_cases hlt : i < s.size
      · by_cases hd : isDig (s[i]'hlt) = true
        · have HD2 : Hid (∀ j, j < i + 1 → ∀ hj : j < s.size, isDig (s[j]'hj) = true) := Lib.hid (fun j h hj => by
            rcases Nat.lt_or_ge j i with h1 | h1
            · exact HD.out j h1 hj
            · obtain rfl : j = i := by omega
              exact hd)
          obtain ⟨hb1, hb2⟩ := isDig_yes hd
          have hb1' : ¬ (((s[i]'hlt).toNat : Int) < 48) := by omega
          have hb2' : ¬ (57 < ((s[i]'hlt).toNat : Int)) := by omega
          clear hd HD
          go_wp2_with fail
          go_round
          case rel => exact ⟨i + 1, hlt, by go_num, HD2⟩
          case measure => simp [intOf]; omega
        · have hd' : isDig (s[i]'hlt) = false := by simpa using hd
          have HN := Lib.hid (r_bad (b := false) (rbad_no (numl_bad s i hlt hd')))
          rcases isDig_no hd' with h1 | h1
          · have hb1 : ((s[i]'hlt).toNat : Int) < 48 := by omega
            clear hd hd' h1
            go_wp2_with fail
            go_ret2
            exact ⟨ret_ii HN.out.1.symm HN.out.2.symm, Below.refl _ _⟩
          · have hb1 : ¬ (((s[i]'hlt).toNat : Int) < 48) := by omega
            have hb2 : 57 < ((s[i]'hlt).toNat : Int) := by omega
            clear hd hd' h1
            go_wp2_with fail
            go_ret2
            exact ⟨ret_ii HN.out.1.symm HN.out.2.symm, Below.refl _ _⟩
      · obtain rfl : i = s.size := by omega
        have hn := HG.out (all_dig s fun j hj => HD.out j hj hj)
        have HD3 := Lib.hid (numl_dig s hn)
        have HB : Hid (rbad false s.data.toList = false) := Lib.hid (HBD.out hn)
        clear hn HD HG HBD
        go_wp2_with fail
        go_loop [6, 7] (fun v x => ∃ (pos : Nat) (n : Int), pos ≤ s.size ∧ x = .int .i64 pos ∧ v = .int .i64 n ∧ 0 ≤ n ∧ n ≤ 1000000 ∧ Hid (nm 0 s.data.toList = nm n (s.data.toList.drop pos))) (fun _ x => s.size - (intOf x).toNat)
        case atStart => exact ⟨0, 0, Nat.zero_le _, rfl, rfl, by omega, by omega, Lib.hid rfl⟩
        case round =>
          obtain ⟨pos, n, hpos, rfl, rfl, hn0, hn1, HV⟩ := hrel
          by_cases hlt : pos < s.size
          · have HR := Lib.hid (nm_at s pos hlt n)
            obtain ⟨hb1, hb2⟩ := HD3.out pos hlt
            by_cases ho : 1000000 < 10 * n + (((s[pos]'hlt).toNat : Int) - 48)
            · have HO : Hid (nm 0 s.data.toList = none) := Lib.hid (by rw [HV.out, HR.out, if_pos (by omega)])
              clear HR HV
              go_wp2_with fail
              go_ret2
              exact ⟨ret_ii (r_over HB.out HO.out).1.symm (r_over HB.out HO.out).2.symm, Below.refl _ _⟩
            · have HO : Hid (nm 0 s.data.toList = nm (10 * n + (((s[pos]'hlt).toNat : Int) - 48)) (s.data.toList.drop (pos + 1))) := Lib.hid (by rw [HV.out, HR.out, if_neg (by omega), Int.mul_comm n 10])
              clear HR HV
              go_wp2_with fail
              go_round
              case rel => exact ⟨pos + 1, _, hlt, by go_num, rfl, by omega, by omega, HO⟩
              case measure => simp [intOf]; omega
          · obtain rfl : pos = s.size := by omega
            have HO : Hid (nm 0 s.data.toList = some n) := Lib.hid (by rw [HV.out, nm_end])
            clear HV
            go_wp2_with fail
            go_ret2
            exact ⟨ret_ii (r_ok HB.out HO.out).1.symm (r_ok HB.out HO.out).2.symm, Below.refl _ _⟩

set_option maxRecDepth 100000 in
set_option maxHeartbeats 1600000 in
theorem rread_true (s D : ByteArray) (w : World) (hs : s.size ≤ 1000) (hp : 0 < s.size) (hn : (s[0]'hp) = 45) (hD : s.extract 1 s.size = D) (hDs : D.size + 1 = s.size) :
    Calls Tryd.prog 34 #[.string s] w fun e w' => e = .returned (.tuple #[.int .i64 (rn true D.data.toList), .int .i64 (re true D.data.toList)]) ∧ Below w.heap.size w w' := by
  have hp' : (0 : Int) < (s.size : Int) := by omega
  have hb : (((s[0]'hp).toNat : Int) == 45) = true := by
    rw [hn]
    rfl
  have hls : (D.size : Int) < (s.size : Int) := by omega
  clear hn
  by_cases h0 : D.size = 0
  · obtain ⟨f1, f2, f3⟩ := nil_fct h0
    have HN := Lib.hid (r_bad (b := true) (rbad_no (numl_nil h0)))
    clear f3 hls hDs h0
    go_enter Tryd.func34, Tryd.ntmps34
    go_wp2_with fail
    go_ret2
    exact ⟨ret_ii HN.out.1.symm HN.out.2.symm, Below.refl _ _⟩
  obtain ⟨f1, f2⟩ := ne_fct h0
  have hpd : 0 < D.size := by omega
  have hpd' : (0 : Int) < (D.size : Int) := by omega
  have hz := byte48 (D[0]'hpd)
  clear h0
  by_cases h48 : (D[0]'hpd) = 48
  · rw [decide_eq_true h48] at hz
    have HN : Hid (rn true D.data.toList = 0 ∧ re true D.data.toList = 8) := Lib.hid (r_bad (by
      by_cases h1 : 1 < D.size
      · exact rbad_no (numl_zz hpd h1 h48)
      · unfold rbad
        rw [one48 hpd (by omega) h48]
        rfl))
    have hs1 : (1 : Int) < (s.size : Int) := by omega
    clear h48
    by_cases h1 : (1 : Int) < (D.size : Int)
    · skip
      go_enter Tryd.func34, Tryd.ntmps34
      go_wp2_with fail
      go_ret2
      exact ⟨ret_ii HN.out.1.symm HN.out.2.symm, Below.refl _ _⟩
    · skip
      go_enter Tryd.func34, Tryd.ntmps34
      go_wp2_with fail
      go_ret2
      exact ⟨ret_ii HN.out.1.symm HN.out.2.symm, Below.refl _ _⟩
  · rw [decide_eq_false h48] at hz
    have HG := Lib.hid (numl_ok hpd (.inl h48))
    have HBD : Hid (numl D.data.toList = true → rbad true D.data.toList = false) := Lib.hid (fun h => by
      unfold rbad
      rw [h, decide_eq_false]
      · rfl
      · intro e
        have h1 := head48 D hpd
        rw [e, List.head?_cons] at h1
        exact h48 (Option.some.inj h1).symm)
    clear h48
    go_enter Tryd.func34, Tryd.ntmps34
    go_wp2_with fail
    go_loop [5] (fun v => ∃ i : Nat, i ≤ D.size ∧ v = .int .i64 i ∧ Hid (∀ j, j < i → ∀ hj : j < D.size, isDig (D[j]'hj) = true)) (fun v => D.size - (intOf v).toNat)
    case atStart => exact ⟨0, Nat.zero_le _, rfl, Lib.hid fun j hj => absurd hj (Nat.not_lt_zero j)⟩
    case round =>
      obtain ⟨i, hi, rfl, HD⟩ := hrel
      by_cases hlt : i < D.size
      · by_cases hd : isDig (D[i]'hlt) = true
        · have HD2 : Hid (∀ j, j < i + 1 → ∀ hj : j < D.size, isDig (D[j]'hj) = true) := Lib.hid (fun j h hj => by
            rcases Nat.lt_or_ge j i with h1 | h1
            · exact HD.out j h1 hj
            · obtain rfl : j = i := by omega
              exact hd)
          obtain ⟨hb1, hb2⟩ := isDig_yes hd
          have hb1' : ¬ (((D[i]'hlt).toNat : Int) < 48) := by omega
          have hb2' : ¬ (57 < ((D[i]'hlt).toNat : Int)) := by omega
          clear hd HD
          go_wp2_with fail
          go_round
          case rel => exact ⟨i + 1, hlt, by go_num, HD2⟩
          case measure => simp [intOf]; omega
        · have hd' : isDig (D[i]'hlt) = false := by simpa using hd
          have HN := Lib.hid (r_bad (b := true) (rbad_no (numl_bad D i hlt hd')))
          rcases isDig_no hd' with h1 | h1
          · have hb1 : ((D[i]'hlt).toNat : Int) < 48 := by omega
            clear hd hd' h1
            go_wp2_with fail
            go_ret2
            exact ⟨ret_ii HN.out.1.symm HN.out.2.symm, Below.refl _ _⟩
          · have hb1 : ¬ (((D[i]'hlt).toNat : Int) < 48) := by omega
            have hb2 : 57 < ((D[i]'hlt).toNat : Int) := by omega
            clear hd hd' h1
            go_wp2_with fail
            go_ret2
            exact ⟨ret_ii HN.out.1.symm HN.out.2.symm, Below.refl _ _⟩
      · obtain rfl : i = D.size := by omega
        have hn := HG.out (all_dig D fun j hj => HD.out j hj hj)
        have HD3 := Lib.hid (numl_dig D hn)
        have HB : Hid (rbad true D.data.toList = false) := Lib.hid (HBD.out hn)
        clear hn HD HG HBD
        go_wp2_with fail
        go_loop [6, 7] (fun v x => ∃ (pos : Nat) (n : Int), pos ≤ D.size ∧ x = .int .i64 pos ∧ v = .int .i64 n ∧ 0 ≤ n ∧ n ≤ 1000000 ∧ Hid (nm 0 D.data.toList = nm n (D.data.toList.drop pos))) (fun _ x => D.size - (intOf x).toNat)
        case atStart => exact ⟨0, 0, Nat.zero_le _, rfl, rfl, by omega, by omega, Lib.hid rfl⟩
        case round =>
          obtain ⟨pos, n, hpos, rfl, rfl, hn0, hn1, HV⟩ := hrel
          by_cases hlt : pos < D.size
          · have HR := Lib.hid (nm_at D pos hlt n)
            obtain ⟨hb1, hb2⟩ := HD3.out pos hlt
            by_cases ho : 1000000 < 10 * n + (((D[pos]'hlt).toNat : Int) - 48)
            · have HO : Hid (nm 0 D.data.toList = none) := Lib.hid (by rw [HV.out, HR.out, if_pos (by omega)])
              clear HR HV
              go_wp2_with fail
              go_ret2
              exact ⟨ret_ii (r_over HB.out HO.out).1.symm (r_over HB.out HO.out).2.symm, Below.refl _ _⟩
            · have HO : Hid (nm 0 D.data.toList = nm (10 * n + (((D[pos]'hlt).toNat : Int) - 48)) (D.data.toList.drop (pos + 1))) := Lib.hid (by rw [HV.out, HR.out, if_neg (by omega), Int.mul_comm n 10])
              clear HR HV
              go_wp2_with fail
              go_round
              case rel => exact ⟨pos + 1, _, hlt, by go_num, rfl, by omega, by omega, HO⟩
              case measure => simp [intOf]; omega
          · obtain rfl : pos = D.size := by omega
            have HO : Hid (nm 0 D.data.toList = some n) := Lib.hid (by rw [HV.out, nm_end])
            clear HV
            go_wp2_with fail
            go_ret2
            exact ⟨ret_ii (r_ok HB.out HO.out).1.symm (r_ok HB.out HO.out).2.symm, Below.refl _ _⟩

theorem rread_any (s : ByteArray) (w : World) (hs : s.size ≤ 1000) :
    Calls Tryd.prog 34 #[.string s] w fun e w' => e = .returned (.tuple #[.int .i64 (rdN s.data.toList), .int .i64 (rdE s.data.toList)]) ∧ Below w.heap.size w w' := by
  rw [rn_is, re_is]
  by_cases hp : 0 < s.size
  · have hh := head48 s hp
    by_cases h : (s[0]'hp) = 45
    · have e1 : neg s.data.toList = true := by unfold neg; rw [hh, h]; rfl
      have hx : s.extract 1 s.size = str (digs' s.data.toList) := by
        rw [extract_str, List.take_of_length_le (by rw [List.length_drop, list_len]; omega)]
        unfold digs'
        rw [e1, if_pos rfl, List.drop_one]
      have := rread_true s (str (digs' s.data.toList)) w hs hp h hx (by rw [← hx, ByteArray.size_extract]; omega)
      rw [e1]
      exact this
    · have e1 : neg s.data.toList = false := by
        unfold neg
        rw [hh, decide_eq_false_iff_not, Option.some.injEq]
        exact h
      have := rread_false s w hs (fun _ => h)
      unfold digs'
      rw [e1]
      exact this
  · have e1 : neg s.data.toList = false := by
      rw [nil_of_sz (show s.size = 0 by omega)]
      rfl
    have := rread_false s w hs (fun h => absurd h hp)
    unfold digs'
    rw [e1]
    exact this

end Go.Proofs.YtlpmaeemegphiaaDoor
