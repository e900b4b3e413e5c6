/-
  quoted of the reference. Nothing is assumed.
-/
import Derived.Test.YtmbmlcnipncgnaaGreatDoorLtRefI
import Derived.Test.YtmbmlcnipncgnaaGreatDoorLtLoc
import Derived.Test.YtmbmlcnipncgnaaGreatDoorLtOwn
import Derived.Test.YtmbmlcnipncgnaaGreatDoorLtParse
namespace Go.Proofs.YtmbmlcnipncgnaaGreatDoor
open Go.RowKit

theorem qrun_pk (least most : Nat) (any : Bool) (st : QSt) (C L : List UInt8) (k : Nat) (h : ¬ (st.isWhole = true ∧ pk L k = 34 ∧ least ≤ C.length)) :
    qrun least most any st C (L.drop k) k = match qstep most any C (pk L k) st with
      | none => .bad k
      | some r => qrun least most any r.1 r.2 (L.drop (k + 1)) (k + 1) := by
  rcases Nat.lt_or_ge k L.length with hk | hk
  · obtain ⟨c, h1, h2⟩ := pk_drop L k hk
    rw [h1, qrun_go _ _ _ _ _ _ _ _ (by rw [h2]; exact h), h2]
    cases qstep most any C (pk L k) st <;> rfl
  · rw [qrun_zero _ _ _ _ _ _ _ (pk_out L k hk), pk_out L k hk, qstep_zero]
theorem qrun_pke (least most : Nat) (any : Bool) (C L : List UInt8) (k : Nat) (h : pk L k = 34 ∧ least ≤ C.length) : qrun least most any .whole C (L.drop k) k = .ok C (k + 1) := by
  obtain ⟨c, h1, h2⟩ := pk_drop L k (pos_of_pk h.1 (by decide))
  rw [h1, qrun_end _ _ _ _ _ _ _ (by rw [h2]; exact h.1) h.2]
/-- What quoted of the reference returns. -/
def RQuE (r : PR (List UInt8)) (e : Ending) : Prop := match r with
  | .bad i => e = .returned (.tuple #[.string ⟨#[]⟩, .int .i64 (i : Int), .bool false])
  | .ok C i => e = .returned (.tuple #[.string (str C), .int .i64 (i : Int), .bool true])
theorem one_str (w : World) (x : UInt8) : (convert 43 9 (.slice (some ⟨w.heap.size, 0, none⟩) 1 1)).run Tryz.prog (w.alloc (.cells #[.int .u8 (x.toNat : Int)] 5)) = .ok (.string (str [x])) (w.alloc (.cells #[.int .u8 (x.toNat : Int)] 5)) := by
  have h : OwnB (w.alloc (.cells #[.int .u8 (x.toNat : Int)] 5)) 0 (.slice (some ⟨w.heap.size, 0, none⟩) 1 1) [x] := ⟨rfl, .inr ⟨w.heap.size, 1, #[.int .u8 (x.toNat : Int)], rfl, Nat.zero_le _, heap_new w _, Nat.le_refl _, by decide, rfl, rfl⟩⟩
  exact h.string
theorem sub_str (s : ByteArray) (k : Nat) (h : k < s.size) : s.extract k (k + 1) = str [s[k]'h] := by
  rw [extract_str, lt_drop s k h, show k + 1 - k = 1 by omega]
  rfl

set_option maxRecDepth 100000 in
set_option maxHeartbeats 3200000 in
theorem rquoted_any (s : ByteArray) (i least most : Nat) (any : Bool) (w : World) (_hi : i ≤ s.size) (hs : s.size ≤ 1000000) (hm : most ≤ 9223372036854775807) (_hl : least ≤ 100) :
    Calls Tryz.prog 46 #[.string s, .int .i64 (i : Int), .int .i64 (least : Int), .int .i64 (most : Int), .bool any] w fun e w' => RQuE (qL least most any s.data.toList i) e ∧ Below w.heap.size w w' := by
  have HP0 := Lib.hid (fun w => rat_any s i w)
  rw [qL_at]
  by_cases h34 : pk s.data.toList i = 34
  · rw [if_pos h34]
    have q34 : ((pk s.data.toList i : Int) != 34) = false := by rw [h34]; rfl
    have hil := pos_of_pk h34 (by decide)
    rw [lt_len] at hil
    obtain ⟨i1, hi1⟩ : ∃ i1, i + 1 = i1 := ⟨_, rfl⟩
    have hi1' : (i : Int) + 1 = (i1 : Int) := by omega
    rw [hi1]
    generalize hR : qrun least most any .whole [] (s.data.toList.drop i1) i1 = R at *
    have HE0 : Hid (R = qrun least most any .whole [] (s.data.toList.drop i1) i1) := Lib.hid hR.symm
    clear hR h34
    go_enter Tryz.func46, Tryz.ntmps46
    go_wp2_with fail
    refine (HP0.out _).mono ?_
    rintro e w' ⟨rfl, hw'⟩; obtain rfl := hw'.symm
    go_wp2_with fail
    go_loopw [1, 13] (fun kv ov wr => ∃ (k : Nat) (C : List UInt8), kv = .int .i64 (k : Int) ∧ ov = .string (str C) ∧ k ≤ s.size ∧ C.length ≤ k ∧ C.length ≤ most ∧ Hid (R = qrun least most any .whole C (s.data.toList.drop k) k) ∧ Below w.heap.size w wr) (fun kv _ _ => s.size - (intOf kv).toNat)
    case atStart => exact ⟨i1, [], rfl, rfl, by omega, by simp, by simp, HE0, Below.refl _ _⟩
    case round =>
      obtain ⟨k, C, rfl, rfl, hk, hCk, hCm, HE, hbel⟩ := hrel
      clear HE0 HP0 hi1' q34 hi1
      have HP1 := Lib.hid (fun w => rat_any s k w)
      have hsz := str_size C
      have hCi : (C.length : Int) ≤ 1000000 := by omega
      by_cases hq : pk s.data.toList k = 34
      · have q34 : ((pk s.data.toList k : Int) == 34) = true := by rw [hq]; rfl
        by_cases hle : least ≤ C.length
        · have HN : Hid (R = .ok C (k + 1)) := Lib.hid (by rw [HE.out, qrun_pke _ _ _ _ _ _ ⟨hq, hle⟩])
          have hle' : (least : Int) ≤ (C.length : Int) := by omega
          clear HE hq hle
          go_wp2_with fail
          refine (HP1.out _).mono ?_
          rintro e w' ⟨rfl, hw'⟩; obtain rfl := hw'.symm
          go_wp2_with fail
          refine bodyPost_ret (v := .tuple #[.string (str C), .int .i64 ((k : Int) + 1), .bool true]) (by simp [results, Tryz.results46, go_sem, *]) rfl ?_
          rw [HN.out]
          exact ⟨rfl, hbel⟩
        · have HN : Hid (R = .bad k) := Lib.hid (by rw [HE.out, qrun_pk _ _ _ _ _ _ _ (fun h => hle h.2.2), hq]; simp [qstep])
          have hle' : ¬ (least : Int) ≤ (C.length : Int) := by omega
          have hlo : ¬ (pk s.data.toList k : Int) < 32 := by omega
          have hhi : ¬ (126 : Int) < (pk s.data.toList k : Int) := by omega
          cases hfull : ((C.length : Int) == (most : Int))
          · clear HE hq hle
            go_wp2_with fail
            refine (HP1.out _).mono ?_
            rintro e w' ⟨rfl, hw'⟩; obtain rfl := hw'.symm
            go_wp2_with fail
            refine bodyPost_ret (v := .tuple #[.string ⟨#[]⟩, .int .i64 (k : Int), .bool false]) (by simp [results, Tryz.results46, go_sem, *]) rfl ?_
            rw [HN.out]
            exact ⟨rfl, hbel⟩
          · clear HE hq hle
            go_wp2_with fail
            refine (HP1.out _).mono ?_
            rintro e w' ⟨rfl, hw'⟩; obtain rfl := hw'.symm
            go_wp2_with fail
            refine bodyPost_ret (v := .tuple #[.string ⟨#[]⟩, .int .i64 (k : Int), .bool false]) (by simp [results, Tryz.results46, go_sem, *]) rfl ?_
            rw [HN.out]
            exact ⟨rfl, hbel⟩
      have q34 : ((pk s.data.toList k : Int) == 34) = false := by rw [beq_eq_false_iff_ne]; omega
      have hstep := qrun_pk least most any .whole C s.data.toList k (fun h => hq h.2.1)
      by_cases hfull : C.length = most
      · have HN : Hid (R = .bad k) := Lib.hid (by
          rw [HE.out, hstep]
          have : qstep most any C (pk s.data.toList k) .whole = none := by
            simp only [qstep]
            split
            · rw [if_neg (by omega)]
            · rw [if_neg (by omega)]
          rw [this])
        have hf : ((C.length : Int) == (most : Int)) = true := by rw [beq_iff_eq]; omega
        clear HE hq hstep hfull
        go_wp2_with fail
        refine (HP1.out _).mono ?_
        rintro e w' ⟨rfl, hw'⟩; obtain rfl := hw'.symm
        go_wp2_with fail
        refine bodyPost_ret (v := .tuple #[.string ⟨#[]⟩, .int .i64 (k : Int), .bool false]) (by simp [results, Tryz.results46, go_sem, *]) rfl ?_
        rw [HN.out]
        exact ⟨rfl, hbel⟩
      have hf : ((C.length : Int) == (most : Int)) = false := by rw [beq_eq_false_iff_ne]; omega
      have hlt : C.length < most := by omega
      by_cases hpr : 32 ≤ pk s.data.toList k ∧ pk s.data.toList k ≤ 126
      · have hlo : ¬ (pk s.data.toList k : Int) < 32 := by omega
        have hhi : ¬ (126 : Int) < (pk s.data.toList k : Int) := by omega
        have hkl : k < s.size := by
          have := pk_ne s.data.toList k (by omega)
          rwa [lt_len] at this
        obtain ⟨k1, hk1⟩ : ∃ k1, k + 1 = k1 := ⟨_, rfl⟩
        have hk1' : (k : Int) + 1 = (k1 : Int) := by omega
        have hk1s : (k1 : Int) ≤ (s.size : Int) := by omega
        have hk0 : (k : Int) ≤ (k1 : Int) := by omega
        by_cases h92 : pk s.data.toList k = 92
        · have q92 : ((pk s.data.toList k : Int) != 92) = false := by rw [h92]; rfl
          have hs1 : R = qrun least most any .esc C (s.data.toList.drop k1) k1 := by
            rw [HE.out, hstep, h92]
            simp only [qstep, if_true]
            rw [if_pos hlt, hk1]
          have hstep1 := qrun_pk least most any .esc C s.data.toList k1 (fun h => by simp [QSt.isWhole] at h)
          have HP2 := Lib.hid (fun w => rat_any s k1 w)
          by_cases he : pk s.data.toList k1 = 34 ∨ pk s.data.toList k1 = 92
          · have hk1l : k1 < s.size := by
              have := pk_ne s.data.toList k1 (by omega)
              rwa [lt_len] at this
            obtain ⟨k2, hk2⟩ : ∃ k2, k1 + 1 = k2 := ⟨_, rfl⟩
            have hk2' : (k1 : Int) + 1 = (k2 : Int) := by omega
            have hk2s : (k2 : Int) ≤ (s.size : Int) := by omega
            have hk12 : (k1 : Int) ≤ (k2 : Int) := by omega
            obtain ⟨X, hX⟩ : ∃ X, s.extract k1 k2 = X := ⟨_, rfl⟩
            have hXs : X = str [s[k1]'hk1l] := by rw [← hX, ← hk2]; exact sub_str s k1 hk1l
            have hX1 : X.size = 1 := by rw [hXs]; rfl
            have hadd : ∀ w, (Op.stringOp .add (str C) X).run Tryz.prog w = .ok (.string (str C ++ X)) w := fun w => run_string_add_sum w (str C) X (by rw [hsz, hX1]; omega)
            have HN : Hid (R = qrun least most any .whole (C ++ [s[k1]'hk1l]) (s.data.toList.drop k2) k2) := Lib.hid (by
              rw [hs1, hstep1]
              simp only [qstep]
              rw [if_pos he, hk2]
              show qrun _ _ _ _ (C ++ [UInt8.ofNat (pk s.data.toList k1)]) _ _ = _
              rw [pk_in s k1 hk1l, ofNat_of])
            have HX : Hid (str C ++ X = str (C ++ [s[k1]'hk1l])) := Lib.hid (by rw [hXs, lt_app])
            have hk1p : pk s.data.toList k1 ≤ 126 := by omega
            have HF := Lib.hid (show C.length + 1 ≤ most from hlt)
            have HFK := Lib.hid (show C.length + 1 ≤ k2 by omega)
            have HKS := Lib.hid (show k2 ≤ s.size by omega)
            by_cases he34 : pk s.data.toList k1 = 34
            · have e34 : ((pk s.data.toList k1 : Int) == 34) = true := by rw [he34]; rfl
              clear HE hq hstep hfull hlt hpr h92 hs1 hstep1 he he34 hXs hk1p
              go_wp2_with fail
              refine (HP1.out _).mono ?_
              rintro e w' ⟨rfl, hw'⟩; obtain rfl := hw'.symm
              go_wp2_with fail
              refine (HP2.out _).mono ?_
              rintro e w' ⟨rfl, hw'⟩; obtain rfl := hw'.symm
              go_wp2_with fail
              go_roundw
              case rel => exact ⟨k2, C ++ [s[k1]'hk1l], rfl, by rw [HX.out], HKS.out, by rw [List.length_append]; exact HFK.out, by rw [List.length_append]; exact HF.out, HN, hbel⟩
              case measure => simp [intOf]; omega
            · have e34 : ((pk s.data.toList k1 : Int) == 34) = false := by rw [beq_eq_false_iff_ne]; omega
              have e92 : ((pk s.data.toList k1 : Int) == 92) = true := by rw [show pk s.data.toList k1 = 92 by omega]; rfl
              clear HE hq hstep hfull hlt hpr h92 hs1 hstep1 he he34 hXs hk1p
              go_wp2_with fail
              refine (HP1.out _).mono ?_
              rintro e w' ⟨rfl, hw'⟩; obtain rfl := hw'.symm
              go_wp2_with fail
              refine (HP2.out _).mono ?_
              rintro e w' ⟨rfl, hw'⟩; obtain rfl := hw'.symm
              go_wp2_with fail
              go_roundw
              case rel => exact ⟨k2, C ++ [s[k1]'hk1l], rfl, by rw [HX.out], HKS.out, by rw [List.length_append]; exact HFK.out, by rw [List.length_append]; exact HF.out, HN, hbel⟩
              case measure => simp [intOf]; omega
          have e34 : ((pk s.data.toList k1 : Int) == 34) = false := by rw [beq_eq_false_iff_ne]; omega
          have e92 : ((pk s.data.toList k1 : Int) == 92) = false := by rw [beq_eq_false_iff_ne]; omega
          by_cases hx : pk s.data.toList k1 = 120 ∧ any = true
          · obtain ⟨hx1, rfl⟩ := hx
            have ex : ((pk s.data.toList k1 : Int) != 120) = false := by rw [hx1]; rfl
            have hk1l : k1 < s.size := by
              have := pk_ne s.data.toList k1 (by omega)
              rwa [lt_len] at this
            obtain ⟨k2, hk2⟩ : ∃ k2, k1 + 1 = k2 := ⟨_, rfl⟩
            have hk2' : (k1 : Int) + 1 = (k2 : Int) := by omega
            have hk2s : (k2 : Int) ≤ (s.size : Int) := by omega
            have hs2 : R = qrun least most true .hex1 C (s.data.toList.drop k2) k2 := by
              rw [hs1, hstep1]
              simp only [qstep]
              rw [if_neg he, if_pos ⟨hx1, trivial⟩, hk2]
            have hstep2 := qrun_pk least most true .hex1 C s.data.toList k2 (fun h => by simp [QSt.isWhole] at h)
            have HP3 := Lib.hid (fun w => rat_any s k2 w)
            clear HE hq hstep hfull hpr h92 hs1 hstep1 he hx1
            cases hh : hexv (pk s.data.toList k2) with
            | none =>
              have HD3 := Lib.hid (rdigit_none _ hh)
              have HN : Hid (R = .bad k2) := Lib.hid (by rw [hs2, hstep2, qstep_hex1n _ _ _ _ hh])
              clear hs2 hstep2 hh hlt
              go_wp2_with fail
              refine (HP1.out _).mono ?_
              rintro e w' ⟨rfl, hw'⟩; obtain rfl := hw'.symm
              go_wp2_with fail
              refine (HP2.out _).mono ?_
              rintro e w' ⟨rfl, hw'⟩; obtain rfl := hw'.symm
              go_wp2_with fail
              refine (HP3.out _).mono ?_
              rintro e w' ⟨rfl, hw'⟩; obtain rfl := hw'.symm
              go_wp2_with fail
              refine (HD3.out _).mono ?_
              rintro e w' ⟨rfl, hw'⟩; obtain rfl := hw'.symm
              go_wp2_with fail
              refine bodyPost_ret (v := .tuple #[.string ⟨#[]⟩, .int .i64 (k2 : Int), .bool false]) (by simp [results, Tryz.results46, go_sem, *]) rfl ?_
              rw [HN.out]
              exact ⟨rfl, hbel⟩
            | some d =>
              have HD3 := Lib.hid (rdigit_some _ d hh)
              have hd16 := hexv_lt hh
              have hdi : (d : Int) ≤ 15 := by omega
              have hdi0 : ¬ (d : Int) < 0 := by omega
              by_cases hdr : d < 2 ∨ 7 ≤ d
              · have hk2l := hexv_pk hh
                rw [lt_len] at hk2l
                obtain ⟨k3, hk3⟩ : ∃ k3, k2 + 1 = k3 := ⟨_, rfl⟩
                have hk3' : (k2 : Int) + 1 = (k3 : Int) := by omega
                have hs3 : R = qrun least most true (.hex2 d) C (s.data.toList.drop k3) k3 := by
                  rw [hs2, hstep2, qstep_hex1 _ _ _ _ d hh, if_pos hdr, hk3]
                have hstep3 := qrun_pk least most true (.hex2 d) C s.data.toList k3 (fun h => by simp [QSt.isWhole] at h)
                have HP4 := Lib.hid (fun w => rat_any s k3 w)
                clear hs2 hstep2 hh
                cases hl2 : hexv (pk s.data.toList k3) with
                | none =>
                  have HD4 := Lib.hid (rdigit_none _ hl2)
                  have HN : Hid (R = .bad k3) := Lib.hid (by rw [hs3, hstep3, qstep_hex2n _ _ _ _ _ hl2])
                  clear hs3 hstep3 hl2 hlt
                  by_cases hd2 : d < 2
                  · have hd2' : ¬ (2 : Int) ≤ (d : Int) := by omega
                    clear hdr hd2
                    go_wp2_with fail
                    refine (HP1.out _).mono ?_
                    rintro e w' ⟨rfl, hw'⟩; obtain rfl := hw'.symm
                    go_wp2_with fail
                    refine (HP2.out _).mono ?_
                    rintro e w' ⟨rfl, hw'⟩; obtain rfl := hw'.symm
                    go_wp2_with fail
                    refine (HP3.out _).mono ?_
                    rintro e w' ⟨rfl, hw'⟩; obtain rfl := hw'.symm
                    go_wp2_with fail
                    refine (HD3.out _).mono ?_
                    rintro e w' ⟨rfl, hw'⟩; obtain rfl := hw'.symm
                    go_wp2_with fail
                    refine (HP4.out _).mono ?_
                    rintro e w' ⟨rfl, hw'⟩; obtain rfl := hw'.symm
                    go_wp2_with fail
                    refine (HD4.out _).mono ?_
                    rintro e w' ⟨rfl, hw'⟩; obtain rfl := hw'.symm
                    go_wp2_with fail
                    refine bodyPost_ret (v := .tuple #[.string ⟨#[]⟩, .int .i64 (k3 : Int), .bool false]) (by simp [results, Tryz.results46, go_sem, *]) rfl ?_
                    rw [HN.out]
                    exact ⟨rfl, hbel⟩
                  · have hd2' : (2 : Int) ≤ (d : Int) := by omega
                    have hd6' : ¬ (d : Int) ≤ 6 := by omega
                    clear hdr hd2
                    go_wp2_with fail
                    refine (HP1.out _).mono ?_
                    rintro e w' ⟨rfl, hw'⟩; obtain rfl := hw'.symm
                    go_wp2_with fail
                    refine (HP2.out _).mono ?_
                    rintro e w' ⟨rfl, hw'⟩; obtain rfl := hw'.symm
                    go_wp2_with fail
                    refine (HP3.out _).mono ?_
                    rintro e w' ⟨rfl, hw'⟩; obtain rfl := hw'.symm
                    go_wp2_with fail
                    refine (HD3.out _).mono ?_
                    rintro e w' ⟨rfl, hw'⟩; obtain rfl := hw'.symm
                    go_wp2_with fail
                    refine (HP4.out _).mono ?_
                    rintro e w' ⟨rfl, hw'⟩; obtain rfl := hw'.symm
                    go_wp2_with fail
                    refine (HD4.out _).mono ?_
                    rintro e w' ⟨rfl, hw'⟩; obtain rfl := hw'.symm
                    go_wp2_with fail
                    refine bodyPost_ret (v := .tuple #[.string ⟨#[]⟩, .int .i64 (k3 : Int), .bool false]) (by simp [results, Tryz.results46, go_sem, *]) rfl ?_
                    rw [HN.out]
                    exact ⟨rfl, hbel⟩
                | some l =>
                  have HD4 := Lib.hid (rdigit_some _ l hl2)
                  have hl16 := hexv_lt hl2
                  have hk3l := hexv_pk hl2
                  rw [lt_len] at hk3l
                  have hli : (l : Int) ≤ 15 := by omega
                  have hli0 : ¬ (l : Int) < 0 := by omega
                  obtain ⟨k4, hk4⟩ : ∃ k4, k3 + 1 = k4 := ⟨_, rfl⟩
                  have hk4' : (k3 : Int) + 1 = (k4 : Int) := by omega
                  by_cases h7 : d = 7 ∧ l < 15
                  · have HN : Hid (R = .bad k3) := Lib.hid (by rw [hs3, hstep3, qstep_hex2 _ _ _ _ l d hl2, if_neg (by omega)])
                    have q7 : ((d : Int) == 7) = true := by rw [h7.1]; rfl
                    have l15 : (l : Int) < 15 := by omega
                    have hd2' : (2 : Int) ≤ (d : Int) := by omega
                    have hd6' : ¬ (d : Int) ≤ 6 := by omega
                    clear hs3 hstep3 hl2 hlt hdr h7
                    go_wp2_with fail
                    refine (HP1.out _).mono ?_
                    rintro e w' ⟨rfl, hw'⟩; obtain rfl := hw'.symm
                    go_wp2_with fail
                    refine (HP2.out _).mono ?_
                    rintro e w' ⟨rfl, hw'⟩; obtain rfl := hw'.symm
                    go_wp2_with fail
                    refine (HP3.out _).mono ?_
                    rintro e w' ⟨rfl, hw'⟩; obtain rfl := hw'.symm
                    go_wp2_with fail
                    refine (HD3.out _).mono ?_
                    rintro e w' ⟨rfl, hw'⟩; obtain rfl := hw'.symm
                    go_wp2_with fail
                    refine (HP4.out _).mono ?_
                    rintro e w' ⟨rfl, hw'⟩; obtain rfl := hw'.symm
                    go_wp2_with fail
                    refine (HD4.out _).mono ?_
                    rintro e w' ⟨rfl, hw'⟩; obtain rfl := hw'.symm
                    go_wp2_with fail
                    refine bodyPost_ret (v := .tuple #[.string ⟨#[]⟩, .int .i64 (k3 : Int), .bool false]) (by simp [results, Tryz.results46, go_sem, *]) rfl ?_
                    rw [HN.out]
                    exact ⟨rfl, hbel⟩
                  · have hx8 : ((UInt8.ofNat (d * 16 + l)).toNat : Int) = (d : Int) * 16 + (l : Int) := by simp; omega
                    have HN : Hid (R = qrun least most true .whole (C ++ [UInt8.ofNat (d * 16 + l)]) (s.data.toList.drop k4) k4) := Lib.hid (by
                      rw [hs3, hstep3, qstep_hex2 _ _ _ _ l d hl2, if_pos (by omega), hk4])
                    have hcv : (convert 43 9 (.slice (some ⟨wr.heap.size, 0, none⟩) 1 1)).run Tryz.prog (wr.alloc (.cells #[.int .u8 ((d : Int) * 16 + (l : Int))] 5)) = .ok (.string (str [UInt8.ofNat (d * 16 + l)])) (wr.alloc (.cells #[.int .u8 ((d : Int) * 16 + (l : Int))] 5)) := by
                      rw [← hx8]
                      exact one_str wr _
                    obtain ⟨X, hX⟩ : ∃ X, str [UInt8.ofNat (d * 16 + l)] = X := ⟨_, rfl⟩
                    rw [hX] at hcv
                    have hX1 : X.size = 1 := by rw [← hX]; rfl
                    have hadd : ∀ w, (Op.stringOp .add (str C) X).run Tryz.prog w = .ok (.string (str C ++ X)) w := fun w => run_string_add_sum w (str C) X (by rw [hsz, hX1]; omega)
                    have HX : Hid (str C ++ X = str (C ++ [UInt8.ofNat (d * 16 + l)])) := Lib.hid (by rw [← hX, lt_app])
                    have HF := Lib.hid (show C.length + 1 ≤ most from hlt)
                    have HFK := Lib.hid (show C.length + 1 ≤ k4 by omega)
                    have HKS := Lib.hid (show k4 ≤ s.size by omega)
                    have HB2 := Lib.hid (hbel.alloc hbel.size (.cells #[.int .u8 ((d : Int) * 16 + (l : Int))] 5))
                    by_cases hd2 : d < 2
                    · have hd2' : ¬ (2 : Int) ≤ (d : Int) := by omega
                      have q7 : ((d : Int) == 7) = false := by rw [beq_eq_false_iff_ne]; omega
                      clear hs3 hstep3 hl2 hlt hdr h7 hd2 hX hx8
                      go_wp2_with fail
                      refine (HP1.out _).mono ?_
                      rintro e w' ⟨rfl, hw'⟩; obtain rfl := hw'.symm
                      go_wp2_with fail
                      refine (HP2.out _).mono ?_
                      rintro e w' ⟨rfl, hw'⟩; obtain rfl := hw'.symm
                      go_wp2_with fail
                      refine (HP3.out _).mono ?_
                      rintro e w' ⟨rfl, hw'⟩; obtain rfl := hw'.symm
                      go_wp2_with fail
                      refine (HD3.out _).mono ?_
                      rintro e w' ⟨rfl, hw'⟩; obtain rfl := hw'.symm
                      go_wp2_with fail
                      refine (HP4.out _).mono ?_
                      rintro e w' ⟨rfl, hw'⟩; obtain rfl := hw'.symm
                      go_wp2_with fail
                      refine (HD4.out _).mono ?_
                      rintro e w' ⟨rfl, hw'⟩; obtain rfl := hw'.symm
                      go_wp2_with fail
                      go_roundw
                      case rel => exact ⟨k4, C ++ [UInt8.ofNat (d * 16 + l)], rfl, by rw [HX.out], HKS.out, by rw [List.length_append]; exact HFK.out, by rw [List.length_append]; exact HF.out, HN, HB2.out⟩
                      case measure => simp [intOf]; omega
                    · have hd2' : (2 : Int) ≤ (d : Int) := by omega
                      have hd6' : ¬ (d : Int) ≤ 6 := by omega
                      cases q7 : ((d : Int) == 7)
                      · clear hs3 hstep3 hl2 hlt hdr h7 hd2 hX hx8
                        go_wp2_with fail
                        refine (HP1.out _).mono ?_
                        rintro e w' ⟨rfl, hw'⟩; obtain rfl := hw'.symm
                        go_wp2_with fail
                        refine (HP2.out _).mono ?_
                        rintro e w' ⟨rfl, hw'⟩; obtain rfl := hw'.symm
                        go_wp2_with fail
                        refine (HP3.out _).mono ?_
                        rintro e w' ⟨rfl, hw'⟩; obtain rfl := hw'.symm
                        go_wp2_with fail
                        refine (HD3.out _).mono ?_
                        rintro e w' ⟨rfl, hw'⟩; obtain rfl := hw'.symm
                        go_wp2_with fail
                        refine (HP4.out _).mono ?_
                        rintro e w' ⟨rfl, hw'⟩; obtain rfl := hw'.symm
                        go_wp2_with fail
                        refine (HD4.out _).mono ?_
                        rintro e w' ⟨rfl, hw'⟩; obtain rfl := hw'.symm
                        go_wp2_with fail
                        go_roundw
                        case rel => exact ⟨k4, C ++ [UInt8.ofNat (d * 16 + l)], rfl, by rw [HX.out], HKS.out, by rw [List.length_append]; exact HFK.out, by rw [List.length_append]; exact HF.out, HN, HB2.out⟩
                        case measure => simp [intOf]; omega
                      · have l15 : ¬ (l : Int) < 15 := by
                          rw [beq_iff_eq] at q7
                          omega
                        clear hs3 hstep3 hl2 hlt hdr h7 hd2 hX hx8
                        go_wp2_with fail
                        refine (HP1.out _).mono ?_
                        rintro e w' ⟨rfl, hw'⟩; obtain rfl := hw'.symm
                        go_wp2_with fail
                        refine (HP2.out _).mono ?_
                        rintro e w' ⟨rfl, hw'⟩; obtain rfl := hw'.symm
                        go_wp2_with fail
                        refine (HP3.out _).mono ?_
                        rintro e w' ⟨rfl, hw'⟩; obtain rfl := hw'.symm
                        go_wp2_with fail
                        refine (HD3.out _).mono ?_
                        rintro e w' ⟨rfl, hw'⟩; obtain rfl := hw'.symm
                        go_wp2_with fail
                        refine (HP4.out _).mono ?_
                        rintro e w' ⟨rfl, hw'⟩; obtain rfl := hw'.symm
                        go_wp2_with fail
                        refine (HD4.out _).mono ?_
                        rintro e w' ⟨rfl, hw'⟩; obtain rfl := hw'.symm
                        go_wp2_with fail
                        go_roundw
                        case rel => exact ⟨k4, C ++ [UInt8.ofNat (d * 16 + l)], rfl, by rw [HX.out], HKS.out, by rw [List.length_append]; exact HFK.out, by rw [List.length_append]; exact HF.out, HN, HB2.out⟩
                        case measure => simp [intOf]; omega
              · have HN : Hid (R = .bad k2) := Lib.hid (by rw [hs2, hstep2, qstep_hex1 _ _ _ _ d hh, if_neg hdr])
                have hd2' : (2 : Int) ≤ (d : Int) := by omega
                have hd6' : (d : Int) ≤ 6 := by omega
                clear hs2 hstep2 hh hlt hdr
                go_wp2_with fail
                refine (HP1.out _).mono ?_
                rintro e w' ⟨rfl, hw'⟩; obtain rfl := hw'.symm
                go_wp2_with fail
                refine (HP2.out _).mono ?_
                rintro e w' ⟨rfl, hw'⟩; obtain rfl := hw'.symm
                go_wp2_with fail
                refine (HP3.out _).mono ?_
                rintro e w' ⟨rfl, hw'⟩; obtain rfl := hw'.symm
                go_wp2_with fail
                refine (HD3.out _).mono ?_
                rintro e w' ⟨rfl, hw'⟩; obtain rfl := hw'.symm
                go_wp2_with fail
                refine bodyPost_ret (v := .tuple #[.string ⟨#[]⟩, .int .i64 (k2 : Int), .bool false]) (by simp [results, Tryz.results46, go_sem, *]) rfl ?_
                rw [HN.out]
                exact ⟨rfl, hbel⟩
          · have HN : Hid (R = .bad k1) := Lib.hid (by
              rw [hs1, hstep1]
              simp only [qstep]
              rw [if_neg he, if_neg hx])
            cases any with
            | false =>
              clear HE hq hstep hfull hlt hpr h92 hs1 hstep1 he hx
              go_wp2_with fail
              refine (HP1.out _).mono ?_
              rintro e w' ⟨rfl, hw'⟩; obtain rfl := hw'.symm
              go_wp2_with fail
              refine (HP2.out _).mono ?_
              rintro e w' ⟨rfl, hw'⟩; obtain rfl := hw'.symm
              go_wp2_with fail
              refine bodyPost_ret (v := .tuple #[.string ⟨#[]⟩, .int .i64 (k1 : Int), .bool false]) (by simp [results, Tryz.results46, go_sem, *]) rfl ?_
              rw [HN.out]
              exact ⟨rfl, hbel⟩
            | true =>
              have ex : ((pk s.data.toList k1 : Int) != 120) = true := by rw [bne_iff_ne]; intro h; exact hx ⟨by omega, rfl⟩
              clear HE hq hstep hfull hlt hpr h92 hs1 hstep1 he hx
              go_wp2_with fail
              refine (HP1.out _).mono ?_
              rintro e w' ⟨rfl, hw'⟩; obtain rfl := hw'.symm
              go_wp2_with fail
              refine (HP2.out _).mono ?_
              rintro e w' ⟨rfl, hw'⟩; obtain rfl := hw'.symm
              go_wp2_with fail
              refine bodyPost_ret (v := .tuple #[.string ⟨#[]⟩, .int .i64 (k1 : Int), .bool false]) (by simp [results, Tryz.results46, go_sem, *]) rfl ?_
              rw [HN.out]
              exact ⟨rfl, hbel⟩
        · have q92 : ((pk s.data.toList k : Int) != 92) = true := by rw [bne_iff_ne]; omega
          obtain ⟨X, hX⟩ : ∃ X, s.extract k k1 = X := ⟨_, rfl⟩
          have hXs : X = str [s[k]'hkl] := by rw [← hX, ← hk1]; exact sub_str s k hkl
          have hX1 : X.size = 1 := by rw [hXs]; rfl
          have hadd : ∀ w, (Op.stringOp .add (str C) X).run Tryz.prog w = .ok (.string (str C ++ X)) w := fun w => run_string_add_sum w (str C) X (by rw [hsz, hX1]; omega)
          have HN : Hid (R = qrun least most any .whole (C ++ [s[k]'hkl]) (s.data.toList.drop k1) k1) := Lib.hid (by
            rw [HE.out, hstep]
            simp only [qstep]
            rw [if_neg h92, if_pos ⟨hq, hpr.1, hpr.2, hlt⟩, hk1]
            show qrun _ _ _ _ (C ++ [UInt8.ofNat (pk s.data.toList k)]) _ _ = _
            rw [pk_in s k hkl, ofNat_of])
          have HX : Hid (str C ++ X = str (C ++ [s[k]'hkl])) := Lib.hid (by rw [hXs, lt_app])
          have HF := Lib.hid (show C.length + 1 ≤ most from hlt)
          have HFK := Lib.hid (show C.length + 1 ≤ k1 by omega)
          clear HE hq hstep hfull hlt hpr h92 hXs
          go_wp2_with fail
          refine (HP1.out _).mono ?_
          rintro e w' ⟨rfl, hw'⟩; obtain rfl := hw'.symm
          go_wp2_with fail
          go_roundw
          case rel => exact ⟨k1, C ++ [s[k]'hkl], rfl, by rw [HX.out], by omega, by rw [List.length_append]; exact HFK.out, by rw [List.length_append]; exact HF.out, HN, hbel⟩
          case measure => simp [intOf]; omega
      · have HN : Hid (R = .bad k) := Lib.hid (by
          rw [HE.out, hstep]
          have : qstep most any C (pk s.data.toList k) .whole = none := by
            simp only [qstep]
            rw [if_neg (by omega), if_neg (by omega)]
          rw [this])
        by_cases hlow : pk s.data.toList k < 32
        · have hlo : (pk s.data.toList k : Int) < 32 := by omega
          clear HE hq hstep hfull hlt hpr hlow
          go_wp2_with fail
          refine (HP1.out _).mono ?_
          rintro e w' ⟨rfl, hw'⟩; obtain rfl := hw'.symm
          go_wp2_with fail
          refine bodyPost_ret (v := .tuple #[.string ⟨#[]⟩, .int .i64 (k : Int), .bool false]) (by simp [results, Tryz.results46, go_sem, *]) rfl ?_
          rw [HN.out]
          exact ⟨rfl, hbel⟩
        · have hlo : ¬ (pk s.data.toList k : Int) < 32 := by omega
          have hhi : (126 : Int) < (pk s.data.toList k : Int) := by omega
          clear HE hq hstep hfull hlt hpr hlow
          go_wp2_with fail
          refine (HP1.out _).mono ?_
          rintro e w' ⟨rfl, hw'⟩; obtain rfl := hw'.symm
          go_wp2_with fail
          refine bodyPost_ret (v := .tuple #[.string ⟨#[]⟩, .int .i64 (k : Int), .bool false]) (by simp [results, Tryz.results46, go_sem, *]) rfl ?_
          rw [HN.out]
          exact ⟨rfl, hbel⟩
  · rw [if_neg h34]
    have q34 : ((pk s.data.toList i : Int) != 34) = true := by rw [bne_iff_ne]; omega
    clear h34
    go_enter Tryz.func46, Tryz.ntmps46
    go_wp2_with fail
    refine (HP0.out _).mono ?_
    rintro e w' ⟨rfl, hw'⟩; obtain rfl := hw'.symm
    go_wp2_with fail
    refine bodyPost_ret (v := .tuple #[.string ⟨#[]⟩, .int .i64 (i : Int), .bool false]) (by simp [results, Tryz.results46, go_sem, *]) rfl ?_
    exact ⟨rfl, Below.refl _ _⟩

end Go.Proofs.YtmbmlcnipncgnaaGreatDoor
