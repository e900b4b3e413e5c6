/-
  The walks of ListsParts and ListsTotals. Nothing is assumed.
-/
import Derived.Test.YtohooejljbddmaaLsLawB
namespace Go.Proofs.Ytohooejljbddmaa
open Go.RowKit

theorem app_tk_dr (l : List Int) (n : Int) (h : l.length ≤ 16) : apL (tk l n) (dr l n) = l ∧ apE (tk l n) (dr l n) = 0 := by
  have hl : (tk l n).length + (dr l n).length ≤ 16 := by
    have := congrArg List.length (tk_dr l n)
    rw [List.length_append] at this
    omega
  unfold apL apE
  rw [if_pos hl, if_pos hl]
  exact ⟨tk_dr l n, rfl⟩
theorem srt_mx (l : List Int) (h : 0 < l.length) : (srt l)[l.length - 1]? = some (mxV l) ∧ (srt l)[0]? = some (mnV l) ∧ mxE l = 0 ∧ mnE l = 0 := by
  obtain ⟨h1, h2⟩ := mx_el l h
  obtain ⟨h3, h4⟩ := mn_el l h
  unfold mxV mnV mxE mnE
  rw [h1, h3]
  refine ⟨?_, ?_, h2, h4⟩
  · unfold mxL
    have hlt : l.length - 1 < (srt l).length := by rw [srt_len]; omega
    simp [hlt]
  · unfold mnL
    have hlt : 0 < (srt l).length := by rw [srt_len]; omega
    simp [hlt]

set_option maxRecDepth 100000 in
set_option maxHeartbeats 3200000 in
theorem lawParts_any (x0 : Value) (l0 : List Int) (k : Int) (w : World) (hx0 : HoldsI w w.heap.size x0 l0) (hw0 : I64L l0) :
    Calls Try.prog 10 #[x0, .int .i64 k] w fun e w' => e = .returned (.bool true) ∧ Below w.heap.size w w' := by
  have HX0 := Lib.hid hx0
  have HI0 := Lib.hid hw0
  clear hw0
  obtain ⟨oa0, ca0, rfl, _, _, hel0⟩ := hx0
  clear hel0
  by_cases hl0 : 16 < (l0.length : Int)
  · go_enter Try.func10, Try.ntmps10
    go_wp2_with fail
    refine (alive_any _).mono ?_
    rintro e w1 ⟨rfl, hb1⟩
    go_wp2_with fail
    go_ret
    exact ⟨rfl, hb1⟩
  have hn0 : l0.length ≤ 16 := by omega
  go_enter Try.func10, Try.ntmps10
  have hB0 : Below w.heap.size w w := Below.refl _ _
  go_wp2_with fail
  refine (take_any _ l0 k _ _ (HX0.out.later hB0) hB0.size (by omega)).mono ?_
  rintro e w1 ⟨⟨va, rfl, ho1⟩, hb1⟩
  have Ha := Lib.hid ho1.holds
  clear ho1
  have hB1 := hB0.trans (hb1.mono hB0.size)
  clear hb1
  go_wp2_with fail
  refine (drop_any _ l0 k _ _ (HX0.out.later hB1) hB1.size (by omega)).mono ?_
  rintro e w2 ⟨⟨vb, rfl, ho2⟩, hb2⟩
  have Ha := Lib.hid (Ha.out.on hb2)
  have Hb := Lib.hid ho2.holds
  clear ho2
  have hB2 := hB1.trans (hb2.mono hB1.size)
  clear hb2
  have hap := app_tk_dr l0 k hn0
  have HAC := Lib.hid (append_any _ _ (tk l0 k) (dr l0 k) _ _ Ha.out Hb.out (Nat.le_refl _) (by have := tk_len l0 k; omega) (by have := dr_len l0 k; omega))
  rw [hap.1, hap.2] at HAC
  clear hap
  go_wp2_with fail
  refine (HAC.out).mono ?_
  rintro e w3 ⟨⟨vc, rfl, ho3⟩, hb3⟩
  have Ha := Lib.hid (Ha.out.on hb3)
  have Hb := Lib.hid (Hb.out.on hb3)
  have Hc := Lib.hid ho3.holds
  clear ho3
  have hB3 := hB2.trans (hb3.mono hB2.size)
  clear hb3
  clear Ha Hb HAC
  go_wp2_with fail
  refine (same_yes _ _ _ _ Hc.out (HX0.out.on hB3) (by omega)).mono ?_
  rintro e w4 ⟨rfl, hb4⟩
  have Hc := Lib.hid (Hc.out.on hb4)
  have hB4 := hB3.trans (hb4.mono hB3.size)
  clear hb4
  clear Hc
  go_wp2_with fail
  refine (reverse_any _ l0 _ _ (HX0.out.later hB4) hB4.size (by omega)).mono ?_
  rintro e w5 ⟨⟨va, rfl, ho5⟩, hb5⟩
  have Ha := Lib.hid ho5.holds
  clear ho5
  have hB5 := hB4.trans (hb5.mono hB4.size)
  clear hb5
  have HAC := Lib.hid (reverse_any _ _ _ _ Ha.out (Nat.le_refl _) (by simp; omega))
  rw [List.reverse_reverse] at HAC
  go_wp2_with fail
  refine (HAC.out).mono ?_
  rintro e w6 ⟨⟨vb, rfl, ho6⟩, hb6⟩
  have Ha := Lib.hid (Ha.out.on hb6)
  have Hb := Lib.hid ho6.holds
  clear ho6
  have hB6 := hB5.trans (hb6.mono hB5.size)
  clear hb6
  clear Ha HAC
  go_wp2_with fail
  refine (same_yes _ _ _ _ Hb.out (HX0.out.on hB6) (by omega)).mono ?_
  rintro e w7 ⟨rfl, hb7⟩
  have Hb := Lib.hid (Hb.out.on hb7)
  have hB7 := hB6.trans (hb7.mono hB6.size)
  clear hb7
  clear Hb
  go_wp2_with fail
  refine (sort_any _ l0 _ _ (HX0.out.later hB7) hB7.size (by omega)).mono ?_
  rintro e w8 ⟨⟨vs, rfl, ho8⟩, hb8⟩
  have Hs := Lib.hid ho8.holds
  clear ho8
  have hB8 := hB7.trans (hb8.mono hB7.size)
  clear hb8
  go_wp2_with fail
  refine (reverse_any _ l0 _ _ (HX0.out.later hB8) hB8.size (by omega)).mono ?_
  rintro e w9 ⟨⟨va, rfl, ho9⟩, hb9⟩
  have Hs := Lib.hid (Hs.out.on hb9)
  have Ha := Lib.hid ho9.holds
  clear ho9
  have hB9 := hB8.trans (hb9.mono hB8.size)
  clear hb9
  have HAC := Lib.hid (sort_any _ _ _ _ Ha.out (Nat.le_refl _) (by simp; omega))
  rw [srt_rev] at HAC
  go_wp2_with fail
  refine (HAC.out).mono ?_
  rintro e w10 ⟨⟨vb, rfl, ho10⟩, hb10⟩
  have Hs := Lib.hid (Hs.out.on hb10)
  have Ha := Lib.hid (Ha.out.on hb10)
  have Hb := Lib.hid ho10.holds
  clear ho10
  have hB10 := hB9.trans (hb10.mono hB9.size)
  clear hb10
  clear Ha HAC
  go_wp2_with fail
  refine (same_yes _ _ _ _ Hb.out Hs.out (by rw [srt_len]; omega)).mono ?_
  rintro e w11 ⟨rfl, hb11⟩
  have Hs := Lib.hid (Hs.out.on hb11)
  have Hb := Lib.hid (Hb.out.on hb11)
  have hB11 := hB10.trans (hb11.mono hB10.size)
  clear hb11
  clear Hb
  have HAC := Lib.hid (sort_any _ _ _ _ Hs.out (Nat.le_refl _) (by rw [srt_len]; omega))
  rw [srt_idem] at HAC
  go_wp2_with fail
  refine (HAC.out).mono ?_
  rintro e w12 ⟨⟨vb, rfl, ho12⟩, hb12⟩
  have Hs := Lib.hid (Hs.out.on hb12)
  have Hb := Lib.hid ho12.holds
  clear ho12
  have hB12 := hB11.trans (hb12.mono hB11.size)
  clear hb12
  clear HAC
  obtain ⟨os, cs, hvs, hs1, hs2, hS⟩ := Hs.out.form (srt_len l0)
  subst hvs
  have HS := Lib.hid hS
  clear hS Hs
  go_wp2_with fail
  refine (same_yes _ _ _ _ Hb.out HS.out (by rw [srt_len]; omega)).mono ?_
  rintro e w13 ⟨rfl, hb13⟩
  have Hb := Lib.hid (Hb.out.on hb13)
  have HS := Lib.hid (HS.out.on hb13)
  have hB13 := hB12.trans (hb13.mono hB12.size)
  clear hb13
  clear Hb
  go_wp2_with fail
  go_loopw [8] (fun j wr => ∃ i : Nat, 1 ≤ i ∧ i ≤ l0.length + 1 ∧ j = .int .i64 i ∧ Below w13.heap.size w13 wr) (fun j _ => l0.length + 1 - (intOf j).toNat)
  case atStart => exact ⟨1, Nat.le_refl _, by omega, rfl, Below.refl _ _⟩
  case round =>
    obtain ⟨i, hi1, hi2, rfl, hbel⟩ := hrel
    have hsl := srt_len l0
    by_cases hlt : i < l0.length
    · obtain ⟨q, rfl⟩ : ∃ q, i = q + 1 := ⟨i - 1, by omega⟩
      have hq0 : q < (srt l0).length := by omega
      have hq1 : q + 1 < (srt l0).length := by omega
      obtain ⟨b, off, rfl, hb, c0⟩ := HS.out.at_ (List.getElem?_eq_getElem hq0)
      obtain ⟨b', off', he, _, c1⟩ := HS.out.at_ (List.getElem?_eq_getElem hq1)
      cases he
      rw [← hbel.cell (p := ⟨b, _, none⟩) hb] at c0 c1
      have hle : (srt l0)[q] ≤ (srt l0)[q + 1] := srt_le l0 q (q + 1) _ _ (by omega) (List.getElem?_eq_getElem hq0) (List.getElem?_eq_getElem hq1)
      generalize (srt l0)[q] = y0 at c0 hle
      generalize (srt l0)[q + 1] = y1 at c1 hle
      have hqi0 : (0 : Int) ≤ (q : Int) := by omega
      have hqi1 : (q : Int) < (l0.length : Int) := by omega
      have hqi2 : (q : Int) + 1 < (l0.length : Int) := by omega
      clear hsl hq0 hq1
      go_wp2_with fail
      go_quiet (fail)
      go_wp2_with fail
      go_roundw
      case rel => exact ⟨q + 2, by omega, by omega, by go_num, hbel.trans (below_drewN _ _ _)⟩
      case measure => simp [intOf]; omega
    · have HS := Lib.hid (HS.out.on hbel)
      have hB14 := hB13.trans (hbel.mono hB13.size)
      by_cases hl0z : l0.length = 0
      · have hzi : ((l0.length : Int) == 0) = true := by rw [hl0z]; rfl
        clear hsl
        go_wp2_with fail
        refine (alive_any _).mono ?_
        rintro e w15 ⟨rfl, hb15⟩
        have HS := Lib.hid (HS.out.on hb15)
        have hB15 := hB14.trans (hb15.mono hB14.size)
        clear hb15
        go_wp2_with fail
        go_ret
        exact ⟨rfl, hB15⟩
      · have hzi : ((l0.length : Int) == 0) = false := beq_eq_false_iff_ne.2 (by omega)
        obtain ⟨q, hq⟩ : ∃ q, l0.length = q + 1 := ⟨l0.length - 1, by omega⟩
        have HMX := Lib.hid (srt_mx l0 (by omega))
        have hqi : (l0.length : Int) - 1 = (q : Int) := by omega
        have hq1 : l0.length - 1 = q := by omega
        have hqi0 : (0 : Int) ≤ (q : Int) := by omega
        have hqi1 : (q : Int) < (l0.length : Int) := by omega
        have hqi2 : (0 : Int) < (l0.length : Int) := by omega
        rw [hq1] at HMX
        have HCP := Lib.hid (cnt_perm (srt_perm l0) (mnV l0))
        have HQ := Lib.hid hq
        have HQI := Lib.hid hqi
        clear hsl hq hqi hq1
        go_wp2_with fail
        refine (min_any _ l0 _ _ (HX0.out.on hB14) (by omega)).mono ?_
        rintro e w15 ⟨rfl, hb15⟩
        have HS := Lib.hid (HS.out.on hb15)
        have hB15 := hB14.trans (hb15.mono hB14.size)
        clear hb15
        go_wp2_with fail
        refine (max_any _ l0 _ _ (HX0.out.on hB15) (by omega)).mono ?_
        rintro e w16 ⟨rfl, hb16⟩
        have HS := Lib.hid (HS.out.on hb16)
        have hB16 := hB15.trans (hb16.mono hB15.size)
        clear hb16
        obtain ⟨b, off, rfl, hbb, c0⟩ := HS.out.at_ HMX.out.2.1
        obtain ⟨b', off', he, _, c1⟩ := HS.out.at_ HMX.out.1
        cases he
        simp only [Nat.add_zero] at c0
        have he1 := HMX.out.2.2.1
        have he2 := HMX.out.2.2.2
        have hqi := HQI.out
        have HCA := Lib.hid (count_any _ (srt l0) (mnV l0) _ _ HS.out (by rw [srt_len]; omega))
        rw [HCP.out] at HCA
        go_wp2_with fail
        refine (HCA.out).mono ?_
        rintro e w17 ⟨rfl, hb17⟩
        have HS := Lib.hid (HS.out.on hb17)
        have hB17 := hB16.trans (hb17.mono hB16.size)
        clear hb17
        go_wp2_with fail
        refine (count_any _ l0 (mnV l0) _ _ (HX0.out.on hB17) (by omega)).mono ?_
        rintro e w18 ⟨rfl, hb18⟩
        have HS := Lib.hid (HS.out.on hb18)
        have hB18 := hB17.trans (hb18.mono hB17.size)
        clear hb18
        go_wp2_with fail
        refine (alive_any _).mono ?_
        rintro e w19 ⟨rfl, hb19⟩
        have HS := Lib.hid (HS.out.on hb19)
        have hB19 := hB18.trans (hb19.mono hB18.size)
        clear hb19
        go_wp2_with fail
        go_ret
        exact ⟨rfl, hB19⟩

theorem totals (l : List Int) (h : rnB l = true) (h0 : 0 < l.length) : smV l = sumK l l.length ∧ smE l = 0 := by
  unfold rnB at h
  rw [Bool.and_eq_true] at h
  have hp : perm (sumK l (l.length - 1 + 1)) = true := okL_at h.2 (runK_at l l.length (l.length - 1) (by omega))
  rw [show l.length - 1 + 1 = l.length by omega] at hp
  unfold smV smE
  rw [h.1, hp]
  exact ⟨rfl, rfl⟩
theorem totals_bd (l : List Int) (h : rnB l = true) (k : Nat) (hk : k < l.length) : perm (sumK l (k + 1)) = true := by
  unfold rnB at h
  rw [Bool.and_eq_true] at h
  exact okL_at h.2 (runK_at l l.length k hk)

set_option maxRecDepth 100000 in
set_option maxHeartbeats 3200000 in
theorem lawTotals_any (x0 : Value) (l0 : List Int) (w : World) (hx0 : HoldsI w w.heap.size x0 l0) (hw0 : I64L l0) :
    Calls Try.prog 11 #[x0] w fun e w' => e = .returned (.bool true) ∧ Below w.heap.size w w' := by
  have HX0 := Lib.hid hx0
  have HI0 := Lib.hid hw0
  clear hw0
  obtain ⟨oa0, ca0, rfl, _, _, hel0⟩ := hx0
  clear hel0
  by_cases hl0 : 60 < (l0.length : Int)
  · go_enter Try.func11, Try.ntmps11
    go_wp2_with fail
    refine (alive_any _).mono ?_
    rintro e w1 ⟨rfl, hb1⟩
    go_wp2_with fail
    go_ret
    exact ⟨rfl, hb1⟩
  have hn0 : l0.length ≤ 60 := by omega
  by_cases hz : l0.length = 0
  · have hzi : ((l0.length : Int) == 0) = true := by rw [hz]; rfl
    clear hz
    go_enter Try.func11, Try.ntmps11
    go_wp2_with fail
    refine (alive_any _).mono ?_
    rintro e w1 ⟨rfl, hb1⟩
    go_wp2_with fail
    go_ret
    exact ⟨rfl, hb1⟩
  have hzi : ((l0.length : Int) == 0) = false := beq_eq_false_iff_ne.2 (by omega)
  have hpos : 0 < l0.length := by omega
  clear hz
  go_enter Try.func11, Try.ntmps11
  have hB0 : Below w.heap.size w w := Below.refl _ _
  have HRN := Lib.hid (running_any _ l0 _ _ (HX0.out.later hB0) hB0.size (by omega))
  cases hrn : rnB l0 with
  | false =>
    rw [hrn] at HRN
    clear hrn
    go_wp2_with fail
    refine HRN.out.mono ?_
    rintro e w1 ⟨⟨va, rfl, ho1⟩, hb1⟩
    obtain ⟨oa, ca, rfl, _, _, _⟩ := ho1.holds.form (n := 0) rfl
    clear ho1
    have hB1 := hB0.trans (hb1.mono hB0.size)
    go_wp2_with fail
    refine (alive_any _).mono ?_
    rintro e w2 ⟨rfl, hb2⟩
    have hB2 := hB1.trans (hb2.mono hB1.size)
    clear hb2
    go_wp2_with fail
    go_ret
    exact ⟨rfl, hB2⟩
  | true =>
    have HT := Lib.hid (totals l0 hrn hpos)
    have HTB := Lib.hid (totals_bd l0 hrn)
    rw [hrn, show rng true = 0 from rfl] at HRN
    clear hrn
    go_wp2_with fail
    refine HRN.out.mono ?_
    rintro e w1 ⟨⟨va, rfl, ho1⟩, hb1⟩
    have hrl : (yes true (runK l0 l0.length)).length = l0.length := runK_len l0 l0.length
    obtain ⟨os, cs, rfl, hs1, hs2, hS⟩ := ho1.holds.form hrl
    have HS : Hid (HoldsI w1 w1.heap.size (.slice os l0.length cs) (runK l0 l0.length)) := Lib.hid hS
    clear ho1 hS hrl
    have hB1 := hB0.trans (hb1.mono hB0.size)
    clear hb1
    have HSM := Lib.hid (sum_any _ l0 _ _ (HX0.out.on hB1) (by omega))
    rw [HT.out.1, HT.out.2] at HSM
    go_wp2_with fail
    refine (HSM.out).mono ?_
    rintro e w2 ⟨rfl, hb2⟩
    have HS := Lib.hid (HS.out.on hb2)
    have hB2 := hB1.trans (hb2.mono hB1.size)
    clear hb2
    obtain ⟨q, hq⟩ : ∃ q, l0.length = q + 1 := ⟨l0.length - 1, by omega⟩
    have hqi : (l0.length : Int) - 1 = (q : Int) := by omega
    have hqi0 : (0 : Int) ≤ (q : Int) := by omega
    have hqi1 : (q : Int) < (l0.length : Int) := by omega
    have hqi2 : (0 : Int) < (l0.length : Int) := by omega
    have hr0 := runK_at l0 l0.length 0 hpos
    rw [sumK_succ l0 0 hpos, show sumK l0 0 = 0 from rfl, Int.zero_add] at hr0
    have hrq := runK_at l0 l0.length q (by omega)
    rw [← hq] at hrq
    have HL := Lib.hid ((HX0.out.on hB2).at_ (List.getElem?_eq_getElem hpos))
    obtain ⟨b, off, rfl, hbb, c0⟩ := HS.out.at_ hr0
    obtain ⟨b', off', he, _, c1⟩ := HS.out.at_ hrq
    cases he
    obtain ⟨bl, ofl, rfl, hbl, cl⟩ := HL.out
    simp only [Nat.add_zero] at c0 cl
    generalize hg0 : l0[0] = y0 at c0 cl
    have HG0 := Lib.hid hg0
    generalize hgs : sumK l0 l0.length = s0 at c1 ⊢
    have HGS := Lib.hid hgs
    have HQ := Lib.hid hq
    clear hr0 hrq HSM HL hg0 hgs hq
    go_wp2_with fail
    go_quiet (fail)
    go_wp2_with fail
    go_loopw [7] (fun j wr => ∃ i : Nat, 1 ≤ i ∧ i ≤ l0.length + 1 ∧ j = .int .i64 i ∧ Below w2.heap.size w2 wr) (fun j _ => l0.length + 1 - (intOf j).toNat)
    case atStart => exact ⟨1, Nat.le_refl _, by omega, rfl, below_drewN _ _ _⟩
    case round =>
      obtain ⟨i, hi1, hi2, rfl, hbel⟩ := hrel
      clear c0 c1 cl hqi hqi0 hqi1
      by_cases hlt : i < l0.length
      · obtain ⟨p, rfl⟩ : ∃ p, i = p + 1 := ⟨i - 1, by omega⟩
        obtain ⟨b1, off1, he, _, c0⟩ := HS.out.at_ (runK_at l0 l0.length p (by omega))
        cases he
        obtain ⟨b1, off1, he, _, c1⟩ := HS.out.at_ (runK_at l0 l0.length (p + 1) hlt)
        cases he
        obtain ⟨b1, off1, he, _, cl⟩ := (HX0.out.on hB2).at_ (List.getElem?_eq_getElem hlt)
        cases he
        rw [← hbel.cell (p := ⟨b, _, none⟩) hbb] at c0 c1
        rw [← hbel.cell (p := ⟨bl, _, none⟩) hbl] at cl
        have hd := sumK_succ l0 (p + 1) hlt
        obtain ⟨t1, t2⟩ := perm_yes (HTB.out p (by omega))
        obtain ⟨t3, t4⟩ := perm_yes (HTB.out (p + 1) hlt)
        generalize sumK l0 (p + 1) = y0 at c0 hd t1 t2
        generalize sumK l0 (p + 1 + 1) = y1 at c1 hd t3 t4
        generalize l0[p + 1] = z0 at cl hd
        have hwr : IntKind.i64.wrap (y1 - y0) = z0 := by rw [IntWalk.i64_in _ (by omega)]; omega
        have hdd : y1 - y0 = z0 := by omega
        have hqi0 : (0 : Int) ≤ (p : Int) := by omega
        have hqi1 : (p : Int) < (l0.length : Int) := by omega
        have hqi3 : (p : Int) + 1 < (l0.length : Int) := by omega
        clear hd
        go_wp2_with fail
        go_quiet (fail)
        go_wp2_with fail
        go_roundw
        case rel => exact ⟨p + 2, by omega, by omega, by go_num, hbel.trans (below_drewN _ _ _)⟩
        case measure => simp [intOf]; omega
      · have hB3 := hB2.trans (hbel.mono hB2.size)
        go_wp2_with fail
        refine (alive_any _).mono ?_
        rintro e w4 ⟨rfl, hb4⟩
        go_wp2_with fail
        go_ret
        exact ⟨rfl, hB3.trans (hb4.mono hB3.size)⟩

end Go.Proofs.Ytohooejljbddmaa
