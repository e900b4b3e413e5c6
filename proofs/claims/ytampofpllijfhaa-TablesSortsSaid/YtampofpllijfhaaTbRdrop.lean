/-
  DropRow, DropColumn and Beside of the reference. Nothing is assumed.
-/
import Derived.Test.YtampofpllijfhaaTbDrow
import Derived.Test.YtampofpllijfhaaTbBes
import Derived.Test.YtampofpllijfhaaTbParts
import Derived.Test.YtampofpllijfhaaTbTrA
import Derived.Test.YtampofpllijfhaaTbSplit
namespace Go.Proofs.Ytampofpllijfhaa
open Go.RowKit

set_option maxRecDepth 100000 in
set_option maxHeartbeats 1600000 in
theorem rDropRow_any (x : Value) (t : List (List ByteArray)) (i : Int) (w : World) (B : Nat) (hx : HoldsT w (· < B) x t) (hB : B ≤ w.heap.size) (hi : I64 i) :
    Calls Try.prog 28 #[x, .int .i64 i] w fun e w' => RetTE w w' (drrV t i) (drrE t i) e ∧ Below w.heap.size w w' := by
  have HC := Lib.hid (rRow_any x t i w B hx hB hi)
  have HX := Lib.hid hx
  obtain ⟨oa, ca, rfl, hcap, _⟩ := hx.form
  clear hx
  by_cases hg : chkT t = 0 ∧ (idxO i t.length).isSome = true
  · obtain ⟨hc, hk⟩ := hg
    obtain ⟨k, hk⟩ := Option.isSome_iff_exists.1 hk
    have hkl := idxO_lt hk
    have h8 := (chkT_rows hc).1
    have HR8 : Hid (∀ r ∈ t, r.length ≤ 8) := Lib.hid (fun r hr => ((chkT_rows hc).2 r hr).2.2.1)
    obtain ⟨g1, g2⟩ := loc_goodR hc hk
    rw [g2] at HC
    have HE : Hid (drrE t i = 0 ∧ drrV t i = drpT k t) := Lib.hid ⟨g2, by unfold drrV; rw [if_pos (by exact g2), hk]; rfl⟩
    have HI : Hid (∀ w, Calls Try.prog 54 #[.int .i64 i, .int .i64 (t.length : Int)] w fun e w' => e = .returned (.int .i64 (k : Int)) ∧ w = w') := Lib.hid (fun w => by
      have h := rindex_any i t.length w hi (by omega)
      rw [ridx_some hk] at h
      exact h)
    clear hc hk g1 g2
    go_enter Try.func28, Try.ntmps28
    go_wp2_with fail
    refine HC.out.mono ?_
    rintro e w1 ⟨⟨v1, rfl, h1⟩, hb1⟩
    have HB1 := Lib.hid hb1
    have HW := Lib.hid (rwithout_any (.slice oa t.length ca) t k w1 B (HX.out.later (hb1.mono hB)) (Nat.le_trans hB hb1.size) hkl h8 HR8.out)
    clear h1 hb1
    go_wp2_with fail
    refine (HI.out _).mono ?_
    rintro e w' ⟨rfl, rfl⟩
    go_wp2_with fail
    refine HW.out.mono ?_
    rintro e w2 ⟨⟨v2, rfl, h2⟩, hb2⟩
    have H2 := Lib.hid h2
    obtain ⟨o2, c2, rfl, _, _⟩ := h2.form
    clear h2
    go_wp2_with fail
    go_ret2
    exact ⟨RetTE.mk (H2.out.keep (fun b hp _ => ⟨Nat.le_trans HB1.out.size hp.1, hp.2⟩) (fun _ _ _ _ => rfl)) HE.out.2.symm HE.out.1.symm, HB1.out.trans (hb2.mono HB1.out.size)⟩
  · obtain ⟨g1, g2⟩ := loc_badR hg
    have HE : Hid (drrE t i = locE (chkT t) i t.length ∧ drrV t i = []) := Lib.hid ⟨rfl, if_neg g2⟩
    obtain ⟨E, hE⟩ : ∃ E, locE (chkT t) i t.length = E := ⟨_, rfl⟩
    rw [hE] at HC HE g2
    have fc : (E != 0) = true := by rw [bne_iff_ne]; exact g2
    have HG := Lib.hid g2
    clear hE g1 g2 hg
    go_enter Try.func28, Try.ntmps28
    go_wp2_with fail
    refine HC.out.mono ?_
    rintro e w1 ⟨⟨v1, rfl, h1⟩, hb1⟩
    clear h1
    go_wp2_with fail
    go_ret2
    exact ⟨RetTE.nil HE.out.2 HE.out.1.symm, hb1⟩

set_option maxRecDepth 100000 in
set_option maxHeartbeats 1600000 in
theorem rDropColumn_any (x : Value) (t : List (List ByteArray)) (i : Int) (w : World) (B : Nat) (hx : HoldsT w (· < B) x t) (hB : B ≤ w.heap.size) (hi : I64 i) :
    Calls Try.prog 30 #[x, .int .i64 i] w fun e w' => RetTE w w' (drcV t i) (drcE t i) e ∧ Below w.heap.size w w' := by
  have HC := Lib.hid (rchk_any x t w B hx hB)
  have HX := Lib.hid hx
  obtain ⟨oa, ca, rfl, hcap, _⟩ := hx.form
  clear hx
  by_cases hc : chkT t = 0
  · have fc := neq_fT hc
    have hcl := colsT_le hc
    have HK := Lib.hid (fun w1 h => rcols_any (.slice oa t.length ca) t w1 (· < B) h)
    have HI := Lib.hid (fun w => rindex_any i (colsT t) w hi (by omega))
    cases hk : idxO i (colsT t) with
    | none =>
      have hl : locE (chkT t) i (colsT t) = 7 := by unfold locE; rw [if_pos hc]; exact (idx_none hk).2
      have HE : Hid (drcE t i = 7 ∧ drcV t i = []) := by
        have h : drcE t i = 7 := by unfold drcE; rw [hl]; rfl
        exact Lib.hid ⟨h, if_neg (by rw [h]; decide)⟩
      rw [ridx_none hk] at HI
      obtain ⟨n, hn⟩ : ∃ n, colsT t = n := ⟨_, rfl⟩
      rw [hn] at HK HI
      clear hc hk hl hn hcl
      go_enter Try.func30, Try.ntmps30
      go_wp2_with fail
      refine HC.out.mono ?_
      rintro e w1 ⟨rfl, hb1⟩
      have HB1 := Lib.hid hb1
      have HK1 := Lib.hid (HK.out w1 (HX.out.later (hb1.mono hB)))
      clear hb1
      go_wp2_with fail
      refine HK1.out.mono ?_
      rintro e w' ⟨rfl, rfl⟩
      go_wp2_with fail
      refine (HI.out _).mono ?_
      rintro e w' ⟨rfl, rfl⟩
      go_wp2_with fail
      go_ret2
      exact ⟨RetTE.nil HE.out.2 HE.out.1.symm, HB1.out⟩
    | some k =>
      have hkl := idxO_lt hk
      have hl : locE (chkT t) i (colsT t) = 0 := by unfold locE; rw [if_pos hc]; exact (idx_some hk).2
      have HE : Hid (drcE t i = if colsT t = 1 then 2 else 0) := Lib.hid (if_neg (by simp [hl]))
      have HVV : Hid (drcE t i = 0 → drcV t i = t.map (drpT k)) := Lib.hid (fun h => by unfold drcV; rw [if_pos h, hk]; rfl)
      have HVN : Hid (drcE t i ≠ 0 → drcV t i = []) := Lib.hid (fun h => if_neg h)
      have hpos : 0 < t.length := by
        cases t with
        | nil => exact absurd hkl (by simp [colsT])
        | cons r t => simp
      have HVA := Lib.hid (valid_of hc hpos)
      rw [ridx_some hk] at HI
      obtain ⟨n, hn⟩ : ∃ n, colsT t = n := ⟨_, rfl⟩
      rw [hn] at HK HI HE hkl hcl HVA
      clear hk hl
      have hki : ¬ (k : Int) < 0 := by omega
      by_cases h1 : (n : Int) = 1
      · have HEE : Hid (drcE t i = 2 ∧ drcV t i = []) := by
          have h : drcE t i = 2 := by rw [HE.out, if_pos (by omega)]
          exact Lib.hid ⟨h, HVN.out (by rw [h]; decide)⟩
        have hb1' : ((n : Int) == 1) = true := by rw [h1]; rfl
        clear h1 hc hn
        go_enter Try.func30, Try.ntmps30
        go_wp2_with fail
        refine HC.out.mono ?_
        rintro e w1 ⟨rfl, hb1⟩
        have HB1 := Lib.hid hb1
        have HK1 := Lib.hid (HK.out w1 (HX.out.later (hb1.mono hB)))
        clear hb1
        go_wp2_with fail
        refine HK1.out.mono ?_
        rintro e w' ⟨rfl, rfl⟩
        go_wp2_with fail
        refine (HI.out _).mono ?_
        rintro e w' ⟨rfl, rfl⟩
        go_wp2_with fail
        refine HK1.out.mono ?_
        rintro e w' ⟨rfl, rfl⟩
        go_wp2_with fail
        go_ret2
        exact ⟨RetTE.nil HEE.out.2 HEE.out.1.symm, HB1.out⟩
      · have HEE : Hid (drcE t i = 0 ∧ drcV t i = transT (drpT k (transT t))) := by
          have h : drcE t i = 0 := by rw [HE.out, if_neg (by omega)]
          exact Lib.hid ⟨h, by rw [HVV.out h, drop_col HVA.out hpos hkl (by omega)]⟩
        have hb1' : ((n : Int) == 1) = false := by rw [beq_eq_false_iff_ne]; exact h1
        have htl : (transT t).length = n := by rw [transT_ok hc, transK_len, hn]
        have htr : ∀ r ∈ transT t, r.length ≤ 8 := fun r hr => by
          rw [transT_ok hc] at hr
          obtain ⟨q, hq, rfl⟩ := List.getElem_of_mem hr
          rw [transK_len] at hq
          rw [transK_get _ _ _ hq, colOf_len]
          exact (chkT_rows hc).1
        obtain ⟨TR, hTR⟩ : ∃ TR, transT t = TR := ⟨_, rfl⟩
        have HT := Lib.hid (fun w B h hB => rTranspose_any (.slice oa t.length ca) t w B h hB)
        rw [hTR] at HEE htl htr HT
        have HTL := Lib.hid htl
        have HTR := Lib.hid htr
        clear h1 hTR htl htr hc hn
        go_enter Try.func30, Try.ntmps30
        go_wp2_with fail
        refine HC.out.mono ?_
        rintro e w1 ⟨rfl, hb1⟩
        have HB1 := Lib.hid hb1
        have HK1 := Lib.hid (HK.out w1 (HX.out.later (hb1.mono hB)))
        have HT1 := Lib.hid (HT.out w1 B (HX.out.later (hb1.mono hB)) (Nat.le_trans hB hb1.size))
        clear hb1
        go_wp2_with fail
        refine HK1.out.mono ?_
        rintro e w' ⟨rfl, rfl⟩
        go_wp2_with fail
        refine (HI.out _).mono ?_
        rintro e w' ⟨rfl, rfl⟩
        go_wp2_with fail
        refine HK1.out.mono ?_
        rintro e w' ⟨rfl, rfl⟩
        go_wp2_with fail
        refine HT1.out.mono ?_
        rintro e w2 ⟨⟨v2, rfl, h2⟩, hb2⟩
        have HB2 := Lib.hid (HB1.out.trans (hb2.mono HB1.out.size))
        have HW := Lib.hid (rwithout_any v2 TR k w2 w2.heap.size h2.all (Nat.le_refl _) (by rw [HTL.out]; exact hkl) (by rw [HTL.out]; exact hcl) HTR.out)
        obtain ⟨o2, c2, rfl, _, _⟩ := h2.form
        clear h2 hb2
        go_wp2_with fail
        refine HW.out.mono ?_
        rintro e w3 ⟨⟨v3, rfl, h3⟩, hb3⟩
        have HB3 := Lib.hid (HB2.out.trans (hb3.mono HB2.out.size))
        have HT2 := Lib.hid (rTranspose_any v3 (drpT k TR) w3 w3.heap.size h3.all (Nat.le_refl _))
        obtain ⟨o3, c3, rfl, _, _⟩ := h3.form
        clear h3 hb3
        go_wp2_with fail
        refine HT2.out.mono ?_
        rintro e w4 ⟨⟨v4, rfl, h4⟩, hb4⟩
        have H4 := Lib.hid h4
        obtain ⟨o4, c4, rfl, _, _⟩ := h4.form
        clear h4
        go_wp2_with fail
        go_ret2
        exact ⟨RetTE.mk (H4.out.keep (fun b hp _ => ⟨Nat.le_trans HB3.out.size hp.1, hp.2⟩) (fun _ _ _ _ => rfl)) HEE.out.2.symm HEE.out.1.symm, HB3.out.trans (hb4.mono HB3.out.size)⟩
  · have fc := neq_tT hc
    have HE : Hid (drcE t i = chkT t ∧ drcV t i = []) := by
      have hl : locE (chkT t) i (colsT t) = chkT t := if_neg hc
      have h : drcE t i = chkT t := by unfold drcE; rw [hl]; exact if_pos hc
      exact Lib.hid ⟨h, if_neg (by rw [h]; exact hc)⟩
    clear hc
    go_enter Try.func30, Try.ntmps30
    go_wp2_with fail
    refine HC.out.mono ?_
    rintro e w1 ⟨rfl, hb1⟩
    go_wp2_with fail
    go_ret2
    exact ⟨RetTE.nil HE.out.2 HE.out.1.symm, hb1⟩

set_option maxRecDepth 100000 in
set_option maxHeartbeats 1600000 in
theorem rBeside_any (x y : Value) (a b : List (List ByteArray)) (w : World) (B : Nat) (hx : HoldsT w (· < B) x a) (hy : HoldsT w (· < B) y b) (hB : B ≤ w.heap.size) :
    Calls Try.prog 40 #[x, y] w fun e w' => RetTE w w' (besV a b) (besE a b) e ∧ Below w.heap.size w w' := by
  have HC := Lib.hid (rboth_any x y a b w B hx hy hB)
  have HX := Lib.hid hx
  have HY := Lib.hid hy
  obtain ⟨oa, ca, rfl, _, _⟩ := hx.form
  obtain ⟨ob, cb, rfl, _, _⟩ := hy.form
  clear hx hy
  by_cases h : bothE a b = 0
  · have fc := neq_fT h
    obtain ⟨h1, h2⟩ := bothE_ok h
    by_cases hl : a.length = b.length
    · have hle : ((a.length : Int) != (b.length : Int)) = false := by rw [hl]; simp
      have hca8 := colsT_le h1
      have hcb8 := colsT_le h2
      have HKA := Lib.hid (fun w1 h => rcols_any (.slice oa a.length ca) a w1 (· < B) h)
      have HKB := Lib.hid (fun w1 h => rcols_any (.slice ob b.length cb) b w1 (· < B) h)
      by_cases h8 : 8 < colsT a + colsT b
      · have HV : Hid (besE a b = 2 ∧ besV a b = []) := Lib.hid ⟨besE_size h hl h8, besV_bad (by rw [besE_size h hl h8]; decide)⟩
        obtain ⟨na, hna⟩ : ∃ n, colsT a = n := ⟨_, rfl⟩
        obtain ⟨nb, hnb⟩ : ∃ n, colsT b = n := ⟨_, rfl⟩
        rw [hna] at HKA h8 hca8
        rw [hnb] at HKB h8 hcb8
        have i8 : (8 : Int) < (na : Int) + (nb : Int) := by omega
        clear h h1 h2 hl hna hnb h8
        go_enter Try.func40, Try.ntmps40
        go_wp2_with fail
        refine HC.out.mono ?_
        rintro e w1 ⟨rfl, hb1⟩
        have HB1 := Lib.hid hb1
        have HA1 := Lib.hid (HKA.out w1 (HX.out.later (hb1.mono hB)))
        have HA2 := Lib.hid (HKB.out w1 (HY.out.later (hb1.mono hB)))
        clear hb1
        go_wp2_with fail
        refine HA1.out.mono ?_
        rintro e w' ⟨rfl, rfl⟩
        go_wp2_with fail
        refine HA2.out.mono ?_
        rintro e w' ⟨rfl, rfl⟩
        go_wp2_with fail
        go_ret2
        exact ⟨RetTE.nil HV.out.2 HV.out.1.symm, HB1.out⟩
      · have HV : Hid (besE a b = 0 ∧ besV a b = transT (transT a ++ transT b)) := Lib.hid ⟨besE_ok h hl h8, by
          unfold besV
          rw [if_pos (besE_ok h hl h8)]
          by_cases hp : 0 < a.length
          · exact (beside_trans (valid_of h1 hp) (valid_of h2 (by omega)) hp hl (by omega)).symm
          · have ha : a = [] := List.eq_nil_of_length_eq_zero (by omega)
            have hb : b = [] := List.eq_nil_of_length_eq_zero (by omega)
            subst ha
            subst hb
            rfl⟩
        have HTA := Lib.hid (fun w B h hB => rTransA_any (.slice oa a.length ca) a w B h hB h1)
        have HTB := Lib.hid (fun w B h hB => rTransA_any (.slice ob b.length cb) b w B h hB h2)
        have hla : (transT a).length ≤ 8 := by rw [transT_ok h1, transK_len]; exact hca8
        have hlb : (transT b).length ≤ 8 := by rw [transT_ok h2, transK_len]; exact hcb8
        obtain ⟨na, hna⟩ : ∃ n, colsT a = n := ⟨_, rfl⟩
        obtain ⟨nb, hnb⟩ : ∃ n, colsT b = n := ⟨_, rfl⟩
        rw [hna] at HKA h8 hca8
        rw [hnb] at HKB h8 hcb8
        obtain ⟨A, hA⟩ : ∃ A, transT a = A := ⟨_, rfl⟩
        obtain ⟨D, hD⟩ : ∃ D, transT b = D := ⟨_, rfl⟩
        rw [hA] at HTA hla HV
        rw [hD] at HTB hlb HV
        have i8 : ¬ (8 : Int) < (na : Int) + (nb : Int) := by omega
        clear h h1 h2 hl hna hnb hA hD h8
        go_enter Try.func40, Try.ntmps40
        go_wp2_with fail
        refine HC.out.mono ?_
        rintro e w1 ⟨rfl, hb1⟩
        have HB1 := Lib.hid hb1
        have HA1 := Lib.hid (HKA.out w1 (HX.out.later (hb1.mono hB)))
        have HA2 := Lib.hid (HKB.out w1 (HY.out.later (hb1.mono hB)))
        clear hb1
        go_wp2_with fail
        refine HA1.out.mono ?_
        rintro e w' ⟨rfl, rfl⟩
        go_wp2_with fail
        refine HA2.out.mono ?_
        rintro e w' ⟨rfl, rfl⟩
        have HT1 := Lib.hid (HTA.out w1 B (HX.out.later (HB1.out.mono hB)) (Nat.le_trans hB HB1.out.size))
        go_wp2_with fail
        refine HT1.out.mono ?_
        rintro e w2 ⟨⟨v1, rfl, g1⟩, hb2⟩
        have hb02 := HB1.out.trans (hb2.mono HB1.out.size)
        have HT2 := Lib.hid (HTB.out w2 B (HY.out.later (hb02.mono hB)) (Nat.le_trans hB hb02.size))
        have H1 := Lib.hid g1
        have HB2 := Lib.hid hb2
        obtain ⟨o1, c1, rfl⟩ := g1.form
        clear g1 hb2 hb02
        go_wp2_with fail
        refine HT2.out.mono ?_
        rintro e w3 ⟨⟨v2, rfl, g2⟩, hb3⟩
        have HF : Hid (AccT w3 w1.heap.size (.slice o1 A.length c1) A ∧ HoldsT w3 (fun q => w1.heap.size ≤ q ∧ (Value.slice o1 A.length c1).ownBlock ≠ some q) v2 D ∧ Below w.heap.size w w3) := Lib.hid (by
          refine ⟨H1.out.later hb3, g2.holds.keep (fun q hp _ => ⟨by have := hp.1; have := HB2.out.size; omega, fun e => ?_⟩) (fun _ _ _ _ => rfl), HB1.out.trans ((HB2.out.trans (hb3.mono HB2.out.size)).mono HB1.out.size)⟩
          have := (H1.out.lt q e).2
          have := hp.1
          omega)
        obtain ⟨o2, c2, rfl⟩ := g2.form
        have hs3 : w1.heap.size ≤ w3.heap.size := Nat.le_trans HB2.out.size hb3.size
        clear g2 hb3
        go_wp2_with (at_builtin; refine AccT.appends rfl _ _ rfl w1.heap.size _ A rfl HF.out.1 o2 D.length c2 D rfl HF.out.2.1 ?c0 hs3 ?_)
        case c0 => omega
        intro v4 w4 g4 hg4
        have HB4 := Lib.hid (HF.out.2.2.grown hg4 (Nat.le_trans HB1.out.size hs3) (fun q hq => Nat.le_trans HB1.out.size (HF.out.1.lt q hq).1))
        obtain ⟨AD, hAD⟩ : ∃ AD, A ++ D = AD := ⟨_, rfl⟩
        rw [hAD] at g4 HV
        clear hAD
        have HT3 := Lib.hid (rTranspose_any v4 AD w4 w4.heap.size g4.holds.all (Nat.le_refl _))
        obtain ⟨o4, c4, rfl⟩ : ∃ o4 c4, v4 = .slice o4 AD.length c4 := g4.form
        clear g4 hg4
        go_wp2_with fail
        refine HT3.out.mono ?_
        rintro e w5 ⟨⟨v5, rfl, g5⟩, hb5⟩
        have H5 := Lib.hid g5
        obtain ⟨o5, c5, rfl, _, _⟩ := g5.form
        clear g5
        go_wp2_with fail
        go_ret2
        exact ⟨RetTE.mk (H5.out.keep (fun q hp _ => ⟨Nat.le_trans HB4.out.size hp.1, hp.2⟩) (fun _ _ _ _ => rfl)) HV.out.2.symm HV.out.1.symm, HB4.out.trans (hb5.mono HB4.out.size)⟩
    · have HV : Hid (besE a b = 4 ∧ besV a b = []) := Lib.hid ⟨besE_form h hl, besV_bad (by rw [besE_form h hl]; decide)⟩
      have hle : ((a.length : Int) != (b.length : Int)) = true := by rw [bne_iff_ne]; omega
      clear h h1 h2 hl
      go_enter Try.func40, Try.ntmps40
      go_wp2_with fail
      refine HC.out.mono ?_
      rintro e w1 ⟨rfl, hb1⟩
      go_wp2_with fail
      go_ret2
      exact ⟨RetTE.nil HV.out.2 HV.out.1.symm, hb1⟩
  · have fc := neq_tT h
    have HV : Hid (besE a b = bothE a b ∧ besV a b = []) := Lib.hid ⟨besE_both h, besV_bad (by rw [besE_both h]; exact h)⟩
    clear h
    go_enter Try.func40, Try.ntmps40
    go_wp2_with fail
    refine HC.out.mono ?_
    rintro e w1 ⟨rfl, hb1⟩
    go_wp2_with fail
    go_ret2
    exact ⟨RetTE.nil HV.out.2 HV.out.1.symm, hb1⟩

end Go.Proofs.Ytampofpllijfhaa
