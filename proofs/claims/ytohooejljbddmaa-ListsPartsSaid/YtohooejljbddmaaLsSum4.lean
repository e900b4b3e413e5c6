/-
  Running, Shift, Scale, Append of the reference. Nothing is assumed.
-/
import Derived.Test.YtohooejljbddmaaLsSum2
namespace Go.Proofs.Ytohooejljbddmaa
open Go.RowKit

set_option maxRecDepth 100000 in
set_option maxHeartbeats 1600000 in
theorem rrunning_any (x : Value) (l : List Int) (w : World) (B : Nat) (hx : HoldsI w B x l) (hB : B ≤ w.heap.size) (hl : l.length ≤ 900) :
    Calls Try.prog 43 #[x] w fun e w' => RetE w.heap.size (yes (rnB l) (runK l l.length)) (rng (rnB l)) e w' ∧ Below w.heap.size w w' := by
  have HC := Lib.hid (rall_any x l w _ hx (by omega))
  obtain ⟨oa, ca, rfl, _, _, hel⟩ := hx
  cases hok : okL l with
  | false =>
    have HE : Hid (rnB l = false) := Lib.hid (by unfold rnB; rw [hok]; rfl)
    rw [hok] at HC
    clear hok hel
    go_enter Try.func43, Try.ntmps43
    go_wp2_with fail
    refine HC.out.mono ?_
    rintro e w2 ⟨rfl, rfl⟩
    simp only [rng, Bool.false_eq_true, if_false]
    go_wp2_with fail
    go_ret2
    exact ⟨by rw [HE.out]; exact RetE.none _ _ _, Below.refl _ _⟩
  | true =>
    have HE : Hid (rnB l = okL (runK l l.length)) := Lib.hid (by unfold rnB; rw [hok]; rfl)
    have HOK := Lib.hid hok
    have HEL := Lib.hid hel
    rw [hok] at HC
    clear hok hel
    go_enter Try.func43, Try.ntmps43
    go_wp2_with fail
    refine HC.out.mono ?_
    rintro e w2 ⟨rfl, rfl⟩
    simp only [rng, if_true]
    go_wp2_with fail
    go_loopw [5, 6, 7] (fun v s j wr => ∃ k : Nat, k ≤ l.length ∧ j = .int .i64 k ∧ s = .int .i64 (sumK l k) ∧ Hid (OwnI wr w.heap.size v (runK l k)) ∧ Hid (okL (runK l k) = true) ∧ Below w.heap.size w wr) (fun _ _ j _ => l.length - (intOf j).toNat)
    case atStart => exact ⟨0, Nat.zero_le _, rfl, rfl, OwnI.none _ _, Lib.hid rfl, Below.refl _ _⟩
    case round =>
      obtain ⟨k, hk, rfl, rfl, HO, HT, hbel⟩ := hrel
      have hsz := hbel.size
      have hln := runK_len l k
      have HLN := Lib.hid hln
      have hln2 : (runK l k).length ≤ 900 := by omega
      clear hln
      obtain ⟨h5, h6⟩ := sumK_bd l HOK.out k hk
      by_cases hlt : k < l.length
      · obtain ⟨b, off, rfl, hb, hc⟩ := HEL.out k _ (List.getElem?_eq_getElem hlt)
        rw [← hbel.cell (p := ⟨b, _, none⟩) (Nat.lt_of_lt_of_le hb hB)] at hc
        obtain ⟨h3, h4⟩ := perm_yes (okL_at HOK.out (List.getElem?_eq_getElem hlt))
        have hki0 : (0 : Int) ≤ (k : Int) := by omega
        have hki1 : (k : Int) < (l.length : Int) := by omega
        have HSS := Lib.hid (sumK_succ l k hlt)
        have HSN := Lib.hid (runK_snoc l k)
        have HRA := Lib.hid (runK_at l l.length k hlt)
        rw [HSS.out] at HSN HRA
        have HP := Lib.hid (rpermitted_any (sumK l k + l[k]) wr)
        cases hp : perm (sumK l k + l[k]) with
        | true =>
          rw [hp] at HP
          have HT2 : Hid (okL (runK l (k + 1)) = true) := Lib.hid (by
            rw [HSN.out]
            unfold okL
            rw [List.all_append]
            have := HT.out
            unfold okL at this
            rw [this]
            simp [hp])
          clear hp
          go_wp2_with (first | (go_at_call 64; refine HP.out.mono ?_; rintro e w2 ⟨rfl, rfl⟩) | (at_builtin; refine append_src rfl _ _ rfl w.heap.size _ _ rfl (HO.out.later (below1 _ _)) (some ⟨wr.heap.size, 0, none⟩) 1 1 rfl [sumK l k + l[k]] rfl (one_src _ _ _) ?c3 ?c4 ?_))
          case c3 => omega
          case c4 => simp; omega
          intro v3 w3 hown3 hg3
          have HO3 := Lib.hid (HSN.out ▸ hown3)
          have hb3 := below_grown (hbel.alloc hsz _) (by simp; omega) (HO.out.later (below1 _ _)) hg3
          clear hown3 hg3
          go_wp2_with fail
          go_roundw
          case rel => exact ⟨k + 1, hlt, by go_num, by rw [HSS.out], HO3, HT2, hb3⟩
          case measure => simp [intOf]; omega
        | false =>
          rw [hp] at HP
          have HB : Hid (rnB l = false) := Lib.hid (HE.out.trans (okL_bad HRA.out hp))
          clear hp
          go_wp2_with fail
          refine HP.out.mono ?_
          rintro e w2 ⟨rfl, rfl⟩
          go_wp2_with fail
          go_ret2
          exact ⟨by rw [HB.out]; exact RetE.none _ _ _, hbel⟩
      · have hkl : k = l.length := by omega
        subst hkl
        have HB : Hid (rnB l = true) := Lib.hid (HE.out.trans HT.out)
        go_wp2_with fail
        go_ret2
        exact ⟨by rw [HB.out]; exact ⟨_, rfl, HO.out⟩, hbel⟩

set_option maxRecDepth 100000 in
set_option maxHeartbeats 1600000 in
theorem rshift_any (x : Value) (l : List Int) (n : Int) (w : World) (B : Nat) (hx : HoldsI w B x l) (hB : B ≤ w.heap.size) (hl : l.length ≤ 900) :
    Calls Try.prog 45 #[x, .int .i64 n] w fun e w' => RetE w.heap.size (yes (shiftB l n) (mpK (· + n) l l.length)) (rng (shiftB l n)) e w' ∧ Below w.heap.size w w' := by
  have HC := Lib.hid (rall_any x l w _ hx (by omega))
  have HP := Lib.hid (rpermitted_any n w)
  obtain ⟨oa, ca, rfl, _, _, hel⟩ := hx
  cases hp : perm n with
  | false =>
    rw [hp] at HP
    have HE : Hid (shiftB l n = false) := Lib.hid (by unfold shiftB; rw [hp]; rfl)
    clear hp hel
    go_enter Try.func45, Try.ntmps45
    go_wp2_with fail
    refine HP.out.mono ?_
    rintro e w2 ⟨rfl, rfl⟩
    go_wp2_with fail
    go_ret2
    exact ⟨by rw [HE.out]; exact RetE.none _ _ _, Below.refl _ _⟩
  | true =>
    rw [hp] at HP
    obtain ⟨h1, h2⟩ := perm_yes hp
    cases hok : okL l with
    | false =>
      have HE : Hid (shiftB l n = false) := Lib.hid (by unfold shiftB; rw [hp, hok]; rfl)
      rw [hok] at HC
      clear hok hel hp
      go_enter Try.func45, Try.ntmps45
      go_wp2_with fail
      refine HP.out.mono ?_
      rintro e w2 ⟨rfl, rfl⟩
      go_wp2_with fail
      refine HC.out.mono ?_
      rintro e w2 ⟨rfl, rfl⟩
      simp only [rng, Bool.false_eq_true, if_false]
      go_wp2_with fail
      go_ret2
      exact ⟨by rw [HE.out]; exact RetE.none _ _ _, Below.refl _ _⟩
    | true =>
      have HE : Hid (shiftB l n = okL (mpK (· + n) l l.length)) := Lib.hid (by unfold shiftB; rw [hp, hok]; rfl)
      have HOK := Lib.hid hok
      have HEL := Lib.hid hel
      rw [hok] at HC
      clear hok hel hp
      go_enter Try.func45, Try.ntmps45
      go_wp2_with fail
      refine HP.out.mono ?_
      rintro e w2 ⟨rfl, rfl⟩
      go_wp2_with fail
      refine HC.out.mono ?_
      rintro e w2 ⟨rfl, rfl⟩
      simp only [rng, if_true]
      go_wp2_with fail
      go_loopw [6, 7] (fun v j wr => ∃ k : Nat, k ≤ l.length ∧ j = .int .i64 k ∧ Hid (OwnI wr w.heap.size v (mpK (· + n) l k)) ∧ Below w.heap.size w wr) (fun _ j _ => l.length - (intOf j).toNat)
      case atStart => exact ⟨0, Nat.zero_le _, rfl, OwnI.none _ _, Below.refl _ _⟩
      case round =>
        obtain ⟨k, hk, rfl, HO, hbel⟩ := hrel
        have hsz := hbel.size
        have hln := mpK_len (· + n) l k
        by_cases hlt : k < l.length
        · obtain ⟨b, off, rfl, hb, hc⟩ := HEL.out k _ (List.getElem?_eq_getElem hlt)
          rw [← hbel.cell (p := ⟨b, _, none⟩) (Nat.lt_of_lt_of_le hb hB)] at hc
          obtain ⟨h3, h4⟩ := perm_yes (okL_at HOK.out (List.getElem?_eq_getElem hlt))
          have hki0 : (0 : Int) ≤ (k : Int) := by omega
          have hki1 : (k : Int) < (l.length : Int) := by omega
          have HSN := Lib.hid (mpK_snoc (· + n) l k hlt)
          go_wp2_with (at_builtin; refine append_src rfl _ _ rfl w.heap.size _ _ rfl (HO.out.later (below1 _ _)) (some ⟨wr.heap.size, 0, none⟩) 1 1 rfl [l[k] + n] rfl (one_src _ _ _) ?c3 ?c4 ?_)
          case c3 => omega
          case c4 => simp; omega
          intro v3 w3 hown3 hg3
          have HO3 : Hid (OwnI w3 w.heap.size v3 (mpK (· + n) l (k + 1))) := Lib.hid (by rw [HSN.out]; exact hown3)
          have hb3 := below_grown (hbel.alloc hsz _) (by simp; omega) (HO.out.later (below1 _ _)) hg3
          clear hown3 hg3
          go_wp2_with fail
          go_roundw
          case rel => exact ⟨k + 1, hlt, by go_num, HO3, hb3⟩
          case measure => simp [intOf]; omega
        · have hkl : k = l.length := by omega
          subst hkl
          have HI := Lib.hid ((fun v (h : OwnI wr w.heap.size v (mpK (· + n) l l.length)) => rall_any v (mpK (· + n) l l.length) wr _ h.holds (by omega)) _ HO.out)
          cases ho : okL (mpK (· + n) l l.length) with
          | true =>
            rw [ho] at HI HE
            clear ho
            go_wp2_with fail
            refine HI.out.mono ?_
            rintro e w2 ⟨rfl, rfl⟩
            simp only [rng, if_true]
            go_wp2_with fail
            go_ret2
            exact ⟨by rw [HE.out]; exact ⟨_, rfl, HO.out⟩, hbel⟩
          | false =>
            rw [ho] at HI HE
            clear ho
            go_wp2_with fail
            refine HI.out.mono ?_
            rintro e w2 ⟨rfl, rfl⟩
            simp only [rng, Bool.false_eq_true, if_false]
            go_wp2_with fail
            go_ret2
            exact ⟨by rw [HE.out]; exact RetE.none _ _ _, hbel⟩

set_option maxRecDepth 100000 in
set_option maxHeartbeats 1600000 in
theorem rscale_any (x : Value) (l : List Int) (n : Int) (w : World) (B : Nat) (hx : HoldsI w B x l) (hB : B ≤ w.heap.size) (hl : l.length ≤ 900) :
    Calls Try.prog 47 #[x, .int .i64 n] w fun e w' => RetE w.heap.size (yes (scaleB l n) (mpK (· * n) l l.length)) (rng (scaleB l n)) e w' ∧ Below w.heap.size w w' := by
  have HC := Lib.hid (rall_any x l w _ hx (by omega))
  have HP := Lib.hid (rpermitted_any n w)
  obtain ⟨oa, ca, rfl, _, _, hel⟩ := hx
  cases hp : perm n with
  | false =>
    rw [hp] at HP
    have HE : Hid (scaleB l n = false) := Lib.hid (by unfold scaleB; rw [hp]; rfl)
    clear hp hel
    go_enter Try.func47, Try.ntmps47
    go_wp2_with fail
    refine HP.out.mono ?_
    rintro e w2 ⟨rfl, rfl⟩
    go_wp2_with fail
    go_ret2
    exact ⟨by rw [HE.out]; exact RetE.none _ _ _, Below.refl _ _⟩
  | true =>
    rw [hp] at HP
    obtain ⟨h1, h2⟩ := perm_yes hp
    cases hok : okL l with
    | false =>
      have HE : Hid (scaleB l n = false) := Lib.hid (by unfold scaleB; rw [hp, hok]; rfl)
      rw [hok] at HC
      clear hok hel hp
      go_enter Try.func47, Try.ntmps47
      go_wp2_with fail
      refine HP.out.mono ?_
      rintro e w2 ⟨rfl, rfl⟩
      go_wp2_with fail
      refine HC.out.mono ?_
      rintro e w2 ⟨rfl, rfl⟩
      simp only [rng, Bool.false_eq_true, if_false]
      go_wp2_with fail
      go_ret2
      exact ⟨by rw [HE.out]; exact RetE.none _ _ _, Below.refl _ _⟩
    | true =>
      have HE : Hid (scaleB l n = okL (mpK (· * n) l l.length)) := Lib.hid (by unfold scaleB; rw [hp, hok]; rfl)
      have HOK := Lib.hid hok
      have HEL := Lib.hid hel
      rw [hok] at HC
      clear hok hel hp
      go_enter Try.func47, Try.ntmps47
      go_wp2_with fail
      refine HP.out.mono ?_
      rintro e w2 ⟨rfl, rfl⟩
      go_wp2_with fail
      refine HC.out.mono ?_
      rintro e w2 ⟨rfl, rfl⟩
      simp only [rng, if_true]
      go_wp2_with fail
      go_loopw [6, 7] (fun v j wr => ∃ k : Nat, k ≤ l.length ∧ j = .int .i64 k ∧ Hid (OwnI wr w.heap.size v (mpK (· * n) l k)) ∧ Below w.heap.size w wr) (fun _ j _ => l.length - (intOf j).toNat)
      case atStart => exact ⟨0, Nat.zero_le _, rfl, OwnI.none _ _, Below.refl _ _⟩
      case round =>
        obtain ⟨k, hk, rfl, HO, hbel⟩ := hrel
        have hsz := hbel.size
        have hln := mpK_len (· * n) l k
        by_cases hlt : k < l.length
        · obtain ⟨b, off, rfl, hb, hc⟩ := HEL.out k _ (List.getElem?_eq_getElem hlt)
          rw [← hbel.cell (p := ⟨b, _, none⟩) (Nat.lt_of_lt_of_le hb hB)] at hc
          obtain ⟨h3, h4⟩ := perm_yes (okL_at HOK.out (List.getElem?_eq_getElem hlt))
          obtain ⟨h5, h6⟩ := mul_bd h3 h4 h1 h2
          have hki0 : (0 : Int) ≤ (k : Int) := by omega
          have hki1 : (k : Int) < (l.length : Int) := by omega
          have HSN := Lib.hid (mpK_snoc (· * n) l k hlt)
          go_wp2_with (at_builtin; refine append_src rfl _ _ rfl w.heap.size _ _ rfl (HO.out.later (below1 _ _)) (some ⟨wr.heap.size, 0, none⟩) 1 1 rfl [l[k] * n] rfl (one_src _ _ _) ?c3 ?c4 ?_)
          case c3 => omega
          case c4 => simp; omega
          intro v3 w3 hown3 hg3
          have HO3 : Hid (OwnI w3 w.heap.size v3 (mpK (· * n) l (k + 1))) := Lib.hid (by rw [HSN.out]; exact hown3)
          have hb3 := below_grown (hbel.alloc hsz _) (by simp; omega) (HO.out.later (below1 _ _)) hg3
          clear hown3 hg3
          go_wp2_with fail
          go_roundw
          case rel => exact ⟨k + 1, hlt, by go_num, HO3, hb3⟩
          case measure => simp [intOf]; omega
        · have hkl : k = l.length := by omega
          subst hkl
          have HI := Lib.hid ((fun v (h : OwnI wr w.heap.size v (mpK (· * n) l l.length)) => rall_any v (mpK (· * n) l l.length) wr _ h.holds (by omega)) _ HO.out)
          cases ho : okL (mpK (· * n) l l.length) with
          | true =>
            rw [ho] at HI HE
            clear ho
            go_wp2_with fail
            refine HI.out.mono ?_
            rintro e w2 ⟨rfl, rfl⟩
            simp only [rng, if_true]
            go_wp2_with fail
            go_ret2
            exact ⟨by rw [HE.out]; exact ⟨_, rfl, HO.out⟩, hbel⟩
          | false =>
            rw [ho] at HI HE
            clear ho
            go_wp2_with fail
            refine HI.out.mono ?_
            rintro e w2 ⟨rfl, rfl⟩
            simp only [rng, Bool.false_eq_true, if_false]
            go_wp2_with fail
            go_ret2
            exact ⟨by rw [HE.out]; exact RetE.none _ _ _, hbel⟩

set_option maxRecDepth 100000 in
set_option maxHeartbeats 800000 in
theorem rappend_any (x y : Value) (l m : List Int) (w : World) (B : Nat) (hx : HoldsI w B x l) (hy : HoldsI w B y m) (hB : B ≤ w.heap.size) (hl : l.length ≤ 900) (hm : m.length ≤ 900) :
    Calls Try.prog 51 #[x, y] w fun e w' => RetE w.heap.size (apL l m) (apE l m) e w' ∧ Below w.heap.size w w' := by
  have HX := Lib.hid hx
  have HY := Lib.hid hy
  obtain ⟨oa, ca, rfl, _, _, hel⟩ := hx
  obtain ⟨ob, cb, rfl, _, _, hem⟩ := hy
  clear hel hem
  by_cases h16 : l.length ≤ 16
  · have hi16 : (l.length : Int) ≤ 16 := by omega
    by_cases hlen : l.length + m.length ≤ 16
    · have HE : Hid (apL l m = l ++ m ∧ apE l m = 0) := Lib.hid (by unfold apL apE; rw [if_pos hlen, if_pos hlen]; exact ⟨rfl, rfl⟩)
      have hle : (m.length : Int) ≤ 16 - (l.length : Int) := by omega
      go_enter Try.func51, Try.ntmps51
      go_wp2_with (at_builtin; refine append_src rfl _ _ rfl w.heap.size (.slice none 0 0) [] rfl (OwnI.none _ _) oa l.length ca rfl l rfl HX.out.src ?c1 ?c2 ?_)
      case c1 => simp; omega
      case c2 => omega
      intro v1 w1 hown1 hg1
      have hb1 := below_grown (Below.refl _ _) (Nat.le_refl _) (OwnI.none _ _) hg1
      have HO1 : Hid (OwnI w1 w.heap.size v1 l) := Lib.hid hown1
      have HY2 := Lib.hid (HY.out.later (hb1.mono hB))
      have hsz := hb1.size
      clear hown1 hg1
      go_wp2_with (at_builtin; refine append_src rfl _ _ rfl w.heap.size v1 l rfl HO1.out ob m.length cb rfl m rfl HY2.out.src ?c3 ?c4 ?_)
      case c3 => omega
      case c4 => omega
      intro v2 w2 hown hgr
      have hb2 := below_grown hb1 hsz HO1.out hgr
      have HO2 := Lib.hid hown
      clear hown hgr
      go_wp2_with fail
      go_ret2
      exact ⟨RetE.mk HO2.out HE.out.1.symm HE.out.2.symm, hb2⟩
    · have HE : Hid (apL l m = [] ∧ apE l m = 2) := Lib.hid (by unfold apL apE; rw [if_neg hlen, if_neg hlen]; exact ⟨rfl, rfl⟩)
      have hle : 16 - (l.length : Int) < (m.length : Int) := by omega
      go_enter Try.func51, Try.ntmps51
      go_wp2_with fail
      go_ret2
      exact ⟨RetE.mk (OwnI.none _ _) HE.out.1.symm HE.out.2.symm, Below.refl _ _⟩
  · have hlen : ¬ l.length + m.length ≤ 16 := by omega
    have HE : Hid (apL l m = [] ∧ apE l m = 2) := Lib.hid (by unfold apL apE; rw [if_neg hlen, if_neg hlen]; exact ⟨rfl, rfl⟩)
    have hle : 16 < (l.length : Int) := by omega
    go_enter Try.func51, Try.ntmps51
    go_wp2_with fail
    go_ret2
    exact ⟨RetE.mk (OwnI.none _ _) HE.out.1.symm HE.out.2.symm, Below.refl _ _⟩

end Go.Proofs.Ytohooejljbddmaa
