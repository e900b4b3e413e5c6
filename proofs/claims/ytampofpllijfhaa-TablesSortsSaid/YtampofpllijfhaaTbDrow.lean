/-
  DropRow of both, DropColumn of the reference. Nothing is assumed.
-/
import Derived.Test.YtampofpllijfhaaTbStep
import Derived.Test.YtampofpllijfhaaTbUnpB
namespace Go.Proofs.Ytampofpllijfhaa
open Go.RowKit

theorem HoldsP.later {w w' : World} {B : Nat} {x : Value} {ps : List Tab} (h : HoldsP w (· < B) x ps) (hb : Below B w w') : HoldsP w' (· < B) x ps := by
  obtain ⟨oa, cap, rfl, h1, h2, hel⟩ := h
  refine ⟨oa, cap, rfl, h1, h2, fun i r hi => ?_⟩
  obtain ⟨b, off, xr, rfl, hp, hc, hr⟩ := hel i r hi
  exact ⟨b, off, xr, rfl, hp, (hb.cell (p := ⟨b, _, none⟩) hp).trans hc, hr.later hb⟩
def drrE (t : Tab) (i : Int) : Int := locE (chkT t) i t.length
def drrV (t : Tab) (i : Int) : Tab := if drrE t i = 0 then drpT ((idxO i t.length).getD 0) t else []
theorem loc_badR {t : Tab} {i : Int} (h : ¬ (chkT t = 0 ∧ (idxO i t.length).isSome = true)) : locV (chkT t) i t.length = 0 ∧ locE (chkT t) i t.length ≠ 0 := by
  unfold locV locE
  by_cases hc : chkT t = 0
  · rw [if_pos hc, if_pos hc]
    cases ho : idxO i t.length with
    | none => rw [(idx_none ho).1, (idx_none ho).2]; exact ⟨rfl, by decide⟩
    | some k => exact absurd ⟨hc, by rw [ho]; rfl⟩ h
  · rw [if_neg hc, if_neg hc]
    exact ⟨rfl, hc⟩
theorem loc_goodR {t : Tab} {i : Int} {k : Nat} (h : chkT t = 0) (hk : idxO i t.length = some k) : locV (chkT t) i t.length = k ∧ locE (chkT t) i t.length = 0 := by
  unfold locV locE
  rw [if_pos h, if_pos h, (idx_some hk).1, (idx_some hk).2]
  exact ⟨rfl, rfl⟩

set_option maxRecDepth 100000 in
set_option maxHeartbeats 1600000 in
theorem DropRow_any (x : Value) (t : List (List ByteArray)) (i : Int) (w : World) (B : Nat) (hx : HoldsT w (· < B) x t) (hB : B ≤ w.heap.size) (hi : I64 i) :
    Calls Try.prog 27 #[x, .int .i64 i] w fun e w' => RetTE w w' (drrV t i) (drrE t i) e ∧ Below w.heap.size w w' := by
  have HC := Lib.hid (rowIndex_any x t i w (· < B) hx hi)
  have HX := Lib.hid hx
  obtain ⟨oa, ca, rfl, hcap, _⟩ := hx.form
  clear hx
  by_cases hg : chkT t = 0 ∧ (idxO i t.length).isSome = true
  · obtain ⟨hc, hk⟩ := hg
    obtain ⟨k, hk⟩ := Option.isSome_iff_exists.1 hk
    have hkl := idxO_lt hk
    have h8 := (chkT_rows hc).1
    have HR8 : Hid (∀ r ∈ t, r.length ≤ 100) := Lib.hid (fun r hr => by have := ((chkT_rows hc).2 r hr).2.2.1; omega)
    obtain ⟨g1, g2⟩ := loc_goodR hc hk
    rw [g1, g2] at HC
    have HE : Hid (drrE t i = 0 ∧ drrV t i = drpT k t) := Lib.hid ⟨g2, by unfold drrV; rw [if_pos (by exact g2), hk]; rfl⟩
    obtain ⟨b, off, _, _, rfl, _, _, _⟩ := HX.out.at_ (List.getElem?_eq_getElem hkl)
    obtain ⟨c1, hc1⟩ : ∃ c1, k + 1 = c1 := ⟨_, rfl⟩
    have hc1i : (k : Int) + 1 = (c1 : Int) := by omega
    have hki0 : (0 : Int) ≤ (k : Int) := by omega
    have hc1l : (c1 : Int) ≤ (t.length : Int) := by omega
    have hc1c : (c1 : Int) ≤ (ca : Int) := by omega
    have hc1z : (0 : Int) ≤ (c1 : Int) := by omega
    have hwr : IntKind.i64.wrap (c1 : Int) = (c1 : Int) := IntWalk.i64_in _ (by omega)
    have hcc : (k : Int) ≤ (ca : Int) := by omega
    have HD : Hid ([t.take k, t.drop c1].flatten = drpT k t) := Lib.hid (by subst hc1; unfold drpT; simp)
    have HRS : Hid (∀ u ∈ [t.take k, t.drop c1], ∀ r ∈ u, r.length ≤ 100) := Lib.hid (by
      intro u hu r hr
      rcases List.mem_cons.1 hu with rfl | hu
      · exact HR8.out r (List.mem_of_mem_take hr)
      · obtain rfl := List.mem_singleton.1 hu
        exact HR8.out r (List.mem_of_mem_drop hr))
    have HFL : Hid ([t.take k, t.drop c1].flatten.length ≤ 100) := Lib.hid (by simp; omega)
    clear hc hk g1 g2 hc1
    by_cases hca : ca = c1
    · subst hca
      have HP0 := tabs_two w B _ (.slice (some ⟨b, off, none⟩) 0 0) _ (t.drop ca) (HX.out.take (show k ≤ t.length by omega)) (by rw [List.drop_of_length_le (by omega)]; exact HoldsT.empty _ _ _) hB
      have HP := Lib.hid (HP0.later (Below.refl (w.heap.size + 1) _).drew)
      have HJ := Lib.hid (duplicate_any _ [t.take k, t.drop ca] _ (w.heap.size + 1) HP.out (by simp [World.drew]) HFL.out (by simp) HRS.out)
      rw [HD.out] at HJ
      clear HP0 HD HRS HFL
      go_enter Try.func27, Try.ntmps27
      go_wp2_with fail
      refine HC.out.mono ?_
      rintro e w' ⟨rfl, rfl⟩
      go_wp2_with fail
      go_region_law (first
        | (go_simp; go_at_call 50; refine HJ.out.mono ?_; rintro e w2 ⟨⟨v2, rfl, ho⟩, hb2⟩))
      all_goals
        have hbW : Below w.heap.size w w2 := ((below1 w _).drew).trans (hb2.mono (by simp [World.drew]))
        have HO := Lib.hid ho.toT.holds
        obtain ⟨o2, c2, rfl⟩ := ho.form
        clear ho hb2
        go_wp2_with fail
        go_ret2
        exact ⟨RetTE.mk (HO.out.keep (fun b hp _ => ⟨by have := hp.1; simp [World.drew] at this; omega, hp.2⟩) (fun _ _ _ _ => rfl)) HE.out.2.symm HE.out.1.symm, hbW⟩
    · have HP0 := tabs_two w B _ (.slice (some ⟨b, off + c1, none⟩) (t.length - c1) (ca - c1)) _ (t.drop c1) (HX.out.take (show k ≤ t.length by omega)) (HX.out.drop (by omega)) hB
      have HP := Lib.hid (HP0.later (Below.refl (w.heap.size + 1) _).drew)
      have HJ := Lib.hid (duplicate_any _ [t.take k, t.drop c1] _ (w.heap.size + 1) HP.out (by simp [World.drew]) HFL.out (by simp) HRS.out)
      rw [HD.out] at HJ
      clear HP0 HD HRS HFL
      go_enter Try.func27, Try.ntmps27
      go_wp2_with fail
      refine HC.out.mono ?_
      rintro e w' ⟨rfl, rfl⟩
      go_wp2_with fail
      go_region_law (first
        | (go_simp; go_at_call 50; refine HJ.out.mono ?_; rintro e w2 ⟨⟨v2, rfl, ho⟩, hb2⟩))
      all_goals
        have hbW : Below w.heap.size w w2 := ((below1 w _).drew).trans (hb2.mono (by simp [World.drew]))
        have HO := Lib.hid ho.toT.holds
        obtain ⟨o2, c2, rfl⟩ := ho.form
        clear ho hb2
        go_wp2_with fail
        go_ret2
        exact ⟨RetTE.mk (HO.out.keep (fun b hp _ => ⟨by have := hp.1; simp [World.drew] at this; omega, hp.2⟩) (fun _ _ _ _ => rfl)) HE.out.2.symm HE.out.1.symm, hbW⟩
  · obtain ⟨g1, g2⟩ := loc_badR hg
    rw [g1] at HC
    have HE : Hid (drrE t i = locE (chkT t) i t.length ∧ drrV t i = []) := Lib.hid ⟨rfl, if_neg g2⟩
    obtain ⟨E, hE⟩ : ∃ E, locE (chkT t) i t.length = E := ⟨_, rfl⟩
    rw [hE] at HC HE g2
    have fc : (E != 0) = true := by rw [bne_iff_ne]; exact g2
    have HG := Lib.hid g2
    clear hE g1 g2 hg
    go_enter Try.func27, Try.ntmps27
    go_wp2_with fail
    refine HC.out.mono ?_
    rintro e w' ⟨rfl, rfl⟩
    go_wp2_with fail
    go_ret2
    exact ⟨RetTE.nil HE.out.2 HE.out.1.symm, Below.refl _ _⟩

set_option maxRecDepth 100000 in
set_option maxHeartbeats 1600000 in
/-- without of the reference. -/
theorem rwithout_any (x : Value) (t : List (List ByteArray)) (k : Nat) (w : World) (B : Nat) (hx : HoldsT w (· < B) x t) (hB : B ≤ w.heap.size) (hkl : k < t.length) (h8 : t.length ≤ 8) (hr : ∀ r ∈ t, r.length ≤ 8) :
    Calls Try.prog 58 #[x, .int .i64 (k : Int)] w fun e w' => RetT w w' (drpT k t) e ∧ Below w.heap.size w w' := by
  have HX := Lib.hid hx
  obtain ⟨oa, ca, rfl, hcap, _⟩ := hx.form
  clear hx
  obtain ⟨b, off, _, _, rfl, _, _, _⟩ := HX.out.at_ (List.getElem?_eq_getElem hkl)
  obtain ⟨c1, hc1⟩ : ∃ c1, k + 1 = c1 := ⟨_, rfl⟩
  have hc1i : (k : Int) + 1 = (c1 : Int) := by omega
  have hki0 : (0 : Int) ≤ (k : Int) := by omega
  have hkl2 : (k : Int) ≤ (t.length : Int) := by omega
  have hc1l : (c1 : Int) ≤ (t.length : Int) := by omega
  have hc1c : (c1 : Int) ≤ (ca : Int) := by omega
  have hc1z : (0 : Int) ≤ (c1 : Int) := by omega
  have hwr : IntKind.i64.wrap (c1 : Int) = (c1 : Int) := IntWalk.i64_in _ (by omega)
  have hcc : (k : Int) ≤ (ca : Int) := by omega
  have HD : Hid (t.take k ++ t.drop c1 = drpT k t) := Lib.hid (by subst hc1; rfl)
  have HXA := Lib.hid (HX.out.take (show k ≤ t.length by omega))
  have HRA : Hid (∀ r ∈ t.take k, r.length ≤ 100) := Lib.hid (fun r h => by have := hr r (List.mem_of_mem_take h); omega)
  have HRB : Hid (∀ r ∈ t.drop c1, r.length ≤ 100) := Lib.hid (fun r h => by have := hr r (List.mem_of_mem_drop h); omega)
  have HLA : Hid ((t.take k).length ≤ 8 ∧ (t.drop c1).length ≤ 8) := Lib.hid (by simp; omega)
  have HXB : Hid (∃ oB nB cB, HoldsT w (· < B) (.slice oB nB cB) (t.drop c1) ∧ ((ca = c1 ∧ oB = some ⟨b, off, none⟩ ∧ nB = 0 ∧ cB = 0) ∨ (ca ≠ c1 ∧ oB = some ⟨b, off + c1, none⟩ ∧ nB = t.length - c1 ∧ cB = ca - c1))) := Lib.hid (by
    by_cases hca : ca = c1
    · exact ⟨_, _, _, by rw [List.drop_of_length_le (by omega)]; exact HoldsT.empty _ _ (some ⟨b, off, none⟩), .inl ⟨hca, rfl, rfl, rfl⟩⟩
    · exact ⟨_, _, _, HX.out.drop (by omega), .inr ⟨hca, rfl, rfl, rfl⟩⟩)
  clear hc1 hr
  obtain ⟨TA, hTA⟩ : ∃ TA, t.take k = TA := ⟨_, rfl⟩
  obtain ⟨TB, hTB⟩ : ∃ TB, t.drop c1 = TB := ⟨_, rfl⟩
  rw [hTA] at HD HXA HRA HLA
  rw [hTB] at HD HXB HRB HLA
  clear hTA hTB
  have HT1 : Hid (∀ W : World, Below w.heap.size w W → Calls Try.prog 51 #[.slice (some ⟨b, off, none⟩) k ca] W fun e w' => (∃ v, e = .returned v ∧ AccD w' W.heap.size v TA) ∧ Below W.heap.size W w') := Lib.hid (fun W hb => rtable_any _ TA W B (HXA.out.later (hb.mono hB)) (Nat.le_trans hB hb.size) (by have := HLA.out.1; omega) HRA.out)
  have HFIN : Hid (∀ (v1 : Value) (w2 : World) (v2 : Value) (w3 : World), Below w.heap.size w w2 → AccD w2 w.heap.size v1 TA → AccD w3 w2.heap.size v2 TB → Below w2.heap.size w2 w3 →
      AccT w3 w.heap.size v1 TA ∧ HoldsT w3 (fun q => w.heap.size ≤ q ∧ v1.ownBlock ≠ some q) v2 TB ∧ Below w.heap.size w w3) := Lib.hid (fun v1 w2 v2 w3 g2 g1 g3 g4 => by
    refine ⟨g1.toT.later g4, (g3.toT.holds).keep (fun q hp _ => ⟨by have := hp.1; have := g2.size; omega, fun e => ?_⟩) (fun _ _ _ _ => rfl), g2.trans (g4.mono g2.size)⟩
    have := (g1.lt q e).2
    have := hp.1
    omega)
  obtain ⟨oB, nB, cB, hBv, hcase⟩ := HXB.out
  clear HXB
  rcases hcase with ⟨hca, rfl, rfl, rfl⟩ | ⟨hca, rfl, rfl, rfl⟩
  · subst hca
    have HT2 : Hid (∀ W : World, Below w.heap.size w W → Calls Try.prog 51 #[.slice (some ⟨b, off, none⟩) 0 0] W fun e w' => (∃ v, e = .returned v ∧ AccD w' W.heap.size v TB) ∧ Below W.heap.size W w') := Lib.hid (fun W hb => rtable_any _ TB W B (hBv.later (hb.mono hB)) (Nat.le_trans hB hb.size) (by have := HLA.out.2; omega) HRB.out)
    clear hBv
    go_enter Try.func58, Try.ntmps58
    go_wp2_with fail
    go_region_law (first
      | (go_simp; go_at_call 51; (with_reducible refine (HT1.out _ (Below.refl _ _).drew).mono ?_); rintro e w2 ⟨⟨v1, rfl, h1⟩, hb2⟩
         have hb2' : Below w.heap.size w w2 := (Below.refl _ _).drew.trans hb2
         have H1 := Lib.hid h1
         have HB2 := Lib.hid hb2'
         obtain ⟨o1, cc1, rfl⟩ := h1.form
         clear h1 hb2 hb2')
      | (go_simp; go_at_call 51; (with_reducible refine (HT2.out _ HB2.out).mono ?_); rintro e w3 ⟨⟨v2, rfl, h2⟩, hb3⟩
         have HF := Lib.hid (HFIN.out _ w2 _ w3 HB2.out H1.out h2 hb3)
         obtain ⟨o2, cc2, rfl⟩ := h2.form
         have hs3 : w.heap.size ≤ w3.heap.size := HF.out.2.2.size
         clear h2 hb3)
      | (refine step_acc (by rfl) _ _ (by rfl) w.heap.size _ TA (by rfl) HF.out.1 o2 TB.length cc2 TB (by rfl) HF.out.2.1 (by have := HLA.out; omega) hs3 ?_
         intro v4 w4 h4 hg4))
    all_goals
      have hb4 := HF.out.2.2.grown hg4 hs3 (fun q hq => (HF.out.1.lt q hq).1)
      have H4 := Lib.hid h4
      obtain ⟨o4, cc4, rfl⟩ : ∃ o4 cc4, v4 = .slice o4 (TA ++ TB).length cc4 := h4.form
      clear h4 hg4
      go_wp2_with fail
      go_ret
      exact ⟨RetT.mk H4.out.holds HD.out, hb4⟩
  · have HT2 : Hid (∀ W : World, Below w.heap.size w W → Calls Try.prog 51 #[.slice (some ⟨b, off + c1, none⟩) (t.length - c1) (ca - c1)] W fun e w' => (∃ v, e = .returned v ∧ AccD w' W.heap.size v TB) ∧ Below W.heap.size W w') := Lib.hid (fun W hb => rtable_any _ TB W B (hBv.later (hb.mono hB)) (Nat.le_trans hB hb.size) (by have := HLA.out.2; omega) HRB.out)
    clear hBv
    go_enter Try.func58, Try.ntmps58
    go_wp2_with fail
    go_region_law (first
      | (go_simp; go_at_call 51; (with_reducible refine (HT1.out _ (Below.refl _ _).drew).mono ?_); rintro e w2 ⟨⟨v1, rfl, h1⟩, hb2⟩
         have hb2' : Below w.heap.size w w2 := (Below.refl _ _).drew.trans hb2
         have H1 := Lib.hid h1
         have HB2 := Lib.hid hb2'
         obtain ⟨o1, cc1, rfl⟩ := h1.form
         clear h1 hb2 hb2')
      | (go_simp; go_at_call 51; (with_reducible refine (HT2.out _ HB2.out).mono ?_); rintro e w3 ⟨⟨v2, rfl, h2⟩, hb3⟩
         have HF := Lib.hid (HFIN.out _ w2 _ w3 HB2.out H1.out h2 hb3)
         obtain ⟨o2, cc2, rfl⟩ := h2.form
         have hs3 : w.heap.size ≤ w3.heap.size := HF.out.2.2.size
         clear h2 hb3)
      | (refine step_acc (by rfl) _ _ (by rfl) w.heap.size _ TA (by rfl) HF.out.1 o2 TB.length cc2 TB (by rfl) HF.out.2.1 (by have := HLA.out; omega) hs3 ?_
         intro v4 w4 h4 hg4))
    all_goals
      have hb4 := HF.out.2.2.grown hg4 hs3 (fun q hq => (HF.out.1.lt q hq).1)
      have H4 := Lib.hid h4
      obtain ⟨o4, cc4, rfl⟩ : ∃ o4 cc4, v4 = .slice o4 (TA ++ TB).length cc4 := h4.form
      clear h4 hg4
      go_wp2_with fail
      go_ret
      exact ⟨RetT.mk H4.out.holds HD.out, hb4⟩

end Go.Proofs.Ytampofpllijfhaa
