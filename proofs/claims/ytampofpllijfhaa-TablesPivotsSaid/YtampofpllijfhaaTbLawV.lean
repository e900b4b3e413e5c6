/-
  The law TablesPivots walked. Nothing is assumed.
-/
import Derived.Test.YtampofpllijfhaaTbLawP
import Derived.Test.YtampofpllijfhaaTbLawC
import Derived.Test.YtampofpllijfhaaTbRunp
import Derived.Test.YtampofpllijfhaaTbRpv2
namespace Go.Proofs.Ytampofpllijfhaa
open Go.RowKit

theorem unpK_few (hd : Row) (c : Nat) (hc : c ≤ 8) : ∀ q : Tab, q.length ≤ 8 → (∀ r ∈ q, r.length ≤ 8) → (unpK hd c q).length ≤ 8 * q.length ∧ ∀ r ∈ unpK hd c q, r.length ≤ 1000
  | [], _, _ => ⟨by simp [unpK], fun r hr => by simp [unpK] at hr⟩
  | r :: q, hq, hr => by
    have e : unpK hd c (r :: q) = unpOne hd c r (r.length - c) ++ unpK hd c q := by unfold unpK; simp
    obtain ⟨h1, h2⟩ := unpK_few hd c hc q (by simp at hq; omega) (fun r h => hr r (List.mem_cons_of_mem _ h))
    have h3 := hr r (List.mem_cons_self ..)
    rw [e]
    refine ⟨by rw [List.length_append, unpOne_len, List.length_cons]; omega, fun s hs => ?_⟩
    rcases List.mem_append.1 hs with hs | hs
    · unfold unpOne at hs
      obtain ⟨j, _, rfl⟩ := List.mem_map.1 hs
      unfold unpRow
      simp
      omega
    · exact h2 s hs
theorem unpV_few (t : Tab) (keep : Int) : Few (unpV t keep) := by
  unfold unpV
  split
  · rename_i h
    have hc : chkT t = 0 := by
      by_cases hc : chkT t = 0
      · exact hc
      · rw [unpE_chk hc] at h; exact absurd h hc
    have h8 := (chkT_rows hc).1
    have hk : keep.toNat ≤ 8 := by
      have hcc := colsT_le hc
      unfold unpE at h
      rw [if_neg (by simp [hc])] at h
      split at h
      · exact absurd h (by decide)
      · split at h
        · exact absurd h (by decide)
        · omega
    obtain ⟨h1, h2⟩ := unpK_few (t.headD []) keep.toNat hk (t.drop 1) (by rw [List.length_drop]; omega) (fun r hr => ((chkT_rows hc).2 r (List.mem_of_mem_drop hr)).2.2.1)
    exact ⟨by rw [List.length_drop] at h1; omega, h2⟩
  · exact ⟨by simp, fun r hr => by cases hr⟩
theorem pivV_few (t : Tab) : Few (pivV t) := by
  unfold pivV
  split
  · rename_i h
    have hlen : ¬ (8 < 1 + (dst (colOf t 0)).length ∨ 8 < 1 + (dst (colOf t 1)).length) := by
      unfold pivE at h
      split at h
      · rename_i h1; exact absurd h h1
      · split at h
        · exact absurd h (by decide)
        · assumption
    refine ⟨by rw [pivK_len _ _ _ _ (Nat.le_refl _)]; omega, fun r hr => ?_⟩
    unfold pivK at hr
    rcases List.mem_cons.1 hr with rfl | hr
    · simp; omega
    · obtain ⟨k, _, rfl⟩ := List.mem_map.1 hr
      rw [pivRow_len _ _ _ _ (Nat.le_refl _)]
      omega
  · exact ⟨by simp, fun r hr => by cases hr⟩

set_option maxRecDepth 100000 in
set_option maxHeartbeats 3200000 in
theorem lawPivots_any (x : Value) (t : List (List ByteArray)) (keep : Int) (w : World) (hx : HoldsT w (· < w.heap.size) x t) (hE : Env0 w) (hi : I64 keep) :
    Calls Try.prog 6 #[x, .int .i64 keep] w fun e w' => e = .returned (.bool true) ∧ Below w.heap.size w w' := by
  have HS := Lib.hid (small_any x t w _ hx (Nat.le_refl _))
  have HX := Lib.hid hx
  obtain ⟨oa, ca, rfl, _, _⟩ := hx.form
  clear hx
  go_enter Try.func6, Try.ntmps6
  go_wp2_with fail
  refine HS.out.mono ?_
  rintro e w1 ⟨⟨z, rfl, hz⟩, hb1⟩
  have HX := Lib.hid (HX.out.on hb1)
  have hE1 := hE.later hb1
  cases z with
  | false =>
    have HA := Lib.hid (awaken w1 hE1)
    have HB1 := Lib.hid hb1
    clear hb1 hz
    go_wp2_with fail
    refine HA.out.mono ?_
    rintro e w2 ⟨rfl, hb2⟩
    go_wp2_with fail
    go_ret
    exact ⟨rfl, HB1.out.trans (hb2.mono HB1.out.size)⟩
  | true =>
    have HZ := Lib.hid (hz rfl)
    have HB := Lib.hid hb1
    clear hb1 hz
    have HC1 := Lib.hid (fun w B h hB => Unpivot_any (.slice oa t.length ca) t keep w B h hB hi)
    have HD1 := Lib.hid (fun w B h hB => rUnpivot_any (.slice oa t.length ca) t keep w B h hB hi)
    have HC2 := Lib.hid (fun w B h hB => Pivot_any (.slice oa t.length ca) t w B h hB)
    have HD2 := Lib.hid (fun w B h hB => rPivot_any (.slice oa t.length ca) t w B h hB)
    have HL1 := Lib.hid (unpV_few t keep)
    have HL2 := Lib.hid (pivV_few t)
    obtain ⟨T1, hT1⟩ : ∃ T1, unpV t keep = T1 := ⟨_, rfl⟩
    obtain ⟨T2, hT2⟩ : ∃ T2, pivV t = T2 := ⟨_, rfl⟩
    obtain ⟨E1, hE1'⟩ : ∃ E, unpE t keep = E := ⟨_, rfl⟩
    obtain ⟨E2, hE2'⟩ : ∃ E, pivE t = E := ⟨_, rfl⟩
    rw [hT1] at HC1 HD1 HL1
    rw [hT2] at HC2 HD2 HL2
    rw [hE1'] at HC1 HD1
    rw [hE2'] at HC2 HD2
    clear hT1 hT2 hE1' hE2'
    have HQ := Lib.hid (HC1.out w1 _ HX.out (Nat.le_refl _))
    go_wp2_with fail
    refine HQ.out.mono ?_
    rintro e w2 ⟨⟨v2, rfl, h2⟩, hb2⟩
    obtain ⟨o2, c2, rfl, _, _⟩ := h2.form
    have HX := Lib.hid (HX.out.on hb2)
    have HB := Lib.hid (HB.out.trans (hb2.mono HB.out.size))
    have hE2 := hE1.later hb2
    have H1 := Lib.hid h2.all
    clear hb2 h2
    have HQ := Lib.hid (HD1.out w2 _ HX.out (Nat.le_refl _))
    go_wp2_with fail
    refine HQ.out.mono ?_
    rintro e w3 ⟨⟨v3, rfl, h3⟩, hb3⟩
    obtain ⟨o3, c3, rfl, _, _⟩ := h3.form
    have HX := Lib.hid (HX.out.on hb3)
    have H1 := Lib.hid (H1.out.on hb3)
    have HB := Lib.hid (HB.out.trans (hb3.mono HB.out.size))
    have hE3 := hE2.later hb3
    have H2 := Lib.hid h3.all
    clear hb3 h3
    have HQ := Lib.hid (HC2.out w3 _ HX.out (Nat.le_refl _))
    go_wp2_with fail
    refine HQ.out.mono ?_
    rintro e w4 ⟨⟨v4, rfl, h4⟩, hb4⟩
    obtain ⟨o4, c4, rfl, _, _⟩ := h4.form
    have HX := Lib.hid (HX.out.on hb4)
    have H1 := Lib.hid (H1.out.on hb4)
    have H2 := Lib.hid (H2.out.on hb4)
    have HB := Lib.hid (HB.out.trans (hb4.mono HB.out.size))
    have hE4 := hE3.later hb4
    have H3 := Lib.hid h4.all
    clear hb4 h4
    have HQ := Lib.hid (HD2.out w4 _ HX.out (Nat.le_refl _))
    go_wp2_with fail
    refine HQ.out.mono ?_
    rintro e w5 ⟨⟨v5, rfl, h5⟩, hb5⟩
    obtain ⟨o5, c5, rfl, _, _⟩ := h5.form
    have HX := Lib.hid (HX.out.on hb5)
    have H1 := Lib.hid (H1.out.on hb5)
    have H2 := Lib.hid (H2.out.on hb5)
    have H3 := Lib.hid (H3.out.on hb5)
    have HB := Lib.hid (HB.out.trans (hb5.mono HB.out.size))
    have hE5 := hE4.later hb5
    have H4 := Lib.hid h5.all
    clear hb5 h5
    have HQ := Lib.hid (same_eq _ _ T1 w5 _ H1.out H2.out (Nat.le_refl _) HL1.out.1 HL1.out.2)
    go_wp2_with fail
    refine HQ.out.mono ?_
    rintro e w6 ⟨rfl, hb6⟩
    have H1 := Lib.hid (H1.out.on hb6)
    have H2 := Lib.hid (H2.out.on hb6)
    have H3 := Lib.hid (H3.out.on hb6)
    have H4 := Lib.hid (H4.out.on hb6)
    have HB := Lib.hid (HB.out.trans (hb6.mono HB.out.size))
    have hE6 := hE5.later hb6
    clear hb6
    have HQ := Lib.hid (same_eq _ _ T2 w6 _ H3.out H4.out (Nat.le_refl _) HL2.out.1 HL2.out.2)
    go_wp2_with fail
    refine HQ.out.mono ?_
    rintro e w7 ⟨rfl, hb7⟩
    have H3 := Lib.hid (H3.out.on hb7)
    have H4 := Lib.hid (H4.out.on hb7)
    have HB := Lib.hid (HB.out.trans (hb7.mono HB.out.size))
    have hE7 := hE6.later hb7
    clear hb7
    have HQ := Lib.hid (awaken w7 hE7)
    go_wp2_with fail
    refine HQ.out.mono ?_
    rintro e w8 ⟨rfl, hb8⟩
    have HB := Lib.hid (HB.out.trans (hb8.mono HB.out.size))
    have hE8 := hE7.later hb8
    clear hb8
    go_wp2_with fail
    go_ret
    exact ⟨rfl, HB.out⟩

end Go.Proofs.Ytampofpllijfhaa
