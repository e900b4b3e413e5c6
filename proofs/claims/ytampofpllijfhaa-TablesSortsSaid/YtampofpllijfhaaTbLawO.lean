/-
  The law TablesSorts walked. Nothing is assumed.
-/
import Derived.Test.YtampofpllijfhaaTbLawC
import Derived.Test.YtampofpllijfhaaTbCnt
import Derived.Test.YtampofpllijfhaaTbLawD
namespace Go.Proofs.Ytampofpllijfhaa
open Go.RowKit

theorem leK_gtr {k : Nat} {a b : Row} (ha : k < a.length) (hb : k < b.length) (h : leK (keyS k) a b) : Op.bytesLess a[k].toList b[k].toList = true ∨ (Op.bytesLess a[k].toList b[k].toList = false ∧ (a[k].toList == b[k].toList) = true) := by
  cases h1 : Op.bytesLess a[k].toList b[k].toList with
  | true => exact .inl rfl
  | false => cases h2 : (a[k].toList == b[k].toList) with
    | true => exact .inr ⟨rfl, rfl⟩
    | false => exact absurd ((key_lt k a b ha hb).2 ⟨h1, h2⟩) h
theorem loc_zero {t : Tab} {i : Int} (h : locE (chkT t) i (colsT t) = 0) : chkT t = 0 ∧ 0 < t.length ∧ ∃ k, idxO i (colsT t) = some k := by
  by_cases hc : chkT t = 0
  · cases hk : idxO i (colsT t) with
    | none => unfold locE at h; rw [if_pos hc, (idx_none hk).2] at h; exact absurd h (by decide)
    | some k =>
      have := idxO_lt hk
      refine ⟨hc, ?_, k, rfl⟩
      cases t with
      | nil => simp [colsT] at this
      | cons r t => simp
  · unfold locE at h
    rw [if_neg hc] at h
    exact absurd h hc
set_option maxRecDepth 100000 in
set_option maxHeartbeats 9600000 in
theorem lawSorts_any (x y : Value) (t u : List (List ByteArray)) (i : Int) (w : World) (hx : HoldsT w (· < w.heap.size) x t) (hy : HoldsT w (· < w.heap.size) y u) (hE : Env0 w) (hi : I64 i) :
    Calls Try.prog 10 #[x, y, .int .i64 i] w fun e w' => e = .returned (.bool true) ∧ Below w.heap.size w w' := by
  have HS := Lib.hid (small_any x t w _ hx (Nat.le_refl _))
  have HX := Lib.hid hx
  have HY := Lib.hid hy
  obtain ⟨oa, ca, rfl, _, _⟩ := hx.form
  obtain ⟨ob, cb, rfl, _, _⟩ := hy.form
  clear hx hy
  go_enter Try.func10, Try.ntmps10
  go_wp2_with fail
  refine HS.out.mono ?_
  rintro e w1 ⟨⟨z, rfl, hz⟩, hb1⟩
  have HX := Lib.hid (HX.out.on hb1)
  have HY := Lib.hid (HY.out.on hb1)
  have hE1 := hE.later hb1
  have HB := Lib.hid hb1
  cases z with
  | false =>
    clear hb1 hz
    have HA := Lib.hid (awaken w1 hE1)
    go_wp2_with fail
    refine HA.out.mono ?_
    rintro e w99 ⟨rfl, hb99⟩
    go_wp2_with fail
    go_ret
    exact ⟨rfl, HB.out.trans (hb99.mono HB.out.size)⟩
  | true =>
    have HZ := Lib.hid (hz rfl)
    have HS2 := Lib.hid (small_any (.slice ob u.length cb) u w1 _ HY.out (Nat.le_refl _))
    clear hb1 hz
    go_wp2_with fail
    refine HS2.out.mono ?_
    rintro e w2 ⟨⟨z, rfl, hz⟩, hb2⟩
    have HX := Lib.hid (HX.out.on hb2)
    have HY := Lib.hid (HY.out.on hb2)
    have hE2 := hE1.later hb2
    have HB := Lib.hid (HB.out.trans (hb2.mono HB.out.size))
    clear HS HS2
    cases z with
    | false =>
      clear hb2 hz
      have HA := Lib.hid (awaken w2 hE2)
      go_wp2_with fail
      refine HA.out.mono ?_
      rintro e w99 ⟨rfl, hb99⟩
      go_wp2_with fail
      go_ret
      exact ⟨rfl, HB.out.trans (hb99.mono HB.out.size)⟩
    | true =>
      clear hb2 hz
      have HQ := Lib.hid (Sort_any (.slice oa t.length ca) t i w2 _ HX.out (Nat.le_refl _) hi)
      by_cases hl : locE (chkT t) i (colsT t) = 0
      · obtain ⟨hc, hp, k, hk⟩ := loc_zero hl
        have hva := valid_of hc hp
        have hkl := idxO_lt hk
        have HSV : Hid (srtV t i = passes (keyS k) t.length t) := Lib.hid (by unfold srtV; rw [if_pos hl, hk]; rfl)
        have HSL : Hid ((srtV t i).length = t.length) := Lib.hid (by rw [HSV.out, passes_len])
        have HVS : Hid (Valid (colsT t) (srtV t i)) := Lib.hid (by rw [HSV.out]; exact srt_valid hva _)
        have HCO : Hid (colsT (srtV t i) = colsT t) := Lib.hid (HVS.out.cols (by rw [HSL.out]; exact hp))
        have HCN : Hid (∀ r, cntR (srtV t i) r = cntR t r) := Lib.hid (fun r => by rw [HSV.out]; exact alike_cnt (passes_alike _ t _) r)
        have HSO : Hid (SortedK (keyS k) (srtV t i)) := Lib.hid (by rw [HSV.out]; exact passes_sorted _ t)
        have HRT : Hid (∀ r ∈ t, r.length ≤ 1000) := Lib.hid (fun r hr => (smT_fewD HZ.out).2 r hr)
        have HRS : Hid (∀ r ∈ srtV t i, r.length ≤ 1000) := Lib.hid (fun r hr => (srtV_few (i := i) HZ.out).2 r hr)
        have h8 : t.length ≤ 8 := hva.1
        rw [hl] at HQ
        obtain ⟨S, hS⟩ : ∃ S, srtV t i = S := ⟨_, rfl⟩
        rw [hS] at HQ HSL HVS HCO HCN HSO HRS
        have HCELL : Hid (∀ m : Nat, (h : m < S.length) → ∃ h2 : k < S[m].length, cellR S (m : Int) i = (S[m][k], 0)) := Lib.hid (fun m h => by
          have h2 : k < S[m].length := by rw [(HVS.out.2.2.2 _ (List.getElem_mem h)).1]; exact hkl
          refine ⟨h2, ?_⟩
          have hm : idxO (m : Int) S.length = some m := by unfold idxO; rw [if_pos (by omega), if_pos (by omega)]; simp
          unfold cellR
          rw [if_pos HVS.out.chk, hm, HCO.out, hk]
          simp [List.getElem?_eq_getElem h, List.getElem?_eq_getElem h2])
        clear hc hva hS hl hk HSV HCO HZ
        go_wp2_with fail
        refine HQ.out.mono ?_
        rintro e w3 ⟨⟨v3, rfl, h3⟩, hb3⟩
        obtain ⟨o3, c3, rfl⟩ : ∃ o c, v3 = .slice o t.length c := by obtain ⟨o, c, e, _, _⟩ := h3.form; exact ⟨o, c, by rw [e, HSL.out]⟩
        have HX := Lib.hid (HX.out.on hb3)
        have HY := Lib.hid (HY.out.on hb3)
        have HB := Lib.hid (HB.out.trans (hb3.mono HB.out.size))
        have hE3 := hE2.later hb3
        have H1 := Lib.hid h3.all
        have HCK := Lib.hid (chk_any _ S w3 _ H1.out)
        rw [HVS.out.chk] at HCK
        clear hb3 h3 HQ
        go_wp2_with fail
        refine HCK.out.mono ?_
        rintro e w' ⟨rfl, rfl⟩
        go_wp2_with fail
        go_loopw [9] (fun j wr => ∃ m : Nat, m ≤ t.length ∧ j = .int .i64 m ∧ Hid (∃ q, wr = w3.drewN q)) (fun j _ => t.length - (intOf j).toNat)
        case atStart => exact ⟨0, Nat.zero_le _, rfl, Lib.hid ⟨0, rfl⟩⟩
        case round =>
          obtain ⟨m, hm, rfl, HQ⟩ := hrel
          by_cases hlt : m < t.length
          · obtain ⟨b, off, o, cr, e1, _, h0, hrow⟩ := HX.out.at_ (List.getElem?_eq_getElem hlt)
            subst e1
            have h0 : wr.cell? ⟨b, off + m, none⟩ = some (.slice o t[m].length cr) := by obtain ⟨q, e⟩ := HQ.out; rw [e]; exact h0
            have HCS := Lib.hid (fun d => by
              have h := count_q (.slice o3 t.length c3) (.slice o t[m].length cr) S t[m] (wr.drewN d) (· < w3.heap.size) (by obtain ⟨q, e⟩ := HQ.out; rw [e]; exact H1.out) (by obtain ⟨q, e⟩ := HQ.out; rw [e]; exact hrow) HRS.out (HRT.out _ (List.getElem_mem hlt))
              rw [HCN.out] at h
              exact h)
            have HCT := Lib.hid (fun d => count_q (.slice (some ⟨b, off, none⟩) t.length ca) (.slice o t[m].length cr) t t[m] (wr.drewN d) (· < w3.heap.size) (by obtain ⟨q, e⟩ := HQ.out; rw [e]; exact HX.out) (by obtain ⟨q, e⟩ := HQ.out; rw [e]; exact hrow) HRT.out (HRT.out _ (List.getElem_mem hlt)))
            obtain ⟨N, hN⟩ : ∃ N, cntR t t[m] = N := ⟨_, rfl⟩
            rw [hN] at HCS HCT
            have hms : m < S.length := by rw [HSL.out]; exact hlt
            obtain ⟨hkm, hcm⟩ := HCELL.out m hms
            have HC1 : Hid (∀ W, (∃ q, W = w3.drewN q) → Calls Try.prog 24 #[.slice o3 t.length c3, .int .i64 (m : Int), .int .i64 i] W fun e w' => e = .returned (.tuple #[.string S[m][k], .int .i64 0]) ∧ W = w') := Lib.hid (fun W hW => by
              have h := Cell_any (.slice o3 t.length c3) S (m : Int) i W (· < w3.heap.size) (by obtain ⟨q, rfl⟩ := hW; exact H1.out) ⟨by omega, by omega⟩ hi
              rw [hcm] at h
              exact h)
            obtain ⟨m2, hm2, hm2l, hmin⟩ : ∃ m2, m ≤ m2 ∧ m2 < t.length ∧ ((m + 1 < t.length ∧ m2 = m + 1) ∨ (m + 1 = t.length ∧ m2 = m)) := by
              by_cases h : m + 1 < t.length
              · exact ⟨m + 1, by omega, h, .inl ⟨h, rfl⟩⟩
              · exact ⟨m, by omega, hlt, .inr ⟨by omega, rfl⟩⟩
            have hms2 : m2 < S.length := by rw [HSL.out]; exact hm2l
            obtain ⟨hkm2, hcm2⟩ := HCELL.out m2 hms2
            have HC2 : Hid (∀ W, (∃ q, W = w3.drewN q) → Calls Try.prog 24 #[.slice o3 t.length c3, .int .i64 (m2 : Int), .int .i64 i] W fun e w' => e = .returned (.tuple #[.string S[m2][k], .int .i64 0]) ∧ W = w') := Lib.hid (fun W hW => by
              have h := Cell_any (.slice o3 t.length c3) S (m2 : Int) i W (· < w3.heap.size) (by obtain ⟨q, rfl⟩ := hW; exact H1.out) ⟨by omega, by omega⟩ hi
              rw [hcm2] at h
              exact h)
            have hle : leK (keyS k) S[m] S[m2] := by
              rcases Nat.lt_or_ge m m2 with h | h
              · exact List.pairwise_iff_getElem.1 HSO.out m m2 hms hms2 h
              · obtain rfl : m2 = m := by omega
                exact List.lt_irrefl _
            have hgt := leK_gtr hkm hkm2 hle
            obtain ⟨A, hA⟩ : ∃ A, S[m][k] = A := ⟨_, rfl⟩
            obtain ⟨C, hC⟩ : ∃ C, S[m2][k] = C := ⟨_, rfl⟩
            rw [hA] at HC1 hgt
            rw [hC] at HC2 hgt
            have hki0 : (0 : Int) ≤ (m : Int) := by omega
            have hki : (m : Int) < (t.length : Int) := by omega
            clear hA hC hle hcm hcm2 hrow hN
            have HG := Lib.hid hgt
            have HM := Lib.hid hmin
            clear hgt hmin
            go_wp2_with fail
            go_quiet (first | (go_at_call 44; with_reducible refine Calls.quiet_of (HCS.out _)) | (go_at_call 44; with_reducible refine Calls.quiet_of (HCT.out _)))
            have HQ2 := Lib.hid (dq HQ.out nq)
            generalize wr.drewN nq = wq at HQ2 ⊢
            have HD1 := Lib.hid (HC1.out wq HQ2.out)
            have HD2 := Lib.hid (HC2.out wq HQ2.out)
            go_wp2_with fail
            refine HD1.out.mono ?_
            rintro e w' ⟨rfl, rfl⟩
            rcases HM.out with ⟨hmm, rfl⟩ | ⟨hmm, rfl⟩
            · have hm1 : (m : Int) + 1 < (t.length : Int) := by omega
              have hm3 : min ((m : Int) + 1) ((t.length : Int) - 1) = ((m + 1 : Nat) : Int) := by omega
              have HM3 := Lib.hid hm3
              clear hm3
              go_wp2_with fail
              rw [HM3.out]
              refine HD2.out.mono ?_
              rintro e w' ⟨rfl, rfl⟩
              rcases HG.out with hl | ⟨hl, he⟩
              all_goals
                go_wp2_with fail
                go_roundw
                case rel => exact ⟨m + 1, hlt, by go_num, HQ2⟩
                case measure => simp [intOf]; omega
            · have HM3 : Hid (min ((m2 : Int) + 1) ((t.length : Int) - 1) = (m2 : Int)) := Lib.hid (by omega)
              go_wp2_with fail
              rw [HM3.out]
              refine HD2.out.mono ?_
              rintro e w' ⟨rfl, rfl⟩
              rcases HG.out with hl | ⟨hl, he⟩
              all_goals
                go_wp2_with fail
                go_roundw
                case rel => exact ⟨m2 + 1, hlt, by go_num, HQ2⟩
                case measure => simp [intOf]; omega
          · obtain rfl : m = t.length := by omega
            have HX : Hid (HoldsT wr (· < wr.heap.size) (.slice oa t.length ca) t) := Lib.hid (by obtain ⟨q, e⟩ := HQ.out; rw [e]; exact HX.out)
            have HY : Hid (HoldsT wr (· < wr.heap.size) (.slice ob u.length cb) u) := Lib.hid (by obtain ⟨q, e⟩ := HQ.out; rw [e]; exact HY.out)
            have HB : Hid (Below w.heap.size w wr) := Lib.hid (by obtain ⟨q, e⟩ := HQ.out; rw [e]; exact HB.out.trans (below_drewN _ _ _))
            have hEr : Env0 wr := hE3.later (by obtain ⟨q, e⟩ := HQ.out; rw [e]; exact below_drewN _ _ _)
            clear HQ
            have HST := Lib.hid (Stack_any (.slice oa t.length ca) (.slice ob u.length cb) t u wr _ HX.out HY.out (Nat.le_refl _))
            by_cases hs : stackE t u = 0
            · by_cases ht0 : t.length = 0
              · rw [hs] at HST
                have hz : ((t.length : Int) == 0) = true := by rw [ht0]; rfl
                have HQ := HST
                clear hs ht0
                go_wp2_with fail
                refine HQ.out.mono ?_
                rintro e w4 ⟨⟨v4, rfl, h4⟩, hb4⟩
                obtain ⟨o4, c4, rfl, _, _⟩ := h4.form
                have HB := Lib.hid (HB.out.trans (hb4.mono HB.out.size))
                have hE4 := hEr.later hb4
                have H4 := Lib.hid h4.all
                clear hb4 h4

                have HA := Lib.hid (awaken w4 hE4)
                go_wp2_with fail
                refine HA.out.mono ?_
                rintro e w99 ⟨rfl, hb99⟩
                go_wp2_with fail
                go_ret
                exact ⟨rfl, HB.out.trans (hb99.mono HB.out.size)⟩
              · by_cases hu0 : u.length = 0
                · rw [hs] at HST
                  have hz : ((t.length : Int) == 0) = false := by rw [beq_eq_false_iff_ne]; omega
                  have hz2 : ((u.length : Int) == 0) = true := by rw [hu0]; rfl
                  have HQ := HST
                  clear hs ht0 hu0
                  go_wp2_with fail
                  refine HQ.out.mono ?_
                  rintro e w4 ⟨⟨v4, rfl, h4⟩, hb4⟩
                  obtain ⟨o4, c4, rfl, _, _⟩ := h4.form
                  have HB := Lib.hid (HB.out.trans (hb4.mono HB.out.size))
                  have hE4 := hEr.later hb4
                  have H4 := Lib.hid h4.all
                  clear hb4 h4

                  have HA := Lib.hid (awaken w4 hE4)
                  go_wp2_with fail
                  refine HA.out.mono ?_
                  rintro e w99 ⟨rfl, hb99⟩
                  go_wp2_with fail
                  go_ret
                  exact ⟨rfl, HB.out.trans (hb99.mono HB.out.size)⟩
                · obtain ⟨hv, hbe, hbv⟩ := stack_beside hs (by omega) (by omega)
                  have hz : ((t.length : Int) == 0) = false := by rw [beq_eq_false_iff_ne]; omega
                  have hz2 : ((u.length : Int) == 0) = false := by rw [beq_eq_false_iff_ne]; omega
                  rw [hs, hv] at HST
                  have HQ := HST
                  have HL1 := Lib.hid (transT_few (t ++ u))
                  have HTV := Lib.hid (fun (w : World) (B : Nat) (x : Value) (h : HoldsT w (· < B) x (t ++ u)) (hB : B ≤ w.heap.size) => Transpose_any x (t ++ u) w B h hB)
                  have HTA := Lib.hid (fun w B h hB => Transpose_any (.slice oa t.length ca) t w B h hB)
                  have HTB := Lib.hid (fun w B h hB => Transpose_any (.slice ob u.length cb) u w B h hB)
                  have HBS := Lib.hid (fun x y w B h h' hB => Beside_any x y (transT t) (transT u) w B h h' hB)
                  rw [hbe, hbv] at HBS
                  obtain ⟨V, hV⟩ : ∃ V, t ++ u = V := ⟨_, rfl⟩
                  rw [hV] at HQ HL1 HTV HBS
                  obtain ⟨TA, hTA⟩ : ∃ T, transT t = T := ⟨_, rfl⟩
                  obtain ⟨TB, hTB⟩ : ∃ T, transT u = T := ⟨_, rfl⟩
                  obtain ⟨TV, hTV⟩ : ∃ T, transT V = T := ⟨_, rfl⟩
                  rw [hTA] at HTA HBS
                  rw [hTB] at HTB HBS
                  rw [hTV] at HTV HBS HL1
                  clear hs ht0 hu0 hv hbe hbv hV hTA hTB hTV HST
                  go_wp2_with fail
                  refine HQ.out.mono ?_
                  rintro e w4 ⟨⟨v4, rfl, h4⟩, hb4⟩
                  obtain ⟨o4, c4, rfl, _, _⟩ := h4.form
                  have HX := Lib.hid (HX.out.on hb4)
                  have HY := Lib.hid (HY.out.on hb4)
                  have HB := Lib.hid (HB.out.trans (hb4.mono HB.out.size))
                  have hE4 := hEr.later hb4
                  have H4 := Lib.hid h4.all
                  clear hb4 h4
                  have HQ := Lib.hid (HTA.out w4 _ HX.out (Nat.le_refl _))
                  go_wp2_with fail
                  refine HQ.out.mono ?_
                  rintro e w5 ⟨⟨v5, rfl, h5⟩, hb5⟩
                  obtain ⟨o5, c5, rfl, _, _⟩ := h5.form
                  have HY := Lib.hid (HY.out.on hb5)
                  have H4 := Lib.hid (H4.out.on hb5)
                  have HB := Lib.hid (HB.out.trans (hb5.mono HB.out.size))
                  have hE5 := hE4.later hb5
                  have H5 := Lib.hid h5.all
                  clear hb5 h5
                  have HQ := Lib.hid (HTB.out w5 _ HY.out (Nat.le_refl _))
                  go_wp2_with fail
                  refine HQ.out.mono ?_
                  rintro e w6 ⟨⟨v6, rfl, h6⟩, hb6⟩
                  obtain ⟨o6, c6, rfl, _, _⟩ := h6.form
                  have H4 := Lib.hid (H4.out.on hb6)
                  have H5 := Lib.hid (H5.out.on hb6)
                  have HB := Lib.hid (HB.out.trans (hb6.mono HB.out.size))
                  have hE6 := hE5.later hb6
                  have H6 := Lib.hid h6.all
                  clear hb6 h6
                  have HQ := Lib.hid (HBS.out _ _ w6 _ H5.out H6.out (Nat.le_refl _))
                  go_wp2_with fail
                  refine HQ.out.mono ?_
                  rintro e w7 ⟨⟨v7, rfl, h7⟩, hb7⟩
                  obtain ⟨o7, c7, rfl, _, _⟩ := h7.form
                  have H4 := Lib.hid (H4.out.on hb7)
                  have HB := Lib.hid (HB.out.trans (hb7.mono HB.out.size))
                  have hE7 := hE6.later hb7
                  have H7 := Lib.hid h7.all
                  clear hb7 h7
                  have HQ := Lib.hid (HTV.out w7 _ _ H4.out (Nat.le_refl _))
                  go_wp2_with fail
                  refine HQ.out.mono ?_
                  rintro e w8 ⟨⟨v8, rfl, h8⟩, hb8⟩
                  obtain ⟨o8, c8, rfl, _, _⟩ := h8.form
                  have H7 := Lib.hid (H7.out.on hb8)
                  have HB := Lib.hid (HB.out.trans (hb8.mono HB.out.size))
                  have hE8 := hE7.later hb8
                  have H8 := Lib.hid h8.all
                  clear hb8 h8
                  have HQ := Lib.hid (same_eq _ _ TV w8 _ H7.out H8.out (Nat.le_refl _) HL1.out.1 HL1.out.2)
                  go_wp2_with fail
                  refine HQ.out.mono ?_
                  rintro e w9 ⟨rfl, hb9⟩
                  have HB := Lib.hid (HB.out.trans (hb9.mono HB.out.size))
                  have hE9 := hE8.later hb9
                  clear hb9
                  have HA := Lib.hid (awaken w9 hE9)
                  go_wp2_with fail
                  refine HA.out.mono ?_
                  rintro e w99 ⟨rfl, hb99⟩
                  go_wp2_with fail
                  go_ret
                  exact ⟨rfl, HB.out.trans (hb99.mono HB.out.size)⟩
            · obtain ⟨E, hEs⟩ : ∃ E, stackE t u = E := ⟨_, rfl⟩
              rw [hEs] at HST hs
              have fc : (E != 0) = true := by rw [bne_iff_ne]; exact hs
              have HQ := HST
              clear hs hEs
              go_wp2_with fail
              refine HQ.out.mono ?_
              rintro e w4 ⟨⟨v4, rfl, h4⟩, hb4⟩
              obtain ⟨o4, c4, rfl, _, _⟩ := h4.form
              have HB := Lib.hid (HB.out.trans (hb4.mono HB.out.size))
              have hE4 := hEr.later hb4
              have H4 := Lib.hid h4.all
              clear hb4 h4

              have HA := Lib.hid (awaken w4 hE4)
              go_wp2_with fail
              refine HA.out.mono ?_
              rintro e w99 ⟨rfl, hb99⟩
              go_wp2_with fail
              go_ret
              exact ⟨rfl, HB.out.trans (hb99.mono HB.out.size)⟩
      · obtain ⟨E3, hE3'⟩ : ∃ E, locE (chkT t) i (colsT t) = E := ⟨_, rfl⟩
        rw [hE3'] at HQ hl
        have fcs : (E3 == 0) = false := by rw [beq_eq_false_iff_ne]; exact hl
        obtain ⟨S, hS⟩ : ∃ S, srtV t i = S := ⟨_, rfl⟩
        rw [hS] at HQ
        clear hE3' hl hS
        go_wp2_with fail
        refine HQ.out.mono ?_
        rintro e wr ⟨⟨v3, rfl, h3⟩, hb3⟩
        obtain ⟨o3, c3, rfl, _, _⟩ := h3.form
        have HX := Lib.hid (HX.out.on hb3)
        have HY := Lib.hid (HY.out.on hb3)
        have HB := Lib.hid (HB.out.trans (hb3.mono HB.out.size))
        have hEr := hE2.later hb3
        clear hb3 h3 HQ
        have HST := Lib.hid (Stack_any (.slice oa t.length ca) (.slice ob u.length cb) t u wr _ HX.out HY.out (Nat.le_refl _))
        by_cases hs : stackE t u = 0
        · by_cases ht0 : t.length = 0
          · rw [hs] at HST
            have hz : ((t.length : Int) == 0) = true := by rw [ht0]; rfl
            have HQ := HST
            clear hs ht0
            go_wp2_with fail
            refine HQ.out.mono ?_
            rintro e w4 ⟨⟨v4, rfl, h4⟩, hb4⟩
            obtain ⟨o4, c4, rfl, _, _⟩ := h4.form
            have HB := Lib.hid (HB.out.trans (hb4.mono HB.out.size))
            have hE4 := hEr.later hb4
            have H4 := Lib.hid h4.all
            clear hb4 h4

            have HA := Lib.hid (awaken w4 hE4)
            go_wp2_with fail
            refine HA.out.mono ?_
            rintro e w99 ⟨rfl, hb99⟩
            go_wp2_with fail
            go_ret
            exact ⟨rfl, HB.out.trans (hb99.mono HB.out.size)⟩
          · by_cases hu0 : u.length = 0
            · rw [hs] at HST
              have hz : ((t.length : Int) == 0) = false := by rw [beq_eq_false_iff_ne]; omega
              have hz2 : ((u.length : Int) == 0) = true := by rw [hu0]; rfl
              have HQ := HST
              clear hs ht0 hu0
              go_wp2_with fail
              refine HQ.out.mono ?_
              rintro e w4 ⟨⟨v4, rfl, h4⟩, hb4⟩
              obtain ⟨o4, c4, rfl, _, _⟩ := h4.form
              have HB := Lib.hid (HB.out.trans (hb4.mono HB.out.size))
              have hE4 := hEr.later hb4
              have H4 := Lib.hid h4.all
              clear hb4 h4

              have HA := Lib.hid (awaken w4 hE4)
              go_wp2_with fail
              refine HA.out.mono ?_
              rintro e w99 ⟨rfl, hb99⟩
              go_wp2_with fail
              go_ret
              exact ⟨rfl, HB.out.trans (hb99.mono HB.out.size)⟩
            · obtain ⟨hv, hbe, hbv⟩ := stack_beside hs (by omega) (by omega)
              have hz : ((t.length : Int) == 0) = false := by rw [beq_eq_false_iff_ne]; omega
              have hz2 : ((u.length : Int) == 0) = false := by rw [beq_eq_false_iff_ne]; omega
              rw [hs, hv] at HST
              have HQ := HST
              have HL1 := Lib.hid (transT_few (t ++ u))
              have HTV := Lib.hid (fun (w : World) (B : Nat) (x : Value) (h : HoldsT w (· < B) x (t ++ u)) (hB : B ≤ w.heap.size) => Transpose_any x (t ++ u) w B h hB)
              have HTA := Lib.hid (fun w B h hB => Transpose_any (.slice oa t.length ca) t w B h hB)
              have HTB := Lib.hid (fun w B h hB => Transpose_any (.slice ob u.length cb) u w B h hB)
              have HBS := Lib.hid (fun x y w B h h' hB => Beside_any x y (transT t) (transT u) w B h h' hB)
              rw [hbe, hbv] at HBS
              obtain ⟨V, hV⟩ : ∃ V, t ++ u = V := ⟨_, rfl⟩
              rw [hV] at HQ HL1 HTV HBS
              obtain ⟨TA, hTA⟩ : ∃ T, transT t = T := ⟨_, rfl⟩
              obtain ⟨TB, hTB⟩ : ∃ T, transT u = T := ⟨_, rfl⟩
              obtain ⟨TV, hTV⟩ : ∃ T, transT V = T := ⟨_, rfl⟩
              rw [hTA] at HTA HBS
              rw [hTB] at HTB HBS
              rw [hTV] at HTV HBS HL1
              clear hs ht0 hu0 hv hbe hbv hV hTA hTB hTV HST
              go_wp2_with fail
              refine HQ.out.mono ?_
              rintro e w4 ⟨⟨v4, rfl, h4⟩, hb4⟩
              obtain ⟨o4, c4, rfl, _, _⟩ := h4.form
              have HX := Lib.hid (HX.out.on hb4)
              have HY := Lib.hid (HY.out.on hb4)
              have HB := Lib.hid (HB.out.trans (hb4.mono HB.out.size))
              have hE4 := hEr.later hb4
              have H4 := Lib.hid h4.all
              clear hb4 h4
              have HQ := Lib.hid (HTA.out w4 _ HX.out (Nat.le_refl _))
              go_wp2_with fail
              refine HQ.out.mono ?_
              rintro e w5 ⟨⟨v5, rfl, h5⟩, hb5⟩
              obtain ⟨o5, c5, rfl, _, _⟩ := h5.form
              have HY := Lib.hid (HY.out.on hb5)
              have H4 := Lib.hid (H4.out.on hb5)
              have HB := Lib.hid (HB.out.trans (hb5.mono HB.out.size))
              have hE5 := hE4.later hb5
              have H5 := Lib.hid h5.all
              clear hb5 h5
              have HQ := Lib.hid (HTB.out w5 _ HY.out (Nat.le_refl _))
              go_wp2_with fail
              refine HQ.out.mono ?_
              rintro e w6 ⟨⟨v6, rfl, h6⟩, hb6⟩
              obtain ⟨o6, c6, rfl, _, _⟩ := h6.form
              have H4 := Lib.hid (H4.out.on hb6)
              have H5 := Lib.hid (H5.out.on hb6)
              have HB := Lib.hid (HB.out.trans (hb6.mono HB.out.size))
              have hE6 := hE5.later hb6
              have H6 := Lib.hid h6.all
              clear hb6 h6
              have HQ := Lib.hid (HBS.out _ _ w6 _ H5.out H6.out (Nat.le_refl _))
              go_wp2_with fail
              refine HQ.out.mono ?_
              rintro e w7 ⟨⟨v7, rfl, h7⟩, hb7⟩
              obtain ⟨o7, c7, rfl, _, _⟩ := h7.form
              have H4 := Lib.hid (H4.out.on hb7)
              have HB := Lib.hid (HB.out.trans (hb7.mono HB.out.size))
              have hE7 := hE6.later hb7
              have H7 := Lib.hid h7.all
              clear hb7 h7
              have HQ := Lib.hid (HTV.out w7 _ _ H4.out (Nat.le_refl _))
              go_wp2_with fail
              refine HQ.out.mono ?_
              rintro e w8 ⟨⟨v8, rfl, h8⟩, hb8⟩
              obtain ⟨o8, c8, rfl, _, _⟩ := h8.form
              have H7 := Lib.hid (H7.out.on hb8)
              have HB := Lib.hid (HB.out.trans (hb8.mono HB.out.size))
              have hE8 := hE7.later hb8
              have H8 := Lib.hid h8.all
              clear hb8 h8
              have HQ := Lib.hid (same_eq _ _ TV w8 _ H7.out H8.out (Nat.le_refl _) HL1.out.1 HL1.out.2)
              go_wp2_with fail
              refine HQ.out.mono ?_
              rintro e w9 ⟨rfl, hb9⟩
              have HB := Lib.hid (HB.out.trans (hb9.mono HB.out.size))
              have hE9 := hE8.later hb9
              clear hb9
              have HA := Lib.hid (awaken w9 hE9)
              go_wp2_with fail
              refine HA.out.mono ?_
              rintro e w99 ⟨rfl, hb99⟩
              go_wp2_with fail
              go_ret
              exact ⟨rfl, HB.out.trans (hb99.mono HB.out.size)⟩
        · obtain ⟨E, hEs⟩ : ∃ E, stackE t u = E := ⟨_, rfl⟩
          rw [hEs] at HST hs
          have fc : (E != 0) = true := by rw [bne_iff_ne]; exact hs
          have HQ := HST
          clear hs hEs
          go_wp2_with fail
          refine HQ.out.mono ?_
          rintro e w4 ⟨⟨v4, rfl, h4⟩, hb4⟩
          obtain ⟨o4, c4, rfl, _, _⟩ := h4.form
          have HB := Lib.hid (HB.out.trans (hb4.mono HB.out.size))
          have hE4 := hEr.later hb4
          have H4 := Lib.hid h4.all
          clear hb4 h4

          have HA := Lib.hid (awaken w4 hE4)
          go_wp2_with fail
          refine HA.out.mono ?_
          rintro e w99 ⟨rfl, hb99⟩
          go_wp2_with fail
          go_ret
          exact ⟨rfl, HB.out.trans (hb99.mono HB.out.size)⟩

end Go.Proofs.Ytampofpllijfhaa
