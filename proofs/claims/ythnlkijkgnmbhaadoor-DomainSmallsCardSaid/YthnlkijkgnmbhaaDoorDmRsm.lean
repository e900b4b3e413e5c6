/-
  Small of the reference. Nothing is assumed.
-/
import Derived.Test.YthnlkijkgnmbhaaDoorDmRfi
namespace Go.Proofs.YthnlkijkgnmbhaaDoor
open Go.RowKit

theorem axOf_len (n : Nat) (t : Int) : (axOf n t).length ≤ n := by
  unfold axOf cntOf
  rw [List.length_map, List.length_range]
  split <;> omega
theorem prod_le : ∀ (l : List (List V)), (∀ a, a ∈ l → a.length ≤ 64) → prodL l ≤ 64 ^ l.length
  | [], _ => Nat.le_refl _
  | a :: l, h => by
    rw [prodL, List.length_cons, Nat.pow_succ, Nat.mul_comm]
    exact Nat.mul_le_mul (prod_le l fun x hx => h x (by simp [hx])) (h a (by simp))
theorem size_sm {ts : List Int} {n : Nat} (hn : n ≤ 64) (h4 : ¬ 4 < (ts.length : Int)) : szN (ts.map (axOf n)) = prodL (ts.map (axOf n)) ∧ szE (ts.map (axOf n)) = 0 := by
  have h := prod_le (ts.map (axOf n)) (fun a ha => by
    obtain ⟨t, _, rfl⟩ := List.mem_map.1 ha
    have := axOf_len n t
    omega)
  rw [List.length_map] at h
  have h2 : 64 ^ ts.length ≤ 64 ^ 4 := Nat.pow_le_pow_right (by decide) (by omega)
  have h3 : (64 : Nat) ^ 4 = 16777216 := by decide
  unfold szN szE
  rw [szD_eq, if_pos (show prodL (ts.map (axOf n)) ≤ 1152921504606846976 by omega)]
  exact ⟨rfl, rfl⟩
theorem rfst_all (t : Int) (n : Nat) (hn : n ≤ 64) (ht : isTy t = true) : RFst t n := by
  obtain ⟨h1, h8⟩ := isTy_yes ht
  rcases ty_cases h1 h8 with rfl | rfl | rfl | rfl | rfl | rfl | rfl | rfl
  · exact rfst1 n hn
  · exact rfst2 n hn
  · exact rfst3 n hn
  · exact rfst4 n hn
  · exact rfst5 n hn
  · exact rfst6 n hn
  · exact rfst7 n hn
  · exact rfst8 n hn
theorem dom_new (w : World) (x : Value) (t : TypeId) : ∀ w', Below (w.heap.size + 1) (w.alloc (.cells #[x] t)) w' → w'.cell? ⟨w.heap.size, 0, none⟩ = some x ∧ w'.frozen? ⟨w.heap.size, 0, none⟩ = false := fun _ h =>
  ⟨dbox h, (h.frozen (p := ⟨w.heap.size, 0, none⟩) (Nat.lt_succ_self _)).trans (frozen_new w _ _ 0)⟩

set_option maxRecDepth 100000 in
set_option maxHeartbeats 3200000 in
theorem rsmall_any (ts : List Int) (x : Value) (n : Int) (w : World) (B : Nat) (hx : LInts w B x ts) (hB : B ≤ w.heap.size) :
    Calls Tryd.prog 15 #[x, .int .i64 n] w fun e w' => (∃ sl, e = .returned (.tuple #[.agg #[sl], .int .i64 (smE ts n)]) ∧ LAx w' w'.heap.size sl (smLs ts n)) ∧ Below w.heap.size w w' := by
  obtain ⟨oa, ca, rfl, hlm, hel⟩ := hx
  have HR0 := Lib.hid (dom_new w (.slice none 0 0) 24)
  have HEL := Lib.hid hel
  clear hel
  by_cases h4 : 4 < (ts.length : Int)
  · have HZ := Lib.hid (smE_size (n := n) h4)
    obtain ⟨r0, z0⟩ := HR0.out _ (Below.refl _ _)
    go_enter Tryd.func15, Tryd.ntmps15
    go_wp2_with fail
    refine bodyPost_ret (v := .tuple #[.agg #[.slice none 0 0], .int .i64 2]) (by simp [results, Tryd.results15, go_sem, *]) rfl ?_
    exact ⟨⟨.slice none 0 0, by rw [HZ.out.1], by rw [HZ.out.2]; exact LAx.nil⟩, by first | exact below1 _ _ | exact (below1 _ _).setCell (p := ⟨w.heap.size, 0, none⟩) (Nat.le_refl _) _⟩
  have H4 := Lib.hid h4
  go_enter Tryd.func15, Tryd.ntmps15
  go_wp2_with fail
  go_loopw [6] (fun iv wr => ∃ k : Nat, k ≤ ts.length ∧ iv = .int .i64 k ∧ Hid (allTy (ts.drop k) = allTy ts) ∧ Hid (Below (w.heap.size + 1) (w.alloc (.cells #[.slice none 0 0] 24)) wr)) (fun i _ => ts.length - (intOf i).toNat)
  case atStart => exact ⟨0, Nat.zero_le _, rfl, Lib.hid rfl, Lib.hid (Below.refl _ _)⟩
  case round =>
    obtain ⟨k, hk, rfl, HD, HBW⟩ := hrel
    have HSR := Lib.hid (show w.heap.size + 1 ≤ wr.heap.size from by have h := HBW.out.size; simpa using h)
    by_cases hlt : k < ts.length
    · have HS := Lib.hid (drop_l ts k hlt)
      obtain ⟨b, off, c, rfl, hb, hc, hr⟩ := HEL.out k _ (List.getElem?_eq_getElem hlt)
      cases hr
      have hc1 := (((below1 w (.cells #[.slice none 0 0] 24)).trans (HBW.out.mono (Nat.le_succ _))).cell (p := ⟨b, off + k, none⟩) (Nat.lt_of_lt_of_le hb hB)).trans hc
      have hki : (k : Int) < (ts.length : Int) := by omega
      have hki0 : (0 : Int) ≤ (k : Int) := by omega
      obtain ⟨t, htk⟩ : ∃ t, ts[k] = t := ⟨_, rfl⟩
      rw [htk] at hc1 HS
      clear hc
      have HT := Lib.hid (refTypeName_any t wr)
      go_wp2_with fail
      refine HT.out.mono ?_
      rintro e w2 ⟨rfl, hb2⟩
      have HB2 := Lib.hid (HBW.out.trans (hb2.mono HSR.out))
      clear hb2
      by_cases hty : isTy t = true
      · have htn := tname_nil hty
        have HTY := Lib.hid hty
        clear hty
        go_wp2_with fail
        go_roundw
        case rel => exact ⟨k + 1, hlt, by go_num, Lib.hid (by rw [← HD.out, HS.out]; show _ = (isTy t && _); rw [HTY.out, Bool.true_and]; rfl), HB2⟩
        case measure => simp [intOf]; omega
      · have hno := isTy_no (by simpa using hty)
        have htn : (tname t).toList.isEmpty = true := by rw [tname_no hno]; decide +kernel
        have HZ := Lib.hid (smE_type (ts := ts) (n := n) (by have := H4.out; omega) (by rw [← HD.out, HS.out]; show (isTy t && _) = false; rw [show isTy t = false by simpa using hty]; rfl))
        obtain ⟨r0, z0⟩ := HR0.out _ HB2.out
        clear hno hty
        go_wp2_with fail
        refine bodyPost_ret (v := .tuple #[.agg #[.slice none 0 0], .int .i64 3]) (by simp [results, Tryd.results15, go_sem, *]) rfl ?_
        have hbl := (below1 w (.cells #[.slice none 0 0] 24)).trans (HB2.out.mono (Nat.le_succ _))
        exact ⟨⟨.slice none 0 0, by rw [HZ.out.1], by rw [HZ.out.2]; exact LAx.nil⟩, by first | exact hbl | exact hbl.setCell (p := ⟨w.heap.size, 0, none⟩) (Nat.le_refl _) _⟩
    · have HTY := Lib.hid (show allTy ts = true by rw [← HD.out, List.drop_of_length_le (by omega)]; rfl)
      have hkl : k = ts.length := by omega
      subst hkl
      clear HD hlt hk
      have HBL := Lib.hid ((below1 w (.cells #[.slice none 0 0] 24)).trans (HBW.out.mono (Nat.le_succ _)))
      obtain ⟨r0, z0⟩ := HR0.out _ HBW.out
      by_cases hlow : n < 0
      · have HZ := Lib.hid (smE_range (ts := ts) (n := n) (by have := H4.out; omega) HTY.out (.inl hlow))
        go_wp2_with fail
        refine bodyPost_ret (v := .tuple #[.agg #[.slice none 0 0], .int .i64 1]) (by simp [results, Tryd.results15, go_sem, *]) rfl ?_
        exact ⟨⟨.slice none 0 0, by rw [HZ.out.1], by rw [HZ.out.2]; exact LAx.nil⟩, by first | exact HBL.out | exact HBL.out.setCell (p := ⟨w.heap.size, 0, none⟩) (Nat.le_refl _) _⟩
      by_cases hbig : 64 < n
      · have HZ := Lib.hid (smE_range (ts := ts) (n := n) (by have := H4.out; omega) HTY.out (.inr hbig))
        go_wp2_with fail
        refine bodyPost_ret (v := .tuple #[.agg #[.slice none 0 0], .int .i64 1]) (by simp [results, Tryd.results15, go_sem, *]) rfl ?_
        exact ⟨⟨.slice none 0 0, by rw [HZ.out.1], by rw [HZ.out.2]; exact LAx.nil⟩, by first | exact HBL.out | exact HBL.out.setCell (p := ⟨w.heap.size, 0, none⟩) (Nat.le_refl _) _⟩
      obtain ⟨m, rfl⟩ : ∃ m : Nat, n = m := ⟨n.toNat, by omega⟩
      obtain ⟨i0, hi, hz0, hz1, hz2⟩ := info_parts infoList
      have hm64 : m ≤ 64 := by omega
      clear r0 z0
      go_wp2_with fail
      have HDN := Lib.hid (dom_new wr (.slice none 0 0) 24)
      have HBX := Lib.hid (Below.refl (w.heap.size + 1) (w.alloc (.cells #[.slice none 0 0] 24)))
      obtain ⟨D, hD⟩ : ∃ D, wr.heap.size = D := ⟨_, rfl⟩
      rw [hD]
      have HDD := Lib.hid hD
      obtain ⟨W1, hW1⟩ : ∃ W1, W1 = wr.alloc (.cells #[.slice none 0 0] 24) := ⟨_, rfl⟩
      have hs1 : W1.heap.size = D + 1 := by rw [hW1]; simp [hD]
      have hd1 := HDN.out W1 (by rw [hW1]; exact Below.refl _ _)
      rw [hD] at hd1
      have hb1 : Below (w.heap.size + 1) (w.alloc (.cells #[.slice none 0 0] 24)) W1 := by rw [hW1]; exact HBW.out.alloc HSR.out _
      rw [← hW1]
      clear hW1 hD
      have HSD := Lib.hid (show w.heap.size + 1 ≤ D from by have := HSR.out; have := HDD.out; omega)
      go_loopw [8] (fun iv wr => ∃ (k : Nat) (v : Value), k ≤ ts.length ∧ iv = .int .i64 k ∧ Hid (Acc encA 33 wr 0 (D + 1) v ((ts.take k).map (axOf m))) ∧ Hid (wr.cell? ⟨D, 0, none⟩ = some v ∧ wr.frozen? ⟨D, 0, none⟩ = false ∧ D + 1 ≤ wr.heap.size) ∧
        Hid (Below (w.heap.size + 1) (w.alloc (.cells #[.slice none 0 0] 24)) wr)) (fun i _ => ts.length - (intOf i).toNat)
      case atStart => exact ⟨0, .slice none 0 0, Nat.zero_le _, rfl, Lib.hid (Acc.nil _ _ _ _ _), Lib.hid ⟨hd1.1, hd1.2, by omega⟩, Lib.hid hb1⟩
      case round =>
        clear hd1 hb1 hs1
        obtain ⟨k, v, hk, rfl, HA, HV, HB⟩ := hrel
        by_cases hlt : k < ts.length
        · obtain ⟨b, off, c, rfl, hb, hc, hr⟩ := HEL.out k _ (List.getElem?_eq_getElem hlt)
          cases hr
          have hc1 := (((below1 w (.cells #[.slice none 0 0] 24)).trans (HB.out.mono (Nat.le_succ _))).cell (p := ⟨b, off + k, none⟩) (Nat.lt_of_lt_of_le hb hB)).trans hc
          have hki : (k : Int) < (ts.length : Int) := by omega
          have hki0 : (0 : Int) ≤ (k : Int) := by omega
          obtain ⟨t, htk⟩ : ∃ t, ts[k] = t := ⟨_, rfl⟩
          rw [htk] at hc1
          obtain ⟨ao, cp, hvf⟩ := HA.out.form
          rw [List.length_map, List.length_take, Nat.min_eq_left hk] at hvf
          subst hvf
          have HTK := Lib.hid (show (ts.take (k + 1)).map (axOf m) = (ts.take k).map (axOf m) ++ [axOf m t] by rw [List.take_succ_eq_append_getElem hlt, htk, List.map_append]; rfl)
          have hty : isTy t = true := List.all_eq_true.1 HTY.out t (by rw [← htk]; exact List.getElem_mem hlt)
          have HFV := Lib.hid (rfst_all t m hm64 hty)
          have HKN := Lib.hid (show k + 1 ≤ ts.length from hlt)
          obtain ⟨hv1, hv2, hv3⟩ := HV.out
          obtain ⟨NL, hNL⟩ : ∃ NL, (axOf m t).length = NL := ⟨_, rfl⟩
          have HNL := Lib.hid hNL
          clear hc hty htk hlt hNL
          go_wp2_with fail
          have hsr := HV.out.2.2
          go_region_law (first | (refine Acc.step (E := encA) (e := 33) Tryd.underlying22 hi hz0 hz1 hz2 rfl (by decide) (by rfl) _ _ (by rfl) 0 (D + 1) (.slice ao k cp) ((ts.take k).map (axOf m)) (by rfl) (HA2.out.later (below1 _ _)) ⟨w2.heap.size, 0, none⟩ 1 (axOf m t) (.slice o2 NL c2) (by rfl) rfl (fun j u hu => new_cells w2 [.slice o2 NL c2] _ j u hu) (HRP.out.keep (fun b hb => ⟨.inr (by have := hb.1; omega), by have := hb.2; simp; omega, fun e => by have := (HA.out.lt b e).2; have := hb.1; omega⟩) (fun b hb => (below1 w2 _).block b hb.2)) (by rw [List.length_map, List.length_take]; omega) (by have := HB2.out.size; simp; omega) ?_; intro v3 w3 hA3 hg3; obtain ⟨o3, c3, hvf3⟩ := hA3.form; rw [List.length_append, List.length_map, List.length_take, Nat.min_eq_left hk, List.length_singleton] at hvf3; subst hvf3; have HG3 := Lib.hid (And.intro hA3 hg3); have hblk := hg3.block D (by have := HB2.out.size; simp; omega) (fun e => by have := (HA.out.lt _ e.symm).1; omega); have hblk2 : w3.heap[D]? = w2.heap[D]? := hblk.trans (Below.heap_alloc _ _ _ (by have := HB2.out.size; omega)); have hc3 := (World.cell?_of_block (w := w2) (a := ⟨D, 0, none⟩) hblk2).trans hv12; have hz3 := (World.frozen?_of_block (w := w2) (a := ⟨D, 0, none⟩) hblk2).trans hvz; clear hA3 hg3 hblk hblk2) | (go_simp; go_at_call 31; refine (HFV.out wr.drew).mono ?_; rintro e w2 ⟨⟨v2, rfl, hrp⟩, hb2⟩; obtain ⟨o2, c2, hvf2, _⟩ := id hrp.form; rw [HNL.out] at hvf2; subst hvf2; have HRP := Lib.hid (show RepS w2 (fun b => wr.heap.size ≤ b ∧ b < w2.heap.size) (.slice o2 NL c2) (axOf m t) from hrp); have hb2' := (below_drewN wr wr.heap.size 1).trans hb2; have HB2 := Lib.hid hb2'; have HA2 := Lib.hid (HA.out.later hb2'); have hv12 := (hb2'.cell (p := ⟨D, 0, none⟩) (by simp; omega)).trans hv1; have hvz := (hb2'.frozen (p := ⟨D, 0, none⟩) (by simp; omega)).trans hv2; have hv13 : ∀ ob, (w2.alloc ob).cell? ⟨D, 0, none⟩ = some (.slice ao k cp) := (fun ob => ((below1 w2 ob).cell (p := ⟨D, 0, none⟩) (by have := HB2.out.size; simp; omega)).trans hv12); clear hrp hb2 hb2'))
          all_goals
            have HZ3 := Lib.hid (And.intro hc3 hz3)
            clear hc3 hz3 hv12 hv13 hv1 hv2 hvz
            go_wp2_with fail
            go_roundw
            case rel =>
              have hs3 : D + 1 ≤ w3.heap.size := by have h1 := HG3.out.2.size; have h2 := HB2.out.size; simp at h1; omega
              refine ⟨k + 1, .slice o3 (k + 1) c3, HKN.out, by go_num, Lib.hid (by rw [HTK.out]; exact HG3.out.1.setCell (Nat.zero_le _) (by omega)), Lib.hid ⟨World.cell?_setCell_same _ _ _ HZ3.out.1, by rw [World.frozen?_setCell]; exact HZ3.out.2, by rw [World.size_setCell]; exact hs3⟩, Lib.hid ?_⟩
              exact (((HB.out.trans (HB2.out.mono (by have := HSD.out; omega))).alloc (by have := HB2.out.size; have := HSD.out; omega) _).grown HG3.out.2 (by have := HB2.out.size; have := HSD.out; simp; omega) (fun q hq => by have := (HA.out.lt q hq).1; have := HSD.out; omega)).setCell (p := ⟨D, 0, none⟩) HSD.out _
            case measure => have := HKN.out; simp [intOf]; omega
        · have hkl : k = ts.length := by omega
          subst hkl
          rw [List.take_length] at HA
          have hax : LAx wr wr.heap.size v (ts.map (axOf m)) := HA.out.axes (by rw [List.length_map]; exact hlm)
          obtain ⟨ao, cp, rfl, _, _⟩ := hax.form
          have HL := Lib.hid (rsize_any (ts.map (axOf m)) _ wr wr.heap.size hax (Nat.le_refl _))
          obtain ⟨hv1, hv2, hv3⟩ := HV.out
          obtain ⟨LL, hLL⟩ : ∃ LL, (ts.map (axOf m)).length = LL := ⟨_, rfl⟩
          obtain ⟨hsz1, hsz2⟩ := size_sm (ts := ts) hm64 (by omega)
          obtain ⟨P, hP⟩ : ∃ P, prodL (ts.map (axOf m)) = P := ⟨_, rfl⟩
          rw [hLL, hsz1, hsz2, hP] at HL
          rw [hLL] at hv1 HA
          have HPP := Lib.hid hP
          have hml : (ts.map (axOf m)).length = ts.length := List.length_map ..
          have HLM := Lib.hid (show LL = ts.length from by rw [← hLL, hml])
          clear hax hk hlt HV hLL hsz1 hsz2 hP hml
          go_wp2_with fail
          refine HL.out.mono ?_
          rintro e w4 ⟨rfl, hb4⟩
          have hb4' := HB.out.trans (hb4.mono (by have := HSD.out; omega))
          obtain ⟨r0, z0⟩ := HR0.out _ hb4'
          have hv4 := (hb4.cell (p := ⟨D, 0, none⟩) (by simp; omega)).trans hv1
          have HB4 := Lib.hid ((below1 w (.cells #[.slice none 0 0] 24)).trans (hb4'.mono (Nat.le_succ _)))
          have HA4 := Lib.hid (HA.out.later hb4)
          clear hb4 hb4' hv1 hv2
          by_cases hlg : 4096 < (P : Int)
          · have HZ := Lib.hid (smE_many (ts := ts) (n := (m : Int)) (by have := H4.out; omega) HTY.out (by omega) (by rw [Int.toNat_natCast]; unfold largeD; rw [HPP.out]; simp; omega))
            go_wp2_with fail
            refine bodyPost_ret (v := .tuple #[.agg #[.slice none 0 0], .int .i64 11]) (by simp [results, Tryd.results15, go_sem, *]) rfl ?_
            exact ⟨⟨.slice none 0 0, by rw [HZ.out.1], by rw [HZ.out.2]; exact LAx.nil⟩, by first | exact HB4.out | exact HB4.out.setCell (p := ⟨w.heap.size, 0, none⟩) (Nat.le_refl _) _⟩
          · have HZ := Lib.hid (smE_ok (ts := ts) (n := (m : Int)) (by have := H4.out; omega) HTY.out (by omega) (by rw [Int.toNat_natCast]; unfold largeD; rw [HPP.out]; simp; omega))
            go_wp2_with fail
            refine bodyPost_ret (v := .tuple #[.agg #[.slice ao LL cp], .int .i64 0]) (by simp [results, Tryd.results15, go_sem, *]) rfl ?_
            refine ⟨⟨.slice ao LL cp, by rw [HZ.out.1], ?_⟩, HB4.out.setCell (p := ⟨w.heap.size, 0, none⟩) (Nat.le_refl _) _⟩
            rw [HZ.out.2, Int.toNat_natCast]
            exact ((HA4.out.setCell (Nat.zero_le _) (by have := HSD.out; omega)).axes (by rw [List.length_map]; exact hlm))

end Go.Proofs.YthnlkijkgnmbhaaDoor
