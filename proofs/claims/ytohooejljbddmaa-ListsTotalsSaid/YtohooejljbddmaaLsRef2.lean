/-
  Unique and Sort of the reference. Nothing is assumed.
-/
import Derived.Test.YtohooejljbddmaaLsElem
namespace Go.Proofs.Ytohooejljbddmaa
open Go.RowKit

set_option maxRecDepth 100000 in
set_option maxHeartbeats 1600000 in
theorem runique_any (x : Value) (l : List Int) (w : World) (B : Nat) (hx : HoldsI w B x l) (hB : B ≤ w.heap.size) (hl : l.length ≤ 1000) :
    Calls Try.prog 33 #[x] w fun e w' => RetI w.heap.size (unq l) e w' ∧ Below w.heap.size w w' := by
  obtain ⟨oa, ca, rfl, _, _, hel⟩ := hx
  obtain ⟨i0, hi, hz0, hz1, hz2⟩ := info_parts infoInt
  go_enter Try.func33, Try.ntmps33
  go_wp2_with fail
  go_loopw [3, 4] (fun v j wr => ∃ k : Nat, k ≤ l.length ∧ j = .int .i64 k ∧ Hid (OwnI wr w.heap.size v (uqK l k)) ∧ Below w.heap.size w wr) (fun _ j _ => l.length - (intOf j).toNat)
  case atStart => exact ⟨0, Nat.zero_le _, rfl, OwnI.none _ _, Below.refl _ _⟩
  case round =>
    rename_i v _
    obtain ⟨k, hk, rfl, HO, hbel⟩ := hrel
    have hln := uqK_len l k hk
    by_cases hlt : k < l.length
    · have hsz := hbel.size
      obtain ⟨b, off, rfl, hb, hc⟩ := hel k _ (List.getElem?_eq_getElem hlt)
      rw [← hbel.cell (p := ⟨b, _, none⟩) (Nat.lt_of_lt_of_le hb hB)] at hc
      have hki0 : (0 : Int) ≤ (k : Int) := by omega
      have hki1 : (k : Int) < (l.length : Int) := by omega
      have HC := Lib.hid (rcount_any _ _ l[k] _ _ HO.out.holds (by omega))
      cases hcc : (uqK l k).contains l[k] with
      | true =>
        have hpos := cnt_pos hcc
        have HSN := Lib.hid (uqK_hit l k hlt hcc)
        generalize cnt (uqK l k) l[k] = c at HC hpos
        have hcz : (c == 0) = false := by simp; omega
        clear hel hcc
        go_wp2_with fail
        refine HC.out.mono ?_
        rintro e w2 ⟨rfl, hb2⟩
        go_wp2_with fail
        go_roundw
        case rel => exact ⟨k + 1, hlt, by go_num, Lib.hid (by rw [HSN.out]; exact HO.out.later hb2), hbel.trans (hb2.mono hsz)⟩
        case measure => simp [intOf]; omega
      | false =>
        have HSN := Lib.hid (uqK_miss l k hlt hcc)
        rw [cnt_zero hcc] at HC
        clear hel hcc
        go_wp2_with fail
        refine HC.out.mono ?_
        rintro e w2 ⟨rfl, hb2⟩
        have HW := Lib.hid (HO.out.later hb2)
        rw [← hb2.cell (p := ⟨b, _, none⟩) (Nat.lt_of_lt_of_le hb (by omega))] at hc
        have hbel2 := hbel.trans (hb2.mono hsz)
        have hsz2 := hbel2.size
        clear HO hbel
        go_wp2_with (at_builtin; refine wpList_append_own _ rfl _ _ 22 rfl w.heap.size 2 i0 (.int .i64 0) 1 8 Try.underlying22 hi hz0 hz1 hz2 rfl (by decide) _ _ _ rfl (HW.out.alloc _) ⟨w2.heap.size, 0, none⟩ 1 1 [.int .i64 l[k]] rfl rfl (one_cells _ _ _) (one_one _) ?c3 ?c4 ?c5 ?_)
        case c3 => unfold maxLen; omega
        case c4 => omega
        case c5 => simp; omega
        intro v' w2 hown' hgrow _
        have hbw := below_app hbel2 HW.out hgrow
        have HO2 := Lib.hid (own_snoc hown' HSN.out)
        clear hown' hgrow
        go_wp2_with fail
        go_roundw
        case rel => exact ⟨k + 1, hlt, by go_num, HO2, hbw⟩
        case measure => simp [intOf]; omega
    · clear hel
      go_wp2_with fail
      go_ret
      exact ⟨RetI.mk HO.out (uqK_all l k (by omega)), hbel⟩

set_option maxRecDepth 100000 in
set_option maxHeartbeats 1600000 in
theorem rsort_any (x : Value) (l : List Int) (w : World) (B : Nat) (hx : HoldsI w B x l) (hB : B ≤ w.heap.size) (hl : l.length ≤ 60) :
    Calls Try.prog 31 #[x] w fun e w' => RetI w.heap.size (srt l) e w' ∧ Below w.heap.size w w' := by
  obtain ⟨oa, ca, rfl, _, _, hel⟩ := hx
  obtain ⟨i0, hi, hz0, hz1, hz2⟩ := info_parts infoInt
  go_enter Try.func31, Try.ntmps31
  go_wp2_with fail
  go_loopw [3, 4] (fun v j wr => ∃ i : Nat, i ≤ l.length ∧ j = .int .i64 i ∧ Hid (OwnI wr w.heap.size v (srK l i)) ∧ Below w.heap.size w wr) (fun _ j _ => l.length - (intOf j).toNat)
  case atStart => exact ⟨0, Nat.zero_le _, rfl, Lib.hid (by rw [srK_zero]; exact OwnI.none _ _), Below.refl _ _⟩
  case round =>
    obtain ⟨i, hi', rfl, HO, hbel⟩ := hrel
    obtain ⟨wo, hwo⟩ : ∃ wo : World, wo = wr := ⟨_, rfl⟩
    subst hwo
    by_cases hlt : i < l.length
    · have hsz := hbel.size
      obtain ⟨b, off, rfl, hb, hc⟩ := hel i _ (List.getElem?_eq_getElem hlt)
      rw [← hbel.cell (p := ⟨b, _, none⟩) (Nat.lt_of_lt_of_le hb hB)] at hc
      have hii0 : (0 : Int) ≤ (i : Int) := by omega
      have hii1 : (i : Int) < (l.length : Int) := by omega
      have hlk := srK_len l i hi'
      have HLK := Lib.hid hlk
      have hx0 := HO.out.holds
      rcases HO.out.2 with ⟨rfl, h0⟩ | ⟨g, co, cur, rfl, hg, _, hco1, hco2, _, _⟩
      · rw [hlk] at h0
        have HI0 := Lib.hid h0
        have HX0 := Lib.hid hx0
        clear hel hx0 hlk HO h0
        go_wp2_with fail
        go_loopw [5] (fun j wi => j = .int .i64 0 ∧ Below wo.heap.size wo wi) (fun j _ => (intOf j).toNat)
        case atStart => exact ⟨rfl, Below.refl _ _⟩
        case round =>
          obtain ⟨rfl, hbi⟩ := hrel
          have HX := Lib.hid (HX0.out.later hbi)
          have hszi := hbi.size
          rw [← hbi.cell (p := ⟨b, _, none⟩) (Nat.lt_of_lt_of_le hb (by omega))] at hc
          have HG : Hid (∀ jj y, 0 ≤ jj → (srK l i)[jj]? = some y → l[i] < y) := fun jj y _ h2 => by
            rw [List.getElem?_eq_none (by have := HLK.out; have := HI0.out; omega)] at h2
            cases h2
          have HS : Hid (∀ y, 0 < 0 → (srK l i)[0 - 1]? = some y → y ≤ l[i]) := fun y h => absurd h (by omega)
          go_wp2_with fail
          go_quiet (fail)
          have HIN := Lib.hid (srK_ins l i 0 hlt HG.out HS.out (by omega))
          clear HG HS
          have hlk := srK_len l i hi'
          go_wp2_with (at_builtin; refine append_src rfl _ _ rfl wo.heap.size (.slice none 0 0) [] rfl (OwnI.none _ _) _ 0 _ rfl ((srK l i).take 0) ?c0 (HX.out.take (by omega)).src ?c1 ?c2 ?_)
          case c0 => simp <;> omega
          case c1 => simp <;> omega
          case c2 => simp <;> omega
          intro v2 w2 hown2 hgrow2
          have hb2 := below_grown (hbi.trans (below_drewN _ _ _)) (by simp; omega) (OwnI.none _ _) hgrow2
          have HW2 := Lib.hid hown2
          have HX2 := Lib.hid (HX.out.later ((below_drewN _ _ _).trans (below_grown (Below.refl _ _) (by simp; omega) (OwnI.none _ _) hgrow2)))
          have hszb := hb2.size
          have hc2 := ((((below_drewN wr wo.heap.size _).trans (below_grown (Below.refl _ _) (by simp; omega) (OwnI.none _ _) hgrow2)).cell (p := ⟨b, off + i, none⟩) (Nat.lt_of_lt_of_le hb (by omega))).trans hc)
          clear hown2 hgrow2
          have hl2 : ([] ++ (srK l i).take 0).length ≤ 100 := by simp <;> omega
          go_wp2_with (at_builtin; refine append_src rfl _ _ rfl wo.heap.size v2 _ rfl (HW2.out.later (below1 _ _)) (some ⟨w2.heap.size, 0, none⟩) 1 1 rfl [l[i]] rfl (one_src _ _ _) ?c3 ?c4 ?_)
          case c3 => have := HLK.out; simp <;> omega
          case c4 => simp; omega
          intro v3 w3 hown3 hgrow3
          have hb3 := below_grown (hb2.alloc hszb _) (by simp; omega) (HW2.out.later (below1 _ _)) hgrow3
          have HW3 := Lib.hid hown3
          have HX3 := Lib.hid (HX2.out.later (below_grown ((Below.refl wo.heap.size w2).alloc (by omega) _) (by simp; omega) (HW2.out.later (below1 _ _)) hgrow3))
          clear hown3 hgrow3
          have hszc := hb3.size
          have hlw : ([] ++ (srK l i).take 0 ++ [l[i]]).length ≤ 100 := by simp <;> omega
          have HLW := Lib.hid hlw; clear hlw
          have hlk := srK_len l i hi'
          have hnil : (srK l i).drop 0 = [] := List.drop_of_length_le (by have := HI0.out; omega)
          have HN := Lib.hid hnil
          clear hnil hlk
          go_wp2_with (at_builtin; refine append_src rfl _ _ rfl wo.heap.size v3 _ rfl HW3.out _ _ _ rfl ((srK l i).drop 0) ?d0 ?d1 ?d2 ?d3 ?_)
          case d0 => rw [HN.out]; rfl
          case d1 => intro j z hz; rw [HN.out] at hz; simp at hz
          case d2 => have := HLW.out; have := HLK.out; first | omega | (simp <;> omega)
          case d3 => omega
          intro v4 w4 hown4 hgrow4
          have hb4 := below_grown hb3 hszc HW3.out hgrow4
          have HW4 := Lib.hid (HIN.out ▸ (show OwnI w4 wo.heap.size v4 ((srK l i).take 0 ++ [l[i]] ++ (srK l i).drop 0) from (by first | exact hown4 | simpa using hown4)))
          clear hown4 hgrow4
          go_wp2_with fail
          go_roundw
          case rel => exact ⟨i + 1, hlt, by go_num, Lib.hid (HW4.out.weak hsz), hbel.trans (hb4.mono hsz)⟩
          case measure => simp [intOf]; omega
      · rw [hlk] at hx0
        have HX0 := Lib.hid hx0
        rw [hlk] at hco1
        clear hel hx0 hlk HO
        rw [HLK.out]
        go_wp2_with fail
        go_loopw [5] (fun j wi => ∃ k : Nat, k ≤ i ∧ j = .int .i64 k ∧ Hid (∀ jj y, k ≤ jj → (srK l i)[jj]? = some y → l[i] < y) ∧ Below wo.heap.size wo wi) (fun j _ => (intOf j).toNat)
        case atStart => exact ⟨i, Nat.le_refl _, rfl, Lib.hid (fun jj y h1 h2 => by rw [List.getElem?_eq_none (by have := HLK.out; omega)] at h2; cases h2), Below.refl _ _⟩
        case round =>
          obtain ⟨k, hki, rfl, HG, hbi⟩ := hrel
          have hlk := HLK.out
          have HX := Lib.hid (HX0.out.later hbi)
          have hszi := hbi.size
          rw [← hbi.cell (p := ⟨b, _, none⟩) (Nat.lt_of_lt_of_le hb (by omega))] at hc
          rcases Nat.eq_zero_or_pos k with rfl | hkp
          · have HS : Hid (∀ y, 0 < 0 → (srK l i)[0 - 1]? = some y → y ≤ l[i]) := fun y h => absurd h (by omega)
            clear hlk
            go_wp2_with fail
            go_quiet (fail)
            have HIN := Lib.hid (srK_ins l i 0 hlt HG.out HS.out (by omega))
            clear HG HS
            have hlk := srK_len l i hi'
            go_wp2_with (at_builtin; refine append_src rfl _ _ rfl wo.heap.size (.slice none 0 0) [] rfl (OwnI.none _ _) _ 0 _ rfl ((srK l i).take 0) ?c0 (HX.out.take (by omega)).src ?c1 ?c2 ?_)
            case c0 => simp <;> omega
            case c1 => simp <;> omega
            case c2 => simp <;> omega
            intro v2 w2 hown2 hgrow2
            have hb2 := below_grown (hbi.trans (below_drewN _ _ _)) (by simp; omega) (OwnI.none _ _) hgrow2
            have HW2 := Lib.hid hown2
            have HX2 := Lib.hid (HX.out.later ((below_drewN _ _ _).trans (below_grown (Below.refl _ _) (by simp; omega) (OwnI.none _ _) hgrow2)))
            have hszb := hb2.size
            have hc2 := ((((below_drewN wr wo.heap.size _).trans (below_grown (Below.refl _ _) (by simp; omega) (OwnI.none _ _) hgrow2)).cell (p := ⟨b, off + i, none⟩) (Nat.lt_of_lt_of_le hb (by omega))).trans hc)
            clear hown2 hgrow2
            have hl2 : ([] ++ (srK l i).take 0).length ≤ 100 := by simp <;> omega
            go_wp2_with (at_builtin; refine append_src rfl _ _ rfl wo.heap.size v2 _ rfl (HW2.out.later (below1 _ _)) (some ⟨w2.heap.size, 0, none⟩) 1 1 rfl [l[i]] rfl (one_src _ _ _) ?c3 ?c4 ?_)
            case c3 => have := HLK.out; simp <;> omega
            case c4 => simp; omega
            intro v3 w3 hown3 hgrow3
            have hb3 := below_grown (hb2.alloc hszb _) (by simp; omega) (HW2.out.later (below1 _ _)) hgrow3
            have HW3 := Lib.hid hown3
            have HX3 := Lib.hid (HX2.out.later (below_grown ((Below.refl wo.heap.size w2).alloc (by omega) _) (by simp; omega) (HW2.out.later (below1 _ _)) hgrow3))
            clear hown3 hgrow3
            have hszc := hb3.size
            have hlw : ([] ++ (srK l i).take 0 ++ [l[i]]).length ≤ 100 := by simp <;> omega
            have HLW := Lib.hid hlw; clear hlw
            have hlk := srK_len l i hi'
            by_cases hco : co = 0
            · have hnil : (srK l i).drop 0 = [] := List.drop_of_length_le (by omega)
              have HN := Lib.hid hnil
              clear hnil hlk
              go_wp2_with (at_builtin; refine append_src rfl _ _ rfl wo.heap.size v3 _ rfl HW3.out _ _ _ rfl ((srK l i).drop 0) ?d0 ?d1 ?d2 ?d3 ?_)
              case d0 => have := HLK.out; simp <;> omega
              case d1 => intro j z hz; rw [HN.out] at hz; simp at hz
              case d2 => have := HLW.out; have := HLK.out; first | omega | (simp <;> omega)
              case d3 => omega
              intro v4 w4 hown4 hgrow4
              have hb4 := below_grown hb3 hszc HW3.out hgrow4
              have HW4 := Lib.hid (HIN.out ▸ (show OwnI w4 wo.heap.size v4 ((srK l i).take 0 ++ [l[i]] ++ (srK l i).drop 0) from (by first | exact hown4 | simpa using hown4)))
              clear hown4 hgrow4
              go_wp2_with fail
              go_roundw
              case rel => exact ⟨i + 1, hlt, by go_num, Lib.hid (HW4.out.weak hsz), hbel.trans (hb4.mono hsz)⟩
              case measure => simp [intOf]; omega
            · clear hlk
              go_wp2_with (at_builtin; refine append_src rfl _ _ rfl wo.heap.size v3 _ rfl HW3.out _ _ _ rfl ((srK l i).drop 0) ?d0 ?d1 ?d2 ?d3 ?_)
              case d0 => have := HLK.out; simp <;> omega
              case d1 => have h := (HX3.out.drop (k := 0) (by omega)).src; simpa [Addr.add] using h
              case d2 => have := HLW.out; have := HLK.out; first | omega | (simp <;> omega)
              case d3 => omega
              intro v4 w4 hown4 hgrow4
              have hb4 := below_grown hb3 hszc HW3.out hgrow4
              have HW4 := Lib.hid (HIN.out ▸ (show OwnI w4 wo.heap.size v4 ((srK l i).take 0 ++ [l[i]] ++ (srK l i).drop 0) from (by first | exact hown4 | simpa using hown4)))
              clear hown4 hgrow4
              go_wp2_with fail
              go_roundw
              case rel => exact ⟨i + 1, hlt, by go_num, Lib.hid (HW4.out.weak hsz), hbel.trans (hb4.mono hsz)⟩
              case measure => simp [intOf]; omega
          · obtain ⟨q, rfl⟩ : ∃ q, k = q + 1 := ⟨k - 1, by omega⟩
            have hq : q < (srK l i).length := by omega
            obtain ⟨b', off', he, _, hcq⟩ := HX.out.at_ (List.getElem?_eq_getElem hq)
            cases he
            simp only [Nat.zero_add] at hcq
            have hq0 : (0 : Int) ≤ (q : Int) := by omega
            have hq1 : (q : Int) < (i : Int) := by omega
            clear hlk
            by_cases hgt : l[i] < (srK l i)[q]
            · have HG2 : Hid (∀ jj y, q ≤ jj → (srK l i)[jj]? = some y → l[i] < y) := fun jj y h1 h2 => by
                by_cases e : jj = q
                · subst e
                  rw [List.getElem?_eq_getElem hq, Option.some.injEq] at h2
                  omega
                · exact HG.out jj y (by omega) h2
              go_wp2_with fail
              go_quiet (fail)
              go_wp2_with fail
              go_roundw
              case rel => exact ⟨q, by omega, by go_num, HG2, hbi.trans (below_drewN _ _ _)⟩
              case measure => simp [intOf]
            · have HS : Hid (∀ y, 0 < q + 1 → (srK l i)[q + 1 - 1]? = some y → y ≤ l[i]) := fun y _ h2 => by
                rw [Nat.add_sub_cancel, List.getElem?_eq_getElem hq, Option.some.injEq] at h2
                omega
              go_wp2_with fail
              go_quiet (fail)
              have HIN := Lib.hid (srK_ins l i (q + 1) hlt HG.out HS.out (by omega))
              clear HG HS
              have hlk := srK_len l i hi'
              go_wp2_with (at_builtin; refine append_src rfl _ _ rfl wo.heap.size (.slice none 0 0) [] rfl (OwnI.none _ _) _ (q + 1) _ rfl ((srK l i).take (q + 1)) ?c0 (HX.out.take (by omega)).src ?c1 ?c2 ?_)
              case c0 => simp <;> omega
              case c1 => simp <;> omega
              case c2 => simp <;> omega
              intro v2 w2 hown2 hgrow2
              have hb2 := below_grown (hbi.trans (below_drewN _ _ _)) (by simp; omega) (OwnI.none _ _) hgrow2
              have HW2 := Lib.hid hown2
              have HX2 := Lib.hid (HX.out.later ((below_drewN _ _ _).trans (below_grown (Below.refl _ _) (by simp; omega) (OwnI.none _ _) hgrow2)))
              have hszb := hb2.size
              have hc2 := ((((below_drewN wr wo.heap.size _).trans (below_grown (Below.refl _ _) (by simp; omega) (OwnI.none _ _) hgrow2)).cell (p := ⟨b, off + i, none⟩) (Nat.lt_of_lt_of_le hb (by omega))).trans hc)
              clear hown2 hgrow2
              have hl2 : ([] ++ (srK l i).take (q + 1)).length ≤ 100 := by simp <;> omega
              go_wp2_with (at_builtin; refine append_src rfl _ _ rfl wo.heap.size v2 _ rfl (HW2.out.later (below1 _ _)) (some ⟨w2.heap.size, 0, none⟩) 1 1 rfl [l[i]] rfl (one_src _ _ _) ?c3 ?c4 ?_)
              case c3 => have := HLK.out; simp <;> omega
              case c4 => simp; omega
              intro v3 w3 hown3 hgrow3
              have hb3 := below_grown (hb2.alloc hszb _) (by simp; omega) (HW2.out.later (below1 _ _)) hgrow3
              have HW3 := Lib.hid hown3
              have HX3 := Lib.hid (HX2.out.later (below_grown ((Below.refl wo.heap.size w2).alloc (by omega) _) (by simp; omega) (HW2.out.later (below1 _ _)) hgrow3))
              clear hown3 hgrow3
              have hszc := hb3.size
              have hlw : ([] ++ (srK l i).take (q + 1) ++ [l[i]]).length ≤ 100 := by simp <;> omega
              have HLW := Lib.hid hlw; clear hlw
              have hlk := srK_len l i hi'
              by_cases hco : co = (q + 1)
              · have hnil : (srK l i).drop (q + 1) = [] := List.drop_of_length_le (by omega)
                have HN := Lib.hid hnil
                clear hnil hlk
                go_wp2_with (at_builtin; refine append_src rfl _ _ rfl wo.heap.size v3 _ rfl HW3.out _ _ _ rfl ((srK l i).drop (q + 1)) ?d0 ?d1 ?d2 ?d3 ?_)
                case d0 => have := HLK.out; simp <;> omega
                case d1 => intro j z hz; rw [HN.out] at hz; simp at hz
                case d2 => have := HLW.out; have := HLK.out; first | omega | (simp <;> omega)
                case d3 => omega
                intro v4 w4 hown4 hgrow4
                have hb4 := below_grown hb3 hszc HW3.out hgrow4
                have HW4 := Lib.hid (HIN.out ▸ (show OwnI w4 wo.heap.size v4 ((srK l i).take (q + 1) ++ [l[i]] ++ (srK l i).drop (q + 1)) from (by first | exact hown4 | simpa using hown4)))
                clear hown4 hgrow4
                go_wp2_with fail
                go_roundw
                case rel => exact ⟨i + 1, hlt, by go_num, Lib.hid (HW4.out.weak hsz), hbel.trans (hb4.mono hsz)⟩
                case measure => simp [intOf]; omega
              · clear hlk
                go_wp2_with (at_builtin; refine append_src rfl _ _ rfl wo.heap.size v3 _ rfl HW3.out _ _ _ rfl ((srK l i).drop (q + 1)) ?d0 ?d1 ?d2 ?d3 ?_)
                case d0 => have := HLK.out; simp <;> omega
                case d1 => have h := (HX3.out.drop (k := (q + 1)) (by omega)).src; simpa [Addr.add] using h
                case d2 => have := HLW.out; have := HLK.out; first | omega | (simp <;> omega)
                case d3 => omega
                intro v4 w4 hown4 hgrow4
                have hb4 := below_grown hb3 hszc HW3.out hgrow4
                have HW4 := Lib.hid (HIN.out ▸ (show OwnI w4 wo.heap.size v4 ((srK l i).take (q + 1) ++ [l[i]] ++ (srK l i).drop (q + 1)) from (by first | exact hown4 | simpa using hown4)))
                clear hown4 hgrow4
                go_wp2_with fail
                go_roundw
                case rel => exact ⟨i + 1, hlt, by go_num, Lib.hid (HW4.out.weak hsz), hbel.trans (hb4.mono hsz)⟩
                case measure => simp [intOf]; omega
    · clear hel
      go_wp2_with fail
      go_ret
      exact ⟨RetI.mk HO.out (srK_all l i (by omega)), hbel⟩

end Go.Proofs.Ytohooejljbddmaa
