/-
  The walk of Unpivot of the package. Nothing is assumed.
-/
import Derived.Test.YtampofpllijfhaaTbUnpB
namespace Go.Proofs.Ytampofpllijfhaa
open Go.RowKit

theorem flat_two (r : Row) (a b : ByteArray) : [r, [a, b]].flatten = r ++ [a, b] := by simp
theorem headD_at {t : Tab} (h : 0 < t.length) : t.headD [] = t[0] := by
  cases t with
  | nil => cases h
  | cons r t => rfl

/-- One row more in a table that the call builds. -/
theorem AccT.snoc {w w' : World} {base H g cap : Nat} {v xr : Value} {t : Tab} {r : Row} {xs : List Value} (hl : xs.length = t.length)
    (hrs : ∀ (i : Nat) x r, xs[i]? = some x → t[i]? = some r → HoldsS w (Off base w.heap.size v.ownBlock) x r) (hr : HoldsS w (Btw H w.heap.size) xr r) (hH : base ≤ H) (hq : ∀ q, v.ownBlock = some q → q < H)
    (h1 : w'.ownsRow base 29 1 (.slice (some ⟨g, 0, none⟩) (t.length + 1) cap) (t.length + 1) (xs ++ [xr])) (hg : w.grownBy w' v.ownBlock) (hat : v.ownBlock = some g ∨ g = w.heap.size) : AccT w' base (.slice (some ⟨g, 0, none⟩) (t.length + 1) cap) (t ++ [r]) := by
  have hs := hg.size
  refine ⟨xs ++ [xr], by simp [hl], by rw [List.length_append]; exact h1, fun i y ry h2 h3 => ?_⟩
  by_cases hit : i < t.length
  · rw [List.getElem?_append_left (by omega)] at h2 h3
    refine (hrs i y ry h2 h3).keep (fun q hp _ => ⟨⟨hp.1.1, Nat.lt_of_lt_of_le hp.1.2 hs⟩, ?_⟩) (fun q o hp _ => hg.cell_far ⟨q, o, none⟩ hp.1.2 (Ne.symm hp.2))
    simp only [Value.ownBlock, ne_eq, Option.some.injEq]
    rintro rfl
    rcases hat with h | h
    · exact hp.2 h
    · have := hp.1.2; omega
  · rw [List.getElem?_append_right (by omega)] at h2 h3
    rw [hl] at h2
    obtain ⟨hi0, rfl⟩ : i - t.length = 0 ∧ r = ry := by
      match hd : i - t.length, h3 with
      | 0, h3 => simp at h3; exact ⟨rfl, h3⟩
      | k + 1, h3 => simp at h3
    rw [hi0] at h2
    simp at h2
    subst h2
    refine hr.keep (fun q hp _ => ⟨⟨Nat.le_trans hH hp.1, Nat.lt_of_lt_of_le hp.2 hs⟩, ?_⟩) (fun q o hp _ => hg.cell_far ⟨q, o, none⟩ hp.2 (fun e => by have := hq q e.symm; have := hp.1; omega))
    simp only [Value.ownBlock, ne_eq, Option.some.injEq]
    rintro rfl
    rcases hat with h | h
    · have := hq _ h; have := hp.1; omega
    · have := hp.2; omega

theorem one_val (w : World) (t : TypeId) (v : Value) : ∀ (j : Nat) u, [v][j]? = some u → (w.alloc (.cells #[v] t)).cell? ((⟨w.heap.size, 0, none⟩ : Addr).add j) = some u := fun j u hj => by
  match j, hj with
  | 0, hj => simp at hj; subst hj; simp [Addr.add]
  | j + 1, hj => simp at hj

set_option maxRecDepth 100000 in
set_option maxHeartbeats 800000 in
theorem Unpivot_any (x : Value) (t : List (List ByteArray)) (keep : Int) (w : World) (B : Nat) (hx : HoldsT w (· < B) x t) (hB : B ≤ w.heap.size) (hk : I64 keep) :
    Calls Try.prog 33 #[x, .int .i64 keep] w fun e w' => RetTE w w' (unpV t keep) (unpE t keep) e ∧ Below w.heap.size w w' := by
  obtain ⟨i0, hi0, hz0, hz1, hz2⟩ := info_parts infoTexts
  have HC := Lib.hid (checkUnpivot_any x t keep w (· < B) hx hk)
  have HX := Lib.hid hx
  obtain ⟨oa, ca, rfl, hlc, hcm⟩ := hx.form
  clear hx hk
  by_cases he0 : unpE t keep = 0
  · obtain ⟨hc0, ht0, hk0, hk1⟩ : chkT t = 0 ∧ 0 < t.length ∧ 0 ≤ keep ∧ keep < colsT t := by
      unfold unpE at he0
      split at he0
      · rename_i h; exact absurd he0 h
      · rename_i h
        split at he0
        · omega
        · split at he0
          · omega
          · rename_i h1 h2
            exact ⟨by simpa using h, by omega, by omega, by omega⟩
    obtain ⟨c, rfl⟩ : ∃ c : Nat, keep = c := ⟨keep.toNat, by omega⟩
    have fc := neq_fT he0
    have HV : Hid (unpV t (c : Int) = unpK t[0] c (t.drop 1) ∧ unpE t (c : Int) = 0) := Lib.hid ⟨by unfold unpV; rw [if_pos he0, headD_at ht0]; rfl, he0⟩
    have hrows := chkT_rows hc0
    obtain ⟨n1, hn1⟩ : ∃ n1, t.length - 1 = n1 := ⟨_, rfl⟩
    have hdl : (t.drop 1).length = n1 := by rw [List.length_drop]; exact hn1
    have hsl : ∀ q ∈ t.drop 1, q.length = colsT t ∧ q.length ≤ 8 := fun q hq => ⟨(hrows.2 q (List.mem_of_mem_drop hq)).1, (hrows.2 q (List.mem_of_mem_drop hq)).2.2.1⟩
    have h0l : t[0].length = colsT t := (hrows.2 _ (List.getElem_mem ht0)).1
    have HHL := Lib.hid h0l
    have HSL := Lib.hid hsl
    have HDL := Lib.hid hdl
    have hn8 : n1 ≤ 7 := by have := hrows.1; omega
    obtain ⟨b, off, o0, c0, rfl, hb, g0, hrow0⟩ := HX.out.at_ (List.getElem?_eq_getElem ht0)
    simp only [Nat.add_zero] at g0
    have H0 := Lib.hid hrow0
    have hx1 := HX.out.drop1
    rw [Option.map_some, show (⟨b, off, none⟩ : Addr).add 1 = ⟨b, off + 1, none⟩ by simp [Addr.add], hn1] at hx1
    have HX1 := Lib.hid hx1
    have hki0 : (0 : Int) < (t.length : Int) := by omega
    have hki1 : (1 : Int) ≤ (t.length : Int) := by omega
    have hki2 : (1 : Int) ≤ (ca : Int) := by omega
    have hci0 : (0 : Int) ≤ (c : Int) := by omega
    have hnn : t.length - 1 = n1 := hn1
    obtain ⟨Q, hQ⟩ : ∃ Q, t.drop 1 = Q := ⟨_, rfl⟩
    rw [hQ] at HSL HDL HX1 HV
    have hcc8 := colsT_le hc0
    clear he0 hc0 hrows hdl hsl h0l hrow0 hx1 hQ hk0
    by_cases hca : ca = 1
    · obtain rfl : n1 = 0 := by omega
      have hq0 : Q = [] := List.eq_nil_of_length_eq_zero HDL.out
      subst hca
      clear hnn
      go_enter Try.func33, Try.ntmps33
      go_wp2_with fail
      refine HC.out.mono ?_
      rintro e w' ⟨rfl, rfl⟩
      go_wp2_with fail
      go_loopw [7, 24] (fun v j wr => v = .slice none 0 0 ∧ j = .int .i64 0 ∧ Below w.heap.size w wr) (fun _ j _ => (intOf j).toNat)
      case atStart => exact ⟨rfl, rfl, Below.refl _ _⟩
      case round =>
        obtain ⟨rfl, rfl, hbel⟩ := hrel
        go_wp2_with fail
        go_ret2
        exact ⟨RetTE.nil (by rw [HV.out.1, hq0]; rfl) HV.out.2.symm, hbel⟩
    · clear hnn
      go_enter Try.func33, Try.ntmps33
      go_wp2_with fail
      refine HC.out.mono ?_
      rintro e w' ⟨rfl, rfl⟩
      go_wp2_with fail
      go_loopw [7, 24] (fun v j wr => ∃ m : Nat, m ≤ n1 ∧ j = .int .i64 m ∧ Hid (AccT wr w.heap.size v (unpK t[0] c (Q.take m))) ∧ Hid ((unpK t[0] c (Q.take m)).length ≤ 8 * m) ∧ Below w.heap.size w wr) (fun _ j _ => n1 - (intOf j).toNat)
      case atStart => exact ⟨0, Nat.zero_le _, rfl, Lib.hid (AccT.nil _ _), Lib.hid (by simp [unpK]), Below.refl _ _⟩
      case round =>
        obtain ⟨m, hm, rfl, HA, HLN, hbel⟩ := hrel
        obtain ⟨wo, hwo⟩ : ∃ wo : World, wo = wr := ⟨_, rfl⟩
        subst hwo
        have hsz := hbel.size
        by_cases hlt : m < n1
        · have hmq : m < Q.length := by have := HDL.out; omega
          obtain ⟨b1, off1, o1, cr1, he, hb1, h0, hrow⟩ := HX1.out.at_ (List.getElem?_eq_getElem hmq)
          cases he
          rw [← hbel.cell (p := ⟨b, _, none⟩) (Nat.lt_of_lt_of_le hb hB)] at h0
          obtain ⟨hrl, hr8⟩ := HSL.out _ (List.getElem_mem hmq)
          have HNX := Lib.hid (unpK_next t[0] c Q m hmq)
          obtain ⟨r, hr⟩ : ∃ r, Q[m] = r := ⟨_, rfl⟩
          rw [hr] at h0 hrow hrl hr8 HNX
          have HQ := Lib.hid hrow
          have HRL := Lib.hid hrl
          obtain ⟨U0, hU0⟩ : ∃ U0, unpK t[0] c (Q.take m) = U0 := ⟨_, rfl⟩
          rw [hU0] at HA HLN HNX
          have hmi0 : (0 : Int) ≤ (m : Int) := by omega
          have hmi1 : (m : Int) < (n1 : Int) := by omega
          have hcr : c ≤ r.length := by rw [hrl]; omega
          have hccr : r.length ≤ cr1 := (hrow.len).2.1
          clear hrow hU0 hrl hr
          go_wp2_with fail
          clear h0
          go_loopw [7, 11] (fun v j wr => ∃ k : Nat, c + k ≤ r.length ∧ j = .int .i64 ((c + k : Nat) : Int) ∧ Hid (AccT wr w.heap.size v (U0 ++ unpOne t[0] c r k)) ∧ Below w.heap.size w wr) (fun _ j _ => r.length - (intOf j).toNat)
          case atStart => exact ⟨0, hcr, by simp, Lib.hid (by rw [show unpOne t[0] c r 0 = [] from rfl, List.append_nil]; exact HA.out), hbel⟩
          case round =>
            obtain ⟨k, hk, rfl, HA2, hbel2⟩ := hrel
            have hsz2 := hbel2.size
            have hL2 : (U0 ++ unpOne t[0] c r k).length ≤ 999 := by have := HLN.out; rw [List.length_append, unpOne_len]; omega
            have HL2 := Lib.hid hL2
            have HN2 := Lib.hid (unpOne_next t[0] c r k)
            obtain ⟨j, hj⟩ : ∃ j, c + k = j := ⟨_, rfl⟩
            have HJJ := Lib.hid hj
            rw [hj] at hk HN2 ⊢
            obtain ⟨U1, hU1⟩ : ∃ U1, U0 ++ unpOne t[0] c r k = U1 := ⟨_, rfl⟩
            have HU1 := Lib.hid hU1
            rw [hU1] at HA2 HL2
            clear hL2 hU1 hj
            by_cases hkl : j < r.length
            · have hjh : j < t[0].length := by have := HHL.out; have := HRL.out; omega
              obtain ⟨b2, off2, e2, hb2, hc⟩ := HQ.out.at_ (List.getElem?_eq_getElem hkl)
              obtain ⟨b3, off3, e3, hb3, hd⟩ := H0.out.at_ (List.getElem?_eq_getElem hjh)
              subst e2
              subst e3
              rw [← hbel2.cell (p := ⟨b2, _, none⟩) (Nat.lt_of_lt_of_le hb2 hB)] at hc
              rw [← hbel2.cell (p := ⟨b3, _, none⟩) (Nat.lt_of_lt_of_le hb3 hB)] at hd
              have hji0 : (0 : Int) ≤ (j : Int) := by omega
              have hji1 : (j : Int) < (r.length : Int) := by omega
              have hji2 : (j : Int) < (t[0].length : Int) := by omega
              have hci1 : (c : Int) ≤ (cr1 : Int) := by omega
              have HQ2 := Lib.hid ((HQ.out.later (hbel2.mono hB)).take hcr)
              have hrw : unpRow t[0] c r j = r.take c ++ [t[0][j], r[j]] := by unfold unpRow; rw [List.getElem?_eq_getElem hjh, List.getElem?_eq_getElem hkl]; rfl
              rw [hrw] at HN2
              obtain ⟨A, hA⟩ : ∃ A, t[0][j] = A := ⟨_, rfl⟩
              obtain ⟨D, hD⟩ : ∃ D, r[j] = D := ⟨_, rfl⟩
              rw [hA] at HN2 hd
              rw [hD] at HN2 hc
              clear hrw hA hD
              have HP0 := part_two wr B _ _ A D HQ2.out (by omega)
              have HP := Lib.hid (HP0.later (Below.refl (wr.heap.size + 2) _).drew)
              have HRC := Lib.hid (show (r.take c).length ≤ 8 by rw [List.length_take]; omega)
              have HJ := Lib.hid (joined_any _ [r.take c, [A, D]] _ (wr.heap.size + 2) HP.out (by simp [World.drew]) (by rw [flat_two]; have := HRC.out; simp; simp at this; omega) (by simp))
              rw [flat_two] at HJ
              obtain ⟨R1, hR1⟩ : ∃ R1, r.take c ++ [A, D] = R1 := ⟨_, rfl⟩
              rw [hR1] at HJ HN2
              have HR1 : Hid (R1.length ≤ 10) := Lib.hid (by rw [← hR1, List.length_append]; have := HRC.out; simp; simp at this; omega)
              clear hR1 HP0
              obtain ⟨xs, hxl, hown, hrs⟩ := HA2.out
              have hbz : Below wr.heap.size wr (((wr.alloc (.cells #[.string A, .string D] 9)).alloc (.cells #[.slice (some ⟨b2, off2, none⟩) c cr1, .slice (some ⟨wr.heap.size, 0, none⟩) 2 2] 29)).drew) := (((below1 wr _).alloc (by simp) _)).drew
              have hn1 : U1.length + 1 ≤ maxLen := by have := HL2.out; unfold maxLen; omega
              have hby : (U1.length + 1) * 24 ≤ 140737488355328 := by have := HL2.out; omega
              have HRS := Lib.hid hrs
              clear hrs
              go_wp2_with fail
              go_region_law (first
                | (go_simp; go_at_call 53; refine HJ.out.mono ?_; rintro e w2 ⟨⟨g, rfl, hg, ho⟩, hb2⟩
                   have hbW := hbz.trans (hb2.mono (by simp [World.drew]; omega))
                   have hsW := hbW.size
                   have HOW := Lib.hid (owns_later hown (hbW.trans ((below1 w2 (.cells #[.slice (some ⟨g, 0, none⟩) R1.length R1.length] 29)).mono hsW)))
                   have HG := Lib.hid hg
                   have HO := Lib.hid ho
                   clear hg ho hb2)
                | (refine step_append_lies _ (by rfl) _ _ _ (by rfl) w.heap.size 29 i0 _ 1 24 Try.underlying22 hi0 hz0 hz1 hz2 rfl (by omega) _ U1.length xs (by rfl) HOW.out
                     ⟨w2.heap.size, 0, none⟩ 1 1 [.slice (some ⟨g, 0, none⟩) R1.length R1.length] (by rfl) (by rfl) (one_val _ _ _) (by simp [Value.oneCell']) (by omega) hn1 hby (by simp; omega) (w2.heap.size + 1) (by simp) ?_
                   intro gg cap2 w3 hown3 hgrow3 hat3 hlt3))
              all_goals
                have hsw3 := hgrow3.size
                have hbq := (below1 w2 (.cells #[.slice (some ⟨g, 0, none⟩) R1.length R1.length] 29))
                have hbfull := hbW.trans (hbq.mono hsW)
                have HAC : Hid (AccT w3 w.heap.size (.slice (some ⟨gg, 0, none⟩) (U1.length + 1) cap2) (U1 ++ [R1])) := Lib.hid (AccT.snoc (H := wr.heap.size) hxl
                  (fun i y q h1 h2 => (HRS.out i y q h1 h2).keep (fun k hp _ => ⟨⟨hp.1.1, by have := hp.1.2; simp; omega⟩, hp.2⟩) (fun k o _ hl => hbfull.cell (p := ⟨k, o, none⟩) hl))
                  ((HO.out.holds (P := Btw wr.heap.size w2.heap.size) rfl (by have := HR1.out; omega) ⟨by have := HG.out; simp [World.drew] at this; omega, HO.out.lt⟩).keep (fun k hp _ => ⟨hp.1, by have := hp.2; simp; omega⟩) (fun k o _ hl => hbq.cell (p := ⟨k, o, none⟩) hl))
                  hsz2 (fun q hq => (own_lt hown q hq).2) hown3 hgrow3 (by rcases hat3 with h | h; exact .inl h; exact .inr (by rw [h]; simp)))
                have hb9 : Below w.heap.size w w3 := (hbel2.trans (hbfull.mono hsz2)).grown hgrow3 (by simp; omega) (fun q hq => (own_lt hown q hq).1)
                clear hown3 hgrow3 hat3 hlt3 hbq hbfull hsw3
                go_wp2_with fail
                go_roundw
                case rel => exact ⟨k + 1, by have := HJJ.out; omega, by have := HJJ.out; go_num, Lib.hid (by rw [HN2.out, ← List.append_assoc, HU1.out]; exact HAC.out), hb9⟩
                case measure => simp [intOf]; omega
            · have hjr : j = r.length := by omega
              have HEND : Hid (U1 = U0 ++ unpOne t[0] c r (r.length - c)) := Lib.hid (by rw [← HU1.out, show k = r.length - c by have := HJJ.out; omega])
              subst hjr
              go_wp2_with fail
              go_roundw
              case rel => exact ⟨m + 1, hlt, by go_num, Lib.hid (by rw [HNX.out, ← HEND.out]; exact HA2.out), Lib.hid (by rw [HNX.out, List.length_append, unpOne_len]; have := HLN.out; omega), hbel2⟩
              case measure => simp [intOf]; omega
        · obtain rfl : m = n1 := by omega
          have HF : Hid (Q.take m = Q) := Lib.hid (List.take_of_length_le (by have := HDL.out; omega))
          go_wp2_with fail
          go_ret2
          exact ⟨RetTE.mk HA.out.holds (by rw [HF.out, HV.out.1]) HV.out.2.symm, hbel⟩
  · have fc := neq_tT he0
    have HV : Hid (unpV t keep = []) := Lib.hid (if_neg he0)
    clear he0
    go_enter Try.func33, Try.ntmps33
    go_wp2_with fail
    refine HC.out.mono ?_
    rintro e w' ⟨rfl, rfl⟩
    go_wp2_with fail
    go_ret2
    exact ⟨RetTE.nil HV.out rfl, Below.refl _ _⟩

end Go.Proofs.Ytampofpllijfhaa
