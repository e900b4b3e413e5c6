/-
  Pivot of the reference. Nothing is assumed.
-/
import Derived.Test.YtampofpllijfhaaTbRpiv
import Derived.Test.YtampofpllijfhaaTbRow
import Derived.Deep.RegionHeldLaw
namespace Go.Proofs.Ytampofpllijfhaa
open Go.RowKit

/-- No row above row i has its key, up to row k. -/
def noneK (t : Tab) (i k : Nat) : Prop := ∀ q, q < k → keyAt t q ≠ keyAt t i
theorem none_all {t : Tab} {i : Nat} (hi : i ≤ t.length) (h : noneK t i i) : valOf (t.take i) (keyAt t i) = none := by
  unfold valOf
  rw [Option.map_eq_none_iff, List.find?_eq_none]
  intro y hy
  simp only [decide_eq_true_eq]
  obtain ⟨q, hq, rfl⟩ := List.getElem_of_mem hy
  rw [List.length_take] at hq
  rw [List.getElem_take, ← keyAt_at (by omega)]
  exact h q (by omega)
theorem dup_found {t : Tab} {i k : Nat} (hi : i < t.length) (hk : k < i) (h : keyAt t k = keyAt t i) : dupT t = true := by
  cases hv : valOf (t.take i) (keyAt t i) with
  | some s => exact dupT_yes hi hv
  | none =>
    unfold valOf at hv
    rw [Option.map_eq_none_iff, List.find?_eq_none] at hv
    have hm : t[k] ∈ t.take i := by
      have hl : k < (t.take i).length := by rw [List.length_take]; omega
      have e : (t.take i)[k] = t[k] := List.getElem_take
      rw [← e]
      exact List.getElem_mem hl
    have := hv _ hm
    simp only [decide_eq_true_eq] at this
    exact absurd (by rw [← keyAt_at (by omega)]; exact h) this
theorem bl1R {w w' : World} {o : Obj} (h : Below w.heap.size w w') : Below w.heap.size w (w'.alloc o) := h.alloc h.size o
theorem OwnS.formS {w : World} {base : Nat} {v : Value} {l : Row} (h : OwnS w base v l) : ∃ o c, v = .slice o l.length c := owns_form h

set_option maxRecDepth 100000 in
set_option maxHeartbeats 6400000 in
theorem rPivot_any (x : Value) (t : List (List ByteArray)) (w : World) (B : Nat) (hx : HoldsT w (· < B) x t) (hB : B ≤ w.heap.size) :
    Calls Try.prog 36 #[x] w fun e w' => RetTE w w' (pivV t) (pivE t) e ∧ Below w.heap.size w w' := by
  have HC := Lib.hid (rchk_any x t w B hx hB)
  have HX := Lib.hid hx
  obtain ⟨oa, ca, rfl, _, _⟩ := hx.form
  clear hx
  have HVN : Hid (pivE t ≠ 0 → pivV t = []) := Lib.hid (fun h => if_neg h)
  by_cases hc0 : chkT t = 0
  · have fc := neq_fT hc0
    have h8 := (chkT_rows hc0).1
    have hcc8 := colsT_le hc0
    by_cases hn0 : (t.length : Int) = 0
    · have HE : Hid (pivE t = 7 ∧ pivV t = []) := by
        have hv : valE t = 7 := by unfold valE; rw [if_neg (by simp [hc0]), if_pos (by omega)]
        have h : pivE t = 7 := by unfold pivE; rw [hv]; rfl
        exact Lib.hid ⟨h, HVN.out (by rw [h]; decide)⟩
      have hz : ((t.length : Int) == 0) = true := by rw [hn0]; rfl
      clear hc0 hn0 h8
      go_enter Try.func36, Try.ntmps36
      go_wp2_with fail
      refine HC.out.mono ?_
      rintro e w1 ⟨rfl, hb1⟩
      go_wp2_with fail
      go_ret2
      exact ⟨RetTE.nil HE.out.2 HE.out.1.symm, hb1⟩
    have hz : ((t.length : Int) == 0) = false := by rw [beq_eq_false_iff_ne]; exact hn0
    have HCO := Lib.hid (fun w1 h => rcols_any (.slice oa t.length ca) t w1 (· < B) h)
    by_cases h3 : colsT t = 3
    · have HL3 : Hid (∀ r ∈ t, r.length = 3) := Lib.hid (fun r hr => by rw [← h3]; exact ((chkT_rows hc0).2 r hr).1)
      have HEQ : Hid (valE t = if dupT t = true then 6 else 0) := Lib.hid (by unfold valE; rw [if_neg (by simp [hc0]), if_neg (by omega), if_neg (by simp [h3])])
      rw [h3] at HCO
      clear hc0 h3 hcc8
      go_enter Try.func36, Try.ntmps36
      go_wp2_with fail
      refine HC.out.mono ?_
      rintro e w1 ⟨rfl, hb1⟩
      have HB1 := Lib.hid hb1
      have HC1 := Lib.hid (HCO.out w1 (HX.out.later (hb1.mono hB)))
      clear hb1
      go_wp2_with fail
      refine HC1.out.mono ?_
      rintro e w' ⟨rfl, rfl⟩
      go_wp2_with fail
      go_loopw [5] (fun j wr => ∃ i : Nat, i ≤ t.length ∧ j = .int .i64 i ∧ Hid (freshK t i) ∧ Hid (Below w.heap.size w wr)) (fun j _ => t.length - (intOf j).toNat)
      case atStart => exact ⟨0, Nat.zero_le _, rfl, Lib.hid (fun i hi => absurd hi (Nat.not_lt_zero _)), HB1⟩
      case round =>
        obtain ⟨i, hi, rfl, HF, HBE⟩ := hrel
        obtain ⟨wo, hwo⟩ : ∃ wo : World, wo = wr := ⟨_, rfl⟩
        subst hwo
        by_cases hlt : i < t.length
        · have hii0 : (0 : Int) ≤ (i : Int) := by omega
          have hii1 : (i : Int) < (t.length : Int) := by omega
          obtain ⟨b, off, o, cr, rfl, hb, h0, hrow⟩ := HX.out.at_ (List.getElem?_eq_getElem hlt)
          have hl3 := HL3.out _ (List.getElem_mem hlt)
          have HKI := Lib.hid (keyAt_at hlt)
          obtain ⟨r, hr⟩ : ∃ r, t[i] = r := ⟨_, rfl⟩
          rw [hr] at h0 hrow hl3 HKI
          obtain ⟨a0, a1, a2, rfl⟩ := row3 hl3
          obtain ⟨b2, off2, rfl, hb2, c0⟩ := hrow.at_ (i := 0) rfl
          obtain ⟨b2', off2', e2, _, c1⟩ := hrow.at_ (i := 1) rfl
          cases e2
          rw [hl3] at h0
          simp only [Nat.add_zero] at c0
          have HCI : Hid (w.cell? ⟨b, off + i, none⟩ = some (.slice (some ⟨b2, off2, none⟩) 3 cr) ∧ w.cell? ⟨b2, off2, none⟩ = some (.string a0) ∧ w.cell? ⟨b2, off2 + 1, none⟩ = some (.string a1) ∧ b < w.heap.size ∧ b2 < w.heap.size) := Lib.hid ⟨h0, c0, c1, Nat.lt_of_lt_of_le hb hB, Nat.lt_of_lt_of_le hb2 hB⟩
          clear h0 c0 c1 hrow hl3 hr
          go_wp2_with fail
          go_loopw [6] (fun j wr => ∃ k : Nat, k ≤ i ∧ j = .int .i64 k ∧ Hid (noneK t i k) ∧ Hid (Below w.heap.size w wr)) (fun j _ => i - (intOf j).toNat)
          case atStart => exact ⟨0, Nat.zero_le _, rfl, Lib.hid (fun q hq => absurd hq (Nat.not_lt_zero _)), HBE⟩
          case round =>
            obtain ⟨k, hk, rfl, HNK, HBE2⟩ := hrel
            by_cases hki : k < i
            · have hkt : k < t.length := by omega
              have hki0 : (0 : Int) ≤ (k : Int) := by omega
              have hki1 : (k : Int) < (t.length : Int) := by omega
              obtain ⟨b', off', o', cr', e', hb', g0, hrow'⟩ := HX.out.at_ (List.getElem?_eq_getElem hkt)
              cases e'
              have hl3 := HL3.out _ (List.getElem_mem hkt)
              have HKK := Lib.hid (keyAt_at hkt)
              obtain ⟨r', hr'⟩ : ∃ r', t[k] = r' := ⟨_, rfl⟩
              rw [hr'] at g0 hrow' hl3 HKK
              obtain ⟨d0, d1, d2, rfl⟩ := row3 hl3
              obtain ⟨b3, off3, rfl, hb3, p0⟩ := hrow'.at_ (i := 0) rfl
              obtain ⟨b3', off3', e3, _, p1⟩ := hrow'.at_ (i := 1) rfl
              cases e3
              rw [hl3] at g0
              simp only [Nat.add_zero] at p0
              have h0 := (HBE2.out.cell (p := ⟨b, off + i, none⟩) HCI.out.2.2.2.1).trans HCI.out.1
              have c0 := (HBE2.out.cell (p := ⟨b2, off2, none⟩) HCI.out.2.2.2.2).trans HCI.out.2.1
              have c1 := (HBE2.out.cell (p := ⟨b2, off2 + 1, none⟩) HCI.out.2.2.2.2).trans HCI.out.2.2.1
              rw [← HBE2.out.cell (p := ⟨b, _, none⟩) HCI.out.2.2.2.1] at g0
              rw [← HBE2.out.cell (p := ⟨b3, _, none⟩) (Nat.lt_of_lt_of_le hb3 hB)] at p0 p1
              have HBD := Lib.hid (HBE2.out.trans (below_drewN wr w.heap.size 1))
              clear hrow' hl3 hr'
              by_cases e0 : a0 = d0
              · have q0 : (a0.toList == d0.toList) = true := by rw [e0]; exact beq_self_eq_true _
                by_cases e1 : a1 = d1
                · have q1 : (a1.toList == d1.toList) = true := by rw [e1]; exact beq_self_eq_true _
                  have HE : Hid (pivE t = 6 ∧ pivV t = []) := by
                    have hd : dupT t = true := dup_found hlt hki (by rw [HKK.out, HKI.out]; subst e0; subst e1; rfl)
                    have hv : valE t = 6 := by rw [HEQ.out, hd]; rfl
                    have h : pivE t = 6 := by unfold pivE; rw [hv]; rfl
                    exact Lib.hid ⟨h, HVN.out (by rw [h]; decide)⟩
                  clear e0 e1
                  go_wp2_with fail
                  go_quiet (fail)
                  go_wp2_with fail
                  go_ret2
                  exact ⟨RetTE.nil HE.out.2 HE.out.1.symm, HBE2.out.trans (below_drewN _ _ _)⟩
                · have q1 : (a1.toList == d1.toList) = false := str_ne e1
                  have HN2 : Hid (noneK t i (k + 1)) := Lib.hid (fun q hq => by
                    rcases Nat.lt_or_ge q k with h | h
                    · exact HNK.out q h
                    · obtain rfl : q = k := by omega
                      rw [HKK.out, HKI.out]
                      intro e
                      injection e with e2 e3
                      exact e1 e3.symm)
                  clear e0 e1
                  go_wp2_with fail
                  go_quiet (fail)
                  go_wp2_with fail
                  go_roundw
                  case rel => exact ⟨k + 1, hki, by go_num, HN2, Lib.hid (HBE2.out.trans (below_drewN _ _ _))⟩
                  case measure => simp [intOf]; omega
              · have q0 : (a0.toList == d0.toList) = false := str_ne e0
                have HN2 : Hid (noneK t i (k + 1)) := Lib.hid (fun q hq => by
                  rcases Nat.lt_or_ge q k with h | h
                  · exact HNK.out q h
                  · obtain rfl : q = k := by omega
                    rw [HKK.out, HKI.out]
                    intro e
                    injection e with e2 e3
                    exact e0 e2.symm)
                clear e0
                go_wp2_with fail
                go_quiet (fail)
                go_wp2_with fail
                go_roundw
                case rel => exact ⟨k + 1, hki, by go_num, HN2, Lib.hid (HBE2.out.trans (below_drewN _ _ _))⟩
                case measure => simp [intOf]; omega
            · obtain rfl : k = i := by omega
              have HF2 := Lib.hid (freshK_next HF.out (none_all (by omega) HNK.out))
              go_wp2_with fail
              go_roundw
              case rel => exact ⟨k + 1, hlt, by go_num, HF2, HBE2⟩
              case measure => simp [intOf]; omega
        · obtain rfl : i = t.length := by omega
          have HVE : Hid (valE t = 0) := Lib.hid (by rw [HEQ.out, dupT_no HF.out]; rfl)
          clear hlt hi
          have hs1 : w.heap.size ≤ wo.heap.size := HBE.out.size
          have HL0 : Hid (∀ r ∈ t, 0 < r.length) := Lib.hid (fun r hr => by have := HL3.out r hr; omega)
          have HL1 : Hid (∀ r ∈ t, 1 < r.length) := Lib.hid (fun r hr => by have := HL3.out r hr; omega)
          have HD0 := Lib.hid (dst_len (colOf t 0))
          have HD1 := Lib.hid (dst_len (colOf t 1))
          rw [colOf_len] at HD0 HD1
          have HEP : Hid (pivE t = if 8 < 1 + (dst (colOf t 0)).length ∨ 8 < 1 + (dst (colOf t 1)).length then 2 else 0) := Lib.hid (if_neg (by simp [HVE.out]))
          have HVV : Hid (pivE t = 0 → pivV t = pivK t (dst (colOf t 1)) (dst (colOf t 0)) (dst (colOf t 0)).length) := Lib.hid (fun h => if_pos h)
          obtain ⟨w1', hw1'⟩ : ∃ w1' : World, w1' = wo := ⟨_, rfl⟩
          subst hw1'
          have HX1 := Lib.hid (HX.out.later (HBE.out.mono hB))
          have HQ1 := Lib.hid (rcolumn_any _ t 0 w1' B HX1.out (by omega) h8 HL0.out)
          go_wp2_with fail
          refine HQ1.out.mono ?_
          rintro e w2 ⟨⟨v2, rfl, h2⟩, hb2⟩
          have hs2 := hb2.size
          have HQ2 := Lib.hid (rdistinct_any v2 (colOf t 0) w2 w2.heap.size h2.holds.all (Nat.le_refl _) (by rw [colOf_len]; omega))
          obtain ⟨o2, c2, rfl⟩ := owns_form h2
          clear h2
          go_wp2_with fail
          refine HQ2.out.mono ?_
          rintro e w3 ⟨⟨v3, rfl, h3⟩, hb3⟩
          have hs3 := hb3.size
          have hb13 : Below w.heap.size w w3 := HBE.out.trans ((hb2.trans (hb3.mono hs2)).mono hs1)
          have HX3 := Lib.hid (HX.out.later (hb13.mono hB))
          have HQ3 := Lib.hid (rcolumn_any _ t 1 w3 B HX3.out (by omega) h8 HL1.out)
          have HK3 := Lib.hid h3.holds.all
          obtain ⟨o3, c3, rfl⟩ := owns_form h3
          clear h3
          go_wp2_with fail
          refine HQ3.out.mono ?_
          rintro e w4 ⟨⟨v4, rfl, h4⟩, hb4⟩
          have hs4 := hb4.size
          have HQ4 := Lib.hid (rdistinct_any v4 (colOf t 1) w4 w4.heap.size h4.holds.all (Nat.le_refl _) (by rw [colOf_len]; omega))
          obtain ⟨o4, c4, rfl⟩ := owns_form h4
          clear h4
          go_wp2_with fail
          refine HQ4.out.mono ?_
          rintro e w5 ⟨⟨v5, rfl, h5⟩, hb5⟩
          have hs5 := hb5.size
          have hb35 : Below w3.heap.size w3 w5 := hb4.trans (hb5.mono hs4)
          have HK := Lib.hid (HK3.out.on hb35)
          have HN := Lib.hid h5.holds.all
          have HB5 : Hid (Below w.heap.size w w5) := Lib.hid (hb13.trans (hb35.mono (by omega)))
          obtain ⟨o5, c5, rfl⟩ := owns_form h5
          have hq5 : w.heap.size ≤ w5.heap.size := by omega
          clear h5 hb2 hb3 hb4 hb5 hb13 hb35 HX1 HX3 HQ1 HQ2 HQ3 HQ4 HK3 hs1 hs2 hs3 hs4 hs5 HL0 HL1
          obtain ⟨K, hK⟩ : ∃ K, dst (colOf t 0) = K := ⟨_, rfl⟩
          obtain ⟨Nn, hNn⟩ : ∃ Nn, dst (colOf t 1) = Nn := ⟨_, rfl⟩
          rw [hK] at HK HEP HVV HD0 ⊢
          rw [hNn] at HN HEP HVV HD1 ⊢
          clear hK hNn
          have hKl := HD0.out
          have hNl := HD1.out
          by_cases hk8 : 8 ≤ (K.length : Int)
          · have HEE : Hid (pivE t = 2 ∧ pivV t = []) := by
              have h : pivE t = 2 := by rw [HEP.out, if_pos (Or.inl (by omega))]
              exact Lib.hid ⟨h, HVN.out (by rw [h]; decide)⟩
            go_wp2_with fail
            go_ret2
            exact ⟨RetTE.nil HEE.out.2 HEE.out.1.symm, HB5.out⟩
          by_cases hn8 : 8 ≤ (Nn.length : Int)
          · have HEE : Hid (pivE t = 2 ∧ pivV t = []) := by
              have h : pivE t = 2 := by rw [HEP.out, if_pos (Or.inr (by omega))]
              exact Lib.hid ⟨h, HVN.out (by rw [h]; decide)⟩
            go_wp2_with fail
            go_ret2
            exact ⟨RetTE.nil HEE.out.2 HEE.out.1.symm, HB5.out⟩
          have HEE : Hid (pivE t = 0 ∧ pivV t = pivK t Nn K K.length) := by
            have h : pivE t = 0 := by rw [HEP.out, if_neg (by omega)]
            exact Lib.hid ⟨h, HVV.out h⟩
          clear HEP HVV HVN
          have HO1 := Lib.hid (own_one w5 ⟨#[]⟩)
          have hbq := below1 w5 (.cells #[.string ⟨#[]⟩] 9)
          have HSR := Lib.hid (HN.out.later hbq).src
          have HBQ := Lib.hid hbq
          clear hbq
          go_wp2_with (at_builtin; refine append_src rfl _ _ rfl w5.heap.size _ [⟨#[]⟩] rfl HO1.out o5 Nn.length c5 rfl Nn rfl HSR.out ?c0 ?c1 ?_)
          case c0 => simp; omega
          case c1 => simp
          intro v6 w6 h6 hg6
          have hb6 := below_grownT HBQ.out (by simp) HO1.out hg6
          have hs6 := hb6.size
          obtain ⟨RW, hRW⟩ : ∃ RW : Row, ⟨#[]⟩ :: Nn = RW := ⟨_, rfl⟩
          rw [hRW] at h6
          have HRW0 : Hid ([RW] = pivK t Nn K 0) := Lib.hid (by rw [← hRW]; rfl)
          clear hRW
          have HA0 := Lib.hid (AccT.one (H := w5.heap.size) h6.holds hs6)
          have HB7 := Lib.hid (bl1R hb6 (o := .cells #[v6] 29))
          obtain ⟨o6, c6, rfl⟩ : ∃ o6 c6, v6 = .slice o6 RW.length c6 := owns_form h6
          clear h6 hg6 hb6 hs6 HO1 HSR HBQ
          go_wp2_with fail
          go_loopw [9, 10] (fun v j wr => ∃ k : Nat, k ≤ K.length ∧ j = .int .i64 k ∧ Hid (AccT wr w5.heap.size v (pivK t Nn K k)) ∧ Below w5.heap.size w5 wr) (fun _ j _ => K.length - (intOf j).toNat)
          case atStart => exact ⟨0, Nat.zero_le _, rfl, Lib.hid (by rw [← HRW0.out]; exact HA0.out), HB7.out⟩
          case round =>
            obtain ⟨k, hk, rfl, HA, hbel⟩ := hrel
            obtain ⟨wo, hwo⟩ : ∃ wo : World, wo = wr := ⟨_, rfl⟩
            subst hwo
            have hsz := hbel.size
            clear HB7 HA0
            by_cases hlt : k < K.length
            · obtain ⟨bk, offk, rfl, hbk, hc⟩ := HK.out.at_ (List.getElem?_eq_getElem hlt)
              have HCK := Lib.hid hc
              rw [← hbel.cell (p := ⟨bk, _, none⟩) hbk] at hc
              have hnx := pivK_next t Nn K k hlt
              obtain ⟨key, hkey⟩ : ∃ key, K[k] = key := ⟨_, rfl⟩
              rw [hkey] at hc hnx HCK
              have HNX := Lib.hid hnx
              have HLK := Lib.hid (pivK_len t Nn K k hk)
              have hki0 : (0 : Int) ≤ (k : Int) := by omega
              have hki1 : (k : Int) < (K.length : Int) := by omega
              have HW0 : Hid (OwnS (wo.alloc (.cells #[.string key] 9)) wo.heap.size (.slice (some ⟨wo.heap.size, 0, none⟩) 1 1) (pivRow t Nn key 0)) := Lib.hid (own_one wo key)
              have hbq0 := below1 wo (.cells #[.string key] 9)
              clear hkey hnx
              go_wp2_with fail
              clear hc
              go_loopw [11, 12] (fun v j wq => ∃ n : Nat, n ≤ Nn.length ∧ j = .int .i64 n ∧ Hid (OwnS wq wo.heap.size v (pivRow t Nn key n)) ∧ Below wo.heap.size wo wq) (fun _ j _ => Nn.length - (intOf j).toNat)
              case atStart => exact ⟨0, Nat.zero_le _, rfl, HW0, hbq0⟩
              case round =>
                obtain ⟨n, hn, rfl, HO2, hbel2⟩ := hrel
                clear HW0 hbq0
                have hsz2 := hbel2.size
                have hbf := hbel.trans (hbel2.mono hsz)
                have HLN := Lib.hid (pivRow_len t Nn key n hn)
                by_cases hnl : n < Nn.length
                · obtain ⟨b3, off3, e3, hb3, hd⟩ := HN.out.at_ (List.getElem?_eq_getElem hnl)
                  subst e3
                  rw [← hbf.cell (p := ⟨b3, _, none⟩) hb3] at hd
                  have hc : wr.cell? ⟨bk, offk + k, none⟩ = some (.string key) := (hbf.cell (p := ⟨bk, _, none⟩) hbk).trans HCK.out
                  have hrn := pivRow_next t Nn key n hnl
                  obtain ⟨nm, hnm⟩ : ∃ nm, Nn[n] = nm := ⟨_, rfl⟩
                  rw [hnm] at hd hrn
                  have HVAL := Lib.hid (rvalue_any _ t key nm wr.drew (· < B) ((HX.out.later ((HB5.out.trans (hbf.mono hq5)).mono hB)).later (Below.refl B wr).drew) HL3.out)
                  obtain ⟨VL, hVL⟩ : ∃ VL, (valOf t (key, nm)).getD ⟨#[]⟩ = VL := ⟨_, rfl⟩
                  rw [hVL] at HVAL hrn
                  have HRN := Lib.hid hrn
                  have HO3 : Hid (OwnS ((wr.alloc (.cells #[.string VL] 9)).drew) wo.heap.size _ (pivRow t Nn key n)) := Lib.hid (HO2.out.later (below1 _ _).drew)
                  have hni0 : (0 : Int) ≤ (n : Int) := by omega
                  have hni1 : (n : Int) < (Nn.length : Int) := by omega
                  have HBF := Lib.hid hbf
                  clear hnm hrn hVL hbf
                  go_wp2_with fail
                  go_region_law (first
                    | (go_simp; go_at_call 68; refine HVAL.out.mono ?_; rintro e w' ⟨rfl, rfl⟩)
                    | (refine step_src (by rfl) _ _ (by rfl) wo.heap.size _ (pivRow t Nn key n) (by rfl) HO3.out _ 1 1 (by rfl) [VL] rfl (one_src wr _ VL) (by rw [HLN.out]; omega) (by simp [World.drew]; omega) ?_
                       intro v2 w2 hown2 hgrow2 hat2))
                  all_goals
                    have hb9 := below_grownT (hbel2.trans ((below1 wr (.cells #[.string VL] 9)).drew.mono hsz2)) (by simp [World.drew]; omega) HO3.out hgrow2
                    have HW := Lib.hid hown2
                    clear hown2 hgrow2 hat2
                    go_wp2_with fail
                    go_roundw
                    case rel => exact ⟨n + 1, hnl, by go_num, Lib.hid (by rw [HRN.out]; exact HW.out), hb9⟩
                    case measure => simp [intOf]; omega
                · obtain rfl : n = Nn.length := by omega
                  have HRW := Lib.hid (HO2.out.holds)
                  obtain ⟨orow, crow, rfl⟩ := owns_form HO2.out
                  have HA2 := Lib.hid ((HA.out.later hbel2).later (below1 wr (.cells #[.slice orow (pivRow t Nn key Nn.length).length crow] 29)))
                  have HRW2 : Hid (HoldsS (wr.alloc (.cells #[.slice orow (pivRow t Nn key Nn.length).length crow] 29)) (Btw wo.heap.size (wr.alloc (.cells #[.slice orow (pivRow t Nn key Nn.length).length crow] 29)).heap.size) (.slice orow (pivRow t Nn key Nn.length).length crow) (pivRow t Nn key Nn.length)) :=
                    Lib.hid (HRW.out.keep (fun b hp _ => ⟨hp.1, by have := hp.2; simp; omega⟩) (fun b o _ hl => (below1 wr _).cell (p := ⟨b, o, none⟩) hl))
                  have HQ := Lib.hid (HA.out.lt)
                  clear HRW
                  go_wp2_with (at_builtin; refine AccT.append rfl _ _ rfl w5.heap.size _ _ rfl HA2.out ⟨wr.heap.size, 0, none⟩ (.slice orow (pivRow t Nn key Nn.length).length crow) (pivRow t Nn key Nn.length) rfl (by simp) wo.heap.size HRW2.out hsz (fun q hq => (HQ.out q hq).2) rfl ?c0 ?c1 ?_)
                  case c0 => rw [HLK.out]; omega
                  case c1 => simp; omega
                  intro v3 w3 hacc hgrow
                  have hb3 := (hbf.alloc (by omega : w5.heap.size ≤ wr.heap.size) (.cells #[.slice orow (pivRow t Nn key Nn.length).length crow] 29)).grown hgrow (by simp; omega) (fun q hq => (HA2.out.lt q hq).1)
                  have HA3 := Lib.hid hacc
                  clear hacc hgrow hbf
                  go_wp2_with fail
                  go_roundw
                  case rel => exact ⟨k + 1, hlt, by go_num, Lib.hid (by rw [HNX.out]; exact HA3.out), hb3⟩
                  case measure => simp [intOf]; omega
            · obtain rfl : k = K.length := by omega
              go_wp2_with fail
              go_ret2
              exact ⟨RetTE.mk (HA.out.holds.keep (fun b hp _ => ⟨Nat.le_trans hq5 hp.1, hp.2⟩) (fun _ _ _ _ => rfl)) HEE.out.2.symm HEE.out.1.symm, HB5.out.trans (hbel.mono hq5)⟩
    · have HE : Hid (pivE t = 4 ∧ pivV t = []) := by
        have hv : valE t = 4 := by unfold valE; rw [if_neg (by simp [hc0]), if_neg (by omega), if_pos h3]
        have h : pivE t = 4 := by unfold pivE; rw [hv]; rfl
        exact Lib.hid ⟨h, HVN.out (by rw [h]; decide)⟩
      have hc3 : ((colsT t : Int) != 3) = true := by rw [bne_iff_ne]; omega
      clear hc0 h3 h8
      go_enter Try.func36, Try.ntmps36
      go_wp2_with fail
      refine HC.out.mono ?_
      rintro e w1 ⟨rfl, hb1⟩
      have HB1 := Lib.hid hb1
      have HC1 := Lib.hid (HCO.out w1 (HX.out.later (hb1.mono hB)))
      clear hb1
      go_wp2_with fail
      refine HC1.out.mono ?_
      rintro e w' ⟨rfl, rfl⟩
      go_wp2_with fail
      go_ret2
      exact ⟨RetTE.nil HE.out.2 HE.out.1.symm, HB1.out⟩
  · have fc := neq_tT hc0
    have HE : Hid (pivE t = chkT t ∧ pivV t = []) := by
      have hv : valE t = chkT t := if_pos hc0
      have h : pivE t = chkT t := by unfold pivE; rw [hv]; exact if_pos hc0
      exact Lib.hid ⟨h, HVN.out (by rw [h]; exact hc0)⟩
    clear hc0
    go_enter Try.func36, Try.ntmps36
    go_wp2_with fail
    refine HC.out.mono ?_
    rintro e w1 ⟨rfl, hb1⟩
    go_wp2_with fail
    go_ret2
    exact ⟨RetTE.nil HE.out.2 HE.out.1.symm, hb1⟩

end Go.Proofs.Ytampofpllijfhaa
