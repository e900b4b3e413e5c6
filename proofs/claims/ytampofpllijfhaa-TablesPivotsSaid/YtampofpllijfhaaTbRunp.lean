/-
  Unpivot of the reference. Nothing is assumed.
-/
import Derived.Test.YtampofpllijfhaaTbUnp
import Derived.Test.YtampofpllijfhaaTbRspl
namespace Go.Proofs.Ytampofpllijfhaa
open Go.RowKit

theorem bl1 {w w' : World} {o : Obj} (h : Below w.heap.size w w') : Below w.heap.size w (w'.alloc o) := h.alloc h.size o
theorem unpK_len (hd : Row) (c n : Nat) (q : Tab) (h : ∀ r ∈ q, r.length = n) : (unpK hd c q).length = q.length * (n - c) := by
  induction q with
  | nil => simp [unpK]
  | cons r q ih =>
    have e : unpK hd c (r :: q) = unpOne hd c r (r.length - c) ++ unpK hd c q := by unfold unpK; simp
    rw [e, List.length_append, unpOne_len, ih (fun r hr => h r (List.mem_cons_of_mem _ hr)), h r (List.mem_cons_self ..), List.length_cons, Nat.succ_mul]
    omega

set_option maxRecDepth 100000 in
set_option maxHeartbeats 6400000 in
theorem rUnpivot_any (x : Value) (t : List (List ByteArray)) (keep : Int) (w : World) (B : Nat) (hx : HoldsT w (· < B) x t) (hB : B ≤ w.heap.size) (hk : I64 keep) :
    Calls Try.prog 34 #[x, .int .i64 keep] w fun e w' => RetTE w w' (unpV t keep) (unpE t keep) e ∧ Below w.heap.size w w' := by
  have HC := Lib.hid (rchk_any x t w B hx hB)
  have HX := Lib.hid hx
  obtain ⟨oa, ca, rfl, _, _⟩ := hx.form
  clear hx
  obtain ⟨hk1, hk2⟩ := hk
  by_cases hc0 : chkT t = 0
  · have fc := neq_fT hc0
    have h8 := (chkT_rows hc0).1
    have hcc8 := colsT_le hc0
    by_cases hn0 : (t.length : Int) = 0
    · have HE : Hid (unpE t keep = 7 ∧ unpV t keep = []) := by
        have h : unpE t keep = 7 := by unfold unpE; rw [if_neg (by simp [hc0]), if_pos (by omega)]
        exact Lib.hid ⟨h, if_neg (by rw [h]; decide)⟩
      have hz : ((t.length : Int) == 0) = true := by rw [hn0]; rfl
      clear hc0 hn0 h8
      go_enter Try.func34, Try.ntmps34
      go_wp2_with fail
      refine HC.out.mono ?_
      rintro e w1 ⟨rfl, hb1⟩
      go_wp2_with fail
      go_ret2
      exact ⟨RetTE.nil HE.out.2 HE.out.1.symm, hb1⟩
    have hz : ((t.length : Int) == 0) = false := by rw [beq_eq_false_iff_ne]; exact hn0
    have HCO := Lib.hid (fun w1 h => rcols_any (.slice oa t.length ca) t w1 (· < B) h)
    have HROWS := Lib.hid (chkT_rows hc0).2
    have HEQ : Hid (unpE t keep = if keep < 0 ∨ (colsT t : Int) ≤ keep then 1 else if 8 < keep + 2 ∨ 8 < ((t.length : Int) - 1) * ((colsT t : Int) - keep) then 2 else 0) := Lib.hid (by unfold unpE; rw [if_neg (by simp [hc0]), if_neg (by omega)])
    have HVN : Hid (unpE t keep ≠ 0 → unpV t keep = []) := Lib.hid (fun h => if_neg h)
    have HVV : Hid (unpE t keep = 0 → unpV t keep = unpK (t.headD []) keep.toNat (t.drop 1)) := Lib.hid (fun h => if_pos h)
    obtain ⟨n, hn⟩ : ∃ n, colsT t = n := ⟨_, rfl⟩
    rw [hn] at HCO HROWS HEQ hcc8
    clear hc0 hn
    by_cases hlo : keep < 0
    · have HE : Hid (unpE t keep = 1 ∧ unpV t keep = []) := by
        have h : unpE t keep = 1 := by rw [HEQ.out, if_pos (.inl hlo)]
        exact Lib.hid ⟨h, HVN.out (by rw [h]; decide)⟩
      go_enter Try.func34, Try.ntmps34
      go_wp2_with fail
      refine HC.out.mono ?_
      rintro e w1 ⟨rfl, hb1⟩
      go_wp2_with fail
      go_ret2
      exact ⟨RetTE.nil HE.out.2 HE.out.1.symm, hb1⟩
    by_cases hhi : (n : Int) ≤ keep
    · have HE : Hid (unpE t keep = 1 ∧ unpV t keep = []) := by
        have h : unpE t keep = 1 := by rw [HEQ.out, if_pos (.inr hhi)]
        exact Lib.hid ⟨h, HVN.out (by rw [h]; decide)⟩
      go_enter Try.func34, Try.ntmps34
      go_wp2_with fail
      refine HC.out.mono ?_
      rintro e w1 ⟨rfl, hb1⟩
      have HB1 := Lib.hid hb1
      have HC1 := Lib.hid (HCO.out w1 (HX.out.later (hb1.mono hB)))
      clear hb1
      go_wp2_with fail
      refine HC1.out.mono ?_
      rintro e w' ⟨rfl, rfl⟩
      go_wp2_with fail
      go_ret2
      exact ⟨RetTE.nil HE.out.2 HE.out.1.symm, HB1.out⟩
    obtain ⟨c, rfl⟩ : ∃ c : Nat, keep = (c : Int) := ⟨keep.toNat, by omega⟩
    have hcn : c < n := by omega
    have ht0 : 0 < t.length := by omega
    obtain ⟨n1, hn1⟩ : ∃ n1, t.length - 1 = n1 := ⟨_, rfl⟩
    have hn1a : (t.length : Int) ≤ (n1 : Int) + 1 := by omega
    have hn1b : (n1 : Int) + 1 ≤ (t.length : Int) := by omega
    have HLEN : Hid (t.length = n1 + 1) := Lib.hid (by omega)
    obtain ⟨Q, hQ⟩ : ∃ Q, t.drop 1 = Q := ⟨_, rfl⟩
    have HQL : Hid (Q.length = n1) := Lib.hid (by rw [← hQ, List.length_drop]; omega)
    have HQR : Hid (∀ r ∈ Q, r.length = n) := Lib.hid (fun r hr => by rw [← hQ] at hr; exact (HROWS.out r (List.mem_of_mem_drop hr)).1)
    have HQA : Hid (∀ m, (h : m < Q.length) → ∃ h2 : m + 1 < t.length, t[m + 1] = Q[m]) := Lib.hid (fun m h => by
      subst hQ
      rw [List.length_drop] at h
      exact ⟨by omega, by simp⟩)
    have hhead : t.headD [] = t[0] := by
      cases t with
      | nil => cases ht0
      | cons r t => rfl
    rw [hhead, hQ] at HVV
    have HTN : Hid ((c : Int).toNat = c) := Lib.hid (by simp)
    rw [HTN.out] at HVV
    have h0l : t[0].length = n := (HROWS.out _ (List.getElem_mem ht0)).1
    obtain ⟨b, off, o0, c0, rfl, hb, g0, hrow0⟩ := HX.out.at_ (List.getElem?_eq_getElem ht0)
    simp only [Nat.add_zero] at g0
    obtain ⟨hd, hhd⟩ : ∃ hd, t[0] = hd := ⟨_, rfl⟩
    rw [hhd] at HVV h0l g0 hrow0
    have HG0 := Lib.hid g0
    have HR0 := Lib.hid hrow0
    have HDL := Lib.hid h0l
    have HBW : Hid (b < w.heap.size) := Lib.hid (Nat.lt_of_lt_of_le hb hB)
    clear hhead hQ hhd g0 hrow0 h0l hn1
    go_enter Try.func34, Try.ntmps34
    go_wp2_with fail
    refine HC.out.mono ?_
    rintro e w1 ⟨rfl, hb1⟩
    have HB1 := Lib.hid hb1
    have HC1 := Lib.hid (HCO.out w1 (HX.out.later (hb1.mono hB)))
    clear hb1
    go_wp2_with fail
    refine HC1.out.mono ?_
    rintro e w' ⟨rfl, rfl⟩
    go_wp2_with fail
    simp only [show decide (n ≤ c) = false from decide_eq_false (by omega), Bool.or_false]
    go_loopw [7, 8] (fun v j wr => ∃ m : Nat, m ≤ n1 ∧ j = .int .i64 ((m + 1 : Nat) : Int) ∧ Hid (AccT wr w.heap.size v (unpK hd c (Q.take m))) ∧ Hid ((unpK hd c (Q.take m)).length ≤ 8 * m) ∧ Hid (Below w.heap.size w wr)) (fun _ j _ => n1 + 1 - (intOf j).toNat)
    case atStart => exact ⟨0, Nat.zero_le _, by simp, Lib.hid (AccT.nil _ _), Lib.hid (by simp [unpK]), HB1⟩
    case round =>
      obtain ⟨m, hm, rfl, HA, HLN, HBE⟩ := hrel
      obtain ⟨wo, hwo⟩ : ∃ wo : World, wo = wr := ⟨_, rfl⟩
      subst hwo
      by_cases hlt : m < n1
      · have hmq : m < Q.length := by have := HQL.out; omega
        obtain ⟨hmt, hQm⟩ := HQA.out m hmq
        obtain ⟨b1, off1, o1, cr1, he, hb1, h0, hrow⟩ := HX.out.at_ (List.getElem?_eq_getElem hmt)
        cases he
        have hrl := HQR.out _ (List.getElem_mem hmq)
        rw [hQm] at h0 hrow
        have HNX := Lib.hid (unpK_next hd c Q m hmq)
        obtain ⟨r, hr⟩ : ∃ r, Q[m] = r := ⟨_, rfl⟩
        rw [hr] at h0 hrow hrl HNX
        obtain ⟨i, hi⟩ : ∃ i, m + 1 = i := ⟨_, rfl⟩
        rw [hi] at h0 ⊢
        have HI := Lib.hid hi
        have HH0 := Lib.hid h0
        have HROW := Lib.hid hrow
        have HRL := Lib.hid hrl
        have hii0 : (0 : Int) ≤ (i : Int) := by omega
        have hii1 : (i : Int) < (t.length : Int) := by omega
        have hil : (i : Int) < (n1 : Int) + 1 := by omega
        have hcr : c ≤ r.length := by omega
        have hccr : r.length ≤ cr1 := (hrow.len).2.1
        have hr8 : r.length ≤ 8 := by omega
        obtain ⟨U0, hU0⟩ : ∃ U0, unpK hd c (Q.take m) = U0 := ⟨_, rfl⟩
        rw [hU0] at HA HLN HNX
        clear hU0 hr hrow hrl hQm hi hmt h0
        go_wp2_with fail
        go_loopw [7, 9] (fun v j wr => ∃ k : Nat, c + k ≤ r.length ∧ j = .int .i64 ((c + k : Nat) : Int) ∧ Hid (AccT wr w.heap.size v (U0 ++ unpOne hd c r k)) ∧ Hid (Below w.heap.size w wr)) (fun _ j _ => r.length - (intOf j).toNat)
        case atStart => exact ⟨0, hcr, by simp, Lib.hid (by rw [show unpOne hd c r 0 = [] from rfl, List.append_nil]; exact HA.out), HBE⟩
        case round =>
          obtain ⟨k, hkr, rfl, HA2, HBE2⟩ := hrel
          have hsz2 : w.heap.size ≤ wr.heap.size := HBE2.out.size
          have HL2 : Hid ((U0 ++ unpOne hd c r k).length ≤ 900) := Lib.hid (by have := HLN.out; have := HRL.out; rw [List.length_append, unpOne_len]; omega)
          have HN2 := Lib.hid (unpOne_next hd c r k)
          obtain ⟨j, hj⟩ : ∃ j, c + k = j := ⟨_, rfl⟩
          have HJJ := Lib.hid hj
          rw [hj] at hkr HN2 ⊢
          obtain ⟨U1, hU1⟩ : ∃ U1, U0 ++ unpOne hd c r k = U1 := ⟨_, rfl⟩
          have HU1 := Lib.hid hU1
          rw [hU1] at HA2 HL2
          clear hU1 hj
          have h0 : wr.cell? ⟨b, off + i, none⟩ = some (.slice o1 r.length cr1) := (HBE2.out.cell (p := ⟨b, off + i, none⟩) HBW.out).trans HH0.out
          by_cases hkl : j < r.length
          · have hjh : j < hd.length := by have := HDL.out; have := HRL.out; omega
            obtain ⟨b2, off2, e2, hb2, hc⟩ := HROW.out.at_ (List.getElem?_eq_getElem hkl)
            obtain ⟨b3, off3, e3, hb3, hdc⟩ := HR0.out.at_ (List.getElem?_eq_getElem hjh)
            subst e2
            subst e3
            have hji0 : (0 : Int) ≤ (j : Int) := by omega
            have hji1 : (j : Int) < (r.length : Int) := by omega
            have hji2 : (j : Int) < (hd.length : Int) := by omega
            have hci0 : (0 : Int) ≤ (c : Int) := by omega
            have hci1 : (c : Int) ≤ (cr1 : Int) := by omega
            have hci2 : (c : Int) ≤ (r.length : Int) := by omega
            have ht0i : (0 : Int) < (t.length : Int) := by omega
            have HTA := Lib.hid (HROW.out.take hcr)
            have hrw : unpRow hd c r j = r.take c ++ [hd[j], r[j]] := by unfold unpRow; rw [List.getElem?_eq_getElem hjh, List.getElem?_eq_getElem hkl]; rfl
            rw [hrw] at HN2
            obtain ⟨CA, hA⟩ : ∃ A, hd[j] = A := ⟨_, rfl⟩
            obtain ⟨CB, hD⟩ : ∃ D, r[j] = D := ⟨_, rfl⟩
            rw [hA] at HN2 hdc
            rw [hD] at HN2 hc
            have HKEEP : Hid (∀ W : World, Below w.heap.size wr W → W.cell? ⟨b, off + i, none⟩ = some (.slice (some ⟨b2, off2, none⟩) r.length cr1) ∧ W.cell? ⟨b, off, none⟩ = some (.slice (some ⟨b3, off3, none⟩) hd.length c0) ∧ W.cell? ⟨b2, off2 + j, none⟩ = some (.string CB) ∧ W.cell? ⟨b3, off3 + j, none⟩ = some (.string CA)) := Lib.hid (fun W hbW => by
              have hbW' := HBE2.out.trans hbW
              exact ⟨(hbW'.cell (p := ⟨b, off + i, none⟩) HBW.out).trans HH0.out, (hbW'.cell (p := ⟨b, off, none⟩) HBW.out).trans HG0.out, (hbW'.cell (p := ⟨b2, off2 + j, none⟩) (Nat.lt_of_lt_of_le hb2 hB)).trans hc, (hbW'.cell (p := ⟨b3, off3 + j, none⟩) (Nat.lt_of_lt_of_le hb3 hB)).trans hdc⟩)
            obtain ⟨TA, hTA⟩ : ∃ TA, r.take c = TA := ⟨_, rfl⟩
            rw [hTA] at HTA HN2
            obtain ⟨R4, hR4⟩ : ∃ R4, TA ++ [CA, CB] = R4 := ⟨_, rfl⟩
            rw [hR4] at HN2
            have HLA : Hid (TA.length ≤ 8 ∧ R4.length ≤ 10) := Lib.hid (by have := HRL.out; rw [← hR4, List.length_append, ← hTA, List.length_take]; simp; omega)
            have HR4 := Lib.hid hR4
            have HT1 : Hid (∀ W : World, Below wr.heap.size wr W → Calls Try.prog 55 #[.slice (some ⟨b2, off2, none⟩) c cr1] W fun e w' => (∃ v, e = .returned v ∧ OwnS w' W.heap.size v TA) ∧ Below W.heap.size W w') := Lib.hid (fun W hb => rlist_any _ TA W B (HTA.out.later ((HBE2.out.trans (hb.mono hsz2)).mono hB)) (Nat.le_trans (Nat.le_trans hB hsz2) hb.size) (by have := HLA.out.1; omega))
            clear hA hD hc hdc hrw hTA hR4
            go_wp2_with fail
            go_region_held_law (fun w' => w'.cell? ⟨b, off + i, none⟩ = some (.slice (some ⟨b2, off2, none⟩) r.length cr1) ∧ w'.cell? ⟨b, off, none⟩ = some (.slice (some ⟨b3, off3, none⟩) hd.length c0) ∧ w'.cell? ⟨b2, off2 + j, none⟩ = some (.string CB) ∧ w'.cell? ⟨b3, off3 + j, none⟩ = some (.string CA))
              (first | exact HKEEP.out _ ((Below.refl _ _).drew) | exact HKEEP.out _ (((Below.refl wr.heap.size wr).drew).mono hsz2) | exact HKEEP.out _ ((below1 wr _).drew.mono hsz2) | exact HKEEP.out _ (HB3.out.mono hsz2) | exact HKEEP.out _ (HB3'.out.mono hsz2) | exact HKEEP.out _ ((bl1 HB3.out).mono hsz2) | exact HKEEP.out _ (HB4.out.mono hsz2) | exact HKEEP.out _ ((bl1 HB4.out).mono hsz2) | exact HKEEP.out _ HB6.out) (first
              | (go_simp; go_at_call 55; (with_reducible refine (HT1.out _ (Below.refl _ _).drew).mono ?_); rintro e w3 ⟨⟨v1, rfl, h1⟩, hb3⟩
                 have hbw3 : Below wr.heap.size wr w3 := (Below.refl _ _).drew.trans hb3
                 have H1 := Lib.hid (h1.later (below1 w3 (.cells #[.string CA, .string CB] 9)))
                 have HB3 := Lib.hid (hbw3.trans ((below1 w3 (.cells #[.string CA, .string CB] 9)).mono hbw3.size))
                 have HS2 := Lib.hid (two_src w3 CA CB)
                 obtain ⟨o3, cc3, rfl⟩ : ∃ o3 cc3, v1 = .slice o3 TA.length cc3 := owns_form h1
                 have hz3 : wr.heap.size ≤ (w3.alloc (.cells #[.string CA, .string CB] 9)).heap.size := HB3.out.size
                 have HB3' := Lib.hid hbw3
                 clear h1 hb3 hbw3)
              | (go_simp; go_at_call 55; (with_reducible refine (HT1.out _ (below1 wr (.cells #[.string CA, .string CB] 9)).drew).mono ?_); rintro e w3 ⟨⟨v1, rfl, h1⟩, hb3⟩
                 have hbw3 : Below wr.heap.size wr w3 := (below1 wr (.cells #[.string CA, .string CB] 9)).drew.trans (hb3.mono (by simp [World.drew]))
                 have H1 := Lib.hid (OwnS.weak h1 (by simp [World.drew] : wr.heap.size ≤ _))
                 have HB3 := Lib.hid hbw3
                 have HS2 := Lib.hid (src_later (two_src wr CA CB) (((Below.refl _ _).drew).trans hb3))
                 obtain ⟨o3, cc3, rfl⟩ : ∃ o3 cc3, v1 = .slice o3 TA.length cc3 := owns_form h1
                 have hz3 : wr.heap.size ≤ w3.heap.size := HB3.out.size
                 clear h1 hb3 hbw3)
              | (refine step_src (by rfl) _ _ (by rfl) wr.heap.size _ TA (by rfl) H1.out _ 2 2 (by rfl) [CA, CB] rfl HS2.out (by have := HLA.out.1; omega) hz3 ?_
                 intro v4 w4 h4 hg4 hat4
                 have hbw4 := HB3.out.grown hg4 hz3 (fun p hp => (own_lt H1.out p hp).1)
                 rw [HR4.out] at h4
                 have HSO := Lib.hid (solo_acc HA2.out hbw4 h4 hsz2)
                 have HB4 := Lib.hid hbw4
                 obtain ⟨o4, cc4, rfl⟩ : ∃ o4 cc4, v4 = .slice o4 R4.length cc4 := owns_form h4
                 clear h4 hg4 hat4 hbw4)
              | (refine step_acc (by rfl) _ _ (by rfl) w.heap.size _ U1 (by rfl) HSO.out.1 _ 1 1 [R4] (by rfl) HSO.out.2 (by have := HL2.out; simp; omega) (by have := HB4.out.size; simp; omega) ?_
                 intro v6 w6 h6 hg6
                 have HB6 := Lib.hid (((bl1 HB4.out).mono hsz2).grown hg6 (by have := HB4.out.size; simp; omega) (fun p hp => (HSO.out.1.lt p hp).1))))
            all_goals
              have HBF := Lib.hid (HBE2.out.trans HB6.out)
              have H6 := Lib.hid h6
              clear h6 hg6
              go_wp2_with fail
              go_roundw
              case rel => exact ⟨k + 1, by have := HJJ.out; omega, by have := HJJ.out; go_num, Lib.hid (by rw [HN2.out, ← List.append_assoc, HU1.out]; exact H6.out), HBF⟩
              case measure => simp [intOf]; omega
          · have hjr : j = r.length := by omega
            have HEND : Hid (U1 = U0 ++ unpOne hd c r (r.length - c)) := Lib.hid (by rw [← HU1.out, show k = r.length - c by have := HJJ.out; omega])
            subst hjr
            go_wp2_with fail
            go_roundw
            case rel => exact ⟨m + 1, hlt, by have := HI.out; go_num, Lib.hid (by rw [HNX.out, ← HEND.out]; exact HA2.out), Lib.hid (by rw [HNX.out, List.length_append, unpOne_len]; have := HLN.out; have := HRL.out; omega), HBE2⟩
            case measure => have := HI.out; simp [intOf]; omega
      · obtain rfl : m = n1 := by omega
        have HF : Hid (Q.take m = Q) := Lib.hid (List.take_of_length_le (by have := HQL.out; omega))
        rw [HF.out] at HA
        have HKL : Hid ((unpK hd c Q).length = m * (n - c)) := Lib.hid (by rw [unpK_len hd c n Q HQR.out, HQL.out])
        obtain ⟨av, acv, rfl⟩ := HA.out.form
        obtain ⟨L, hL⟩ : ∃ L, (unpK hd c Q).length = L := ⟨_, rfl⟩
        have HLL : Hid ((t.length : Int) - 1 = m ∧ ((t.length : Int) - 1) * ((n : Int) - (c : Int)) = (L : Int)) := Lib.hid (by
          have e1 : (t.length : Int) - 1 = (m : Int) := by omega
          refine ⟨e1, ?_⟩
          rw [e1, ← hL, HKL.out, Int.natCast_mul]
          congr 1
          omega)
        have HLE := Lib.hid hL
        by_cases hs : 8 < (c : Int) + 2
        · have HE : Hid (unpE t (c : Int) = 2 ∧ unpV t (c : Int) = []) := by
            have h : unpE t (c : Int) = 2 := by rw [HEQ.out, if_neg (by omega), if_pos (.inl hs)]
            exact Lib.hid ⟨h, HVN.out (by rw [h]; decide)⟩
          go_wp2_with fail
          go_ret2
          exact ⟨RetTE.nil HE.out.2 HE.out.1.symm, HBE.out⟩
        · by_cases hs2 : 8 < (L : Int)
          · have HE : Hid (unpE t (c : Int) = 2 ∧ unpV t (c : Int) = []) := by
              have h : unpE t (c : Int) = 2 := by rw [HEQ.out, if_neg (by omega), if_pos (.inr (by rw [HLL.out.2]; exact hs2))]
              exact Lib.hid ⟨h, HVN.out (by rw [h]; decide)⟩
            rw [hL]
            clear hL
            go_wp2_with fail
            go_ret2
            exact ⟨RetTE.nil HE.out.2 HE.out.1.symm, HBE.out⟩
          · have HE : Hid (unpE t (c : Int) = 0 ∧ unpV t (c : Int) = unpK hd c Q) := by
              have h : unpE t (c : Int) = 0 := by rw [HEQ.out, if_neg (by omega), if_neg (by rw [HLL.out.2]; omega)]
              exact Lib.hid ⟨h, HVV.out h⟩
            have HAH := Lib.hid HA.out.holds
            rw [hL] at HAH ⊢
            clear hL
            go_wp2_with fail
            go_ret2
            exact ⟨RetTE.mk HAH.out HE.out.2.symm HE.out.1.symm, HBE.out⟩
  · have fc := neq_tT hc0
    have HE : Hid (unpE t keep = chkT t ∧ unpV t keep = []) := by
      have h : unpE t keep = chkT t := unpE_chk hc0
      exact Lib.hid ⟨h, if_neg (by rw [h]; exact hc0)⟩
    clear hc0
    go_enter Try.func34, Try.ntmps34
    go_wp2_with fail
    refine HC.out.mono ?_
    rintro e w1 ⟨rfl, hb1⟩
    go_wp2_with fail
    go_ret2
    exact ⟨RetTE.nil HE.out.2 HE.out.1.symm, hb1⟩

end Go.Proofs.Ytampofpllijfhaa
