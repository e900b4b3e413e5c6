/-
  Split of the reference. Nothing is assumed.
-/
import Derived.Test.YtampofpllijfhaaTbCut
import Derived.Test.YtampofpllijfhaaTbSplit
import Derived.Test.YtampofpllijfhaaTbParts
import Derived.Deep.RegionHeldLaw
namespace Go.Proofs.Ytampofpllijfhaa
open Go.RowKit

theorem two_src (w : World) (a b : ByteArray) : ∀ (j : Nat) (y : ByteArray), [a, b][j]? = some y → ∃ ad, some (⟨w.heap.size, 0, none⟩ : Addr) = some ad ∧ (w.alloc (.cells #[.string a, .string b] 9)).cell? (ad.add j) = some (.string y) := by
  intro j y hj
  match j, hj with
  | 0, hj => simp at hj; subst hj; exact ⟨_, rfl, by simp [Addr.add]⟩
  | 1, hj => simp at hj; subst hj; exact ⟨_, rfl, by simp [Addr.add]⟩
  | j + 2, hj => simp at hj
theorem src_later {w w' : World} {b : Nat} {l : Row} (h : ∀ (j : Nat) (y : ByteArray), l[j]? = some y → ∃ ad, some (⟨b, 0, none⟩ : Addr) = some ad ∧ w.cell? (ad.add j) = some (.string y)) (hb : Below w.heap.size w w') :
    ∀ (j : Nat) (y : ByteArray), l[j]? = some y → ∃ ad, some (⟨b, 0, none⟩ : Addr) = some ad ∧ w'.cell? (ad.add j) = some (.string y) := by
  intro j y hj
  obtain ⟨ad, he, hc⟩ := h j y hj
  refine ⟨ad, he, ?_⟩
  have hlt := World.block_lt_of_cell? _ _ hc
  exact (hb.cell (p := ad.add j) hlt).trans hc
/-- A row that a call has built behind a table, laid in a block of its own. -/
theorem solo_acc {w0 w4 : World} {base : Nat} {vo v4 : Value} {U : Tab} {R : Row} (ha : AccT w0 base vo U) (hb : Below w0.heap.size w0 w4) (h4 : OwnS w4 w0.heap.size v4 R) (hbase : base ≤ w0.heap.size) :
    AccT (w4.alloc (.cells #[v4] 29)) base vo U ∧ HoldsT (w4.alloc (.cells #[v4] 29)) (fun q => base ≤ q ∧ vo.ownBlock ≠ some q) (.slice (some ⟨w4.heap.size, 0, none⟩) 1 1) [R] := by
  have hb1 := below1 w4 (.cells #[v4] 29)
  have hs := hb.size
  refine ⟨(ha.later hb).later hb1, ?_⟩
  have hq : ∀ q, vo.ownBlock = some q → q < w0.heap.size := fun q hq => (ha.lt q hq).2
  refine ⟨_, 1, rfl, Nat.le_refl _, by omega, fun i z hi => ?_⟩
  match i, hi with
  | 0, hi =>
    simp at hi
    subst hi
    refine ⟨_, 0, v4, rfl, ⟨by omega, fun e => ?_⟩, by simp, (h4.holds).keep (fun b hp _ => ⟨by have := hp.1; omega, fun e => ?_⟩) (fun b o _ hl => hb1.cell (p := ⟨b, o, none⟩) hl)⟩
    · have := hq _ e; omega
    · have := hq _ e; have := hp.1; omega
  | i + 1, hi => simp at hi

set_option maxRecDepth 100000 in
set_option maxHeartbeats 3200000 in
theorem rSplit_any (x : Value) (t : List (List ByteArray)) (i : Int) (sep : ByteArray) (w : World) (B : Nat) (hx : HoldsT w (· < B) x t) (hB : B ≤ w.heap.size) (hi : I64 i) (hsep : sep.size ≤ 1000) :
    Calls Try.prog 42 #[x, .int .i64 i, .string sep] w fun e w' => RetTE w w' (splV t i sep) (splE t i sep) e ∧ Below w.heap.size w w' := by
  have HC := Lib.hid (rchk_any x t w B hx hB)
  have HX := Lib.hid hx
  obtain ⟨oa, ca, rfl, hcap, _⟩ := hx.form
  clear hx
  by_cases hc : chkT t = 0
  · have fc := neq_fT hc
    have hcl := colsT_le hc
    have HK := Lib.hid (fun w1 h => rcols_any (.slice oa t.length ca) t w1 (· < B) h)
    have HI := Lib.hid (fun w => rindex_any i (colsT t) w hi (by omega))
    cases hk : idxO i (colsT t) with
    | none =>
      have hl : locE (chkT t) i (colsT t) = 7 := by unfold locE; rw [if_pos hc]; exact (idx_none hk).2
      have HE : Hid (splE t i sep = 7 ∧ splV t i sep = []) := by
        have h : splE t i sep = 7 := by unfold splE; rw [hl]; rfl
        exact Lib.hid ⟨h, if_neg (by rw [h]; decide)⟩
      rw [ridx_none hk] at HI
      obtain ⟨n, hn⟩ : ∃ n, colsT t = n := ⟨_, rfl⟩
      rw [hn] at HK HI
      clear hc hk hl hn hcl
      go_enter Try.func42, Try.ntmps42
      go_wp2_with fail
      refine HC.out.mono ?_
      rintro e w1 ⟨rfl, hb1⟩
      have HB1 := Lib.hid hb1
      have HK1 := Lib.hid (HK.out w1 (HX.out.later (hb1.mono hB)))
      clear hb1
      go_wp2_with fail
      refine HK1.out.mono ?_
      rintro e w' ⟨rfl, rfl⟩
      go_wp2_with fail
      refine (HI.out _).mono ?_
      rintro e w' ⟨rfl, rfl⟩
      go_wp2_with fail
      go_ret2
      exact ⟨RetTE.nil HE.out.2 HE.out.1.symm, HB1.out⟩
    | some k =>
      have hkl := idxO_lt hk
      have hl : locE (chkT t) i (colsT t) = 0 := by unfold locE; rw [if_pos hc]; exact (idx_some hk).2
      have HE : Hid (splE t i sep = if sep.data.toList = [] then 4 else if colsT t = 8 then 2 else 0) := Lib.hid (if_neg (by simp [hl]))
      have HVV : Hid (splE t i sep = 0 → splV t i sep = t.map (splR k sep)) := Lib.hid (fun h => by unfold splV; rw [if_pos h, hk]; rfl)
      have HVN : Hid (splE t i sep ≠ 0 → splV t i sep = []) := Lib.hid (fun h => if_neg h)
      have h8 := (chkT_rows hc).1
      have HROW := Lib.hid (chkT_rows hc).2
      rw [ridx_some hk] at HI
      obtain ⟨n, hn⟩ : ∃ n, colsT t = n := ⟨_, rfl⟩
      rw [hn] at HK HI HE hkl hcl HROW
      clear hk hl hn hc
      have hki : ¬ (k : Int) < 0 := by omega
      by_cases hs : sep.data.toList = []
      · have HEE : Hid (splE t i sep = 4 ∧ splV t i sep = []) := by
          have h : splE t i sep = 4 := by rw [HE.out, if_pos hs]
          exact Lib.hid ⟨h, HVN.out (by rw [h]; decide)⟩
        have hst : sep.toList = [] := by rw [Lib.toList_data]; exact hs
        clear hs
        go_enter Try.func42, Try.ntmps42
        go_wp2_with fail
        refine HC.out.mono ?_
        rintro e w1 ⟨rfl, hb1⟩
        have HB1 := Lib.hid hb1
        have HK1 := Lib.hid (HK.out w1 (HX.out.later (hb1.mono hB)))
        clear hb1
        go_wp2_with fail
        refine HK1.out.mono ?_
        rintro e w' ⟨rfl, rfl⟩
        go_wp2_with fail
        refine (HI.out _).mono ?_
        rintro e w' ⟨rfl, rfl⟩
        go_wp2_with fail
        go_ret2
        exact ⟨RetTE.nil HEE.out.2 HEE.out.1.symm, HB1.out⟩
      have hst : sep.toList.isEmpty = false := by
        rw [Lib.toList_data]
        cases hl : sep.data.toList with
        | nil => exact absurd hl hs
        | cons _ _ => rfl
      by_cases h1 : (n : Int) = 8
      · have HEE : Hid (splE t i sep = 2 ∧ splV t i sep = []) := by
          have h : splE t i sep = 2 := by rw [HE.out, if_neg hs, if_pos (by omega)]
          exact Lib.hid ⟨h, HVN.out (by rw [h]; decide)⟩
        have hb1' : ((n : Int) == 8) = true := by rw [h1]; rfl
        clear h1 hs
        go_enter Try.func42, Try.ntmps42
        go_wp2_with fail
        refine HC.out.mono ?_
        rintro e w1 ⟨rfl, hb1⟩
        have HB1 := Lib.hid hb1
        have HK1 := Lib.hid (HK.out w1 (HX.out.later (hb1.mono hB)))
        clear hb1
        go_wp2_with fail
        refine HK1.out.mono ?_
        rintro e w' ⟨rfl, rfl⟩
        go_wp2_with fail
        refine (HI.out _).mono ?_
        rintro e w' ⟨rfl, rfl⟩
        go_wp2_with fail
        refine HK1.out.mono ?_
        rintro e w' ⟨rfl, rfl⟩
        go_wp2_with fail
        go_ret2
        exact ⟨RetTE.nil HEE.out.2 HEE.out.1.symm, HB1.out⟩
      · have HEE : Hid (splE t i sep = 0 ∧ splV t i sep = t.map (splR k sep)) := by
          have h : splE t i sep = 0 := by rw [HE.out, if_neg hs, if_neg (by omega)]
          exact Lib.hid ⟨h, HVV.out h⟩
        have hb1' : ((n : Int) == 8) = false := by rw [beq_eq_false_iff_ne]; exact h1
        clear h1 hs HE HVV HVN
        go_enter Try.func42, Try.ntmps42
        go_wp2_with fail
        refine HC.out.mono ?_
        rintro e w1 ⟨rfl, hb1⟩
        have HB1 := Lib.hid hb1
        have HK1 := Lib.hid (HK.out w1 (HX.out.later (hb1.mono hB)))
        clear hb1
        go_wp2_with fail
        refine HK1.out.mono ?_
        rintro e w' ⟨rfl, rfl⟩
        go_wp2_with fail
        refine (HI.out _).mono ?_
        rintro e w' ⟨rfl, rfl⟩
        go_wp2_with fail
        refine HK1.out.mono ?_
        rintro e w' ⟨rfl, rfl⟩
        go_wp2_with fail
        go_loopw [10, 11] (fun v j wr => ∃ q : Nat, q ≤ t.length ∧ j = .int .i64 q ∧ Hid (AccT wr w.heap.size v ((t.take q).map (splR k sep))) ∧ Hid (Below w.heap.size w wr)) (fun _ j _ => t.length - (intOf j).toNat)
        case atStart => exact ⟨0, Nat.zero_le _, rfl, Lib.hid (AccT.nil _ _), HB1⟩
        case round =>
          obtain ⟨q, hq, rfl, HA, HBE⟩ := hrel
          by_cases hlt : q < t.length
          · have hsz := HBE.out.size
            obtain ⟨b, off, o, cr, rfl, hb, h0, hrow⟩ := HX.out.at_ (List.getElem?_eq_getElem hlt)
            obtain ⟨hrl, hr1, hr8, hss⟩ := HROW.out _ (List.getElem_mem hlt)
            have HSN : Hid ((t.take (q + 1)).map (splR k sep) = (t.take q).map (splR k sep) ++ [splR k sep t[q]]) := Lib.hid (by rw [take_snoc t q hlt, List.map_append]; rfl)
            have HLN : Hid (((t.take q).map (splR k sep)).length = q) := Lib.hid (by simp; omega)
            obtain ⟨U, hU⟩ : ∃ U, (t.take q).map (splR k sep) = U := ⟨_, rfl⟩
            rw [hU] at HA HSN HLN
            obtain ⟨r, hr⟩ : ∃ r, t[q] = r := ⟨_, rfl⟩
            rw [hr] at h0 hrow hrl hr1 hr8 hss HSN
            rw [← HBE.out.cell (p := ⟨b, _, none⟩) (Nat.lt_of_lt_of_le hb hB)] at h0
            have hkr : k < r.length := by rw [hrl]; exact hkl
            obtain ⟨b2, off2, rfl, hb2, hc2⟩ := hrow.at_ (List.getElem?_eq_getElem hkr)
            rw [← HBE.out.cell (p := ⟨b2, _, none⟩) (Nat.lt_of_lt_of_le hb2 hB)] at hc2
            have hz64 := hss _ (List.getElem_mem hkr)
            have hcr := (hrow.len).2.1
            have HSP : Hid (splR k sep r = r.take k ++ [cutA r[k] sep, cutB r[k] sep] ++ r.drop (k + 1)) := Lib.hid (by unfold splR; rw [List.getElem?_eq_getElem hkr]; simp)
            obtain ⟨z, hz⟩ : ∃ z, r[k] = z := ⟨_, rfl⟩
            rw [hz] at hc2 HSP hz64
            have HCUT := Lib.hid (rcut_any z sep wr (by omega) hsep)
            obtain ⟨CA, hCA⟩ : ∃ CA, cutA z sep = CA := ⟨_, rfl⟩
            obtain ⟨CB, hCB⟩ : ∃ CB, cutB z sep = CB := ⟨_, rfl⟩
            rw [hCA, hCB] at HCUT HSP
            have HROW2 := Lib.hid (hrow.later (HBE.out.mono hB))
            have hqi0 : (0 : Int) ≤ (q : Int) := by omega
            have hqi1 : (q : Int) < (t.length : Int) := by omega
            have hki0 : (0 : Int) ≤ (k : Int) := by omega
            have hki1 : (k : Int) < (r.length : Int) := by omega
            have HH0 := Lib.hid h0
            have HBLT := Lib.hid (Nat.lt_of_lt_of_le (Nat.lt_of_lt_of_le hb hB) hsz)
            have hbw0 : b < w.heap.size := Nat.lt_of_lt_of_le hb hB
            have HRL := Lib.hid hrl
            clear hrow hrl hss hr hz hCA hCB hU
            go_wp2_with fail
            refine HCUT.out.mono ?_
            rintro e w2 ⟨rfl, hbc⟩
            have h0 : w2.cell? ⟨b, off + q, none⟩ = some (.slice (some ⟨b2, off2, none⟩) r.length cr) := (hbc.cell (p := ⟨b, off + q, none⟩) HBLT.out).trans HH0.out
            have HA := Lib.hid (HA.out.later hbc)
            have HBE := Lib.hid (HBE.out.trans (hbc.mono hsz))
            have HROW2 := Lib.hid (HROW2.out.later (hbc.mono (Nat.le_trans hB hsz)))
            have hsz2 : w.heap.size ≤ w2.heap.size := HBE.out.size
            clear hc2 HCUT HH0
            obtain ⟨c1, hc1⟩ : ∃ c1, k + 1 = c1 := ⟨_, rfl⟩
            have hc1i : (k : Int) + 1 = (c1 : Int) := by omega
            rw [hc1] at HSP
            have hc1l : (c1 : Int) ≤ (r.length : Int) := by omega
            have hc1c : (c1 : Int) ≤ (cr : Int) := by omega
            have hc1z : (0 : Int) ≤ (c1 : Int) := by omega
            have hwr : IntKind.i64.wrap (c1 : Int) = (c1 : Int) := IntWalk.i64_in _ (by omega)
            have hcc : (k : Int) ≤ (cr : Int) := by omega
            have hki2 : (k : Int) ≤ (r.length : Int) := by omega
            have hbl : b < w2.heap.size := Nat.lt_of_lt_of_le HBLT.out hbc.size
            have kk : ∀ X : Obj, (w2.alloc X).cell? ⟨b, off + q, none⟩ = some (.slice (some ⟨b2, off2, none⟩) r.length cr) := fun X => ((below1 w2 X).cell (p := ⟨b, off + q, none⟩) hbl).trans h0
            have HTA := Lib.hid (HROW2.out.take (show k ≤ r.length by omega))
            have HLA : Hid ((r.take k).length ≤ 8 ∧ (r.drop c1).length ≤ 8) := Lib.hid (by simp; omega)
            have HTB : Hid (∃ oB nB cB, HoldsS w2 (· < B) (.slice oB nB cB) (r.drop c1) ∧ ((cr = c1 ∧ oB = some ⟨b2, off2, none⟩ ∧ nB = 0 ∧ cB = 0) ∨ (cr ≠ c1 ∧ oB = some ⟨b2, off2 + c1, none⟩ ∧ nB = r.length - c1 ∧ cB = cr - c1))) := Lib.hid (by
              by_cases hca : cr = c1
              · exact ⟨_, _, _, by rw [List.drop_of_length_le (by omega)]; exact HoldsS.empty _ _ (some ⟨b2, off2, none⟩), .inl ⟨hca, rfl, rfl, rfl⟩⟩
              · exact ⟨_, _, _, HROW2.out.drop (by omega), .inr ⟨hca, rfl, rfl, rfl⟩⟩)
            obtain ⟨TA, hTA⟩ : ∃ TA, r.take k = TA := ⟨_, rfl⟩
            obtain ⟨TB, hTB⟩ : ∃ TB, r.drop c1 = TB := ⟨_, rfl⟩
            rw [hTA] at HSP HTA HLA
            rw [hTB] at HSP HTB HLA
            obtain ⟨R3, hR3⟩ : ∃ R3, TA ++ [CA, CB] = R3 := ⟨_, rfl⟩
            rw [hR3] at HSP
            obtain ⟨R4, hR4⟩ : ∃ R4, R3 ++ TB = R4 := ⟨_, rfl⟩
            rw [hR4] at HSP
            rw [HSP.out] at HSN
            have HL3 : Hid (R3.length ≤ 10 ∧ R4.length ≤ 20) := Lib.hid (by rw [← hR4, List.length_append, ← hR3, List.length_append]; have := HLA.out; simp; omega)
            have HR3 := Lib.hid hR3
            have HR4 := Lib.hid hR4
            clear hc1 hTA hTB hR3 hR4 hbc
            have HT1 : Hid (∀ W : World, Below w2.heap.size w2 W → Calls Try.prog 55 #[.slice (some ⟨b2, off2, none⟩) k cr] W fun e w' => (∃ v, e = .returned v ∧ OwnS w' W.heap.size v TA) ∧ Below W.heap.size W w') := Lib.hid (fun W hb => rlist_any _ TA W B (HTA.out.later (hb.mono (Nat.le_trans hB hsz2))) (Nat.le_trans (Nat.le_trans hB hsz2) hb.size) (by have := HLA.out.1; omega))
            obtain ⟨oB, nB, cB, hBv, hcase⟩ := HTB.out
            have HSB : Hid (∀ W : World, Below w2.heap.size w2 W → ∀ (j : Nat) y, TB[j]? = some y → ∃ ad, oB = some ad ∧ W.cell? (ad.add j) = some (.string y)) := Lib.hid (fun W hb => (hBv.later (hb.mono (Nat.le_trans hB hsz2))).src)
            have HNB := Lib.hid hBv.len.1
            clear HTB hBv
            have hnb8 : nB ≤ 8 := by have := HNB.out; have := HLA.out.2; omega
            rcases hcase with ⟨hca, rfl, rfl, rfl⟩ | ⟨hca, rfl, rfl, rfl⟩
            · subst hca
              go_wp2_with fail
              go_region_held_law (fun w' => w'.cell? ⟨b, off + q, none⟩ = some (.slice (some ⟨b2, off2, none⟩) r.length cr)) (first | exact h0 | exact kk _ | exact k3 | exact kk3 _ | exact k4 | exact kk4 _ | exact k5 | exact kk5 _ | exact k6) (first
                | (go_simp; go_at_call 55; (with_reducible refine (HT1.out _ (Below.refl _ _).drew).mono ?_); rintro e w3 ⟨⟨v1, rfl, h1⟩, hb3⟩
                   have hbw3 : Below w2.heap.size w2 w3 := (Below.refl _ _).drew.trans hb3
                   have H1 := Lib.hid (h1.later (below1 w3 (.cells #[.string CA, .string CB] 9)))
                   have HB3 := Lib.hid (hbw3.trans ((below1 w3 (.cells #[.string CA, .string CB] 9)).mono hbw3.size))
                   have HS2 := Lib.hid (two_src w3 CA CB)
                   obtain ⟨o1, cc1, rfl⟩ : ∃ o1 cc1, v1 = .slice o1 TA.length cc1 := owns_form h1
                   have hz3 : w2.heap.size ≤ (w3.alloc (.cells #[.string CA, .string CB] 9)).heap.size := HB3.out.size
                   have k3 : w3.cell? ⟨b, off + q, none⟩ = some (.slice (some ⟨b2, off2, none⟩) r.length cr) := (hbw3.cell (p := ⟨b, off + q, none⟩) hbl).trans h0
                   have kk3 : ∀ X : Obj, (w3.alloc X).cell? ⟨b, off + q, none⟩ = some (.slice (some ⟨b2, off2, none⟩) r.length cr) := fun X => ((below1 w3 X).cell (p := ⟨b, off + q, none⟩) (Nat.lt_of_lt_of_le hbl hbw3.size)).trans k3
                   clear h1 hb3 hbw3)
                | (go_simp; go_at_call 55; (with_reducible refine (HT1.out _ (below1 w2 (.cells #[.string CA, .string CB] 9)).drew).mono ?_); rintro e w3 ⟨⟨v1, rfl, h1⟩, hb3⟩
                   have hbw3 : Below w2.heap.size w2 w3 := (below1 w2 (.cells #[.string CA, .string CB] 9)).drew.trans (hb3.mono (by simp [World.drew]))
                   have H1 := Lib.hid (OwnS.weak h1 (by simp [World.drew] : w2.heap.size ≤ _))
                   have HB3 := Lib.hid hbw3
                   have HS2 := Lib.hid (src_later (two_src w2 CA CB) (((Below.refl _ _).drew).trans hb3))
                   obtain ⟨o1, cc1, rfl⟩ : ∃ o1 cc1, v1 = .slice o1 TA.length cc1 := owns_form h1
                   have hz3 : w2.heap.size ≤ w3.heap.size := HB3.out.size
                   have k3 : w3.cell? ⟨b, off + q, none⟩ = some (.slice (some ⟨b2, off2, none⟩) r.length cr) := (hbw3.cell (p := ⟨b, off + q, none⟩) hbl).trans h0
                   have kk3 : ∀ X : Obj, (w3.alloc X).cell? ⟨b, off + q, none⟩ = some (.slice (some ⟨b2, off2, none⟩) r.length cr) := fun X => ((below1 w3 X).cell (p := ⟨b, off + q, none⟩) (Nat.lt_of_lt_of_le hbl hbw3.size)).trans k3
                   clear h1 hb3 hbw3)
                | (refine step_src (by rfl) _ _ (by rfl) w2.heap.size _ TA (by rfl) H1.out _ 2 2 (by rfl) [CA, CB] rfl HS2.out (by have := HLA.out.1; omega) hz3 ?_
                   intro v4 w4 h4 hg4 hat4
                   have hbw4 := HB3.out.grown hg4 hz3 (fun p hp => (own_lt H1.out p hp).1)
                   rw [HR3.out] at h4
                   have H4 := Lib.hid h4
                   have HB4 := Lib.hid hbw4
                   obtain ⟨o4, cc4, rfl⟩ : ∃ o4 cc4, v4 = .slice o4 R3.length cc4 := owns_form h4
                   have hz4 : w2.heap.size ≤ w4.heap.size := HB4.out.size
                   have k4 : w4.cell? ⟨b, off + q, none⟩ = some (.slice (some ⟨b2, off2, none⟩) r.length cr) := (hbw4.cell (p := ⟨b, off + q, none⟩) hbl).trans h0
                   have kk4 : ∀ X : Obj, (w4.alloc X).cell? ⟨b, off + q, none⟩ = some (.slice (some ⟨b2, off2, none⟩) r.length cr) := fun X => ((below1 w4 X).cell (p := ⟨b, off + q, none⟩) (Nat.lt_of_lt_of_le hbl hbw4.size)).trans k4
                   clear h4 hg4 hat4 hbw4)
                | (refine step_src (by rfl) _ _ (by rfl) w2.heap.size _ R3 (by rfl) H4.out _ 0 0 (by rfl) TB HNB.out (HSB.out _ HB4.out) (by have := HL3.out.1; omega) hz4 ?_
                   intro v5 w5 h5 hg5 hat5
                   have hbw5 := HB4.out.grown hg5 hz4 (fun p hp => (own_lt H4.out p hp).1)
                   rw [HR4.out] at h5
                   have HSO := Lib.hid (solo_acc HA.out hbw5 h5 hsz2)
                   have HB5 := Lib.hid hbw5
                   obtain ⟨o5, cc5, rfl⟩ : ∃ o5 cc5, v5 = .slice o5 R4.length cc5 := owns_form h5
                   have k5 : w5.cell? ⟨b, off + q, none⟩ = some (.slice (some ⟨b2, off2, none⟩) r.length cr) := (hbw5.cell (p := ⟨b, off + q, none⟩) hbl).trans h0
                   have kk5 : ∀ X : Obj, (w5.alloc X).cell? ⟨b, off + q, none⟩ = some (.slice (some ⟨b2, off2, none⟩) r.length cr) := fun X => ((below1 w5 X).cell (p := ⟨b, off + q, none⟩) (Nat.lt_of_lt_of_le hbl hbw5.size)).trans k5
                   clear h5 hg5 hat5 hbw5)
                | (refine step_acc (by rfl) _ _ (by rfl) w.heap.size _ U (by rfl) HSO.out.1 _ 1 1 [R4] (by rfl) HSO.out.2 (by rw [HLN.out]; simp; omega) (by have := HB5.out.size; simp; omega) ?_
                   intro v6 w6 h6 hg6
                   have k6 : w6.cell? ⟨b, off + q, none⟩ = some (.slice (some ⟨b2, off2, none⟩) r.length cr) := (hg6.cell_far ⟨b, off + q, none⟩ (by have := HB5.out.size; simp; omega) (fun e => by have := (HSO.out.1.lt _ e.symm).1; dsimp only at this; omega)).trans (kk5 _)))
              all_goals
                have hb6 := (HBE.out.trans ((HB5.out.trans ((below1 w5 (.cells #[.slice o5 R4.length cc5] 29)).mono HB5.out.size)).mono hsz2)).grown hg6 (by have := HB5.out.size; simp; omega) (fun p hp => (HSO.out.1.lt p hp).1)
                have H6 := Lib.hid h6
                have HB6 := Lib.hid hb6
                clear h6 hg6 hb6
                go_wp2_with fail
                go_roundw
                case rel => exact ⟨q + 1, hlt, by go_num, Lib.hid (by rw [HSN.out]; exact H6.out), HB6⟩
                case measure => simp [intOf]; omega
            · go_wp2_with fail
              go_region_held_law (fun w' => w'.cell? ⟨b, off + q, none⟩ = some (.slice (some ⟨b2, off2, none⟩) r.length cr)) (first | exact h0 | exact kk _ | exact k3 | exact kk3 _ | exact k4 | exact kk4 _ | exact k5 | exact kk5 _ | exact k6) (first
                | (go_simp; go_at_call 55; (with_reducible refine (HT1.out _ (Below.refl _ _).drew).mono ?_); rintro e w3 ⟨⟨v1, rfl, h1⟩, hb3⟩
                   have hbw3 : Below w2.heap.size w2 w3 := (Below.refl _ _).drew.trans hb3
                   have H1 := Lib.hid (h1.later (below1 w3 (.cells #[.string CA, .string CB] 9)))
                   have HB3 := Lib.hid (hbw3.trans ((below1 w3 (.cells #[.string CA, .string CB] 9)).mono hbw3.size))
                   have HS2 := Lib.hid (two_src w3 CA CB)
                   obtain ⟨o1, cc1, rfl⟩ : ∃ o1 cc1, v1 = .slice o1 TA.length cc1 := owns_form h1
                   have hz3 : w2.heap.size ≤ (w3.alloc (.cells #[.string CA, .string CB] 9)).heap.size := HB3.out.size
                   have k3 : w3.cell? ⟨b, off + q, none⟩ = some (.slice (some ⟨b2, off2, none⟩) r.length cr) := (hbw3.cell (p := ⟨b, off + q, none⟩) hbl).trans h0
                   have kk3 : ∀ X : Obj, (w3.alloc X).cell? ⟨b, off + q, none⟩ = some (.slice (some ⟨b2, off2, none⟩) r.length cr) := fun X => ((below1 w3 X).cell (p := ⟨b, off + q, none⟩) (Nat.lt_of_lt_of_le hbl hbw3.size)).trans k3
                   clear h1 hb3 hbw3)
                | (go_simp; go_at_call 55; (with_reducible refine (HT1.out _ (below1 w2 (.cells #[.string CA, .string CB] 9)).drew).mono ?_); rintro e w3 ⟨⟨v1, rfl, h1⟩, hb3⟩
                   have hbw3 : Below w2.heap.size w2 w3 := (below1 w2 (.cells #[.string CA, .string CB] 9)).drew.trans (hb3.mono (by simp [World.drew]))
                   have H1 := Lib.hid (OwnS.weak h1 (by simp [World.drew] : w2.heap.size ≤ _))
                   have HB3 := Lib.hid hbw3
                   have HS2 := Lib.hid (src_later (two_src w2 CA CB) (((Below.refl _ _).drew).trans hb3))
                   obtain ⟨o1, cc1, rfl⟩ : ∃ o1 cc1, v1 = .slice o1 TA.length cc1 := owns_form h1
                   have hz3 : w2.heap.size ≤ w3.heap.size := HB3.out.size
                   have k3 : w3.cell? ⟨b, off + q, none⟩ = some (.slice (some ⟨b2, off2, none⟩) r.length cr) := (hbw3.cell (p := ⟨b, off + q, none⟩) hbl).trans h0
                   have kk3 : ∀ X : Obj, (w3.alloc X).cell? ⟨b, off + q, none⟩ = some (.slice (some ⟨b2, off2, none⟩) r.length cr) := fun X => ((below1 w3 X).cell (p := ⟨b, off + q, none⟩) (Nat.lt_of_lt_of_le hbl hbw3.size)).trans k3
                   clear h1 hb3 hbw3)
                | (refine step_src (by rfl) _ _ (by rfl) w2.heap.size _ TA (by rfl) H1.out _ 2 2 (by rfl) [CA, CB] rfl HS2.out (by have := HLA.out.1; omega) hz3 ?_
                   intro v4 w4 h4 hg4 hat4
                   have hbw4 := HB3.out.grown hg4 hz3 (fun p hp => (own_lt H1.out p hp).1)
                   rw [HR3.out] at h4
                   have H4 := Lib.hid h4
                   have HB4 := Lib.hid hbw4
                   obtain ⟨o4, cc4, rfl⟩ : ∃ o4 cc4, v4 = .slice o4 R3.length cc4 := owns_form h4
                   have hz4 : w2.heap.size ≤ w4.heap.size := HB4.out.size
                   have k4 : w4.cell? ⟨b, off + q, none⟩ = some (.slice (some ⟨b2, off2, none⟩) r.length cr) := (hbw4.cell (p := ⟨b, off + q, none⟩) hbl).trans h0
                   have kk4 : ∀ X : Obj, (w4.alloc X).cell? ⟨b, off + q, none⟩ = some (.slice (some ⟨b2, off2, none⟩) r.length cr) := fun X => ((below1 w4 X).cell (p := ⟨b, off + q, none⟩) (Nat.lt_of_lt_of_le hbl hbw4.size)).trans k4
                   clear h4 hg4 hat4 hbw4)
                | (refine step_src (by rfl) _ _ (by rfl) w2.heap.size _ R3 (by rfl) H4.out _ (r.length - c1) (cr - c1) (by rfl) TB HNB.out (HSB.out _ HB4.out) (by have := HL3.out.1; omega) hz4 ?_
                   intro v5 w5 h5 hg5 hat5
                   have hbw5 := HB4.out.grown hg5 hz4 (fun p hp => (own_lt H4.out p hp).1)
                   rw [HR4.out] at h5
                   have HSO := Lib.hid (solo_acc HA.out hbw5 h5 hsz2)
                   have HB5 := Lib.hid hbw5
                   obtain ⟨o5, cc5, rfl⟩ : ∃ o5 cc5, v5 = .slice o5 R4.length cc5 := owns_form h5
                   have k5 : w5.cell? ⟨b, off + q, none⟩ = some (.slice (some ⟨b2, off2, none⟩) r.length cr) := (hbw5.cell (p := ⟨b, off + q, none⟩) hbl).trans h0
                   have kk5 : ∀ X : Obj, (w5.alloc X).cell? ⟨b, off + q, none⟩ = some (.slice (some ⟨b2, off2, none⟩) r.length cr) := fun X => ((below1 w5 X).cell (p := ⟨b, off + q, none⟩) (Nat.lt_of_lt_of_le hbl hbw5.size)).trans k5
                   clear h5 hg5 hat5 hbw5)
                | (refine step_acc (by rfl) _ _ (by rfl) w.heap.size _ U (by rfl) HSO.out.1 _ 1 1 [R4] (by rfl) HSO.out.2 (by rw [HLN.out]; simp; omega) (by have := HB5.out.size; simp; omega) ?_
                   intro v6 w6 h6 hg6
                   have k6 : w6.cell? ⟨b, off + q, none⟩ = some (.slice (some ⟨b2, off2, none⟩) r.length cr) := (hg6.cell_far ⟨b, off + q, none⟩ (by have := HB5.out.size; simp; omega) (fun e => by have := (HSO.out.1.lt _ e.symm).1; dsimp only at this; omega)).trans (kk5 _)))
              all_goals
                have hb6 := (HBE.out.trans ((HB5.out.trans ((below1 w5 (.cells #[.slice o5 R4.length cc5] 29)).mono HB5.out.size)).mono hsz2)).grown hg6 (by have := HB5.out.size; simp; omega) (fun p hp => (HSO.out.1.lt p hp).1)
                have H6 := Lib.hid h6
                have HB6 := Lib.hid hb6
                clear h6 hg6 hb6
                go_wp2_with fail
                go_roundw
                case rel => exact ⟨q + 1, hlt, by go_num, Lib.hid (by rw [HSN.out]; exact H6.out), HB6⟩
                case measure => simp [intOf]; omega
          · obtain rfl : q = t.length := by omega
            have HT : Hid (t.take t.length = t) := Lib.hid (List.take_length)
            go_wp2_with fail
            go_ret2
            exact ⟨RetTE.mk HA.out.holds (by rw [HT.out, HEE.out.2]) HEE.out.1.symm, HBE.out⟩
  · have fc := neq_tT hc
    have HE : Hid (splE t i sep = chkT t ∧ splV t i sep = []) := by
      have hl : locE (chkT t) i (colsT t) = chkT t := if_neg hc
      have h : splE t i sep = chkT t := by unfold splE; rw [hl]; exact if_pos hc
      exact Lib.hid ⟨h, if_neg (by rw [h]; exact hc)⟩
    clear hc
    go_enter Try.func42, Try.ntmps42
    go_wp2_with fail
    refine HC.out.mono ?_
    rintro e w1 ⟨rfl, hb1⟩
    go_wp2_with fail
    go_ret2
    exact ⟨RetTE.nil HE.out.2 HE.out.1.symm, hb1⟩

end Go.Proofs.Ytampofpllijfhaa
