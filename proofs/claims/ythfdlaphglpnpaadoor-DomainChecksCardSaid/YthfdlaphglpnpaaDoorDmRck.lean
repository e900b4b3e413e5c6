/-
  Check of the reference. Nothing is assumed.
-/
import Derived.Test.YthfdlaphglpnpaaDoorDmRix
import Derived.Test.YthfdlaphglpnpaaDoorDmPur
import Derived.Test.YthfdlaphglpnpaaDoorRefCheck
namespace Go.Proofs.YthfdlaphglpnpaaDoor
open Go.RowKit
open Go.Sort (grow)

/-- What the reference finds in an axis, from place k on: whole is the axis. -/
def axR (t : Int) (whole : List V) : Int → List V → Int
  | _, [] => 0
  | k, v :: a => if v.chk ≠ 0 then v.chk else if v.t ≠ t then 3 else if plc v 0 whole < k then 6 else axR t whole (k + 1) a
theorem axR_chk {t k : Int} {whole a : List V} {v : V} (h : v.chk ≠ 0) : axR t whole k (v :: a) = v.chk := if_pos h
theorem axR_ty {t k : Int} {whole a : List V} {v : V} (h : v.chk = 0) (h1 : v.t ≠ t) : axR t whole k (v :: a) = 3 := by rw [axR, if_neg (fun e => e h), if_pos h1]
theorem axR_tw {t k : Int} {whole a : List V} {v : V} (h : v.chk = 0) (h1 : v.t = t) (h2 : plc v 0 whole < k) : axR t whole k (v :: a) = 6 := by rw [axR, if_neg (fun e => e h), if_neg (fun e => e h1), if_pos h2]
theorem axR_ok {t k : Int} {whole a : List V} {v : V} (h : v.chk = 0) (h1 : v.t = t) (h2 : ¬ plc v 0 whole < k) : axR t whole k (v :: a) = axR t whole (k + 1) a := by rw [axR, if_neg (fun e => e h), if_neg (fun e => e h1), if_neg h2]

theorem take_dup {a : List V} {k : Nat} (hk : k < a.length) : dupV (a.take (k + 1)) = true ↔ dupV (a.take k) = true ∨ ∃ j, j < k ∧ (a.getD j zeroV).eqb a[k] = true := by
  have e : a.take (k + 1) = a.take k ++ [a[k]] := by rw [List.take_succ_eq_append_getElem hk]
  rw [e, dupV_iff, dupV_iff, List.pairwise_append]
  constructor
  · intro h
    by_cases hp : (a.take k).Pairwise (fun x y => x.eqb y = false)
    · right
      by_cases hex : ∃ j, j < k ∧ (a.getD j zeroV).eqb a[k] = true
      · exact hex
      · refine absurd ⟨hp, List.pairwise_singleton _ _, fun x hx y hy => ?_⟩ h
        rw [List.mem_singleton] at hy
        subst hy
        obtain ⟨j, hj, hjx⟩ := List.getElem_of_mem hx
        rw [List.length_take] at hj
        cases hb : x.eqb a[k] with
        | false => rfl
        | true =>
          refine absurd ⟨j, by omega, ?_⟩ hex
          rw [← hb, ← hjx]
          simp [List.getD, show j < a.length by omega]
    · exact .inl hp
  · rintro (h | ⟨j, hj, he⟩) ⟨h1, _, h3⟩
    · exact h h1
    · have := h3 (a.getD j zeroV) (by
        rw [List.mem_iff_getElem?]
        exact ⟨j, by rw [List.getElem?_take, if_pos hj]; simp [List.getD, show j < a.length by omega]⟩) a[k] (by simp)
      rw [he] at this
      cases this
theorem plc_lt {a : List V} {v : V} {k : Nat} (hself : (a.getD k zeroV).eqb v = true) (hk : k < a.length) : plc v 0 a < (k : Int) ↔ ∃ j, j < k ∧ (a.getD j zeroV).eqb v = true := by
  rcases plc_range v a 0 with h0 | ⟨p, hp, he, heq, hl⟩
  · exfalso
    have key : ∀ (b : List V) (j : Nat) (n : Nat), j < b.length → (b.getD j zeroV).eqb v = true → plc v n b ≠ -1 := by
      intro b
      induction b with
      | nil => intro j n hj; simp at hj
      | cons x b ih =>
        intro j n hj hs e
        rw [plc] at e
        split at e
        · omega
        · rename_i hx
          cases j with
          | zero => exact hx (by simpa using hs)
          | succ j => exact ih j (n + 1) (by simpa using hj) (by simpa using hs) (by simpa using e)
    exact key a k 0 hk hself h0
  · rw [show ((0 : Nat) : Int) = 0 from rfl] at he
    rw [he]
    constructor
    · intro h; exact ⟨p, by omega, heq⟩
    · rintro ⟨j, hj, hje⟩
      rcases Nat.lt_or_ge j p with h | h
      · rw [hl j h] at hje; cases hje
      · omega

/-- The reference finds what the program finds. -/
theorem axR_eq (t : Int) (a : List V) : ∀ (n k : Nat), k + n = a.length → dupV (a.take k) = false → axR t a k (a.drop k) = if dupV (a.take (k + fitN t (a.drop k))) = true then 6 else fitE t (a.drop k) := by
  intro n
  induction n with
  | zero =>
    intro k hk hd
    rw [show a.drop k = [] from List.drop_of_length_le (by omega), axR, fitN, fitE, Nat.add_zero, hd]
    rfl
  | succ n ih =>
    intro k hk hd
    have hlt : k < a.length := by omega
    rw [List.drop_eq_getElem_cons hlt]
    by_cases hc : a[k].chk = 0
    · by_cases ht : a[k].t = t
      · rw [(fitN_ok hc ht).1, (fitN_ok hc ht).2]
        have hself : (a.getD k zeroV).eqb a[k] = true := by simp [List.getD, hlt, eqb_self]
        by_cases hp : plc a[k] 0 a < (k : Int)
        · rw [axR_tw hc ht hp]
          have h1 : dupV (a.take (k + 1)) = true := (take_dup hlt).2 (.inr ((plc_lt hself hlt).1 hp))
          have h2 : dupV (a.take (k + (fitN t (a.drop (k + 1)) + 1))) = true := by
            cases h : dupV (a.take (k + (fitN t (a.drop (k + 1)) + 1))) with
            | true => rfl
            | false =>
              exfalso
              have hp2 : (a.take (k + (fitN t (a.drop (k + 1)) + 1))).Pairwise (fun x y => x.eqb y = false) := Classical.byContradiction fun hcn => by rw [(dupV_iff _).2 hcn] at h; cases h
              refine (dupV_iff _).1 h1 (hp2.sublist ?_)
              rw [show a.take (k + 1) = (a.take (k + (fitN t (a.drop (k + 1)) + 1))).take (k + 1) by rw [List.take_take]; congr 1; omega]
              exact List.take_sublist _ _
          rw [if_pos h2]
        · rw [axR_ok hc ht hp]
          have h1 : dupV (a.take (k + 1)) = false := by
            cases h : dupV (a.take (k + 1)) with
            | false => rfl
            | true =>
              rcases (take_dup hlt).1 h with h' | h'
              · rw [hd] at h'; cases h'
              · exact absurd ((plc_lt hself hlt).2 h') hp
          have := ih (k + 1) (by omega) h1
          rw [show ((k : Int) + 1) = ((k + 1 : Nat) : Int) by omega, this, show k + 1 + fitN t (a.drop (k + 1)) = k + (fitN t (a.drop (k + 1)) + 1) by omega]
      · rw [axR_ty hc ht, (fitN_ty hc ht).1, (fitN_ty hc ht).2, Nat.add_zero, hd]; rfl
    · rw [axR_chk hc, (fitN_chk hc).1, (fitN_chk hc).2, Nat.add_zero, hd]; rfl
theorem axR_axE (t : Int) (a : List V) : axR t a 0 a = axE t a := by
  have h := axR_eq t a a.length 0 (by omega) rfl
  rw [List.drop_zero, Nat.zero_add] at h
  exact h

theorem large_cases (l : List (List V)) : (szE l = 0 ∧ szN l = prodL l ∧ largeD l = decide (4096 < (prodL l : Int))) ∨ (szE l = 11 ∧ szN l = 0 ∧ largeD l = true) := by
  have h := szD_eq l
  cases hs : szD l with
  | none =>
    have := szN_none hs
    refine .inr ⟨this.2, this.1, ?_⟩
    rw [hs] at h
    split at h
    · cases h
    · exact decide_eq_true (by omega)
  | some n =>
    have := szN_some hs
    have hp := szD_some hs
    exact .inl ⟨this.2, by rw [this.1, hp.1], decide_eq_decide.2 (by omega)⟩

set_option maxRecDepth 100000 in
set_option maxHeartbeats 3200000 in
theorem rcheck_any (l : List (List V)) (ts : List Int) (x y : Value) (w : World) (B : Nat) (hx : LAx w B x l) (hy : LInts w B y ts) (hB : B ≤ w.heap.size) :
    Calls Tryd.prog 13 #[.agg #[x], y] w fun e w' => e = .returned (.int .i64 (chkD l ts)) ∧ Below w.heap.size w w' := by
  have HX := Lib.hid hx
  obtain ⟨oa, ca, rfl, _, hlm⟩ := hx.form
  obtain ⟨oy, cy, rfl, hym, hely⟩ := hy
  have HEY := Lib.hid hely
  clear hx hely
  have hd : (w.alloc (.cells #[.slice oa l.length ca] 24)).cell? ⟨w.heap.size, 0, none⟩ = some (.slice oa l.length ca) := cell_at _ _ _ _ _ rfl
  have HB0 := Lib.hid (below1 w (.cells #[.slice oa l.length ca] 24))
  by_cases hlen : l.length = ts.length
  · have hlb : ((l.length : Int) != (ts.length : Int)) = false := by rw [hlen]; simp
    have HLEN := Lib.hid hlen
    clear hlen
    go_enter Tryd.func13, Tryd.ntmps13
    go_wp2_with fail
    clear hd
    go_loopw [5] (fun i wr => ∃ k : Nat, k ≤ l.length ∧ i = .int .i64 k ∧ Hid (axsE (ts.drop k) (l.drop k) = axsE ts l) ∧ Below (w.heap.size + 1) (w.alloc (.cells #[.slice oa l.length ca] 24)) wr) (fun i _ => l.length - (intOf i).toNat)
    case atStart => exact ⟨0, Nat.zero_le _, rfl, Lib.hid rfl, Below.refl _ _⟩
    case round =>
      obtain ⟨i, hk, rfl, HD, hbel⟩ := hrel
      obtain ⟨wo, hwo⟩ : ∃ wo : World, wo = wr := ⟨_, rfl⟩
      subst hwo
      have HBW := Lib.hid (HB0.out.trans (hbel.mono (Nat.le_succ _)))
      have hd1 := dbox hbel
      by_cases hlt : i < l.length
      · have hltt : i < ts.length := by rw [← HLEN.out]; exact hlt
        have HS1 := Lib.hid (drop_l l i hlt)
        have HS2 := Lib.hid (drop_l ts i hltt)
        obtain ⟨b, off, oe, ce, rfl, hb, hc, hr⟩ := HX.out.at_ (List.getElem?_eq_getElem hlt)
        have HBB := Lib.hid (Nat.lt_of_lt_of_le hb hB)
        obtain ⟨b2, off2, c2, rfl, hb2, hc2, hi2⟩ := HEY.out i _ (List.getElem?_eq_getElem hltt)
        cases hi2
        have HBB2 := Lib.hid (Nat.lt_of_lt_of_le hb2 hB)
        have hki : (i : Int) < (l.length : Int) := by omega
        have hkt : (i : Int) < (ts.length : Int) := by omega
        have hki0 : (0 : Int) ≤ (i : Int) := by omega
        obtain ⟨a, hak⟩ : ∃ a, l[i] = a := ⟨_, rfl⟩
        obtain ⟨t, htk⟩ : ∃ t, ts[i] = t := ⟨_, rfl⟩
        rw [hak] at hc hr HS1
        rw [htk] at hc2 HS2
        have HC1 := Lib.hid hc
        have HC2 := Lib.hid hc2
        have HRA := Lib.hid hr
        clear hc hc2 hr hak htk
        go_wp2_with fail
        go_loopw [6] (fun i wr => ∃ k : Nat, k ≤ a.length ∧ i = .int .i64 k ∧ Hid (axR t a k (a.drop k) = axE t a) ∧ Below (w.heap.size + 1) (w.alloc (.cells #[.slice (some ⟨b, off, none⟩) l.length ca] 24)) wr) (fun i _ => a.length - (intOf i).toNat)
        case atStart => exact ⟨0, Nat.zero_le _, rfl, Lib.hid (axR_axE t a), hbel⟩
        case round =>
          clear hbel
          obtain ⟨k, hk2, rfl, HE, hbel⟩ := hrel
          have HBW2 := Lib.hid (HB0.out.trans (hbel.mono (Nat.le_succ _)))
          have hd2 := dbox hbel
          have hc := HC1.out
          rw [← HBW2.out.cell (p := ⟨b, _, none⟩) HBB.out] at hc
          have hc2 := HC2.out
          rw [← HBW2.out.cell (p := ⟨b2, _, none⟩) HBB2.out] at hc2
          by_cases hlt2 : k < a.length
          · have HS3 := Lib.hid (drop_l a k hlt2)
            obtain ⟨oa3, ca3, hsl, _, _, hel3⟩ := HRA.out.slice
            cases hsl
            obtain ⟨b3, off3, oe3, ce3, rfl, hb3, c0, c1, c2, c3, hr3⟩ := hel3 k _ (List.getElem?_eq_getElem hlt2)
            have hb3w : b3 < w.heap.size := Nat.lt_of_lt_of_le hb3 hB
            rw [← HBW2.out.cell (p := ⟨b3, _, none⟩) hb3w] at c0 c1 c2 c3
            obtain ⟨v, hvk⟩ : ∃ v, a[k] = v := ⟨_, rfl⟩
            rw [hvk] at c0 c1 c2 hr3 HS3 c3
            have hkk : (k : Int) < (a.length : Int) := by omega
            have hkk0 : (0 : Int) ≤ (k : Int) := by omega
            have hsr := HBW2.out.size
            have hal : Below w.heap.size w (wr.alloc (.cells #[.int .i64 v.t, .int .i64 v.n, .string v.s, .slice oe3 v.l.length ce3] 54)) := HBW2.out.trans ((below1 wr _).mono hsr)
            have HR3 := Lib.hid hr3
            have HCK := Lib.hid (refCheck_any v (.slice oe3 v.l.length ce3) (wr.alloc (.cells #[.int .i64 v.t, .int .i64 v.n, .string v.s, .slice oe3 v.l.length ce3] 54)) B (hr3.later (hal.mono hB)) (by simp; omega))
            have HBX := Lib.hid (Box.new (w := wr) v (.slice oe3 v.l.length ce3) 54 rfl)
            clear hr3 hel3 hvk hal
            go_wp2_with fail
            refine HCK.out.mono ?_
            rintro e w4 ⟨rfl, hb4⟩
            have HB4 := Lib.hid (hbel.trans (((below1 wr _).trans (hb4.mono (by simp))).mono (by have := hbel.size; simp at this; omega)))
            have HBW4 := Lib.hid (HB0.out.trans (HB4.out.mono (Nat.le_succ _)))
            obtain ⟨x0, x1, x2, x3⟩ := HBX.out.later (hb4.mono (by simp : wr.heap.size + 1 ≤ _)) (Nat.lt_succ_self _)
            have hd4 := dbox HB4.out
            have hc4 := HC1.out
            rw [← HBW4.out.cell (p := ⟨b, _, none⟩) HBB.out] at hc4
            have hc5 := HC2.out
            rw [← HBW4.out.cell (p := ⟨b2, _, none⟩) HBB2.out] at hc5
            clear hb4 c0 c1 c2 c3 hd2 hc hc2
            have fin : ∀ (er : Int), axE t a = er → er ≠ 0 → chkD l ts = er := fun er h1 h2 => by
              have h : axsE ts l = er := by rw [← HD.out, HS1.out, HS2.out, axsE_no (by rw [h1]; exact h2), h1]
              unfold chkD
              rw [if_neg (fun e => e HLEN.out), h, if_pos h2]
            have FIN := Lib.hid fin
            clear fin
            by_cases hcv : v.chk = 0
            · have fc := neqf hcv
              have HCV := Lib.hid hcv
              clear hcv
              go_wp2_with fail
              obtain ⟨z, hz⟩ : ∃ z, (v.t != t) = z := ⟨_, rfl⟩
              have q0 := fun d os => cell_regrown x0 d os
              have p0 := fun d os => cell_regrown hc5 d os
              refine wp_region_quiet_below (by kernel_rfl) (by kernel_rfl) ?_
              repeat (quiet_step (fail))
              refine wpQuiet_nil ?_
              intro w' hw'
              obtain ⟨p, rfl⟩ := hw'
              have hbr := below_regrown w4 p.d p.os
              have HB5 := Lib.hid (HB4.out.trans (hbr.mono (by have := HB4.out.size; simp at this ⊢; omega)))
              have x0' := q0 p.d p.os
              have x1' := cell_regrown x1 p.d p.os
              have x2' := cell_regrown x2 p.d p.os
              have x3' := cell_regrown x3 p.d p.os
              have hd5 := cell_regrown hd4 p.d p.os
              have hc6 := cell_regrown hc4 p.d p.os
              clear q0 p0 x0 x1 x2 x3 hd4 hc4 hc5 hbr
              generalize grow (redrawn w4 p.d) p.os = w5 at *
              cases z
              · have HT := Lib.hid (show v.t = t from Classical.byContradiction fun hne => by have := neqt hne; rw [hz] at this; cases this)
                have HBW5 := Lib.hid (HB0.out.trans (HB5.out.mono (Nat.le_succ _)))
                have hsr5 := HBW5.out.size
                have q0 := fun d os => cell_regrown x0' d os
                have q1 := fun d os => cell_regrown x1' d os
                have q2 := fun d os => cell_regrown x2' d os
                have q3 := fun d os => cell_regrown x3' d os
                have p0 := fun d os => cell_regrown hc6 d os
                have p1 := fun d os => cell_regrown hd5 d os
                have re := fun d os => Calls.regrown_of (place_any a v (.slice (some ⟨b3, off3, none⟩) a.length ce) (.slice oe3 v.l.length ce3) (grow (redrawn w5 d) os) B ((HRA.out.later (HBW5.out.mono hB)).later ((below_regrown w5 d os).mono (Nat.le_trans hB hsr5))) ((HR3.out.later (HBW5.out.mono hB)).later ((below_regrown w5 d os).mono (Nat.le_trans hB hsr5))) (Nat.le_trans (Nat.le_trans hB hsr5) (below_regrown w5 d os).size))
                obtain ⟨y, hy⟩ : ∃ y, plc v 0 a = y := ⟨_, rfl⟩
                have HY := Lib.hid hy
                rw [hy] at re
                clear hy x0' x1' x2' x3' hd5 hc6 hsr5 hbel
                go_wp2_with fail
                refine wp_region_quiet_below (by kernel_rfl) (by kernel_rfl) ?_
                repeat (quiet_step (first | with_reducible exact re _ _))
                refine wpQuiet_nil ?_
                intro w' hw'
                obtain ⟨p2, rfl⟩ := hw'
                have HB6 := Lib.hid (HB5.out.trans ((below_regrown w5 p2.d p2.os).mono (by have := HB5.out.size; simp at this ⊢; omega)))
                clear q0 q1 q2 q3 p0 p1 re
                generalize grow (redrawn w5 p2.d) p2.os = w6 at *
                by_cases htw : y < (k : Int)
                · have HF := Lib.hid (FIN.out 6 (by rw [← HE.out, HS3.out, axR_tw HCV.out HT.out (by rw [HY.out]; exact htw)]) (by decide))
                  go_wp2_with fail
                  go_ret
                  exact ⟨ret_int HF.out.symm, HB0.out.trans (HB6.out.mono (Nat.le_succ _))⟩
                · have HN := Lib.hid (show axR t a ((k : Int) + 1) (a.drop (k + 1)) = axE t a by rw [← HE.out, HS3.out, axR_ok HCV.out HT.out (by rw [HY.out]; exact htw)])
                  go_wp2_with fail
                  go_roundw
                  case rel => exact ⟨k + 1, hlt2, by go_num, Lib.hid (by rw [← HN.out]; congr 1), HB6.out⟩
                  case measure => simp [intOf]; omega
              · have HF := Lib.hid (FIN.out 3 (by rw [← HE.out, HS3.out, axR_ty HCV.out (fun h => by have := neqf h; rw [hz] at this; cases this)]) (by decide))
                go_wp2_with fail
                go_ret
                exact ⟨ret_int HF.out.symm, HB0.out.trans (HB5.out.mono (Nat.le_succ _))⟩
            · have HF := Lib.hid (FIN.out v.chk (by rw [← HE.out, HS3.out, axR_chk hcv]) hcv)
              have fc := neqt hcv
              clear hcv
              go_wp2_with fail
              go_ret
              exact ⟨ret_int HF.out.symm, HBW4.out⟩
          · have HEND := Lib.hid (show axE t a = 0 by rw [← HE.out, List.drop_of_length_le (by omega), axR])
            go_wp2_with fail
            go_roundw
            case rel => exact ⟨i + 1, hlt, by go_num, Lib.hid (by rw [← HD.out, HS1.out, HS2.out, axsE_yes HEND.out]), hbel⟩
            case measure => simp [intOf]; omega
      · have HZ := Lib.hid (show axsE ts l = 0 by rw [← HD.out, show l.drop i = [] from List.drop_of_length_le (by omega), axsE_nil])
        have HSZ := Lib.hid (rsize_any l _ wo B (HX.out.later (HBW.out.mono hB)) (Nat.le_trans hB HBW.out.size))
        rcases large_cases l with ⟨h1, h2, h3⟩ | ⟨h1, h2, h3⟩
        · rw [h1, h2] at HSZ
          have HLG := Lib.hid h3
          clear h1 h2 h3
          go_wp2_with fail
          refine HSZ.out.mono ?_
          rintro e w4 ⟨rfl, hb4⟩
          have HB4 := Lib.hid (HBW.out.trans (hb4.mono HBW.out.size))
          clear hb4
          by_cases hbig : 4096 < (prodL l : Int)
          · have HF := Lib.hid (show chkD l ts = 11 by unfold chkD; rw [if_neg (fun e => e HLEN.out), HZ.out, if_neg (by simp), if_pos (by rw [HLG.out]; exact decide_eq_true hbig)])
            go_wp2_with fail
            go_ret
            exact ⟨ret_int HF.out.symm, HB4.out⟩
          · have HF := Lib.hid (show chkD l ts = 0 by unfold chkD; rw [if_neg (fun e => e HLEN.out), HZ.out, if_neg (by simp), if_neg (by rw [HLG.out]; simpa using hbig)])
            go_wp2_with fail
            go_ret
            exact ⟨ret_int HF.out.symm, HB4.out⟩
        · rw [h1, h2] at HSZ
          have HF := Lib.hid (show chkD l ts = 11 by unfold chkD; rw [if_neg (fun e => e HLEN.out), HZ.out, if_neg (by simp), if_pos h3])
          clear h1 h2 h3
          go_wp2_with fail
          refine HSZ.out.mono ?_
          rintro e w4 ⟨rfl, hb4⟩
          have HB4 := Lib.hid (HBW.out.trans (hb4.mono HBW.out.size))
          clear hb4
          go_wp2_with fail
          go_ret
          exact ⟨ret_int HF.out.symm, HB4.out⟩
  · have hlb : ((l.length : Int) != (ts.length : Int)) = true := bne_iff_ne.2 (by omega)
    have HF := Lib.hid (show chkD l ts = 2 from if_pos hlen)
    clear hlen
    go_enter Tryd.func13, Tryd.ntmps13
    go_wp2_with fail
    go_ret
    exact ⟨ret_int HF.out.symm, HB0.out⟩

end Go.Proofs.YthfdlaphglpnpaaDoor
