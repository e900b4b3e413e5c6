/-
  The walk of DomainReturns. Nothing is assumed.
-/
import Derived.Test.YthfdlaphglpnpaaDoorDmPur
namespace Go.Proofs.YthfdlaphglpnpaaDoor
open Go.RowKit

/-- The number of what At returns. -/
theorem at_back {l : List (List V)} {N : Int} (hd : ∀ a, a ∈ l → dupV a = false) (hp : prodL l ≤ 4096) (h : atE l N = 0) : idN l (atL l N) = N ∧ idB l (atL l N) = true := by
  have hsz : szE l = 0 ∧ szN l = prodL l := by
    unfold szE szN
    rw [szD_eq, if_pos (show prodL l ≤ 1152921504606846976 by omega)]
    exact ⟨rfl, rfl⟩
  by_cases hr : N < 0 ∨ szN l ≤ N
  · rw [(atE_out hsz.1 hr).1] at h; cases h
  · have h2 := (atE_in hsz.1 hr).2
    rw [hsz.2] at hr
    obtain ⟨m, rfl⟩ : ∃ m : Nat, N = m := ⟨N.toNat, by omega⟩
    rw [Int.toNat_natCast] at h2
    rw [h2]
    exact id_some (index_at hd hp (by omega))

set_option maxRecDepth 100000 in
set_option maxHeartbeats 3200000 in
theorem lawReturns_any (l : List (List V)) (x : Value) (y : Value) (ts : List Int) (N : Int) (z : Value) (tu : List V) (w : World) (hx : LAx w w.heap.size x l) (hy : LInts w w.heap.size y ts) (hz : Rep w w.heap.size z tu) (hN : Names w) :
    Calls Tryd.prog 9 #[.agg #[x], y, .int .i64 N, z] w fun e w' => e = .returned (.bool true) ∧ Below w.heap.size w w' := by
  have HX := Lib.hid hx
  obtain ⟨oa, ca, rfl, _, hlm⟩ := hx.form
  clear hx
  have HY := Lib.hid hy
  have HZ := Lib.hid hz
  obtain ⟨oy, cy, rfl, _, _⟩ := hy
  obtain ⟨oz, cz, rfl, _, _, _⟩ := hz.slice
  clear hz
  obtain ⟨w0, hw0⟩ : ∃ w0, w0 = w.alloc (.cells #[.slice oa l.length ca] 24) := ⟨_, rfl⟩
  have hb0 : Below w.heap.size w w0 := by rw [hw0]; exact below1 _ _
  have hd : w0.cell? ⟨w.heap.size, 0, none⟩ = some (.slice oa l.length ca) := by rw [hw0]; exact cell_at _ _ _ _ _ rfl
  have hs0 : w.heap.size + 1 ≤ w0.heap.size := by rw [hw0]; simp
  have HSM := Lib.hid (smallD_any l _ w0 w.heap.size (HX.out.later hb0) (by omega))
  have HN0 := Lib.hid (show ∀ w', Below w.heap.size w w' → Names w' from fun w' h => hN.later h)
  rw [hw0] at HSM hd
  go_enter Tryd.func9, Tryd.ntmps9
  go_wp2_with fail
  refine HSM.out.mono ?_
  rw [← hw0] at hd ⊢
  rintro e w1 ⟨rfl, hb1⟩
  have HB1 := Lib.hid (hb0.trans (hb1.mono (by omega)))
  have hd1 := (hb1.cell (p := ⟨w.heap.size, 0, none⟩) (by simp; omega)).trans hd
  have hs1 := hb1.size
  clear hb1 hb0 hd hw0 hN
  have fin : ∀ w9, Below w.heap.size w w9 → Calls Tryd.prog 14 #[] w9 fun e w' => e = .returned (.bool true) ∧ Below w.heap.size w w' := fun w9 h => (alive_any w9 (HN0.out _ h)).mono fun e w' ⟨h1, h2⟩ => ⟨h1, h.trans (h2.mono h.size)⟩
  have FIN := Lib.hid fin
  clear fin
  by_cases hsm : smD l = true
  · have HF := Lib.hid (smD_fits hsm)
    have HSM2 := Lib.hid hsm
    clear hsm
    by_cases h20 : 20 < (ts.length : Int)
    · have HAL := Lib.hid (FIN.out w1 HB1.out)
      go_wp2_with fail
      refine HAL.out.mono ?_
      rintro e w99 ⟨rfl, hb99⟩
      have HB99 := Lib.hid hb99
      clear hb99
      go_wp2_with fail
      go_ret
      exact ⟨rfl, HB99.out⟩
    · have H20 := Lib.hid h20
      have HC2 := Lib.hid (few_any tu _ w1 w.heap.size (HZ.out.later HB1.out) (by omega))
      go_wp2_with fail
      refine HC2.out.mono ?_
      rintro e w2 ⟨rfl, hb2⟩
      have hd2 := (hb2.cell (p := ⟨w.heap.size, 0, none⟩) (by simp; omega)).trans hd1
      have HB2 := Lib.hid (HB1.out.trans (hb2.mono (by omega)))
      have hs2 := hb2.size
      clear hb2 hd1
      by_cases hfw : fewL tu = true
      · have HFW := Lib.hid hfw
        clear hfw
        have HC3 := Lib.hid (dcheck_any l ts _ _ w2 w.heap.size (HX.out.later HB2.out) (LInts.later HY.out HB2.out) (by omega) (fun a ha => by have := (HF.out.2 a ha).1; omega))
        go_wp2_with fail
        refine HC3.out.mono ?_
        rintro e w3 ⟨rfl, hb3⟩
        have hd3 := (hb3.cell (p := ⟨w.heap.size, 0, none⟩) (by simp; omega)).trans hd2
        have HB3 := Lib.hid (HB2.out.trans (hb3.mono (by omega)))
        have hs3 := hb3.size
        clear hb3 hd2
        by_cases hck : chkD l ts = 0
        · have fck := neqf hck
          have HOK := Lib.hid (chkD_ok hck)
          clear hck
          have HC4 := Lib.hid (at_any l _ N w3 w.heap.size (HX.out.later HB3.out) (by omega) (by have := HF.out.1; omega) (fun a ha v hv => (HF.out.2 a ha).2 v hv))
          go_wp2_with fail
          refine HC4.out.mono ?_
          rintro e w4 ⟨⟨sa, rfl, ha⟩, hb4⟩
          have hd4 := (hb4.cell (p := ⟨w.heap.size, 0, none⟩) (by simp; omega)).trans hd3
          have HB4 := Lib.hid (HB3.out.trans (hb4.mono (by omega)))
          have hs4 := hb4.size
          obtain ⟨oa4, ca4, rfl, _, _, _⟩ := ha.slice
          have HA4 := Lib.hid ha
          clear ha
          clear hb4 hd3
          by_cases hat : atE l N = 0
          · have HAT := Lib.hid hat
            have HN2 := Lib.hid (at_back HOK.out.1 HOK.out.2 hat)
            rw [hat]
            clear hat
            have HC5 := Lib.hid (index_any l (atL l N) _ _ w4 w4.heap.size ((HX.out.later HB4.out).mono HB4.out.size) HA4.out (Nat.le_refl _))
            go_wp2_with fail
            refine HC5.out.mono ?_
            rw [HN2.out.1, HN2.out.2]
            rintro e w5 ⟨rfl, hb5⟩
            have hd5 := (hb5.cell (p := ⟨w.heap.size, 0, none⟩) (by simp; omega)).trans hd4
            have HB5 := Lib.hid (HB4.out.trans (hb5.mono (by omega)))
            have hs5 := hb5.size
            clear hb5 hd4
            have HC6 := Lib.hid (index_any l tu _ _ w5 w.heap.size (HX.out.later HB5.out) (HZ.out.later HB5.out) (by omega))
            go_wp2_with fail
            refine HC6.out.mono ?_
            rintro e w6 ⟨rfl, hb6⟩
            have hd6 := (hb6.cell (p := ⟨w.heap.size, 0, none⟩) (by simp; omega)).trans hd5
            have HB6 := Lib.hid (HB5.out.trans (hb6.mono (by omega)))
            have hs6 := hb6.size
            clear hb6 hd5
            cases hid : idxD l tu with
            | none =>
              have HID := Lib.hid (id_none hid)
              rw [HID.out.1, HID.out.2]
              clear hid
              have HAL := Lib.hid (FIN.out w6 HB6.out)
              go_wp2_with fail
              refine HAL.out.mono ?_
              rintro e w99 ⟨rfl, hb99⟩
              have HB99 := Lib.hid hb99
              clear hb99
              go_wp2_with fail
              go_ret
              exact ⟨rfl, HB99.out⟩
            | some K =>
              have HID := Lib.hid (id_some hid)
              have HAI := Lib.hid (at_index HOK.out.2 hid)
              rw [HID.out.1, HID.out.2]
              clear hid
              have HC7 := Lib.hid (at_any l _ K w6 w.heap.size (HX.out.later HB6.out) (by omega) (by have := HF.out.1; omega) (fun a ha v hv => (HF.out.2 a ha).2 v hv))
              go_wp2_with fail
              refine HC7.out.mono ?_
              rw [HAI.out.1]
              rintro e w7 ⟨⟨sb, rfl, hb⟩, hb7⟩
              have hd7 := (hb7.cell (p := ⟨w.heap.size, 0, none⟩) (by simp; omega)).trans hd6
              have HB7 := Lib.hid (HB6.out.trans (hb7.mono (by omega)))
              have hs7 := hb7.size
              obtain ⟨oa7, ca7, rfl, _, _, _⟩ := hb.slice
              have HA7 := Lib.hid hb
              clear hb
              clear hb7 hd6
              have HEQ := Lib.hid (equalAll_any (atL l K) tu _ _ w7 w7.heap.size HA7.out ((HZ.out.later HB7.out).mono HB7.out.size) (Nat.le_refl _))
              rw [HAI.out.2] at HEQ
              go_wp2_with fail
              refine HEQ.out.mono ?_
              rintro e w8 ⟨rfl, hb8⟩
              have HB8 := Lib.hid (HB7.out.trans (hb8.mono (by omega)))
              have hs8 := hb8.size
              clear hb8 hd7
              have HAL := Lib.hid (FIN.out w8 HB8.out)
              go_wp2_with fail
              refine HAL.out.mono ?_
              rintro e w99 ⟨rfl, hb99⟩
              have HB99 := Lib.hid hb99
              clear hb99
              go_wp2_with fail
              go_ret
              exact ⟨rfl, HB99.out⟩
          · have fat : ((atE l N) == 0) = false := beq_eq_false_iff_ne.2 hat
            clear hat
            have HC6 := Lib.hid (index_any l tu _ _ w4 w.heap.size (HX.out.later HB4.out) (HZ.out.later HB4.out) (by omega))
            go_wp2_with fail
            refine HC6.out.mono ?_
            rintro e w6 ⟨rfl, hb6⟩
            have hd6 := (hb6.cell (p := ⟨w.heap.size, 0, none⟩) (by simp; omega)).trans hd4
            have HB6 := Lib.hid (HB4.out.trans (hb6.mono (by omega)))
            have hs6 := hb6.size
            clear hb6 hd4
            cases hid : idxD l tu with
            | none =>
              have HID := Lib.hid (id_none hid)
              rw [HID.out.1, HID.out.2]
              clear hid
              have HAL := Lib.hid (FIN.out w6 HB6.out)
              go_wp2_with fail
              refine HAL.out.mono ?_
              rintro e w99 ⟨rfl, hb99⟩
              have HB99 := Lib.hid hb99
              clear hb99
              go_wp2_with fail
              go_ret
              exact ⟨rfl, HB99.out⟩
            | some K =>
              have HID := Lib.hid (id_some hid)
              have HAI := Lib.hid (at_index HOK.out.2 hid)
              rw [HID.out.1, HID.out.2]
              clear hid
              have HC7 := Lib.hid (at_any l _ K w6 w.heap.size (HX.out.later HB6.out) (by omega) (by have := HF.out.1; omega) (fun a ha v hv => (HF.out.2 a ha).2 v hv))
              go_wp2_with fail
              refine HC7.out.mono ?_
              rw [HAI.out.1]
              rintro e w7 ⟨⟨sb, rfl, hb⟩, hb7⟩
              have hd7 := (hb7.cell (p := ⟨w.heap.size, 0, none⟩) (by simp; omega)).trans hd6
              have HB7 := Lib.hid (HB6.out.trans (hb7.mono (by omega)))
              have hs7 := hb7.size
              obtain ⟨oa7, ca7, rfl, _, _, _⟩ := hb.slice
              have HA7 := Lib.hid hb
              clear hb
              clear hb7 hd6
              have HEQ := Lib.hid (equalAll_any (atL l K) tu _ _ w7 w7.heap.size HA7.out ((HZ.out.later HB7.out).mono HB7.out.size) (Nat.le_refl _))
              rw [HAI.out.2] at HEQ
              go_wp2_with fail
              refine HEQ.out.mono ?_
              rintro e w8 ⟨rfl, hb8⟩
              have HB8 := Lib.hid (HB7.out.trans (hb8.mono (by omega)))
              have hs8 := hb8.size
              clear hb8 hd7
              have HAL := Lib.hid (FIN.out w8 HB8.out)
              go_wp2_with fail
              refine HAL.out.mono ?_
              rintro e w99 ⟨rfl, hb99⟩
              have HB99 := Lib.hid hb99
              clear hb99
              go_wp2_with fail
              go_ret
              exact ⟨rfl, HB99.out⟩
        · have fck := neqt hck
          clear hck
          have HAL := Lib.hid (FIN.out w3 HB3.out)
          go_wp2_with fail
          refine HAL.out.mono ?_
          rintro e w99 ⟨rfl, hb99⟩
          have HB99 := Lib.hid hb99
          clear hb99
          go_wp2_with fail
          go_ret
          exact ⟨rfl, HB99.out⟩
      · have HFW := Lib.hid hfw
        clear hfw
        have HAL := Lib.hid (FIN.out w2 HB2.out)
        go_wp2_with fail
        refine HAL.out.mono ?_
        rintro e w99 ⟨rfl, hb99⟩
        have HB99 := Lib.hid hb99
        clear hb99
        go_wp2_with fail
        go_ret
        exact ⟨rfl, HB99.out⟩
  · have HSM2 := Lib.hid hsm
    clear hsm
    have HAL := Lib.hid (FIN.out w1 HB1.out)
    go_wp2_with fail
    refine HAL.out.mono ?_
    rintro e w99 ⟨rfl, hb99⟩
    have HB99 := Lib.hid hb99
    clear hb99
    go_wp2_with fail
    go_ret
    exact ⟨rfl, HB99.out⟩

end Go.Proofs.YthfdlaphglpnpaaDoor
