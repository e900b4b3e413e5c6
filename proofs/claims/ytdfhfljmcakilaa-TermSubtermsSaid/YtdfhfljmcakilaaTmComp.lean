/-
  slices.CompactFunc at a row of terms. Nothing is assumed.
-/
import Derived.Test.YtdfhfljmcakilaaTmClear
import Derived.Deep.RegionHeldLaw
namespace Go.Proofs.Ytdfhfljmcakilaa
open Go.RowKit

/-- Ahead of place k no two neighbours are equal. -/
theorem cpt_take (l : List T) : ∀ k, k ≤ l.length → (∀ (j : Nat) x y, j + 1 < k → l[j + 1]? = some x → l[j]? = some y → x.cmp y ≠ 0) → cpt l k = l.take k
  | 0, _, _ => rfl
  | 1, hk, _ => by
    rw [cpt_one (List.getElem?_eq_getElem (show 0 < l.length by omega)), List.take_succ_eq_append_getElem (show 0 < l.length by omega)]
    rfl
  | k + 2, hk, h => by
    rw [cpt_ne (List.getElem?_eq_getElem (show k + 1 < l.length by omega)) (List.getElem?_eq_getElem (show k < l.length by omega)) (h k _ _ (by omega) (List.getElem?_eq_getElem _) (List.getElem?_eq_getElem _)),
      cpt_take l (k + 1) (by omega) (fun j x y hj => h j x y (by omega)), ← List.take_succ_eq_append_getElem]
theorem cpt_len (l : List T) : ∀ k, (cpt l k).length ≤ k
  | 0 => Nat.le_refl _
  | 1 => by
    rcases hx : l[0]? with _ | x
    · rw [cpt]; simp only [hx]; simp
    · rw [cpt_one hx]; simp
  | k + 2 => by
    have h := cpt_len l (k + 1)
    rcases hx : l[k + 1]? with _ | x
    · rw [cpt]; simp only [hx]; simp
    rcases hy : l[k]? with _ | y
    · rw [cpt]; simp only [hx, Nat.add_sub_cancel, hy, if_neg (Nat.succ_ne_zero k)]; simp
    by_cases hc : x.cmp y = 0
    · rw [cpt_eq hx hy hc]; omega
    · rw [cpt_ne hx hy hc, List.length_append]; simp; omega

/-- The row in block g holds the list in place, and is the call's to write. -/
def RowL (w : World) (P : Nat → Prop) (g : Nat) (l : List T) : Prop := (∀ (i : Nat) u, l[i]? = some u → RowT w P g i u) ∧ (∀ o : Nat, w.frozen? ⟨g, o, none⟩ = false) ∧ (∀ k, P k → k < w.heap.size ∧ k ≠ g) ∧ g < w.heap.size
theorem RowL.below {w w' : World} {P : Nat → Prop} {g : Nat} {l : List T} (h : RowL w P g l) (hb : Below w.heap.size w w') : RowL w' P g l :=
  ⟨fun i u hu => (h.1 i u hu).keep (hb.block g h.2.2.2) fun k hk => ⟨hk, hb.block k (h.2.2.1 k hk).1⟩, fun o => (World.frozen?_of_block (w := w) (hb.block g h.2.2.2)).trans (h.2.1 o),
    fun k hk => ⟨Nat.lt_of_lt_of_le (h.2.2.1 k hk).1 hb.size, (h.2.2.1 k hk).2⟩, Nat.lt_of_lt_of_le h.2.2.2 hb.size⟩

set_option maxRecDepth 100000 in
set_option maxHeartbeats 3200000 in
theorem compact_any (l : List T) (g cap : Nat) (w : World) (P : Nat → Prop) (H : Nat) (hHg : H ≤ g) (hH : H ≤ w.heap.size) (hcap : l.length ≤ cap) (hrow : RowL w P g l) (hs : ∀ u, u ∈ l → u.size ≤ 1000) (hlen : l.length ≤ 1000) (hpos : 0 < l.length) :
    Calls Try.prog 43 #[.slice (some ⟨g, 0, none⟩) l.length cap, .func (.func 44) #[] #[]] w fun e w' =>
      e = .returned (.slice (some ⟨g, 0, none⟩) (cpt l l.length).length cap) ∧ RowL w' P g (cpt l l.length) ∧ But g w w' ∧ Below H w w' := by
  have HR := Lib.hid hrow
  have HS := Lib.hid hs
  clear hrow hs
  by_cases hone : l.length = 1
  · have HE : Hid (cpt l l.length = l) := Lib.hid (by rw [hone, cpt_take l 1 (by omega) (fun j x y hj => by omega), List.take_of_length_le (by omega)])
    have h2 : (l.length : Int) < 2 := by omega
    have HO := Lib.hid hone
    clear hone hpos
    go_enter Try.func43, Try.ntmps43
    go_wp2_with fail
    go_ret
    exact ⟨by rw [HE.out]; rfl, by rw [HE.out]; exact HR.out, But.refl _ _, Below.refl _ _⟩
  have h2 : ¬ (l.length : Int) < 2 := by omega
  go_enter Try.func43, Try.ntmps43
  go_wp2_with fail
  go_loopw [5] (fun i wr => ∃ (k : Nat), 1 ≤ k ∧ k ≤ l.length ∧ i = .int .i64 k ∧ Hid (∀ (j : Nat) x y, j + 1 < k → l[j + 1]? = some x → l[j]? = some y → x.cmp y ≠ 0) ∧ Hid (Below w.heap.size w wr)) (fun i _ => l.length - (intOf i).toNat)
  case atStart => exact ⟨1, Nat.le_refl _, by omega, rfl, Lib.hid (fun j x y h => by omega), Lib.hid (Below.refl _ _)⟩
  case round =>
    obtain ⟨k, hk1, hk, rfl, HA, HBR⟩ := hrel
    obtain ⟨W1, hW1⟩ : ∃ W1, W1 = wr := ⟨_, rfl⟩
    subst hW1
    by_cases hlt : k < l.length
    · obtain ⟨j, hj⟩ : ∃ j, k = j + 1 := ⟨k - 1, by omega⟩
      have HJ := Lib.hid hj
      have hjk : (k : Int) - 1 = (j : Int) := by omega
      have hwr : IntKind.i64.wrap (j : Int) = (j : Int) := IntWalk.i64_in _ (by omega)
      have hjl : j < l.length := by omega
      have q0 : (0 : Int) ≤ (j : Int) := by omega
      have q1 : (j : Int) < (l.length : Int) := by omega
      have q2 : (0 : Int) ≤ (k : Int) := by omega
      have q3 : (k : Int) < (l.length : Int) := by omega
      have HRX := Lib.hid (List.getElem?_eq_getElem hlt)
      have HRY := Lib.hid (List.getElem?_eq_getElem hjl)
      have s1 := HS.out _ (List.getElem_mem hlt)
      have s2 := HS.out _ (List.getElem_mem hjl)
      obtain ⟨ox, cx, cx0, cx1, hrx⟩ := HR.out.1 k _ HRX.out
      obtain ⟨oy, cy, cy0, cy1, hry⟩ := HR.out.1 j _ HRY.out
      have HRPX := Lib.hid (hrx.rep (fun q hq => (HR.out.2.2.1 q hq).1))
      have HRPY := Lib.hid (hry.rep (fun q hq => (HR.out.2.2.1 q hq).1))
      have hgw := HR.out.2.2.2
      have HKEEP : Hid (∀ w', Below w.heap.size w w' → w'.cell? ⟨g, k * 2, none⟩ = some (.int .i64 l[k].r) ∧ w'.cell? ⟨g, k * 2 + 1, none⟩ = some (.slice ox l[k].l.length cx) ∧ w'.cell? ⟨g, j * 2, none⟩ = some (.int .i64 l[j].r) ∧ w'.cell? ⟨g, j * 2 + 1, none⟩ = some (.slice oy l[j].l.length cy)) :=
        Lib.hid (fun w' hb' => ⟨(hb'.cell (p := ⟨g, _, none⟩) hgw).trans cx0, (hb'.cell (p := ⟨g, _, none⟩) hgw).trans cx1, (hb'.cell (p := ⟨g, _, none⟩) hgw).trans cy0, (hb'.cell (p := ⟨g, _, none⟩) hgw).trans cy1⟩)
      have HC : Hid (∀ w', Below w.heap.size w w' → Calls Try.prog 44 #[.agg #[.int .i64 l[k].r, .slice ox l[k].l.length cx], .agg #[.int .i64 l[j].r, .slice oy l[j].l.length cy]] w' fun e w2 => e = .returned (.bool (l[k].cmp l[j] == 0)) ∧ Below w'.heap.size w' w2) :=
        Lib.hid (fun w' hb' => isSame_any l[k] l[j] _ _ w' w.heap.size (HRPX.out.later hb') (HRPY.out.later hb') hb'.size s1 s2)
      clear hj cx0 cx1 cy0 cy1 hrx hry
      obtain ⟨ca0, ca1, cb0, cb1⟩ := HKEEP.out W1 HBR.out
      have h0 : Below w.heap.size w W1.drew := HBR.out.drew
      go_wp2_with fail
      generalize hcv : (l[k].cmp l[j] == 0) = cv at HC
      have HCV := Lib.hid hcv
      generalize l[k] = lk at *
      generalize l[j] = lj at *
      clear hcv
      go_region_held_law (fun w' => w'.cell? ⟨g, k * 2, none⟩ = some (.int .i64 lk.r) ∧ w'.cell? ⟨g, k * 2 + 1, none⟩ = some (.slice ox lk.l.length cx) ∧ w'.cell? ⟨g, j * 2, none⟩ = some (.int .i64 lj.r) ∧ w'.cell? ⟨g, j * 2 + 1, none⟩ = some (.slice oy lj.l.length cy))
        (exact HKEEP.out _ (by assumption))
        (first
          | (go_simp; go_at_call 44; (with_reducible refine (HC.out _ (by assumption)).mono ?_); rintro e w3 ⟨rfl, hb3⟩
             have h3 : Below w.heap.size w w3 := h0.trans (hb3.mono h0.size)
             clear h0 hb3))
      have H3 := Lib.hid h3
      clear h3
      cases cv with
      | false =>
        have HNE : Hid (lk.cmp lj ≠ 0) := Lib.hid (by have := HCV.out; exact fun e => by rw [e] at this; simp at this)
        have HA2 : Hid (∀ (i : Nat) x y, i + 1 < k + 1 → l[i + 1]? = some x → l[i]? = some y → x.cmp y ≠ 0) := Lib.hid fun i x y hi hx hy => by
          by_cases e : i = j
          · subst e
            rw [← HJ.out, HRX.out] at hx
            rw [HRY.out] at hy
            cases hx
            cases hy
            exact HNE.out
          · exact HA.out i x y (by have := HJ.out; omega) hx hy
        clear HNE
        go_wp2_with fail
        go_roundw
        case rel => exact ⟨k + 1, by omega, hlt, by go_num, HA2, H3⟩
        case measure => simp [intOf]; omega
      | true =>
        have HEQ : Hid (lk.cmp lj = 0) := Lib.hid (by have := HCV.out; simpa using this)
        have HCK : Hid (cpt l (k + 1) = l.take k) := Lib.hid (by
          have h := HJ.out
          have h1 := HRX.out
          rw [h] at h1 ⊢
          rw [cpt_eq h1 HRY.out HEQ.out]
          exact cpt_take l (j + 1) (by omega) (fun i x y hi => HA.out i x y (by omega)))
        have hck : ¬ cap = k := by omega
        have hkc : (k : Int) ≤ (cap : Int) := by omega
        clear ca0 ca1 cb0 cb1
        go_wp2_with fail
        go_loopw [5, 7] (fun x y wr => ∃ (kk k2 : Nat), x = .int .i64 kk ∧ y = .int .i64 k2 ∧ 1 ≤ k2 ∧ k + k2 ≤ l.length ∧ kk + 1 ≤ k + k2 ∧ Hid ((cpt l (k + k2)).length = kk) ∧
            Hid ((∀ (i : Nat) u, (cpt l (k + k2))[i]? = some u → RowT wr P g i u) ∧ (∀ (i : Nat) u, k + k2 ≤ i + 1 → l[i]? = some u → RowT wr P g i u) ∧ (∀ i : Nat, i < l.length → ∃ u, RowT wr P g i u) ∧ ∀ o : Nat, wr.frozen? ⟨g, o, none⟩ = false) ∧ Hid (But g w wr ∧ Below H w wr)) (fun _ y _ => l.length - (intOf y).toNat)
        case atStart =>
          have hr3 := HR.out.below H3.out
          refine ⟨k, 1, rfl, rfl, Nat.le_refl _, by omega, Nat.le_refl _, Lib.hid (by rw [HCK.out, List.length_take]; omega), Lib.hid ⟨fun i u hu => ?_, fun i u _ hu => hr3.1 i u hu, fun i hi => ⟨_, hr3.1 i _ (List.getElem?_eq_getElem hi)⟩, hr3.2.1⟩, Lib.hid ⟨But.below H3.out, H3.out.mono hH⟩⟩
          rw [HCK.out, List.getElem?_take] at hu
          split at hu
          · exact hr3.1 i u hu
          · cases hu
        case round =>
          obtain ⟨kk, k2, rfl, rfl, hk2, hkl, hkk, HLN, HRW, HBB⟩ := hrel
          obtain ⟨hbut, hbelow⟩ := HBB.out
          have hgr : g < wr.heap.size := Nat.lt_of_lt_of_le HR.out.2.2.2 hbut.1
          by_cases hlt2 : k + k2 < l.length
          · obtain ⟨jp, hjp⟩ : ∃ jp, k2 = jp + 1 := ⟨k2 - 1, by omega⟩
            have HJP := Lib.hid hjp
            have hjk2 : (k2 : Int) - 1 = (jp : Int) := by omega
            have hwr2 : IntKind.i64.wrap (jp : Int) = (jp : Int) := IntWalk.i64_in _ (by omega)
            have hjl2 : k + jp < l.length := by omega
            have e0 : (0 : Int) ≤ (jp : Int) := by omega
            have e1 : (jp : Int) < ((l.length - k : Nat) : Int) := by omega
            have e2 : (0 : Int) ≤ (k2 : Int) := by omega
            have e3 : (k2 : Int) < ((l.length - k : Nat) : Int) := by omega
            have e4 : (0 : Int) ≤ (kk : Int) := by omega
            have e5 : (kk : Int) < (l.length : Int) := by omega
            have e6 : jp < l.length - k := by omega
            have e7 : k2 < l.length - k := by omega
            have HRX2 := Lib.hid (List.getElem?_eq_getElem hlt2)
            have HRY2 := Lib.hid (List.getElem?_eq_getElem hjl2)
            have t1 := HS.out _ (List.getElem_mem hlt2)
            have t2 := HS.out _ (List.getElem_mem hjl2)
            obtain ⟨ox2, cx2, cx0, cx1, hrx⟩ := HRW.out.2.1 (k + k2) _ (by omega) HRX2.out
            obtain ⟨oy2, cy2, cy0, cy1, hry⟩ := HRW.out.2.1 (k + jp) _ (by omega) HRY2.out
            rw [Nat.add_mul] at cx0 cx1 cy0 cy1
            obtain ⟨uo, ok, ck, ck0, ck1, _⟩ := HRW.out.2.2.1 kk (by omega)
            have hPw : ∀ q, P q → q < wr.heap.size := fun q hq => Nat.lt_of_lt_of_le (HR.out.2.2.1 q hq).1 hbut.1
            have HRPX2 := Lib.hid (hrx.rep hPw)
            have HRPY2 := Lib.hid (hry.rep hPw)
            have HKEEP2 : Hid (∀ w', Below wr.heap.size wr w' → w'.cell? ⟨g, k * 2 + k2 * 2, none⟩ = some (.int .i64 l[k + k2].r) ∧ w'.cell? ⟨g, k * 2 + k2 * 2 + 1, none⟩ = some (.slice ox2 l[k + k2].l.length cx2) ∧ w'.cell? ⟨g, k * 2 + jp * 2, none⟩ = some (.int .i64 l[k + jp].r) ∧ w'.cell? ⟨g, k * 2 + jp * 2 + 1, none⟩ = some (.slice oy2 l[k + jp].l.length cy2)) :=
              Lib.hid (fun w' hb' => ⟨(hb'.cell (p := ⟨g, _, none⟩) hgr).trans cx0, (hb'.cell (p := ⟨g, _, none⟩) hgr).trans cx1, (hb'.cell (p := ⟨g, _, none⟩) hgr).trans cy0, (hb'.cell (p := ⟨g, _, none⟩) hgr).trans cy1⟩)
            have HOLD : Hid (∀ w', Below wr.heap.size wr w' → (w'.cell? ⟨g, kk * 2, none⟩ = some (.int .i64 uo.r) ∧ w'.cell? ⟨g, kk * 2 + 1, none⟩ = some (.slice ok uo.l.length ck)) ∧ (∀ o : Nat, w'.frozen? ⟨g, o, none⟩ = false)) :=
              Lib.hid (fun w' hb' => ⟨⟨(hb'.cell (p := ⟨g, _, none⟩) hgr).trans ck0, (hb'.cell (p := ⟨g, _, none⟩) hgr).trans ck1⟩, fun o => (World.frozen?_of_block (w := wr) (hb'.block g hgr)).trans (HRW.out.2.2.2 o)⟩)
            have HC2 : Hid (∀ w', Below wr.heap.size wr w' → Calls Try.prog 44 #[.agg #[.int .i64 l[k + k2].r, .slice ox2 l[k + k2].l.length cx2], .agg #[.int .i64 l[k + jp].r, .slice oy2 l[k + jp].l.length cy2]] w' fun e w2 => e = .returned (.bool (l[k + k2].cmp l[k + jp] == 0)) ∧ Below w'.heap.size w' w2) :=
              Lib.hid (fun w' hb' => isSame_any l[k + k2] l[k + jp] _ _ w' wr.heap.size (HRPX2.out.later hb') (HRPY2.out.later hb') hb'.size t1 t2)
            have HRPR : Hid (RepP wr P (.slice ox2 l[k + k2].l.length cx2) l[k + k2].l) := Lib.hid hrx
            clear hjp cx0 cx1 cy0 cy1 ck0 ck1 hrx hry
            obtain ⟨ca0, ca1, cb0, cb1⟩ := HKEEP2.out wr (Below.refl _ _)
            have h0 : Below wr.heap.size wr wr.drew := (Below.refl _ _).drew
            go_wp2_with fail
            generalize hcv2 : (l[k + k2].cmp l[k + jp] == 0) = cv at HC2
            have HCV2 := Lib.hid hcv2
            generalize l[k + k2] = lx at *
            generalize l[k + jp] = ly at *
            clear hcv2
            go_region_held_law (fun w' => w'.cell? ⟨g, k * 2 + k2 * 2, none⟩ = some (.int .i64 lx.r) ∧ w'.cell? ⟨g, k * 2 + k2 * 2 + 1, none⟩ = some (.slice ox2 lx.l.length cx2) ∧ w'.cell? ⟨g, k * 2 + jp * 2, none⟩ = some (.int .i64 ly.r) ∧ w'.cell? ⟨g, k * 2 + jp * 2 + 1, none⟩ = some (.slice oy2 ly.l.length cy2))
              (exact HKEEP2.out _ (by assumption))
              (first
                | (go_simp; go_at_call 44; (with_reducible refine (HC2.out _ (by assumption)).mono ?_); rintro e w5 ⟨rfl, hb5⟩
                   have h5 : Below wr.heap.size wr w5 := h0.trans hb5
                   clear h0 hb5))
            have H5 := Lib.hid h5
            have HIX : Hid ((jp + 1 = k2) ∧ l[k + jp + 1]? = some lx ∧ l[k + jp]? = some ly) := Lib.hid ⟨HJP.out.symm, by have h := HRX2.out; rw [HJP.out] at h; exact h, HRY2.out⟩
            clear h5 ca0 ca1 cb0 cb1
            have hIX := HIX.out
            have hcp : k + k2 = k + jp + 1 := by have := HJP.out; omega
            have hb5 := H5.out
            have hs5 := hb5.size
            have HROW5 : Hid ((∀ (i : Nat) u, (cpt l (k + k2))[i]? = some u → RowT w5 P g i u) ∧ (∀ (i : Nat) u, k + k2 ≤ i + 1 → l[i]? = some u → RowT w5 P g i u) ∧ (∀ i : Nat, i < l.length → ∃ u, RowT w5 P g i u) ∧ ∀ o : Nat, w5.frozen? ⟨g, o, none⟩ = false) := Lib.hid (by
              have hkp : ∀ {i u}, RowT wr P g i u → RowT w5 P g i u := fun h => h.keep (hb5.block g hgr) fun q hq => ⟨hq, hb5.block q (hPw q hq)⟩
              exact ⟨fun i u hu => hkp (HRW.out.1 i u hu), fun i u hi hu => hkp (HRW.out.2.1 i u hi hu), fun i hi => by obtain ⟨u, hu⟩ := HRW.out.2.2.1 i hi; exact ⟨u, hkp hu⟩, (HOLD.out w5 hb5).2⟩)
            have HBB5 : Hid (But g w w5 ∧ Below H w w5) := Lib.hid ⟨hbut.trans (But.below hb5), hbelow.trans (hb5.mono (Nat.le_trans hH hbut.1))⟩
            have HNX : Hid (cpt l (k + k2 + 1) = if lx.cmp ly = 0 then cpt l (k + k2) else cpt l (k + k2) ++ [lx]) := Lib.hid (by
              obtain ⟨_, i2, i3⟩ := hIX
              rw [hcp]
              by_cases e : lx.cmp ly = 0
              · rw [if_pos e]; exact cpt_eq i2 i3 e
              · rw [if_neg e]; exact cpt_ne i2 i3 e)
            have HCP := Lib.hid hcp
            have HPN : Hid (∀ q, P q → q ≠ g) := Lib.hid fun q hq => (HR.out.2.2.1 q hq).2
            have HRP5 : Hid (RepP w5 P (.slice ox2 lx.l.length cx2) lx.l) := Lib.hid (HRPR.out.keep fun q hq => ⟨hq, hb5.block q (hPw q hq)⟩)
            obtain ⟨ca0, ca1, _, _⟩ := HKEEP2.out w5 hb5
            obtain ⟨⟨ck0, ck1⟩, hfz⟩ := HOLD.out w5 hb5
            have fz0 := hfz (kk * 2)
            have fz1 := hfz (kk * 2 + 1)
            clear hIX hcp hb5 hfz
            cases cv with
            | true =>
              have HEQ2 : Hid (cpt l (k + k2 + 1) = cpt l (k + k2)) := Lib.hid (by rw [HNX.out, if_pos (by have := HCV2.out; simpa using this)])
              clear ca0 ca1 ck0 ck1 fz0 fz1
              go_wp2_with fail
              go_roundw
              case rel =>
                refine ⟨kk, k2 + 1, rfl, by go_num, by omega, by omega, by omega, Lib.hid (by rw [← Nat.add_assoc, HEQ2.out]; exact HLN.out), Lib.hid ⟨fun i u hu => ?_, fun i u hi hu => HROW5.out.2.1 i u (by omega) hu, HROW5.out.2.2.1, HROW5.out.2.2.2⟩, HBB5⟩
                rw [← Nat.add_assoc, HEQ2.out] at hu
                exact HROW5.out.1 i u hu
              case measure => simp [intOf]; omega
            | false =>
              have HEQ2 : Hid (cpt l (k + k2 + 1) = cpt l (k + k2) ++ [lx]) := Lib.hid (by rw [HNX.out, if_neg (fun e => by have := HCV2.out; rw [e] at this; simp at this)])
              have HBST : Hid (But g w ((w5.setCell ⟨g, kk * 2, none⟩ (.int .i64 lx.r)).setCell ⟨g, kk * 2 + 1, none⟩ (.slice ox2 lx.l.length cx2)) ∧ Below H w ((w5.setCell ⟨g, kk * 2, none⟩ (.int .i64 lx.r)).setCell ⟨g, kk * 2 + 1, none⟩ (.slice ox2 lx.l.length cx2))) :=
                Lib.hid ⟨(HBB5.out.1.trans (But.set _ _)).trans (But.set _ _), (HBB5.out.2.setCell (p := ⟨g, _, none⟩) hHg _).setCell (p := ⟨g, _, none⟩) hHg _⟩
              have HRST : Hid (RowT ((w5.setCell ⟨g, kk * 2, none⟩ (.int .i64 lx.r)).setCell ⟨g, kk * 2 + 1, none⟩ (.slice ox2 lx.l.length cx2)) P g kk lx) := Lib.hid (by
                obtain ⟨u, hu⟩ := HROW5.out.2.2.1 kk (by omega)
                exact hu.store HPN.out HRP5.out)
              have HROT : Hid (∀ i u, i ≠ kk → RowT w5 P g i u → RowT ((w5.setCell ⟨g, kk * 2, none⟩ (.int .i64 lx.r)).setCell ⟨g, kk * 2 + 1, none⟩ (.slice ox2 lx.l.length cx2)) P g i u) := Lib.hid fun i u hi hu => hu.other hi HPN.out
              go_wp2_with fail
              go_roundw
              case rel =>
                refine ⟨kk + 1, k2 + 1, by go_num, by go_num, by omega, by omega, by omega, Lib.hid (by rw [← Nat.add_assoc, HEQ2.out, List.length_append, HLN.out]; rfl), Lib.hid ⟨fun i u hu => ?_, fun i u hi hu => HROT.out i u (by omega) (HROW5.out.2.1 i u (by omega) hu), fun i hi => ?_, fun o => ?_⟩, HBST⟩
                · rw [← Nat.add_assoc, HEQ2.out] at hu
                  rcases Nat.lt_or_ge i kk with h | h
                  · rw [List.getElem?_append_left (by rw [HLN.out]; exact h)] at hu
                    exact HROT.out i u (by omega) (HROW5.out.1 i u hu)
                  · rw [List.getElem?_append_right (by rw [HLN.out]; exact h), HLN.out] at hu
                    have hi0 : i = kk := by
                      have := (List.getElem?_eq_some_iff.1 hu).1
                      simp at this
                      omega
                    subst hi0
                    simp at hu
                    subst hu
                    exact HRST.out
                · by_cases e : i = kk
                  · subst e
                    exact ⟨_, HRST.out⟩
                  · obtain ⟨u, hu⟩ := HROW5.out.2.2.1 i hi
                    exact ⟨u, HROT.out i u e hu⟩
                · rw [World.frozen?_setCell, World.frozen?_setCell]
                  exact HROW5.out.2.2.2 o
              case measure => simp [intOf]; omega
          · have hend : k + k2 = l.length := by omega
            have hrw := HRW.out
            have HKE : Hid ((cpt l l.length).length = kk ∧ (∀ (i : Nat) u, (cpt l l.length)[i]? = some u → RowT wr P g i u)) := Lib.hid (by
              rw [hend] at hrw HLN
              exact ⟨HLN.out, hrw.1⟩)
            obtain ⟨vs, hvl, hclr⟩ := run_clear2 wr g (kk * 2) (l.length - kk) (cap - kk) (by omega) (fun i hi => by
                obtain ⟨u, o, c, h1, h2, _⟩ := hrw.2.2.1 (kk + i / 2) (by omega)
                rcases Nat.mod_two_eq_zero_or_one i with hm | hm
                · rw [show kk * 2 + i = (kk + i / 2) * 2 by omega, h1]; rfl
                · rw [show kk * 2 + i = (kk + i / 2) * 2 + 1 by omega, h2]; rfl)
              (fun i _ => hrw.2.2.2 _)
            have HFZ : Hid (∀ o : Nat, wr.frozen? ⟨g, o, none⟩ = false) := Lib.hid hrw.2.2.2
            have e0 : (0 : Int) ≤ (kk : Int) := by omega
            have e1 : (kk : Int) ≤ (cap : Int) := by omega
            have e2 : (kk : Int) ≤ (l.length : Int) := by omega
            have e3 : ¬ cap = kk := by omega
            have HEND := Lib.hid hend
            have HVL := Lib.hid hvl
            clear hrw hend hvl
            go_wp2_with fail
            go_ret
            refine ⟨by rw [HKE.out.1]; rfl, ⟨fun i u hu => ?_, fun o => ?_, fun q hq => ?_, ?_⟩, hbut.trans (But.clear _ _ _), below_setCellsT g hHg _ _ hbelow⟩
            · refine (HKE.out.2 i u hu).cleared _ (by have := (List.getElem?_eq_some_iff.1 hu).1; rw [HKE.out.1] at this; exact this) fun q hq => ⟨Nat.lt_of_lt_of_le (HR.out.2.2.1 q hq).1 hbut.1, (HR.out.2.2.1 q hq).2⟩
            · rw [World.frozen?_setCells]; exact HFZ.out o
            · rw [size_setCellsT]; exact ⟨Nat.lt_of_lt_of_le (HR.out.2.2.1 q hq).1 hbut.1, (HR.out.2.2.1 q hq).2⟩
            · rw [size_setCellsT]; exact hgr
    · have hkk : k = l.length := by omega
      have HE : Hid (cpt l l.length = l) := Lib.hid (by rw [cpt_take l l.length (Nat.le_refl _) (fun j x y hj => HA.out j x y (by omega)), List.take_length])
      have HQ := Lib.hid hkk
      clear hkk
      go_wp2_with fail
      go_ret
      exact ⟨by rw [HE.out]; rfl, by rw [HE.out]; exact HR.out.below HBR.out, But.below HBR.out, HBR.out.mono hH⟩

end Go.Proofs.Ytdfhfljmcakilaa
