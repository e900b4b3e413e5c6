/-
  Fill of both. Nothing is assumed.
-/
import Derived.Test.YtampofpllijfhaaTbDup
import Derived.Laws.OwnMore
import Derived.Deep.Onto
import Derived.Test.YtampofpllijfhaaTbTrans
namespace Go.Proofs.Ytampofpllijfhaa
open Go.RowKit

def cellT (t : Tab) (i k : Nat) : ByteArray := (((t[i]?).getD [])[k]?).getD ⟨#[]⟩
def setT (t : Tab) (i k : Nat) (s : ByteArray) : Tab := t.set i (((t[i]?).getD []).set k s)
/-- One cell filled. -/
def fillStep (t : Tab) (i k : Nat) : Tab := if (cellT t i k).toList = [] then setT t i k (cellT t (i - 1) k) else t
def fillRow (t : Tab) (i : Nat) : Nat → Tab
  | 0 => t
  | k + 1 => fillStep (fillRow t i k) i k
/-- The rows filled up to row i. -/
def fillTo (t : Tab) (c : Nat) : Nat → Tab
  | 0 => t
  | i + 1 => fillRow (fillTo t c i) (i + 1) c
def fillT (t : Tab) : Tab := if chkT t = 0 then fillTo t (colsT t) (t.length - 1) else []
/-- A table of n rows of c cells. -/
def Shape (n c : Nat) (t : Tab) : Prop := t.length = n ∧ ∀ r ∈ t, r.length = c
theorem Shape.row {n c : Nat} {t : Tab} (h : Shape n c t) {i : Nat} (hi : i < n) : ∃ r, t[i]? = some r ∧ r.length = c := by
  have hl : i < t.length := by rw [h.1]; exact hi
  exact ⟨t[i], List.getElem?_eq_getElem hl, h.2 _ (List.getElem_mem hl)⟩
theorem Shape.cell {n c : Nat} {t : Tab} (h : Shape n c t) {i k : Nat} (hi : i < n) (hk : k < c) : ∃ r, t[i]? = some r ∧ r[k]? = some (cellT t i k) := by
  obtain ⟨r, hr, hl⟩ := h.row hi
  refine ⟨r, hr, ?_⟩
  unfold cellT
  rw [hr]
  simp only [Option.getD_some]
  rw [List.getElem?_eq_getElem (by omega)]
  rfl
theorem Shape.set {n c : Nat} {t : Tab} (h : Shape n c t) {i : Nat} (hi : i < n) (k : Nat) (s : ByteArray) : Shape n c (setT t i k s) := by
  obtain ⟨r, hr, hl⟩ := h.row hi
  refine ⟨by unfold setT; rw [List.length_set]; exact h.1, fun q hq => ?_⟩
  unfold setT at hq
  rcases List.mem_or_eq_of_mem_set hq with hq | rfl
  · exact h.2 q hq
  · rw [hr]
    simp [hl]
theorem Shape.step {n c : Nat} {t : Tab} (h : Shape n c t) {i : Nat} (hi : i < n) (k : Nat) : Shape n c (fillStep t i k) := by
  unfold fillStep
  split
  · exact h.set hi k _
  · exact h
theorem Shape.fill {n c : Nat} {t : Tab} (h : Shape n c t) {i : Nat} (hi : i < n) : ∀ k, Shape n c (fillRow t i k)
  | 0 => h
  | k + 1 => (Shape.fill h hi k).step hi k
theorem Shape.to {n c : Nat} {t : Tab} (h : Shape n c t) : ∀ i, i < n → Shape n c (fillTo t c i)
  | 0, _ => h
  | i + 1, hi => (Shape.to h i (by omega)).fill hi c
theorem shape_of {t : Tab} (h : chkT t = 0) : Shape t.length (colsT t) t := ⟨rfl, fun r hr => ((chkT_rows h).2 r hr).1⟩

theorem OwnS.store {w : World} {base g cap : Nat} {l : Row} (h : OwnS w base (.slice (some ⟨g, 0, Option.none⟩) l.length cap) l) (k : Nat) (s : ByteArray) : OwnS (w.setCell ⟨g, k, Option.none⟩ (.string s)) base (.slice (some ⟨g, 0, Option.none⟩) l.length cap) (l.set k s) := by
  have h1 := (World.ownsRow.stored h k (.string s)).1
  unfold OwnS
  rw [List.length_set, List.map_set]
  exact h1
theorem owns_other {w : World} {base e n : Nat} {v : Value} {xs : List Value} (h : w.ownsRow base e 1 v n xs) {a : Addr} (u : Value) (ha : v.ownBlock ≠ some a.block) : (w.setCell a u).ownsRow base e 1 v n xs := by
  refine ⟨h.1, ?_⟩
  rcases h.2 with h0 | ⟨g, cap, cur, hv, hg, hh, r⟩
  · exact .inl h0
  · refine .inr ⟨g, cap, cur, hv, hg, ?_, r⟩
    rw [Below.heap_setCell _ _ _ _ (by intro e; apply ha; rw [hv, ← e]; rfl)]
    exact hh
/-- A cell of a table whose rows are the call's own, and what a store into it makes. -/
theorem AccD.cellAt {w : World} {base n c i k : Nat} {oa : Option Addr} {cv : Nat} {t : Tab} (h : AccD w base (.slice oa n cv) t) (hs : Shape n c t) (hi : i < n) (hk : k < c) :
    ∃ gv gi ci, oa = some ⟨gv, 0, none⟩ ∧ w.cell? ⟨gv, i, none⟩ = some (.slice (some ⟨gi, 0, none⟩) c ci) ∧ w.cell? ⟨gi, k, none⟩ = some (.string (cellT t i k)) ∧ w.frozen? ⟨gi, k, none⟩ = false ∧ base ≤ gi ∧ gv ≠ gi ∧
      ∀ s, AccD (w.setCell ⟨gi, k, none⟩ (.string s)) base (.slice oa n cv) (setT t i k s) := by
  obtain ⟨xs, hl, ho, hr, h1, h2⟩ := h
  obtain ⟨r, hri, hrl⟩ := hs.row hi
  have hti : i < t.length := by rw [hs.1]; exact hi
  have hxi : xs[i]? = some xs[i] := List.getElem?_eq_getElem (by omega)
  have hrow := hr i _ r hxi hri
  rcases owns_cells ho hl with ⟨h0, h3⟩ | ⟨gv, cap, hv, hg, hlt, hcap, hmx, hel⟩
  · omega
  obtain ⟨rfl, _, rfl⟩ : oa = some ⟨gv, 0, none⟩ ∧ n = t.length ∧ cv = cap := by simpa using hv
  rcases owns_cells hrow (by simp) with ⟨h0, h3⟩ | ⟨gi, ci, hx, hgi, hlti, hcapi, hmxi, heli⟩
  · omega
  have hne : gv ≠ gi := fun e => by
    have := h1 i _ gi hxi (by rw [hx]; rfl)
    exact this (by rw [e]; rfl)
  refine ⟨gv, gi, ci, rfl, by rw [hel i _ hxi, hx, hrl], ?_, ?_, hgi, hne, fun s => ?_⟩
  · obtain ⟨r', hr', hc⟩ := hs.cell hi hk
    rw [hri] at hr'
    cases hr'
    exact heli k _ (by rw [List.getElem?_map, hc]; rfl)
  · unfold OwnS at hrow
    rw [hx] at hrow
    exact World.ownsRow.frozenAt hrow k
  · refine ⟨xs, by unfold setT; rw [List.length_set]; exact hl, ?_, fun j y q hj hq => ?_, h1, h2⟩
    · unfold setT
      rw [List.length_set]
      exact owns_other ho _ (by simp only [Value.ownBlock, ne_eq, Option.some.injEq]; exact hne)
    · unfold setT at hq
      by_cases hji : j = i
      · subst hji
        rw [List.getElem?_set_self (by omega), hri] at hq
        simp only [Option.getD_some, Option.some.injEq] at hq
        subst hq
        rw [hxi] at hj
        cases hj
        rw [hx] at hrow ⊢
        exact OwnS.store hrow k s
      · rw [List.getElem?_set_ne (by omega)] at hq
        refine owns_other (hr j y q hj hq) _ ?_
        intro e
        exact h2 j i y _ gi hj hxi hji e (by rw [hx]; rfl)

theorem AccD.weak {w : World} {H H' : Nat} {v : Value} {t : Tab} (h : AccD w H v t) (hH : H' ≤ H) : AccD w H' v t := by
  obtain ⟨xs, hl, ho, hr, h1, h2⟩ := h
  exact ⟨xs, hl, ho.mono hH, fun i x r a b => (hr i x r a b).weak hH, h1, h2⟩
theorem tabs_one (w : World) (B : Nat) (x : Value) (a : Tab) (h : HoldsT w (· < B) x a) (hB : B ≤ w.heap.size) :
    HoldsP (w.alloc (.cells #[x] 22)) (· < w.heap.size + 1) (.slice (some ⟨w.heap.size, 0, none⟩) 1 1) [a] := by
  have hb1 := below1 w (.cells #[x] 22)
  refine ⟨_, 1, rfl, Nat.le_refl _, by omega, fun i y hi => ?_⟩
  match i, hi with
  | 0, hi =>
    simp at hi
    subst hi
    exact ⟨_, 0, x, rfl, by omega, by simp, (h.later (hb1.mono hB)).mono (by omega)⟩
  | i + 1, hi => simp at hi

set_option maxRecDepth 100000 in
set_option maxHeartbeats 3200000 in
theorem Fill_any (x : Value) (t : List (List ByteArray)) (w : World) (B : Nat) (hx : HoldsT w (· < B) x t) (hB : B ≤ w.heap.size) :
    Calls Try.prog 18 #[x] w fun e w' => RetT w w' (fillT t) e ∧ Below w.heap.size w w' := by
  have HC := Lib.hid (chk_any x t w (· < B) hx)
  have HX := Lib.hid hx
  obtain ⟨oa, ca, rfl, _, _⟩ := hx.form
  clear hx
  by_cases hc0 : chkT t = 0
  · have fc := neq_fT hc0
    have HT : Hid (fillT t = fillTo t (colsT t) (t.length - 1)) := Lib.hid (if_pos hc0)
    have h8 := (chkT_rows hc0).1
    have hc8 := colsT_le hc0
    have HS := Lib.hid (shape_of hc0)
    have HC1 : Hid (0 < t.length → 1 ≤ colsT t) := Lib.hid (fun hp => by have := (chkT_rows hc0).2 _ (List.getElem_mem hp); omega)
    have HR8 : Hid (∀ r ∈ t, r.length ≤ 100) := Lib.hid (fun r hr => by have := ((chkT_rows hc0).2 r hr).2.2.1; omega)
    obtain ⟨c, hcn⟩ : ∃ c, colsT t = c := ⟨_, rfl⟩
    rw [hcn] at HT HS hc8 HC1
    clear hc0 hcn
    go_enter Try.func18, Try.ntmps18
    go_wp2_with fail
    refine HC.out.mono ?_
    rintro e w' ⟨rfl, rfl⟩
    have HP0 : Hid (HoldsP (w.alloc (.cells #[.slice oa t.length ca] 22)) (· < w.heap.size + 1) (.slice (some ⟨w.heap.size, 0, none⟩) 1 1) [t]) := Lib.hid (tabs_one w B _ t HX.out hB)
    have HD := Lib.hid (duplicate_any _ [t] _ (w.heap.size + 1) HP0.out (by simp) (by simp; omega) (by simp) (by intro u hu; obtain rfl := List.mem_singleton.1 hu; exact HR8.out))
    go_wp2_with fail
    refine HD.out.mono ?_
    rintro e w1 ⟨⟨v, rfl, ho⟩, hb1⟩
    have hb01 : Below w.heap.size w w1 := (below1 w _).trans (hb1.mono (by simp))
    have HA0 : Hid (AccD w1 w.heap.size v (fillTo t c 0)) := Lib.hid ((AccD.weak (H := w.heap.size + 1) (t := t) (by simpa using ho) (by omega) : AccD w1 w.heap.size v t))
    obtain ⟨ov, cv, rfl⟩ : ∃ ov cv, v = .slice ov t.length cv := HA0.out.form
    clear ho hb1
    go_wp2_with fail
    go_loopw [4] (fun j wr => ∃ i : Nat, (i ≤ t.length ∨ i = 1) ∧ 1 ≤ i ∧ j = .int .i64 i ∧ Hid (AccD wr w.heap.size (.slice ov t.length cv) (fillTo t c (i - 1))) ∧ Below w.heap.size w wr) (fun j _ => t.length - (intOf j).toNat)
    case atStart => exact ⟨1, Or.inr rfl, Nat.le_refl _, rfl, HA0, hb01⟩
    case round =>
      obtain ⟨i, hi1, hi0, rfl, HA, hbel⟩ := hrel
      obtain ⟨wo, hwo⟩ : ∃ wo : World, wo = wr := ⟨_, rfl⟩
      subst hwo
      clear hb01 HA0
      by_cases hlt : i < t.length
      · obtain ⟨p, hp⟩ : ∃ p, i - 1 = p := ⟨_, rfl⟩
        have hpi : (i : Int) - 1 = (p : Int) := by omega
        have HP : Hid (i = p + 1) := Lib.hid (by omega)
        have HSP : Hid (Shape t.length c (fillTo t c p)) := Lib.hid (HS.out.to p (by omega))
        rw [hp] at HA
        have hplt : p < t.length := by omega
        obtain ⟨T0, hT0⟩ : ∃ T0, fillTo t c p = T0 := ⟨_, rfl⟩
        have HNX : Hid (fillTo t c i = fillRow T0 i c) := Lib.hid (by rw [HP.out, ← hT0]; rfl)
        rw [hT0] at HA HSP
        have hii0 : (0 : Int) ≤ (i : Int) := by omega
        have hii1 : (i : Int) < (t.length : Int) := by omega
        have hpp0 : (0 : Int) ≤ (p : Int) := by omega
        have hpp1 : (p : Int) < (t.length : Int) := by omega
        have hwr : IntKind.i64.wrap (p : Int) = (p : Int) := IntWalk.i64_in _ (by omega)
        have hc1 := HC1.out (by omega)
        clear hT0 hp
        obtain ⟨gv, gi, ci, rfl, k1, _, _, hgb, hgn, _⟩ := HA.out.cellAt HSP.out hlt (show 0 < c by omega)
        obtain ⟨gv', gp, cp, e1, k2, _, _, _, hgp, _⟩ := HA.out.cellAt HSP.out hplt (show 0 < c by omega)
        cases e1
        have HGN := Lib.hid hgn
        have HK1 := Lib.hid k1
        have HK2 := Lib.hid k2
        clear hgn hgp
        go_wp2_with fail
        clear k1 k2
        go_loopw [24] (fun j wr => ∃ k : Nat, k ≤ c ∧ j = .int .i64 k ∧ Hid (AccD wr w.heap.size (.slice (some ⟨gv, 0, none⟩) t.length cv) (fillRow T0 i k)) ∧ wr.cell? ⟨gv, i, none⟩ = some (.slice (some ⟨gi, 0, none⟩) c ci) ∧ wr.cell? ⟨gv, p, none⟩ = some (.slice (some ⟨gp, 0, none⟩) c cp) ∧ Below w.heap.size w wr) (fun j _ => c - (intOf j).toNat)
        case atStart => exact ⟨0, Nat.zero_le _, rfl, HA, HK1.out, HK2.out, hbel⟩
        case round =>
          obtain ⟨k, hk, rfl, HA2, k1, k2, hbel2⟩ := hrel
          by_cases hkc : k < c
          · have HSK : Hid (Shape t.length c (fillRow T0 i k)) := Lib.hid (HSP.out.fill hlt k)
            have HST : Hid (fillRow T0 i (k + 1) = fillStep (fillRow T0 i k) i k) := Lib.hid rfl
            obtain ⟨T1, hT1⟩ : ∃ T1, fillRow T0 i k = T1 := ⟨_, rfl⟩
            rw [hT1] at HA2 HSK HST
            clear hT1
            obtain ⟨gv', gi', ci', e1, m1, hc, hfz, hgib, _, hstore⟩ := HA2.out.cellAt HSK.out hlt hkc
            cases e1
            rw [k1] at m1
            cases m1
            obtain ⟨gv', gp', cp', e1, m1, hd, _, _, _, _⟩ := HA2.out.cellAt HSK.out hplt hkc
            cases e1
            rw [k2] at m1
            cases m1
            have HSTO := Lib.hid hstore
            clear hstore
            have hki0 : (0 : Int) ≤ (k : Int) := by omega
            have hki1 : (k : Int) < (c : Int) := by omega
            have HCP : Hid (cellT T1 (i - 1) k = cellT T1 p k) := Lib.hid (by rw [HP.out]; rfl)
            obtain ⟨S1, hS1⟩ : ∃ S1, cellT T1 i k = S1 := ⟨_, rfl⟩
            obtain ⟨S2, hS2⟩ : ∃ S2, cellT T1 p k = S2 := ⟨_, rfl⟩
            rw [hS1] at hc
            rw [hS2] at hd HCP
            have HS1 := Lib.hid hS1
            clear hS1 hS2
            by_cases hem : S1.toList = []
            · have HNX2 : Hid (fillRow T0 i (k + 1) = setT T1 i k S2) := Lib.hid (by rw [HST.out]; unfold fillStep; rw [HS1.out, if_pos hem, HCP.out])
              go_wp2_with fail
              go_still_tail 14, (by kernel_rfl)
              change wpList _ _ _ _ _ wr.drew
              have hc' : wr.drew.cell? ⟨gi, k, none⟩ = some (.string S1) := hc
              have hfz' : wr.drew.frozen? ⟨gi, k, none⟩ = false := hfz
              have HAN : Hid (AccD (wr.drew.setCell ⟨gi, k, none⟩ (.string S2)) w.heap.size (.slice (some ⟨gv, 0, none⟩) t.length cv) (setT T1 i k S2)) := Lib.hid (HSTO.out S2)
              have K1 : Hid ((wr.drew.setCell ⟨gi, k, none⟩ (.string S2)).cell? ⟨gv, i, none⟩ = some (.slice (some ⟨gi, 0, none⟩) c ci)) := Lib.hid ((World.cell?_setCell_other _ _ _ _ (by intro e; injection e with e1; exact HGN.out e1.symm)).trans k1)
              have K2 : Hid ((wr.drew.setCell ⟨gi, k, none⟩ (.string S2)).cell? ⟨gv, p, none⟩ = some (.slice (some ⟨gp, 0, none⟩) c cp)) := Lib.hid ((World.cell?_setCell_other _ _ _ _ (by intro e; injection e with e1; exact HGN.out e1.symm)).trans k2)
              have hbn : Below w.heap.size w (wr.drew.setCell ⟨gi, k, none⟩ (.string S2)) := hbel2.drew.setCell (p := ⟨gi, k, none⟩) hgib _
              go_wp2_with fail
              go_roundw
              case rel => exact ⟨k + 1, hkc, by go_num, Lib.hid (by rw [HNX2.out]; exact HAN.out), K1.out, K2.out, hbn⟩
              case measure => simp [intOf]; omega
            · have HNX2 : Hid (fillRow T0 i (k + 1) = T1) := Lib.hid (by rw [HST.out]; unfold fillStep; rw [HS1.out, if_neg hem])
              have hemB : S1.toList.isEmpty = false := by
                cases hl : S1.toList with
                | nil => exact absurd hl hem
                | cons _ _ => rfl
              clear hem
              go_wp2_with fail
              go_roundw
              case rel => exact ⟨k + 1, hkc, by go_num, Lib.hid (by rw [HNX2.out]; exact HA2.out), k1, k2, hbel2⟩
              case measure => simp [intOf]; omega
          · obtain rfl : k = c := by omega
            go_wp2_with fail
            go_roundw
            case rel => exact ⟨i + 1, by omega, by omega, by go_num, Lib.hid (by rw [Nat.add_sub_cancel, HNX.out]; exact HA2.out), hbel2⟩
            case measure => simp [intOf]; omega
      · have HZ : Hid (i - 1 = t.length - 1) := Lib.hid (by omega)
        go_wp2_with fail
        go_ret
        exact ⟨RetT.mk HA.out.toT.holds (by rw [HZ.out, HT.out]), hbel⟩
  · have fc := neq_tT hc0
    have HT : Hid (fillT t = []) := Lib.hid (if_neg hc0)
    clear hc0
    go_enter Try.func18, Try.ntmps18
    go_wp2_with fail
    refine HC.out.mono ?_
    rintro e w' ⟨rfl, rfl⟩
    go_wp2_with fail
    go_ret
    exact ⟨RetT.nil HT.out, Below.refl _ _⟩

set_option maxRecDepth 100000 in
set_option maxHeartbeats 3200000 in
theorem rFill_any (x : Value) (t : List (List ByteArray)) (w : World) (B : Nat) (hx : HoldsT w (· < B) x t) (hB : B ≤ w.heap.size) :
    Calls Try.prog 19 #[x] w fun e w' => RetT w w' (fillT t) e ∧ Below w.heap.size w w' := by
  have HC := Lib.hid (rchk_any x t w B hx hB)
  have HX := Lib.hid hx
  obtain ⟨oa, ca, rfl, _, _⟩ := hx.form
  clear hx
  by_cases hc0 : chkT t = 0
  · have fc := neq_fT hc0
    have HT : Hid (fillT t = fillTo t (colsT t) (t.length - 1)) := Lib.hid (if_pos hc0)
    have h8 := (chkT_rows hc0).1
    have hc8 := colsT_le hc0
    have HS := Lib.hid (shape_of hc0)
    have HC1 : Hid (0 < t.length → 1 ≤ colsT t) := Lib.hid (fun hp => by have := (chkT_rows hc0).2 _ (List.getElem_mem hp); omega)
    have HR8 : Hid (∀ r ∈ t, r.length ≤ 100) := Lib.hid (fun r hr => by have := ((chkT_rows hc0).2 r hr).2.2.1; omega)
    obtain ⟨c, hcn⟩ : ∃ c, colsT t = c := ⟨_, rfl⟩
    rw [hcn] at HT HS hc8 HC1
    clear hc0 hcn
    go_enter Try.func19, Try.ntmps19
    go_wp2_with fail
    refine HC.out.mono ?_
    rintro e w0 ⟨rfl, hb0⟩
    have HB0 := Lib.hid hb0
    have HD := Lib.hid (rtable_any _ t w0 B (HX.out.later (hb0.mono hB)) (Nat.le_trans hB hb0.size) (by omega) HR8.out)
    clear hb0
    go_wp2_with fail
    refine HD.out.mono ?_
    rintro e w1 ⟨⟨v, rfl, ho⟩, hb1⟩
    have hb01 : Below w.heap.size w w1 := HB0.out.trans (hb1.mono HB0.out.size)
    have HA0 : Hid (AccD w1 w.heap.size v (fillTo t c 0)) := Lib.hid ((ho.weak HB0.out.size : AccD w1 w.heap.size v t))
    obtain ⟨ov, cv, rfl⟩ : ∃ ov cv, v = .slice ov t.length cv := HA0.out.form
    clear ho hb1
    go_wp2_with fail
    go_loopw [4] (fun j wr => ∃ i : Nat, (i ≤ t.length ∨ i = 1) ∧ 1 ≤ i ∧ j = .int .i64 i ∧ Hid (AccD wr w.heap.size (.slice ov t.length cv) (fillTo t c (i - 1))) ∧ Below w.heap.size w wr) (fun j _ => t.length - (intOf j).toNat)
    case atStart => exact ⟨1, Or.inr rfl, Nat.le_refl _, rfl, HA0, hb01⟩
    case round =>
      obtain ⟨i, hi1, hi0, rfl, HA, hbel⟩ := hrel
      obtain ⟨wo, hwo⟩ : ∃ wo : World, wo = wr := ⟨_, rfl⟩
      subst hwo
      clear hb01 HA0
      by_cases hlt : i < t.length
      · obtain ⟨p, hp⟩ : ∃ p, i - 1 = p := ⟨_, rfl⟩
        have hpi : (i : Int) - 1 = (p : Int) := by omega
        have HP : Hid (i = p + 1) := Lib.hid (by omega)
        have HSP : Hid (Shape t.length c (fillTo t c p)) := Lib.hid (HS.out.to p (by omega))
        rw [hp] at HA
        have hplt : p < t.length := by omega
        obtain ⟨T0, hT0⟩ : ∃ T0, fillTo t c p = T0 := ⟨_, rfl⟩
        have HNX : Hid (fillTo t c i = fillRow T0 i c) := Lib.hid (by rw [HP.out, ← hT0]; rfl)
        rw [hT0] at HA HSP
        have hii0 : (0 : Int) ≤ (i : Int) := by omega
        have hii1 : (i : Int) < (t.length : Int) := by omega
        have hpp0 : (0 : Int) ≤ (p : Int) := by omega
        have hpp1 : (p : Int) < (t.length : Int) := by omega
        have hwr : IntKind.i64.wrap (p : Int) = (p : Int) := IntWalk.i64_in _ (by omega)
        have hc1 := HC1.out (by omega)
        clear hT0 hp
        obtain ⟨gv, gi, ci, rfl, k1, _, _, hgb, hgn, _⟩ := HA.out.cellAt HSP.out hlt (show 0 < c by omega)
        obtain ⟨gv', gp, cp, e1, k2, _, _, _, hgp, _⟩ := HA.out.cellAt HSP.out hplt (show 0 < c by omega)
        cases e1
        have HGN := Lib.hid hgn
        have HK1 := Lib.hid k1
        have HK2 := Lib.hid k2
        clear hgn hgp
        go_wp2_with fail
        clear k1 k2
        go_loopw [5] (fun j wr => ∃ k : Nat, k ≤ c ∧ j = .int .i64 k ∧ Hid (AccD wr w.heap.size (.slice (some ⟨gv, 0, none⟩) t.length cv) (fillRow T0 i k)) ∧ wr.cell? ⟨gv, i, none⟩ = some (.slice (some ⟨gi, 0, none⟩) c ci) ∧ wr.cell? ⟨gv, p, none⟩ = some (.slice (some ⟨gp, 0, none⟩) c cp) ∧ Below w.heap.size w wr) (fun j _ => c - (intOf j).toNat)
        case atStart => exact ⟨0, Nat.zero_le _, rfl, HA, HK1.out, HK2.out, hbel⟩
        case round =>
          obtain ⟨k, hk, rfl, HA2, k1, k2, hbel2⟩ := hrel
          by_cases hkc : k < c
          · have HSK : Hid (Shape t.length c (fillRow T0 i k)) := Lib.hid (HSP.out.fill hlt k)
            have HST : Hid (fillRow T0 i (k + 1) = fillStep (fillRow T0 i k) i k) := Lib.hid rfl
            obtain ⟨T1, hT1⟩ : ∃ T1, fillRow T0 i k = T1 := ⟨_, rfl⟩
            rw [hT1] at HA2 HSK HST
            clear hT1
            obtain ⟨gv', gi', ci', e1, m1, hc, hfz, hgib, _, hstore⟩ := HA2.out.cellAt HSK.out hlt hkc
            cases e1
            rw [k1] at m1
            cases m1
            obtain ⟨gv', gp', cp', e1, m1, hd, _, _, _, _⟩ := HA2.out.cellAt HSK.out hplt hkc
            cases e1
            rw [k2] at m1
            cases m1
            have HSTO := Lib.hid hstore
            clear hstore
            have hki0 : (0 : Int) ≤ (k : Int) := by omega
            have hki1 : (k : Int) < (c : Int) := by omega
            have HCP : Hid (cellT T1 (i - 1) k = cellT T1 p k) := Lib.hid (by rw [HP.out]; rfl)
            obtain ⟨S1, hS1⟩ : ∃ S1, cellT T1 i k = S1 := ⟨_, rfl⟩
            obtain ⟨S2, hS2⟩ : ∃ S2, cellT T1 p k = S2 := ⟨_, rfl⟩
            rw [hS1] at hc
            rw [hS2] at hd HCP
            have HS1 := Lib.hid hS1
            clear hS1 hS2
            by_cases hem : S1.toList = []
            · have HNX2 : Hid (fillRow T0 i (k + 1) = setT T1 i k S2) := Lib.hid (by rw [HST.out]; unfold fillStep; rw [HS1.out, if_pos hem, HCP.out])
              go_wp2_with fail
              go_still_tail 14, (by kernel_rfl)
              change wpList _ _ _ _ _ wr.drew
              have hc' : wr.drew.cell? ⟨gi, k, none⟩ = some (.string S1) := hc
              have hfz' : wr.drew.frozen? ⟨gi, k, none⟩ = false := hfz
              have HAN : Hid (AccD (wr.drew.setCell ⟨gi, k, none⟩ (.string S2)) w.heap.size (.slice (some ⟨gv, 0, none⟩) t.length cv) (setT T1 i k S2)) := Lib.hid (HSTO.out S2)
              have K1 : Hid ((wr.drew.setCell ⟨gi, k, none⟩ (.string S2)).cell? ⟨gv, i, none⟩ = some (.slice (some ⟨gi, 0, none⟩) c ci)) := Lib.hid ((World.cell?_setCell_other _ _ _ _ (by intro e; injection e with e1; exact HGN.out e1.symm)).trans k1)
              have K2 : Hid ((wr.drew.setCell ⟨gi, k, none⟩ (.string S2)).cell? ⟨gv, p, none⟩ = some (.slice (some ⟨gp, 0, none⟩) c cp)) := Lib.hid ((World.cell?_setCell_other _ _ _ _ (by intro e; injection e with e1; exact HGN.out e1.symm)).trans k2)
              have hbn : Below w.heap.size w (wr.drew.setCell ⟨gi, k, none⟩ (.string S2)) := hbel2.drew.setCell (p := ⟨gi, k, none⟩) hgib _
              go_wp2_with fail
              go_roundw
              case rel => exact ⟨k + 1, hkc, by go_num, Lib.hid (by rw [HNX2.out]; exact HAN.out), K1.out, K2.out, hbn⟩
              case measure => simp [intOf]; omega
            · have HNX2 : Hid (fillRow T0 i (k + 1) = T1) := Lib.hid (by rw [HST.out]; unfold fillStep; rw [HS1.out, if_neg hem])
              have hemB : S1.toList.isEmpty = false := by
                cases hl : S1.toList with
                | nil => exact absurd hl hem
                | cons _ _ => rfl
              clear hem
              go_wp2_with fail
              go_roundw
              case rel => exact ⟨k + 1, hkc, by go_num, Lib.hid (by rw [HNX2.out]; exact HA2.out), k1, k2, hbel2⟩
              case measure => simp [intOf]; omega
          · obtain rfl : k = c := by omega
            go_wp2_with fail
            go_roundw
            case rel => exact ⟨i + 1, by omega, by omega, by go_num, Lib.hid (by rw [Nat.add_sub_cancel, HNX.out]; exact HA2.out), hbel2⟩
            case measure => simp [intOf]; omega
      · have HZ : Hid (i - 1 = t.length - 1) := Lib.hid (by omega)
        go_wp2_with fail
        go_ret
        exact ⟨RetT.mk HA.out.toT.holds (by rw [HZ.out, HT.out]), hbel⟩
  · have fc := neq_tT hc0
    have HT : Hid (fillT t = []) := Lib.hid (if_neg hc0)
    clear hc0
    go_enter Try.func19, Try.ntmps19
    go_wp2_with fail
    refine HC.out.mono ?_
    rintro e w0 ⟨rfl, hb0⟩
    go_wp2_with fail
    go_ret
    exact ⟨RetT.nil HT.out, hb0⟩


end Go.Proofs.Ytampofpllijfhaa
