/-
  Running, Shift, Scale, Zip, Append of the package. Nothing is assumed.
-/
import Derived.Test.YtohooejljbddmaaLsSum1
import Derived.Test.YtohooejljbddmaaLsSel
import Derived.StillTailTactics
import Derived.IntWalk
namespace Go.Proofs.Ytohooejljbddmaa
open Go.RowKit

theorem RowI.kept {w w' : World} {g n : Nat} {l : List Int} {row : Option Nat} (h : RowI w g n l) (hg : w.grownBy w' row) (hr : some g ≠ row) : RowI w' g n l := by
  have hlt := h.lt
  obtain ⟨cur, hh, hr'⟩ := h
  exact ⟨cur, (hg.block g hlt hr).trans hh, hr'⟩
theorem grown_set (w : World) (b o : Nat) (v : Value) : w.grownBy (w.setCell ⟨b, o, none⟩ v) (some b) :=
  ⟨rfl, rfl, rfl, by simp [World.setCell], fun i _ hne => Below.heap_setCell _ _ _ _ (fun e => hne (by rw [e]))⟩

theorem below2 (w : World) (o o' : Obj) : Below w.heap.size w ((w.alloc o).alloc o') := ((Below.refl _ _).alloc (Nat.le_refl _) o).alloc (by simp) o'
set_option maxHeartbeats 400000 in
theorem ifPerm_any (v : Value) (l : List Int) (w : World) (H : Nat) (HO : OwnI w H v l) (hl : l.length ≤ 1000) :
    Calls Try.prog 69 #[v] w fun e w' => RetE H (yes (okL l) l) (rng (okL l)) e w' ∧ w = w' := by
  have HC := Lib.hid (permitted_any v l w _ HO.holds hl)
  have HO' := Lib.hid HO; clear HO
  cases hok : okL l with
  | true =>
    rw [hok] at HC
    clear hok
    go_enter Try.func69, Try.ntmps69
    go_wp2_with fail
    refine HC.out.mono ?_
    rintro e w2 ⟨rfl, rfl⟩
    go_wp2_with fail
    go_ret2
    exact ⟨⟨_, rfl, HO'.out⟩, rfl⟩
  | false =>
    rw [hok] at HC
    clear hok
    go_enter Try.func69, Try.ntmps69
    go_wp2_with fail
    refine HC.out.mono ?_
    rintro e w2 ⟨rfl, rfl⟩
    go_wp2_with fail
    go_ret2
    exact ⟨RetE.none _ _ _, rfl⟩

set_option maxHeartbeats 400000 in
theorem running1_any (z s : Int) (bx : Nat) (w : World) (hc : w.cell? ⟨bx, 0, none⟩ = some (.int .i64 s)) (hf : w.frozen? ⟨bx, 0, none⟩ = false) (h1 : -1000000000 ≤ s) (h2 : s ≤ 1000000000) (h3 : -1000000 ≤ z) (h4 : z ≤ 1000000) :
    Calls Try.prog 66 #[.int .i64 z, .pointer (some ⟨bx, 0, none⟩)] w fun e w' => e = .returned (.int .i64 (s + z)) ∧ w.grownBy w' (some bx) ∧ w'.cell? ⟨bx, 0, none⟩ = some (.int .i64 (s + z)) ∧ w'.frozen? ⟨bx, 0, none⟩ = false := by
  have hself := World.cell?_setCell_same (w := w) (a := ⟨bx, 0, none⟩) (v := .int .i64 (s + z)) hc
  have HF : Hid ((w.setCell ⟨bx, 0, none⟩ (.int .i64 (s + z))).frozen? ⟨bx, 0, none⟩ = false) := Lib.hid (by rw [World.frozen?_setCell]; exact hf)
  have HS := Lib.hid hself
  go_enter Try.func66, Try.ntmps66
  go_wp2_with fail
  go_ret
  exact ⟨rfl, grown_set _ _ _ _, HS.out, HF.out⟩

set_option maxHeartbeats 400000 in
theorem shift1_any (z n : Int) (bx : Nat) (w : World) (hc : w.cell? ⟨bx, 0, none⟩ = some (.int .i64 n)) (h1 : -1000000 ≤ n) (h2 : n ≤ 1000000) (h3 : -1000000 ≤ z) (h4 : z ≤ 1000000) :
    Calls Try.prog 67 #[.int .i64 z, .pointer (some ⟨bx, 0, none⟩)] w fun e w' => e = .returned (.int .i64 (z + n)) ∧ w = w' := by
  go_enter Try.func67, Try.ntmps67
  go_wp2_with fail
  go_ret
  exact ⟨rfl, rfl⟩

theorem mul_bd {a b : Int} (h1 : -1000000 ≤ a) (h2 : a ≤ 1000000) (h3 : -1000000 ≤ b) (h4 : b ≤ 1000000) : -1000000000000 ≤ a * b ∧ a * b ≤ 1000000000000 := by
  have h := Int.natAbs_mul a b
  have ha : a.natAbs ≤ 1000000 := by omega
  have hb : b.natAbs ≤ 1000000 := by omega
  have := Nat.mul_le_mul ha hb
  omega

set_option maxHeartbeats 400000 in
theorem scale1_any (z n : Int) (bx : Nat) (w : World) (hc : w.cell? ⟨bx, 0, none⟩ = some (.int .i64 n)) (h1 : -1000000 ≤ n) (h2 : n ≤ 1000000) (h3 : -1000000 ≤ z) (h4 : z ≤ 1000000) :
    Calls Try.prog 68 #[.int .i64 z, .pointer (some ⟨bx, 0, none⟩)] w fun e w' => e = .returned (.int .i64 (z * n)) ∧ w = w' := by
  have hm : -1000000000000 ≤ z * n ∧ z * n ≤ 1000000000000 := mul_bd h3 h4 h1 h2
  obtain ⟨h5, h6⟩ := hm
  go_enter Try.func68, Try.ntmps68
  go_wp2_with fail
  go_ret
  exact ⟨rfl, rfl⟩

set_option maxRecDepth 100000 in
set_option maxHeartbeats 1600000 in
theorem chR_any (x : Value) (l : List Int) (w : World) (B H bx : Nat) (hx : HoldsI w B x l) (hBH : B ≤ H) (hbx : H ≤ bx) (hbw : bx < w.heap.size) (hl : l.length ≤ 900) (hf : w.frozen? ⟨bx, 0, none⟩ = false) (hc0 : w.cell? ⟨bx, 0, none⟩ = some (.int .i64 0)) :
    Calls Try.prog 65 #[x, .func (.func 66) #[] #[.pointer (some ⟨bx, 0, none⟩)]] w fun e w' => RetE w.heap.size (yes (okL l && okL (runK l l.length)) (runK l l.length)) (rng (okL l && okL (runK l l.length))) e w' ∧ Below H w w' := by
  have HC := Lib.hid (permitted_any x l w _ hx (by omega))
  obtain ⟨oa, ca, rfl, _, _, hel⟩ := hx
  obtain ⟨i0, hi, hz0, hz1, hz2⟩ := info_parts infoInt
  cases hok : okL l with
  | false =>
    rw [hok] at HC
    clear hok hel
    go_enter Try.func65, Try.ntmps65
    go_wp2_with fail
    refine HC.out.mono ?_
    rintro e w2 ⟨rfl, rfl⟩
    go_wp2_with fail
    go_ret2
    exact ⟨RetE.none _ _ _, Below.refl _ _⟩
  | true =>
    have HOK := Lib.hid hok
    have HEL := Lib.hid hel
    rw [hok] at HC
    clear hok hel
    go_enter Try.func65, Try.ntmps65
    go_wp2_with fail
    refine HC.out.mono ?_
    rintro e w2 ⟨rfl, rfl⟩
    go_wp2_with (at_make; refine wpList_make_full _ rfl _ _ 22 rfl w.heap.size 2 i0 _ 1 Try.underlying22 hi hz0 hz1 _ _ _ _ l.length rfl rfl rfl rfl ?b2 ?b3 (Nat.le_refl _) ?_)
    case b2 => rw [hz2]; omega
    case b3 => unfold maxLen; omega
    intro w1 hown hgrow
    have hrow : RowI w1 w.heap.size l.length [] := RowI.made hown
    have hg1 : w.heap.size < w1.heap.size := hrow.lt
    have hbw1 : Below H w w1 := ((Below.refl _ _).grown hgrow (by omega) (fun k h => by cases h))
    have hb0 : Below w.heap.size w w1 := ((Below.refl _ _).grown hgrow (Nat.le_refl _) (fun k h => by cases h))
    have HC0 := Lib.hid (cell_kept hc0 hgrow (by simp))
    have HF0 : Hid (w1.frozen? ⟨bx, 0, none⟩ = false) := Lib.hid (by rw [hb0.frozen (p := ⟨bx, 0, none⟩) hbw]; exact hf)
    clear hown hgrow hc0 hf
    go_wp2_with fail
    go_loopw [17] (fun j wr => ∃ k : Nat, k ≤ l.length ∧ j = .int .i64 k ∧ Hid (RowI wr w.heap.size l.length (runK l k)) ∧ Hid (wr.cell? ⟨bx, 0, none⟩ = some (.int .i64 (sumK l k))) ∧ Hid (wr.frozen? ⟨bx, 0, none⟩ = false) ∧ w.heap.size < wr.heap.size ∧ Below H w wr) (fun j _ => l.length - (intOf j).toNat)
    case atStart => exact ⟨0, Nat.zero_le _, rfl, hrow, HC0, HF0, hg1, hbw1⟩
    case round =>
      obtain ⟨k, hk, rfl, HR, HB, HF, hgr, hbel⟩ := hrel
      have HLN := Lib.hid (runK_len l k)
      clear hrow HC0 hbw1 hb0 HF0
      by_cases hlt : k < l.length
      · obtain ⟨b, off, rfl, hb, hc⟩ := HEL.out k _ (List.getElem?_eq_getElem hlt)
        rw [← hbel.cell (p := ⟨b, _, none⟩) (Nat.lt_of_lt_of_le hb hBH)] at hc
        obtain ⟨h3, h4⟩ := perm_yes (okL_at HOK.out (List.getElem?_eq_getElem hlt))
        have hki0 : (0 : Int) ≤ (k : Int) := by omega
        have hki1 : (k : Int) < (l.length : Int) := by omega
        have HSN := Lib.hid (runK_snoc l k)
        obtain ⟨h5, h6⟩ := sumK_bd l HOK.out k hk
        have HSS := Lib.hid (sumK_succ l k hlt)
        have HCC := Lib.hid (running1_any l[k] (sumK l k) bx wr HB.out HF.out (by omega) (by omega) h3 h4)
        go_wp2_with fail
        refine HCC.out.mono ?_
        rintro e w2 ⟨rfl, hg, hcb, hfb⟩
        have HR2 := Lib.hid (HR.out.kept hg (by intro e; cases e; omega))
        have hb2 := hbel.grown hg (by omega) (fun q hq => by cases hq; exact hbx)
        have hs2 := hg.size
        have HB2 : Hid (w2.cell? ⟨bx, 0, none⟩ = some (.int .i64 (sumK l (k + 1)))) := Lib.hid (by rw [HSS.out]; exact hcb)
        have HF2 := Lib.hid hfb
        clear hg hcb hfb
        obtain ⟨u0, e0, z0⟩ := HR2.out.cell k hlt
        go_wp2_with fail
        refine ⟨⟨k + 1, hlt, by go_num, ?_, ?_, ?_, by rw [size_set]; omega, hb2.setCell (p := ⟨w.heap.size, k, none⟩) (by show H ≤ w.heap.size; omega) _⟩, by simp [intOf]; omega⟩
        · exact HR2.out.step (by rw [HLN.out]; exact hlt) HLN.out.symm _ (by rw [HSN.out, HSS.out])
        · exact Lib.hid ((World.cell?_setCell_other _ _ _ _ (by intro e; injection e; omega)).trans HB2.out)
        · exact Lib.hid (by rw [World.frozen?_setCell]; exact HF2.out)
      · have hkl : k = l.length := by omega
        subst hkl
        have HI := Lib.hid (ifPerm_any _ _ wr w.heap.size (HR.out.own HLN.out (Nat.le_refl _) (by omega)) (by have := HLN.out; omega))
        go_wp2_with fail
        refine HI.out.mono ?_
        rintro e w2 ⟨⟨v, rfl, ho⟩, rfl⟩
        have HO := Lib.hid ho; clear ho
        go_wp2_with fail
        go_ret2
        exact ⟨⟨_, rfl, HO.out⟩, hbel⟩

set_option maxRecDepth 100000 in
set_option maxHeartbeats 1600000 in
theorem chS_any (x : Value) (l : List Int) (w : World) (B H bx : Nat) (hx : HoldsI w B x l) (hBH : B ≤ H) (hbx : H ≤ bx) (hbw : bx < w.heap.size) (hl : l.length ≤ 900) (n : Int) (h1 : -1000000 ≤ n) (h2 : n ≤ 1000000) (hc0 : w.cell? ⟨bx, 0, none⟩ = some (.int .i64 n)) :
    Calls Try.prog 65 #[x, .func (.func 67) #[] #[.pointer (some ⟨bx, 0, none⟩)]] w fun e w' => RetE w.heap.size (yes (okL l && okL (mpK (· + n) l l.length)) (mpK (· + n) l l.length)) (rng (okL l && okL (mpK (· + n) l l.length))) e w' ∧ Below H w w' := by
  have HC := Lib.hid (permitted_any x l w _ hx (by omega))
  obtain ⟨oa, ca, rfl, _, _, hel⟩ := hx
  obtain ⟨i0, hi, hz0, hz1, hz2⟩ := info_parts infoInt
  cases hok : okL l with
  | false =>
    rw [hok] at HC
    clear hok hel
    go_enter Try.func65, Try.ntmps65
    go_wp2_with fail
    refine HC.out.mono ?_
    rintro e w2 ⟨rfl, rfl⟩
    go_wp2_with fail
    go_ret2
    exact ⟨RetE.none _ _ _, Below.refl _ _⟩
  | true =>
    have HOK := Lib.hid hok
    have HEL := Lib.hid hel
    rw [hok] at HC
    clear hok hel
    go_enter Try.func65, Try.ntmps65
    go_wp2_with fail
    refine HC.out.mono ?_
    rintro e w2 ⟨rfl, rfl⟩
    go_wp2_with (at_make; refine wpList_make_full _ rfl _ _ 22 rfl w.heap.size 2 i0 _ 1 Try.underlying22 hi hz0 hz1 _ _ _ _ l.length rfl rfl rfl rfl ?b2 ?b3 (Nat.le_refl _) ?_)
    case b2 => rw [hz2]; omega
    case b3 => unfold maxLen; omega
    intro w1 hown hgrow
    have hrow : RowI w1 w.heap.size l.length [] := RowI.made hown
    have hg1 : w.heap.size < w1.heap.size := hrow.lt
    have hbw1 : Below H w w1 := ((Below.refl _ _).grown hgrow (by omega) (fun k h => by cases h))
    have hb0 : Below w.heap.size w w1 := ((Below.refl _ _).grown hgrow (Nat.le_refl _) (fun k h => by cases h))
    have HC0 := Lib.hid (cell_kept hc0 hgrow (by simp))
    clear hown hgrow hc0
    go_wp2_with fail
    go_loopw [17] (fun j wr => ∃ k : Nat, k ≤ l.length ∧ j = .int .i64 k ∧ Hid (RowI wr w.heap.size l.length (mpK (· + n) l k)) ∧ Hid (wr.cell? ⟨bx, 0, none⟩ = some (.int .i64 (n))) ∧ w.heap.size < wr.heap.size ∧ Below H w wr) (fun j _ => l.length - (intOf j).toNat)
    case atStart => exact ⟨0, Nat.zero_le _, rfl, hrow, HC0, hg1, hbw1⟩
    case round =>
      obtain ⟨k, hk, rfl, HR, HB, hgr, hbel⟩ := hrel
      have HLN := Lib.hid (mpK_at (· + n) l k hk)
      clear hrow HC0 hbw1 hb0
      by_cases hlt : k < l.length
      · obtain ⟨b, off, rfl, hb, hc⟩ := HEL.out k _ (List.getElem?_eq_getElem hlt)
        rw [← hbel.cell (p := ⟨b, _, none⟩) (Nat.lt_of_lt_of_le hb hBH)] at hc
        obtain ⟨h3, h4⟩ := perm_yes (okL_at HOK.out (List.getElem?_eq_getElem hlt))
        have hki0 : (0 : Int) ≤ (k : Int) := by omega
        have hki1 : (k : Int) < (l.length : Int) := by omega
        have HSN := Lib.hid (mpK_snoc (· + n) l k hlt)
        have HCC := Lib.hid (shift1_any l[k] n bx wr HB.out h1 h2 h3 h4)
        go_wp2_with fail
        refine HCC.out.mono ?_
        rintro e w2 ⟨rfl, rfl⟩
        obtain ⟨u0, e0, z0⟩ := HR.out.cell k hlt
        go_wp2_with fail
        refine ⟨⟨k + 1, hlt, by go_num, ?_, ?_, by rw [size_set]; omega, hbel.setCell (p := ⟨w.heap.size, k, none⟩) (by show H ≤ w.heap.size; omega) _⟩, by simp [intOf]; omega⟩
        · exact HR.out.step (by rw [HLN.out]; exact hlt) HLN.out.symm _ (by rw [HSN.out])
        · exact Lib.hid ((World.cell?_setCell_other _ _ _ _ (by intro e; injection e; omega)).trans HB.out)
      · have hkl : k = l.length := by omega
        subst hkl
        have HI := Lib.hid (ifPerm_any _ _ wr w.heap.size (HR.out.own HLN.out (Nat.le_refl _) (by omega)) (by have := HLN.out; omega))
        go_wp2_with fail
        refine HI.out.mono ?_
        rintro e w2 ⟨⟨v, rfl, ho⟩, rfl⟩
        have HO := Lib.hid ho; clear ho
        go_wp2_with fail
        go_ret2
        exact ⟨⟨_, rfl, HO.out⟩, hbel⟩

set_option maxRecDepth 100000 in
set_option maxHeartbeats 1600000 in
theorem chC_any (x : Value) (l : List Int) (w : World) (B H bx : Nat) (hx : HoldsI w B x l) (hBH : B ≤ H) (hbx : H ≤ bx) (hbw : bx < w.heap.size) (hl : l.length ≤ 900) (n : Int) (h1 : -1000000 ≤ n) (h2 : n ≤ 1000000) (hc0 : w.cell? ⟨bx, 0, none⟩ = some (.int .i64 n)) :
    Calls Try.prog 65 #[x, .func (.func 68) #[] #[.pointer (some ⟨bx, 0, none⟩)]] w fun e w' => RetE w.heap.size (yes (okL l && okL (mpK (· * n) l l.length)) (mpK (· * n) l l.length)) (rng (okL l && okL (mpK (· * n) l l.length))) e w' ∧ Below H w w' := by
  have HC := Lib.hid (permitted_any x l w _ hx (by omega))
  obtain ⟨oa, ca, rfl, _, _, hel⟩ := hx
  obtain ⟨i0, hi, hz0, hz1, hz2⟩ := info_parts infoInt
  cases hok : okL l with
  | false =>
    rw [hok] at HC
    clear hok hel
    go_enter Try.func65, Try.ntmps65
    go_wp2_with fail
    refine HC.out.mono ?_
    rintro e w2 ⟨rfl, rfl⟩
    go_wp2_with fail
    go_ret2
    exact ⟨RetE.none _ _ _, Below.refl _ _⟩
  | true =>
    have HOK := Lib.hid hok
    have HEL := Lib.hid hel
    rw [hok] at HC
    clear hok hel
    go_enter Try.func65, Try.ntmps65
    go_wp2_with fail
    refine HC.out.mono ?_
    rintro e w2 ⟨rfl, rfl⟩
    go_wp2_with (at_make; refine wpList_make_full _ rfl _ _ 22 rfl w.heap.size 2 i0 _ 1 Try.underlying22 hi hz0 hz1 _ _ _ _ l.length rfl rfl rfl rfl ?b2 ?b3 (Nat.le_refl _) ?_)
    case b2 => rw [hz2]; omega
    case b3 => unfold maxLen; omega
    intro w1 hown hgrow
    have hrow : RowI w1 w.heap.size l.length [] := RowI.made hown
    have hg1 : w.heap.size < w1.heap.size := hrow.lt
    have hbw1 : Below H w w1 := ((Below.refl _ _).grown hgrow (by omega) (fun k h => by cases h))
    have hb0 : Below w.heap.size w w1 := ((Below.refl _ _).grown hgrow (Nat.le_refl _) (fun k h => by cases h))
    have HC0 := Lib.hid (cell_kept hc0 hgrow (by simp))
    clear hown hgrow hc0
    go_wp2_with fail
    go_loopw [17] (fun j wr => ∃ k : Nat, k ≤ l.length ∧ j = .int .i64 k ∧ Hid (RowI wr w.heap.size l.length (mpK (· * n) l k)) ∧ Hid (wr.cell? ⟨bx, 0, none⟩ = some (.int .i64 (n))) ∧ w.heap.size < wr.heap.size ∧ Below H w wr) (fun j _ => l.length - (intOf j).toNat)
    case atStart => exact ⟨0, Nat.zero_le _, rfl, hrow, HC0, hg1, hbw1⟩
    case round =>
      obtain ⟨k, hk, rfl, HR, HB, hgr, hbel⟩ := hrel
      have HLN := Lib.hid (mpK_at (· * n) l k hk)
      clear hrow HC0 hbw1 hb0
      by_cases hlt : k < l.length
      · obtain ⟨b, off, rfl, hb, hc⟩ := HEL.out k _ (List.getElem?_eq_getElem hlt)
        rw [← hbel.cell (p := ⟨b, _, none⟩) (Nat.lt_of_lt_of_le hb hBH)] at hc
        obtain ⟨h3, h4⟩ := perm_yes (okL_at HOK.out (List.getElem?_eq_getElem hlt))
        have hki0 : (0 : Int) ≤ (k : Int) := by omega
        have hki1 : (k : Int) < (l.length : Int) := by omega
        have HSN := Lib.hid (mpK_snoc (· * n) l k hlt)
        have HCC := Lib.hid (scale1_any l[k] n bx wr HB.out h1 h2 h3 h4)
        go_wp2_with fail
        refine HCC.out.mono ?_
        rintro e w2 ⟨rfl, rfl⟩
        obtain ⟨u0, e0, z0⟩ := HR.out.cell k hlt
        go_wp2_with fail
        refine ⟨⟨k + 1, hlt, by go_num, ?_, ?_, by rw [size_set]; omega, hbel.setCell (p := ⟨w.heap.size, k, none⟩) (by show H ≤ w.heap.size; omega) _⟩, by simp [intOf]; omega⟩
        · exact HR.out.step (by rw [HLN.out]; exact hlt) HLN.out.symm _ (by rw [HSN.out])
        · exact Lib.hid ((World.cell?_setCell_other _ _ _ _ (by intro e; injection e; omega)).trans HB.out)
      · have hkl : k = l.length := by omega
        subst hkl
        have HI := Lib.hid (ifPerm_any _ _ wr w.heap.size (HR.out.own HLN.out (Nat.le_refl _) (by omega)) (by have := HLN.out; omega))
        go_wp2_with fail
        refine HI.out.mono ?_
        rintro e w2 ⟨⟨v, rfl, ho⟩, rfl⟩
        have HO := Lib.hid ho; clear ho
        go_wp2_with fail
        go_ret2
        exact ⟨⟨_, rfl, HO.out⟩, hbel⟩

set_option maxRecDepth 100000 in
set_option maxHeartbeats 800000 in
theorem running_any (x : Value) (l : List Int) (w : World) (B : Nat) (hx : HoldsI w B x l) (hB : B ≤ w.heap.size) (hl : l.length ≤ 900) :
    Calls Try.prog 42 #[x] w fun e w' => RetE w.heap.size (yes (rnB l) (runK l l.length)) (rng (rnB l)) e w' ∧ Below w.heap.size w w' := by
  have hb0 := below1 w (.cells #[.int .i64 0] 2)
  have HC := Lib.hid (chR_any x l (w.alloc (.cells #[.int .i64 0] 2)) B w.heap.size w.heap.size (hx.later (hb0.mono hB)) hB (Nat.le_refl _) (by simp) hl (by simp) (by simp))
  obtain ⟨oa, ca, rfl, _, _, hel⟩ := hx
  clear hel
  go_enter Try.func42, Try.ntmps42
  go_wp2_with fail
  refine HC.out.mono ?_
  rintro e w2 ⟨⟨v, rfl, ho⟩, hb⟩
  have HO := Lib.hid (ho.weak (H' := w.heap.size) (by simp)); clear ho
  go_wp2_with fail
  go_ret2
  exact ⟨⟨_, rfl, HO.out⟩, hb0.trans hb⟩

def shiftB (l : List Int) (n : Int) : Bool := perm n && (okL l && okL (mpK (· + n) l l.length))
set_option maxRecDepth 100000 in
set_option maxHeartbeats 800000 in
theorem shift_any (x : Value) (l : List Int) (n : Int) (w : World) (B : Nat) (hx : HoldsI w B x l) (hB : B ≤ w.heap.size) (hl : l.length ≤ 900) :
    Calls Try.prog 44 #[x, .int .i64 n] w fun e w' => RetE w.heap.size (yes (shiftB l n) (mpK (· + n) l l.length)) (rng (shiftB l n)) e w' ∧ Below w.heap.size w w' := by
  have hb0 := below1 w (.cells #[.int .i64 n] 2)
  have hb1 := below2 w (.cells #[.int .i64 n] 2) (.cells #[.int .i64 n] 2)
  have HP := Lib.hid (permitted_any (.slice (some ⟨w.heap.size + 1, 0, none⟩) 1 1) [n] ((w.alloc (.cells #[.int .i64 n] 2)).alloc (.cells #[.int .i64 n] 2)) (w.heap.size + 2) ⟨_, 1, rfl, Nat.le_refl _, by omega, fun i z hz => by
    match i, hz with
    | 0, hz => cases hz; exact ⟨_, 0, rfl, by omega, by simp⟩
    | i + 1, hz => simp at hz⟩ (by simp))
  have HPE : Hid (okL [n] = perm n) := Lib.hid (by simp [okL])
  rw [HPE.out] at HP
  have HX := Lib.hid hx
  obtain ⟨oa, ca, rfl, _, _, hel⟩ := hx
  clear hel
  cases hp : perm n with
  | false =>
    rw [hp] at HP
    have HE : Hid (shiftB l n = false) := Lib.hid (by unfold shiftB; rw [hp]; rfl)
    clear hp
    go_enter Try.func44, Try.ntmps44
    go_wp2_with fail
    refine HP.out.mono ?_
    rintro e w2 ⟨rfl, rfl⟩
    go_wp2_with fail
    go_ret2
    exact ⟨by rw [HE.out]; exact RetE.none _ _ _, hb1⟩
  | true =>
    rw [hp] at HP
    obtain ⟨h1, h2⟩ := perm_yes hp
    have HE : Hid (shiftB l n = (okL l && okL (mpK (· + n) l l.length))) := Lib.hid (by unfold shiftB; rw [hp]; rfl)
    clear hp
    have HC := Lib.hid (chS_any (.slice oa l.length ca) l ((w.alloc (.cells #[.int .i64 n] 2)).alloc (.cells #[.int .i64 n] 2)) B w.heap.size w.heap.size (HX.out.later (hb1.mono hB)) hB (Nat.le_refl _) (by simp; omega) hl n h1 h2 (by simp))
    go_enter Try.func44, Try.ntmps44
    go_wp2_with fail
    refine HP.out.mono ?_
    rintro e w2 ⟨rfl, rfl⟩
    go_wp2_with fail
    refine HC.out.mono ?_
    rintro e w2 ⟨⟨v, rfl, ho⟩, hb⟩
    have HO := Lib.hid (ho.weak (H' := w.heap.size) (by simp; omega)); clear ho
    go_wp2_with fail
    go_ret2
    exact ⟨by rw [HE.out]; exact ⟨_, rfl, HO.out⟩, hb1.trans hb⟩

def scaleB (l : List Int) (n : Int) : Bool := perm n && (okL l && okL (mpK (· * n) l l.length))
set_option maxRecDepth 100000 in
set_option maxHeartbeats 800000 in
theorem scale_any (x : Value) (l : List Int) (n : Int) (w : World) (B : Nat) (hx : HoldsI w B x l) (hB : B ≤ w.heap.size) (hl : l.length ≤ 900) :
    Calls Try.prog 46 #[x, .int .i64 n] w fun e w' => RetE w.heap.size (yes (scaleB l n) (mpK (· * n) l l.length)) (rng (scaleB l n)) e w' ∧ Below w.heap.size w w' := by
  have hb0 := below1 w (.cells #[.int .i64 n] 2)
  have hb1 := below2 w (.cells #[.int .i64 n] 2) (.cells #[.int .i64 n] 2)
  have HP := Lib.hid (permitted_any (.slice (some ⟨w.heap.size + 1, 0, none⟩) 1 1) [n] ((w.alloc (.cells #[.int .i64 n] 2)).alloc (.cells #[.int .i64 n] 2)) (w.heap.size + 2) ⟨_, 1, rfl, Nat.le_refl _, by omega, fun i z hz => by
    match i, hz with
    | 0, hz => cases hz; exact ⟨_, 0, rfl, by omega, by simp⟩
    | i + 1, hz => simp at hz⟩ (by simp))
  have HPE : Hid (okL [n] = perm n) := Lib.hid (by simp [okL])
  rw [HPE.out] at HP
  have HX := Lib.hid hx
  obtain ⟨oa, ca, rfl, _, _, hel⟩ := hx
  clear hel
  cases hp : perm n with
  | false =>
    rw [hp] at HP
    have HE : Hid (scaleB l n = false) := Lib.hid (by unfold scaleB; rw [hp]; rfl)
    clear hp
    go_enter Try.func46, Try.ntmps46
    go_wp2_with fail
    refine HP.out.mono ?_
    rintro e w2 ⟨rfl, rfl⟩
    go_wp2_with fail
    go_ret2
    exact ⟨by rw [HE.out]; exact RetE.none _ _ _, hb1⟩
  | true =>
    rw [hp] at HP
    obtain ⟨h1, h2⟩ := perm_yes hp
    have HE : Hid (scaleB l n = (okL l && okL (mpK (· * n) l l.length))) := Lib.hid (by unfold scaleB; rw [hp]; rfl)
    clear hp
    have HC := Lib.hid (chC_any (.slice oa l.length ca) l ((w.alloc (.cells #[.int .i64 n] 2)).alloc (.cells #[.int .i64 n] 2)) B w.heap.size w.heap.size (HX.out.later (hb1.mono hB)) hB (Nat.le_refl _) (by simp; omega) hl n h1 h2 (by simp))
    go_enter Try.func46, Try.ntmps46
    go_wp2_with fail
    refine HP.out.mono ?_
    rintro e w2 ⟨rfl, rfl⟩
    go_wp2_with fail
    refine HC.out.mono ?_
    rintro e w2 ⟨⟨v, rfl, ho⟩, hb⟩
    have HO := Lib.hid (ho.weak (H' := w.heap.size) (by simp; omega)); clear ho
    go_wp2_with fail
    go_ret2
    exact ⟨by rw [HE.out]; exact ⟨_, rfl, HO.out⟩, hb1.trans hb⟩

def apE (a b : List Int) : Int := if a.length + b.length ≤ 16 then 0 else 2
def apL (a b : List Int) : List Int := if a.length + b.length ≤ 16 then a ++ b else []
set_option maxRecDepth 100000 in
set_option maxHeartbeats 800000 in
theorem append_any (x y : Value) (l m : List Int) (w : World) (B : Nat) (hx : HoldsI w B x l) (hy : HoldsI w B y m) (hB : B ≤ w.heap.size) (hl : l.length ≤ 900) (hm : m.length ≤ 900) :
    Calls Try.prog 50 #[x, y] w fun e w' => RetE w.heap.size (apL l m) (apE l m) e w' ∧ Below w.heap.size w w' := by
  have HD := Lib.hid (duplicate_any x l w B hx hB (by omega))
  have HY := Lib.hid hy
  obtain ⟨oa, ca, rfl, _, _, hel⟩ := hx
  obtain ⟨ob, cb, rfl, _, _, hem⟩ := hy
  clear hel hem
  by_cases hlen : l.length + m.length ≤ 16
  · have HE : Hid (apL l m = l ++ m ∧ apE l m = 0) := Lib.hid (by unfold apL apE; rw [if_pos hlen, if_pos hlen]; exact ⟨rfl, rfl⟩)
    have hle : (l.length : Int) + (m.length : Int) ≤ 16 := by omega
    go_enter Try.func50, Try.ntmps50
    go_wp2_with fail
    refine HD.out.mono ?_
    rintro e w1 ⟨⟨g, rfl, hg, ho⟩, hb⟩
    have HO := Lib.hid (Own1.own (n := l.length) ho hg rfl (by omega))
    have HY2 := Lib.hid (HY.out.later (hb.mono hB))
    have hsz := hb.size
    clear ho
    go_wp2_with (at_builtin; refine append_src rfl _ _ rfl w.heap.size _ _ rfl HO.out ob m.length cb rfl m rfl HY2.out.src ?c1 ?c2 ?_)
    case c1 => omega
    case c2 => omega
    intro v2 w2 hown hgr
    have hb2 := below_grown hb hsz HO.out hgr
    have HO2 := Lib.hid hown
    clear hown hgr
    go_wp2_with fail
    go_ret2
    exact ⟨RetE.mk HO2.out HE.out.1.symm HE.out.2.symm, hb2⟩
  · have HE : Hid (apL l m = [] ∧ apE l m = 2) := Lib.hid (by unfold apL apE; rw [if_neg hlen, if_neg hlen]; exact ⟨rfl, rfl⟩)
    have hle : 16 < (l.length : Int) + (m.length : Int) := by omega
    go_enter Try.func50, Try.ntmps50
    go_wp2_with fail
    go_ret2
    exact ⟨RetE.mk (OwnI.none _ _) HE.out.1.symm HE.out.2.symm, Below.refl _ _⟩

end Go.Proofs.Ytohooejljbddmaa
