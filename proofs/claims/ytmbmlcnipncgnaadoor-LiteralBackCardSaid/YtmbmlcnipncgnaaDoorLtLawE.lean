/-
  smalls, same; the walk of LiteralBack. Nothing is assumed but the tables of the shelf.
-/
import Derived.Test.YtmbmlcnipncgnaaDoorLtAwake
import Derived.Test.YtmbmlcnipncgnaaDoorLtBack2
import Derived.Test.YtmbmlcnipncgnaaDoorLtSmall
import Derived.StillTailTactics
import Derived.Deep.RegionHeld3
import Derived.Deep.DeepCutAuto
namespace Go.Proofs.YtmbmlcnipncgnaaDoor
open Go.RowKit

/-- Block p holds a value. -/
def Box (w : World) (p : Nat) (v : V) (sl : Value) : Prop :=
  w.cell? ⟨p, 0, none⟩ = some (.int .i64 v.t) ∧ w.cell? ⟨p, 1, none⟩ = some (.int .i64 v.n) ∧ w.cell? ⟨p, 2, none⟩ = some (.string v.s) ∧ w.cell? ⟨p, 3, none⟩ = some sl
theorem Box.later {w w' : World} {B p : Nat} {v : V} {sl : Value} (h : Box w p v sl) (hb : Below B w w') (hp : p < B) : Box w' p v sl := by
  obtain ⟨h0, h1, h2, h3⟩ := h
  have f := fun i => hb.cell (p := ⟨p, i, none⟩) hp
  exact ⟨(f 0).trans h0, (f 1).trans h1, (f 2).trans h2, (f 3).trans h3⟩
def SmB (l : List V) (e : Ending) : Prop := ∃ z, e = .returned (.bool z) ∧ (z = true → l.length ≤ 30)
set_option maxRecDepth 100000 in
set_option maxHeartbeats 1600000 in
theorem smalls_any (l : List V) (sl : Value) (w : World) (B : Nat) (hR : Rep w B sl l) (hB : B ≤ w.heap.size) :
    Calls Tryd.prog 9 #[sl] w fun e w' => SmB l e ∧ Below w.heap.size w w' := by
  obtain ⟨oa, cap, rfl, hlc, hm, hel⟩ := hR.slice
  by_cases h30 : 30 < (l.length : Int)
  · clear hel
    go_enter Tryd.func9, Tryd.ntmps9
    go_wp2_with fail
    go_ret
    exact ⟨⟨false, rfl, fun h => by cases h⟩, Below.refl _ _⟩
  · have HEL := Lib.hid hel
    clear hel
    go_enter Tryd.func9, Tryd.ntmps9
    go_wp2_with fail
    go_loopw [3] (fun i wr => ∃ (k : Nat), k ≤ l.length ∧ i = .int .i64 k ∧ Below w.heap.size w wr) (fun i _ => l.length - (intOf i).toNat)
    case atStart => exact ⟨0, Nat.zero_le _, rfl, Below.refl _ _⟩
    case round =>
      obtain ⟨k, hk, rfl, hbel⟩ := hrel
      by_cases hlt : k < l.length
      · obtain ⟨b, off, oe, ce, rfl, hb, h0, h1, h2, h3, hr⟩ := HEL.out k _ (List.getElem?_eq_getElem hlt)
        rw [← hbel.cell (p := ⟨b, _, none⟩) (Nat.lt_of_lt_of_le hb hB)] at h0 h1 h2 h3
        have hs := hbel.size
        have HI := Lib.hid (small_some l[k] _ wr B 5 (hr.later (hbel.mono hB)) (by omega) (by decide))
        go_wp2_with fail
        refine HI.out.mono ?_
        rintro e w1 ⟨⟨y, rfl⟩, hb1⟩
        clear HI
        cases y
        · go_wp2_with fail
          go_ret
          exact ⟨⟨false, rfl, fun h => by cases h⟩, hbel.trans (hb1.mono hs)⟩
        · go_wp2_with fail
          go_roundw
          case rel => exact ⟨k + 1, hlt, by go_num, hbel.trans (hb1.mono hs)⟩
          case measure => simp [intOf]; omega
      · go_wp2_with fail
        go_ret
        exact ⟨⟨true, rfl, fun _ => by omega⟩, hbel⟩

set_option maxRecDepth 100000 in
set_option maxHeartbeats 1600000 in
theorem sames_any (l : List V) (sa sb : Value) (w : World) (B : Nat) (hra : Rep w B sa l) (hrb : Rep w B sb l) (hB : B ≤ w.heap.size) :
    Calls Tryd.prog 14 #[sa, sb] w fun e w' => e = .returned (.bool true) ∧ Below w.heap.size w w' := by
  obtain ⟨oa, ca, rfl, hlc, hm, hel⟩ := hra.slice
  obtain ⟨ob, cb, rfl, hlc', hm', hel'⟩ := hrb.slice
  go_enter Tryd.func14, Tryd.ntmps14
  go_wp2_with fail
  go_loopw [5] (fun i wr => ∃ k : Nat, k ≤ l.length ∧ i = .int .i64 k ∧ Below w.heap.size w wr) (fun i _ => l.length - (intOf i).toNat)
  case atStart => exact ⟨0, Nat.zero_le _, rfl, Below.refl _ _⟩
  case round =>
    obtain ⟨k, hk, rfl, hbel⟩ := hrel
    by_cases hlt : k < l.length
    · obtain ⟨b, off, oe, ce, rfl, hb, h0, h1, h2, h3, hr⟩ := hel k _ (List.getElem?_eq_getElem hlt)
      rw [← hbel.cell (p := ⟨b, _, none⟩) (Nat.lt_of_lt_of_le hb hB)] at h0 h1 h2 h3
      have hs := hbel.size
      obtain ⟨b', off', oe', ce', rfl, hb', g0, g1, g2, g3, hr'⟩ := hel' k _ (List.getElem?_eq_getElem hlt)
      rw [← hbel.cell (p := ⟨b', _, none⟩) (Nat.lt_of_lt_of_le hb' hB)] at g0 g1 g2 g3
      clear hel hel'
      have hz1 : (k : Int) < (l.length : Int) := by omega
      have HX := fun (w1 : World) (q1 : Rep w1 B (.slice oe l[k].l.length ce) l[k].l) (q2 : Rep w1 B (.slice oe' l[k].l.length ce') l[k].l) (q3 : B ≤ w1.heap.size) => Lib.hid (refEqual_any l[k] l[k] (.slice oe l[k].l.length ce) (.slice oe' l[k].l.length ce') w1 B q1 q2 q3)
      rw [eqb_self] at HX
      have HEQ := Lib.hid HX; clear HX
      go_wp2_with fail
      go_still_tail 8, (by kernel_rfl)
      change wpList _ _ _ _ _ wr.drew
      have hbw := hbel.drew
      have hsw : wr.drew.heap.size = wr.heap.size := rfl
      clear h0 h1 h2 h3 g0 g1 g2 g3
      go_wp2_with fail
      refine (HEQ.out _ (hr.later (hbw.mono hB)) (hr'.later (hbw.mono hB)) (by omega)).out.mono ?_
      rintro e w1 ⟨rfl, hb1⟩
      have hb2 : Below w.heap.size w w1 := hbw.trans (hb1.mono (by omega))
      clear hsw
      go_wp2_with fail
      go_roundw
      case rel => exact ⟨k + 1, hlt, by go_num, hb2⟩
      case measure => simp [intOf]; omega
    · clear hel hel'
      go_wp2_with fail
      go_ret
      exact ⟨rfl, hbel⟩

set_option maxRecDepth 100000 in
set_option maxHeartbeats 6400000 in
theorem back_any (l : List V) (sl : Value) (s : ByteArray) (w : World) (B : Nat) (hR : Rep w B sl l) (hB : B ≤ w.heap.size) (hT : TabsB w.heap.size w) :
    Calls Tryd.prog 4 #[sl, .string s] w fun e w' => e = .returned (.bool true) ∧ Below w.heap.size w w' := by
  have HT := Lib.hid hT
  clear hT
  have HS := Lib.hid (smalls_any l sl w B hR hB)
  have HR := Lib.hid hR
  obtain ⟨oa, cap, rfl, hlc, hm, -⟩ := hR.slice
  clear hR
  have hA0 : ∀ w1, Below w.heap.size w w1 → Calls Tryd.prog 6 #[] w1 fun e w' => e = .returned (.bool true) ∧ Below w1.heap.size w1 w' := fun w1 h => awake_any w1 (HT.out.up h h.size)
  have HA := Lib.hid hA0; clear hA0
  go_enter Tryd.func4, Tryd.ntmps4
  go_wp2_with fail
  refine HS.out.mono ?_
  rintro e w1 ⟨⟨z, rfl, hz⟩, hb1⟩
  cases z
  · clear hz
    go_wp2_with fail
    refine (HA.out _ hb1).mono ?_
    rintro e w2 ⟨rfl, hb2⟩
    go_wp2_with fail
    go_ret
    exact ⟨rfl, hb1.trans (hb2.mono hb1.size)⟩
  have h30 := hz rfl
  clear hz
  by_cases h2 : (l.length : Int) < 2
  · go_wp2_with fail
    refine (HA.out _ hb1).mono ?_
    rintro e w2 ⟨rfl, hb2⟩
    go_wp2_with fail
    go_ret
    exact ⟨rfl, hb1.trans (hb2.mono hb1.size)⟩
  by_cases h3 : 1000 < (s.size : Int)
  · go_wp2_with fail
    refine (HA.out _ hb1).mono ?_
    rintro e w2 ⟨rfl, hb2⟩
    go_wp2_with fail
    go_ret
    exact ⟨rfl, hb1.trans (hb2.mono hb1.size)⟩
  obtain ⟨v, u, r, hl⟩ : ∃ v u r, l = v :: u :: r := by
    match l, h2 with
    | [], h2 => simp at h2
    | [x], h2 => simp at h2
    | v :: u :: r, _ => exact ⟨v, u, r, rfl⟩
  have HR1 := Lib.hid (HR.out.later (hb1.mono hB))
  obtain ⟨oa', cap', he, _, _, hel⟩ := HR1.out.slice
  cases he
  obtain ⟨b, off, oe, ce, rfl, hb, c0, c1, c2, c3, hr⟩ := hel 0 v (by rw [hl]; rfl)
  obtain ⟨b', off', oe', ce', he, _, g0, g1, g2, g3, hr'⟩ := hel 1 u (by rw [hl]; rfl)
  cases he
  simp only [Nat.zero_mul, Nat.one_mul, Nat.add_zero] at c0 c1 c2 c3 g0 g1 g2 g3
  have HRV := Lib.hid hr
  have HRU := Lib.hid hr'
  have HL := Lib.hid hl
  have hlen : (2 : Int) ≤ (l.length : Int) := by omega
  have hlen0 : (0 : Int) < (l.length : Int) := by omega
  have hlen1 : (1 : Int) < (l.length : Int) := by omega
  clear hel hr hr' hl
  have n0 := World.new_ne w1 _ c0
  have n1 := World.new_ne w1 _ g0
  have hlenN0 : 0 < l.length := by omega
  have hlenN1 : 1 < l.length := by omega
  go_upto_region 3 with fail
  go_cut [5, 6] (fun s5 s6 wx => ∃ pv pu : Nat, s5 = .pointer (some ⟨pv, 0, none⟩) ∧ s6 = .pointer (some ⟨pu, 0, none⟩) ∧ Hid (Box wx pv v (.slice oe v.l.length ce)) ∧ Hid (Box wx pu u (.slice oe' u.l.length ce')) ∧ pv < wx.heap.size ∧ pu < wx.heap.size ∧ Below w1.heap.size w1 wx)
  case first =>
    go_region_held3 (fun w' => w'.cell? ⟨b, off, none⟩ = some (.int .i64 v.t) ∧ w'.cell? ⟨b, off + 1, none⟩ = some (.int .i64 v.n) ∧ w'.cell? ⟨b, off + 2, none⟩ = some (.string v.s) ∧ w'.cell? ⟨b, off + 3, none⟩ = some (.slice oe v.l.length ce) ∧ w'.cell? ⟨b, off + 4, none⟩ = some (.int .i64 u.t) ∧ w'.cell? ⟨b, off + 4 + 1, none⟩ = some (.int .i64 u.n) ∧ w'.cell? ⟨b, off + 4 + 2, none⟩ = some (.string u.s) ∧ w'.cell? ⟨b, off + 4 + 3, none⟩ = some (.slice oe' u.l.length ce')) (go_keep) (fail)
    all_goals (go_wp2_with fail; go_meet; first | exact ⟨w1.heap.size, w1.heap.size + 1, rfl, rfl, ⟨by simp, by simp, by simp, by simp⟩, ⟨by simp, by simp, by simp, by simp⟩, by simp; omega, by simp, (below2 _ _ _).drew⟩ | exact ⟨w1.heap.size + 1, w1.heap.size, rfl, rfl, ⟨by simp, by simp, by simp, by simp⟩, ⟨by simp, by simp, by simp, by simp⟩, by simp, by simp; omega, (below2 _ _ _).drew⟩)
  case rest =>
    obtain ⟨pv, pu, rfl, rfl, HBV, HBU, hpv, hpu, hbc⟩ := hcut
    have hB1 := hb1.trans (hbc.mono hb1.size)
    have HRV1 := Lib.hid (HRV.out.later (hbc.mono (Nat.le_trans hB hb1.size)))
    have HRU1 := Lib.hid (HRU.out.later (hbc.mono (Nat.le_trans hB hb1.size)))
    have hBw := Nat.le_trans hB hB1.size
    have HP := Lib.hid (print_v v _ wc B HRV1.out hBw (HT.out.up hB1 hB1.size))
    obtain ⟨S1, z1, hSz⟩ : ∃ (S : ByteArray) (z : Int), S = str (printL v).1 ∧ z = (printL v).2 := ⟨_, _, rfl, rfl⟩
    have HPE : ∀ e, RetS (printL v) e ↔ e = .returned (.tuple #[.string S1, .int .i64 z1]) := fun e => by rw [hSz.1, hSz.2]; exact Iff.rfl
    simp only [HPE] at HP
    have HS1 := Lib.hid hSz
    clear hSz HPE c0 c1 c2 c3 g0 g1 g2 g3 n0 n1 hbc
    obtain ⟨k0, k1, k2, k3⟩ := HBV.out
    go_wp2_with fail
    refine HP.out.mono ?_
    rintro e w2 ⟨rfl, hb2⟩
    have HBV2 := Lib.hid (HBV.out.later hb2 hpv)
    have HBU2 := Lib.hid (HBU.out.later hb2 hpu)
    have hs2 := hb2.size
    have HRV2 := Lib.hid (HRV1.out.later (hb2.mono hBw))
    have HRU2 := Lib.hid (HRU1.out.later (hb2.mono hBw))
    have hB2 := hB1.trans (hb2.mono hB1.size)
    have hBw2 := Nat.le_trans hB hB2.size
    have HQ := Lib.hid (print_v u _ w2 B HRU2.out hBw2 (HT.out.up hB2 hB2.size))
    obtain ⟨S2, z2, hSz⟩ : ∃ (S : ByteArray) (z : Int), S = str (printL u).1 ∧ z = (printL u).2 := ⟨_, _, rfl, rfl⟩
    have HPE : ∀ e, RetS (printL u) e ↔ e = .returned (.tuple #[.string S2, .int .i64 z2]) := fun e => by rw [hSz.1, hSz.2]; exact Iff.rfl
    simp only [HPE] at HQ
    have HS2 := Lib.hid hSz
    clear hSz HPE k0 k1 k2 k3 HP hb2 HBV HBU HRV1 HRU1 hB1 hBw
    obtain ⟨k0, k1, k2, k3⟩ := HBU2.out
    go_wp2_with fail
    refine HQ.out.mono ?_
    rintro e w3 ⟨rfl, hb3⟩
    have HBV3 := Lib.hid (HBV2.out.later (hb3.mono hs2) hpv)
    have HBU3 := Lib.hid (HBU2.out.later (hb3.mono hs2) hpu)
    have hs3 := hb3.size
    have HRV3 := Lib.hid (HRV2.out.later (hb3.mono hBw2))
    have HRU3 := Lib.hid (HRU2.out.later (hb3.mono hBw2))
    have hB3 := hB2.trans (hb3.mono hB2.size)
    have hBw3 := Nat.le_trans hB hB3.size
    clear k0 k1 k2 k3 HQ hb3 HBV2 HBU2 HRV2 HRU2 hB2 hBw2
    by_cases hcv : v.chk = 0
    · have hz1 : z1 = 0 := by rw [HS1.out.2]; unfold printL; rw [if_pos hcv]
      have hS1 : S1 = str v.lit := by rw [HS1.out.1]; unfold printL; rw [if_pos hcv]
      subst hz1
      have HC := Lib.hid hcv
      have hsz1 : S1.size ≤ 1000000 := by have := lit_len hcv; rw [hS1, str_size]; omega
      have HPP := Lib.hid (parse_any S1 w3 hsz1)
      rw [hS1, str_list, (parse_lit hcv).2, ← hS1] at HPP
      have HS1' := Lib.hid hS1
      clear hcv hS1 hsz1
      go_wp2_with fail
      refine HPP.out.mono ?_
      rintro e w4 ⟨⟨ox, cx, rfl, hRX⟩, hb4⟩
      have HRX := Lib.hid (hRX.rep (B := w4.heap.size) (fun b hb => hb.2))
      have hb5 := below1 w4 (.cells #[.int .i64 v.t, .int .i64 v.n, .string v.s, .slice ox v.l.length cx] 24)
      have hs4 := hb4.size
      have HBV4 := Lib.hid ((HBV3.out.later (hb4.mono (show pv + 1 ≤ w3.heap.size by omega)) (by omega)).later (hb5.mono (show pv + 1 ≤ w4.heap.size by omega)) (by omega))
      have HBU4 := Lib.hid ((HBU3.out.later (hb4.mono (show pu + 1 ≤ w3.heap.size by omega)) (by omega)).later (hb5.mono (show pu + 1 ≤ w4.heap.size by omega)) (by omega))
      have HRV4 := Lib.hid ((HRV3.out.later (hb4.mono hBw3)).later (hb5.mono (Nat.le_trans hBw3 hs4)))
      have HRU4 := Lib.hid ((HRU3.out.later (hb4.mono hBw3)).later (hb5.mono (Nat.le_trans hBw3 hs4)))
      have HRX5 := Lib.hid (HRX.out.later hb5)
      have hB4 := hB3.trans (hb4.mono hB3.size)
      have hB5 := hB4.trans (hb5.mono hB4.size)
      have HEQ := Lib.hid (refEqual_any v v (.slice ox v.l.length cx) (.slice oe v.l.length ce) (w4.alloc (.cells #[.int .i64 v.t, .int .i64 v.n, .string v.s, .slice ox v.l.length cx] 24)) w4.heap.size HRX5.out (HRV4.out.mono (Nat.le_trans hBw3 hs4)) (by simp))
      rw [eqb_self] at HEQ
      clear hRX HPP HRV3 HRU3 HBV3 HBU3 HRX HRX5 hb4 hB3
      obtain ⟨k0, k1, k2, k3⟩ := HBV4.out
      go_wp2_with fail
      refine HEQ.out.mono ?_
      rintro e w6 ⟨rfl, hb6⟩
      have hsb : w4.heap.size + 1 ≤ (w4.alloc (.cells #[.int .i64 v.t, .int .i64 v.n, .string v.s, .slice ox v.l.length cx] 24)).heap.size := by simp
      have HBV6 := Lib.hid (HBV4.out.later (hb6.mono hsb) (by omega))
      have HBU6 := Lib.hid (HBU4.out.later (hb6.mono hsb) (by omega))
      have HRV6 := Lib.hid (HRV4.out.later (hb6.mono (by simp; omega)))
      have HRU6 := Lib.hid (HRU4.out.later (hb6.mono (by simp; omega)))
      have hB6 := hB5.trans (hb6.mono hB5.size)
      have hBw6 := Nat.le_trans hB hB6.size
      clear k0 k1 k2 k3 HEQ HBV4 HBU4 HRV4 HRU4 hb6 hB5 hB4 hb5 hsb
      by_cases hcu : u.chk = 0
      · have hz2 : z2 = 0 := by rw [HS2.out.2]; unfold printL; rw [if_pos hcu]
        have hS2 : S2 = str u.lit := by rw [HS2.out.1]; unfold printL; rw [if_pos hcu]
        subst hz2
        have hstr : (S1.toList == S2.toList) = v.eqb u := by rw [HS1'.out, hS2]; exact lit_eqb HC.out hcu
        have HEQ := Lib.hid (refEqual_any v u (.slice oe v.l.length ce) (.slice oe' u.l.length ce') w6 B HRV6.out HRU6.out hBw6)
        generalize v.eqb u = q at hstr HEQ
        obtain ⟨k0, k1, k2, k3⟩ := HBV6.out
        obtain ⟨j0, j1, j2, j3⟩ := HBU6.out
        clear hcu hS2 HBV6 HBU6 HRV6 HRU6
        go_wp2_with fail
        refine HEQ.out.mono ?_
        rintro e w7 ⟨rfl, hb7⟩
        have hB7 := hB6.trans (hb7.mono hB6.size)
        clear k0 k1 k2 k3 j0 j1 j2 j3 HEQ hb7 hB6 hBw6
        have HRL := Lib.hid (HR.out.later (hB7.mono hB))
        have hBw7 := Nat.le_trans hB hB7.size
        have HPA := Lib.hid (printAll_any l _ w7 B HRL.out hBw7 (HT.out.up hB7 hB7.size) (by omega))
        obtain ⟨S3, z3, hSz⟩ : ∃ (S : ByteArray) (z : Int), S = str (printAllL l).1 ∧ z = (printAllL l).2 := ⟨_, _, rfl, rfl⟩
        have HPE : ∀ e, RetS (printAllL l) e ↔ e = .returned (.tuple #[.string S3, .int .i64 z3]) := fun e => by rw [hSz.1, hSz.2]; exact Iff.rfl
        simp only [HPE] at HPA
        have HS3 := Lib.hid hSz
        clear hSz HPE HRL
        go_wp2_with fail
        refine HPA.out.mono ?_
        rintro e w8 ⟨rfl, hb8⟩
        have hB8 := hB7.trans (hb8.mono hB7.size)
        clear HPA hb8 hBw7 hB7
        by_cases hfe : firstErr l = 0
        · have hall := firstErr_ok l hfe
          have hz3 : z3 = 0 := by rw [HS3.out.2]; unfold printAllL; rw [if_pos hfe]
          have hS3 : S3 = str (V.lits l) := by rw [HS3.out.1]; unfold printAllL; rw [if_pos hfe]
          subst hz3
          have hsz3 : S3.size ≤ 1000000 := by have := lits_short hall h30; rw [hS3, str_size]; omega
          have HPP := Lib.hid (parseAll_any S3 w8 hsz3)
          rw [hS3, str_list, parseAll_lits hall, ← hS3] at HPP
          clear hS3 hsz3 hall hfe
          go_wp2_with fail
          refine HPP.out.mono ?_
          rintro e w9 ⟨⟨ox, cx, rfl, hRX⟩, hb9⟩
          have HRX := Lib.hid (hRX.rep (B := w9.heap.size) (fun b hb => hb.2))
          have hB9 := hB8.trans (hb9.mono hB8.size)
          have HSA := Lib.hid (sames_any l _ _ w9 w9.heap.size HRX.out ((HR.out.later (hB9.mono hB)).mono (Nat.le_trans hB hB9.size)) (Nat.le_refl _))
          clear hRX HRX HPP hb9 hB8
          go_wp2_with fail
          refine HSA.out.mono ?_
          rintro e w10 ⟨rfl, hb10⟩
          have hB10 := hB9.trans (hb10.mono hB9.size)
          clear HSA hb10 hB9
          have HQU := Lib.hid (quote_any s w10 (by omega) (fun wr hb => (HT.out.up hB10 hB10.size wr hb).1))
          have hql : (str (quoteL s.data.toList)).size ≤ 1000000 := by have := quoteL_len s.data.toList; rw [str_size]; rw [lt_len] at this; omega
          have HUN := fun w => Lib.hid (unquote_any (str (quoteL s.data.toList)) w hql)
          have hun : unquoteL (str (quoteL s.data.toList)).data.toList = (s.data.toList, 0, 0) := by
            rw [str_list]
            unfold unquoteL
            rw [unquote_quote _ _ (by rw [lt_len]; omega)]
            exact if_pos rfl
          rw [hun] at HUN
          unfold RetU at HUN
          rw [show str (s.data.toList, 0, (0 : Int)).1 = s from str_of s] at HUN
          clear hun hql
          generalize str (quoteL s.data.toList) = S4 at *
          go_wp2_with fail
          refine HQU.out.mono ?_
          rintro e w11 ⟨rfl, hb11⟩
          have hB11 := hB10.trans (hb11.mono hB10.size)
          clear HQU hb11
          go_wp2_with fail
          refine (HUN w11).out.mono ?_
          rintro e w12 ⟨rfl, hb12⟩
          have hB12 := hB11.trans (hb12.mono hB11.size)
          clear HUN hb12
          go_wp2_with fail
          refine (HA.out _ hB12).mono ?_
          rintro e w13 ⟨rfl, hb13⟩
          go_wp2_with fail
          go_ret
          exact ⟨rfl, hB12.trans (hb13.mono hB12.size)⟩
        · have hz3 : (z3 == 0) = false := by rw [HS3.out.2]; unfold printAllL; rw [if_neg hfe]; exact beq_eq_false_iff_ne.2 hfe
          have hB10 := hB8
          clear hfe hB8
          have HQU := Lib.hid (quote_any s w8 (by omega) (fun wr hb => (HT.out.up hB10 hB10.size wr hb).1))
          have hql : (str (quoteL s.data.toList)).size ≤ 1000000 := by have := quoteL_len s.data.toList; rw [str_size]; rw [lt_len] at this; omega
          have HUN := fun w => Lib.hid (unquote_any (str (quoteL s.data.toList)) w hql)
          have hun : unquoteL (str (quoteL s.data.toList)).data.toList = (s.data.toList, 0, 0) := by
            rw [str_list]
            unfold unquoteL
            rw [unquote_quote _ _ (by rw [lt_len]; omega)]
            exact if_pos rfl
          rw [hun] at HUN
          unfold RetU at HUN
          rw [show str (s.data.toList, 0, (0 : Int)).1 = s from str_of s] at HUN
          clear hun hql
          generalize str (quoteL s.data.toList) = S4 at *
          go_wp2_with fail
          refine HQU.out.mono ?_
          rintro e w11 ⟨rfl, hb11⟩
          have hB11 := hB10.trans (hb11.mono hB10.size)
          clear HQU hb11
          go_wp2_with fail
          refine (HUN w11).out.mono ?_
          rintro e w12 ⟨rfl, hb12⟩
          have hB12 := hB11.trans (hb12.mono hB11.size)
          clear HUN hb12
          go_wp2_with fail
          refine (HA.out _ hB12).mono ?_
          rintro e w13 ⟨rfl, hb13⟩
          go_wp2_with fail
          go_ret
          exact ⟨rfl, hB12.trans (hb13.mono hB12.size)⟩
      · have hz2 : (z2 == 0) = false := by rw [HS2.out.2]; unfold printL; rw [if_neg hcu]; exact beq_eq_false_iff_ne.2 hcu
        have HZ2 := Lib.hid hcu
        have hB7 := hB6
        clear hcu HBV6 HBU6 HRV6 HRU6 hB6 hBw6
        have HRL := Lib.hid (HR.out.later (hB7.mono hB))
        have hBw7 := Nat.le_trans hB hB7.size
        have HPA := Lib.hid (printAll_any l _ w6 B HRL.out hBw7 (HT.out.up hB7 hB7.size) (by omega))
        obtain ⟨S3, z3, hSz⟩ : ∃ (S : ByteArray) (z : Int), S = str (printAllL l).1 ∧ z = (printAllL l).2 := ⟨_, _, rfl, rfl⟩
        have HPE : ∀ e, RetS (printAllL l) e ↔ e = .returned (.tuple #[.string S3, .int .i64 z3]) := fun e => by rw [hSz.1, hSz.2]; exact Iff.rfl
        simp only [HPE] at HPA
        have HS3 := Lib.hid hSz
        clear hSz HPE HRL
        go_wp2_with fail
        refine HPA.out.mono ?_
        rintro e w8 ⟨rfl, hb8⟩
        have hB8 := hB7.trans (hb8.mono hB7.size)
        clear HPA hb8 hBw7 hB7
        by_cases hfe : firstErr l = 0
        · have hall := firstErr_ok l hfe
          have hz3 : z3 = 0 := by rw [HS3.out.2]; unfold printAllL; rw [if_pos hfe]
          have hS3 : S3 = str (V.lits l) := by rw [HS3.out.1]; unfold printAllL; rw [if_pos hfe]
          subst hz3
          have hsz3 : S3.size ≤ 1000000 := by have := lits_short hall h30; rw [hS3, str_size]; omega
          have HPP := Lib.hid (parseAll_any S3 w8 hsz3)
          rw [hS3, str_list, parseAll_lits hall, ← hS3] at HPP
          clear hS3 hsz3 hall hfe
          go_wp2_with fail
          refine HPP.out.mono ?_
          rintro e w9 ⟨⟨ox, cx, rfl, hRX⟩, hb9⟩
          have HRX := Lib.hid (hRX.rep (B := w9.heap.size) (fun b hb => hb.2))
          have hB9 := hB8.trans (hb9.mono hB8.size)
          have HSA := Lib.hid (sames_any l _ _ w9 w9.heap.size HRX.out ((HR.out.later (hB9.mono hB)).mono (Nat.le_trans hB hB9.size)) (Nat.le_refl _))
          clear hRX HRX HPP hb9 hB8
          go_wp2_with fail
          refine HSA.out.mono ?_
          rintro e w10 ⟨rfl, hb10⟩
          have hB10 := hB9.trans (hb10.mono hB9.size)
          clear HSA hb10 hB9
          have HQU := Lib.hid (quote_any s w10 (by omega) (fun wr hb => (HT.out.up hB10 hB10.size wr hb).1))
          have hql : (str (quoteL s.data.toList)).size ≤ 1000000 := by have := quoteL_len s.data.toList; rw [str_size]; rw [lt_len] at this; omega
          have HUN := fun w => Lib.hid (unquote_any (str (quoteL s.data.toList)) w hql)
          have hun : unquoteL (str (quoteL s.data.toList)).data.toList = (s.data.toList, 0, 0) := by
            rw [str_list]
            unfold unquoteL
            rw [unquote_quote _ _ (by rw [lt_len]; omega)]
            exact if_pos rfl
          rw [hun] at HUN
          unfold RetU at HUN
          rw [show str (s.data.toList, 0, (0 : Int)).1 = s from str_of s] at HUN
          clear hun hql
          generalize str (quoteL s.data.toList) = S4 at *
          go_wp2_with fail
          refine HQU.out.mono ?_
          rintro e w11 ⟨rfl, hb11⟩
          have hB11 := hB10.trans (hb11.mono hB10.size)
          clear HQU hb11
          go_wp2_with fail
          refine (HUN w11).out.mono ?_
          rintro e w12 ⟨rfl, hb12⟩
          have hB12 := hB11.trans (hb12.mono hB11.size)
          clear HUN hb12
          go_wp2_with fail
          refine (HA.out _ hB12).mono ?_
          rintro e w13 ⟨rfl, hb13⟩
          go_wp2_with fail
          go_ret
          exact ⟨rfl, hB12.trans (hb13.mono hB12.size)⟩
        · have hz3 : (z3 == 0) = false := by rw [HS3.out.2]; unfold printAllL; rw [if_neg hfe]; exact beq_eq_false_iff_ne.2 hfe
          have hB10 := hB8
          clear hfe hB8
          have HQU := Lib.hid (quote_any s w8 (by omega) (fun wr hb => (HT.out.up hB10 hB10.size wr hb).1))
          have hql : (str (quoteL s.data.toList)).size ≤ 1000000 := by have := quoteL_len s.data.toList; rw [str_size]; rw [lt_len] at this; omega
          have HUN := fun w => Lib.hid (unquote_any (str (quoteL s.data.toList)) w hql)
          have hun : unquoteL (str (quoteL s.data.toList)).data.toList = (s.data.toList, 0, 0) := by
            rw [str_list]
            unfold unquoteL
            rw [unquote_quote _ _ (by rw [lt_len]; omega)]
            exact if_pos rfl
          rw [hun] at HUN
          unfold RetU at HUN
          rw [show str (s.data.toList, 0, (0 : Int)).1 = s from str_of s] at HUN
          clear hun hql
          generalize str (quoteL s.data.toList) = S4 at *
          go_wp2_with fail
          refine HQU.out.mono ?_
          rintro e w11 ⟨rfl, hb11⟩
          have hB11 := hB10.trans (hb11.mono hB10.size)
          clear HQU hb11
          go_wp2_with fail
          refine (HUN w11).out.mono ?_
          rintro e w12 ⟨rfl, hb12⟩
          have hB12 := hB11.trans (hb12.mono hB11.size)
          clear HUN hb12
          go_wp2_with fail
          refine (HA.out _ hB12).mono ?_
          rintro e w13 ⟨rfl, hb13⟩
          go_wp2_with fail
          go_ret
          exact ⟨rfl, hB12.trans (hb13.mono hB12.size)⟩
    · have hz1 : (z1 == 0) = false := by rw [HS1.out.2]; unfold printL; rw [if_neg hcv]; exact beq_eq_false_iff_ne.2 hcv
      have hB7 := hB3
      clear hcv HBV3 HBU3 HRV3 HRU3 hB3 hBw3
      have HRL := Lib.hid (HR.out.later (hB7.mono hB))
      have hBw7 := Nat.le_trans hB hB7.size
      have HPA := Lib.hid (printAll_any l _ w3 B HRL.out hBw7 (HT.out.up hB7 hB7.size) (by omega))
      obtain ⟨S3, z3, hSz⟩ : ∃ (S : ByteArray) (z : Int), S = str (printAllL l).1 ∧ z = (printAllL l).2 := ⟨_, _, rfl, rfl⟩
      have HPE : ∀ e, RetS (printAllL l) e ↔ e = .returned (.tuple #[.string S3, .int .i64 z3]) := fun e => by rw [hSz.1, hSz.2]; exact Iff.rfl
      simp only [HPE] at HPA
      have HS3 := Lib.hid hSz
      clear hSz HPE HRL
      go_wp2_with fail
      refine HPA.out.mono ?_
      rintro e w8 ⟨rfl, hb8⟩
      have hB8 := hB7.trans (hb8.mono hB7.size)
      clear HPA hb8 hBw7 hB7
      by_cases hfe : firstErr l = 0
      · have hall := firstErr_ok l hfe
        have hz3 : z3 = 0 := by rw [HS3.out.2]; unfold printAllL; rw [if_pos hfe]
        have hS3 : S3 = str (V.lits l) := by rw [HS3.out.1]; unfold printAllL; rw [if_pos hfe]
        subst hz3
        have hsz3 : S3.size ≤ 1000000 := by have := lits_short hall h30; rw [hS3, str_size]; omega
        have HPP := Lib.hid (parseAll_any S3 w8 hsz3)
        rw [hS3, str_list, parseAll_lits hall, ← hS3] at HPP
        clear hS3 hsz3 hall hfe
        go_wp2_with fail
        refine HPP.out.mono ?_
        rintro e w9 ⟨⟨ox, cx, rfl, hRX⟩, hb9⟩
        have HRX := Lib.hid (hRX.rep (B := w9.heap.size) (fun b hb => hb.2))
        have hB9 := hB8.trans (hb9.mono hB8.size)
        have HSA := Lib.hid (sames_any l _ _ w9 w9.heap.size HRX.out ((HR.out.later (hB9.mono hB)).mono (Nat.le_trans hB hB9.size)) (Nat.le_refl _))
        clear hRX HRX HPP hb9 hB8
        go_wp2_with fail
        refine HSA.out.mono ?_
        rintro e w10 ⟨rfl, hb10⟩
        have hB10 := hB9.trans (hb10.mono hB9.size)
        clear HSA hb10 hB9
        have HQU := Lib.hid (quote_any s w10 (by omega) (fun wr hb => (HT.out.up hB10 hB10.size wr hb).1))
        have hql : (str (quoteL s.data.toList)).size ≤ 1000000 := by have := quoteL_len s.data.toList; rw [str_size]; rw [lt_len] at this; omega
        have HUN := fun w => Lib.hid (unquote_any (str (quoteL s.data.toList)) w hql)
        have hun : unquoteL (str (quoteL s.data.toList)).data.toList = (s.data.toList, 0, 0) := by
          rw [str_list]
          unfold unquoteL
          rw [unquote_quote _ _ (by rw [lt_len]; omega)]
          exact if_pos rfl
        rw [hun] at HUN
        unfold RetU at HUN
        rw [show str (s.data.toList, 0, (0 : Int)).1 = s from str_of s] at HUN
        clear hun hql
        generalize str (quoteL s.data.toList) = S4 at *
        go_wp2_with fail
        refine HQU.out.mono ?_
        rintro e w11 ⟨rfl, hb11⟩
        have hB11 := hB10.trans (hb11.mono hB10.size)
        clear HQU hb11
        go_wp2_with fail
        refine (HUN w11).out.mono ?_
        rintro e w12 ⟨rfl, hb12⟩
        have hB12 := hB11.trans (hb12.mono hB11.size)
        clear HUN hb12
        go_wp2_with fail
        refine (HA.out _ hB12).mono ?_
        rintro e w13 ⟨rfl, hb13⟩
        go_wp2_with fail
        go_ret
        exact ⟨rfl, hB12.trans (hb13.mono hB12.size)⟩
      · have hz3 : (z3 == 0) = false := by rw [HS3.out.2]; unfold printAllL; rw [if_neg hfe]; exact beq_eq_false_iff_ne.2 hfe
        have hB10 := hB8
        clear hfe hB8
        have HQU := Lib.hid (quote_any s w8 (by omega) (fun wr hb => (HT.out.up hB10 hB10.size wr hb).1))
        have hql : (str (quoteL s.data.toList)).size ≤ 1000000 := by have := quoteL_len s.data.toList; rw [str_size]; rw [lt_len] at this; omega
        have HUN := fun w => Lib.hid (unquote_any (str (quoteL s.data.toList)) w hql)
        have hun : unquoteL (str (quoteL s.data.toList)).data.toList = (s.data.toList, 0, 0) := by
          rw [str_list]
          unfold unquoteL
          rw [unquote_quote _ _ (by rw [lt_len]; omega)]
          exact if_pos rfl
        rw [hun] at HUN
        unfold RetU at HUN
        rw [show str (s.data.toList, 0, (0 : Int)).1 = s from str_of s] at HUN
        clear hun hql
        generalize str (quoteL s.data.toList) = S4 at *
        go_wp2_with fail
        refine HQU.out.mono ?_
        rintro e w11 ⟨rfl, hb11⟩
        have hB11 := hB10.trans (hb11.mono hB10.size)
        clear HQU hb11
        go_wp2_with fail
        refine (HUN w11).out.mono ?_
        rintro e w12 ⟨rfl, hb12⟩
        have hB12 := hB11.trans (hb12.mono hB11.size)
        clear HUN hb12
        go_wp2_with fail
        refine (HA.out _ hB12).mono ?_
        rintro e w13 ⟨rfl, hb13⟩
        go_wp2_with fail
        go_ret
        exact ⟨rfl, hB12.trans (hb13.mono hB12.size)⟩
end Go.Proofs.YtmbmlcnipncgnaaDoor
