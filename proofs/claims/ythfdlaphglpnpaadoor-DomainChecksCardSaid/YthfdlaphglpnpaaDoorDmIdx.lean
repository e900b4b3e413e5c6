/-
  Index of package domain, Place and Index of the reference. Nothing is assumed.
-/
import Derived.Test.YthfdlaphglpnpaaDoorDmAt
import Derived.Lib.QuietBelow
import Derived.Deep.QuietTactic
namespace Go.Proofs.YthfdlaphglpnpaaDoor
open Go.RowKit
open Go.Sort (grow)

/-- The place of the tuple that the closure of Index reads. -/
def Asks (W : World) (B tb ib : Nat) (u : V) : Prop := ∃ (b off n c i : Nat) (sl : Value), W.cell? ⟨tb, 0, none⟩ = some (.slice (some ⟨b, off, none⟩) n c) ∧ W.cell? ⟨ib, 0, none⟩ = some (.int .i64 (i : Int)) ∧ i < n ∧
  W.cell? ⟨b, off + i * 4, none⟩ = some (.int .i64 u.t) ∧ W.cell? ⟨b, off + i * 4 + 1, none⟩ = some (.int .i64 u.n) ∧ W.cell? ⟨b, off + i * 4 + 2, none⟩ = some (.string u.s) ∧ W.cell? ⟨b, off + i * 4 + 3, none⟩ = some sl ∧ Rep W B sl u.l
theorem Asks.later {W W' : World} {B tb ib : Nat} {u : V} (h : Asks W B tb ib u) (hb : Below W.heap.size W W') (hB : B ≤ W.heap.size) : Asks W' B tb ib u := by
  obtain ⟨b, off, n, c, i, sl, h1, h2, h3, c0, c1, c2, c3, hr⟩ := h
  have lt : ∀ {a : Addr} {v : Value}, W.cell? a = some v → W'.cell? a = some v := fun h => (hb.cell (block_lt_of_cell h)).trans h
  exact ⟨b, off, n, c, i, sl, lt h1, lt h2, h3, lt c0, lt c1, lt c2, lt c3, hr.later (hb.mono hB)⟩

set_option maxRecDepth 100000 in
set_option maxHeartbeats 1600000 in
theorem index1_any (v u : V) (sv : Value) (W : World) (B tb ib : Nat) (hv : Rep W B sv v.l) (hu : Asks W B tb ib u) (hB : B ≤ W.heap.size) :
    Calls Tryd.prog 42 #[.agg #[.int .i64 v.t, .int .i64 v.n, .string v.s, sv], .pointer (some ⟨tb, 0, none⟩), .pointer (some ⟨ib, 0, none⟩)] W fun e W' => e = .returned (.bool (v.eqb u)) ∧ Below W.heap.size W W' := by
  obtain ⟨oa, ca, rfl, _, _, _⟩ := hv.slice
  obtain ⟨b, off, n, c, i, sl, h1, h2, h3, c0, c1, c2, c3, hr⟩ := hu
  obtain ⟨ou, cu, rfl, _, _, _⟩ := hr.slice
  obtain ⟨X, hX⟩ : ∃ X, X = W.alloc (.cells #[.int .i64 v.t, .int .i64 v.n, .string v.s, .slice oa v.l.length ca] 54) := ⟨_, rfl⟩
  have hb : Below W.heap.size W X := by rw [hX]; exact below1 _ _
  have hBox : Box X W.heap.size v (.slice oa v.l.length ca) := by rw [hX]; exact Box.new v _ _ rfl
  have lt : ∀ {a : Addr} {v : Value}, W.cell? a = some v → X.cell? a = some v := fun h => (hb.cell (block_lt_of_cell h)).trans h
  have q1 := fun d os => cell_regrown (lt h1) d os
  have q2 := fun d os => cell_regrown (lt h2) d os
  have p0 := fun d os => cell_regrown (lt c0) d os
  have p1 := fun d os => cell_regrown (lt c1) d os
  have p2 := fun d os => cell_regrown (lt c2) d os
  have p3 := fun d os => cell_regrown (lt c3) d os
  have b0 := fun d os => cell_regrown hBox.1 d os
  have b1 := fun d os => cell_regrown hBox.2.1 d os
  have b2 := fun d os => cell_regrown hBox.2.2.1 d os
  have b3 := fun d os => cell_regrown hBox.2.2.2 d os
  have re := fun d os => Calls.regrown_of (equal_any v u (.slice oa v.l.length ca) (.slice ou u.l.length cu) (grow (redrawn X d) os) B ((hv.later (hb.mono hB)).later ((below_regrown X d os).mono (Nat.le_trans hB hb.size))) ((hr.later (hb.mono hB)).later ((below_regrown X d os).mono (Nat.le_trans hB hb.size))) (Nat.le_trans (Nat.le_trans hB hb.size) (below_regrown X d os).size))
  have hi0 : (0 : Int) ≤ (i : Int) := by omega
  have hi1 : (i : Int) < (n : Int) := by omega
  have HB := Lib.hid hb
  rw [hX] at q1 q2 p0 p1 p2 p3 b0 b1 b2 b3 re HB
  clear hv hr h1 h2 h3 c0 c1 c2 c3 hX hb hBox lt
  go_enter Tryd.func42, Tryd.ntmps42
  go_wp2_with fail
  refine wp_region_quiet_below (by kernel_rfl) (by kernel_rfl) ?_
  repeat (quiet_step (first | with_reducible exact re _ _))
  refine wpQuiet_nil ?_
  intro w' hw'
  obtain ⟨p, rfl⟩ := hw'
  have HBP := Lib.hid (below_regrown (W.alloc (.cells #[.int .i64 v.t, .int .i64 v.n, .string v.s, .slice oa v.l.length ca] 54)) p.d p.os)
  clear q1 q2 p0 p1 p2 p3 b0 b1 b2 b3 re
  go_wp2_with fail
  go_ret
  exact ⟨rfl, HB.out.trans (HBP.out.mono HB.out.size)⟩

theorem plc_cons_yes {u x : V} {i : Int} {a : List V} (h : x.eqb u = true) : plc u i (x :: a) = i := if_pos h
theorem plc_cons_no {u x : V} {i : Int} {a : List V} (h : ¬ x.eqb u = true) : plc u i (x :: a) = plc u (i + 1) a := if_neg h

set_option maxRecDepth 100000 in
set_option maxHeartbeats 1600000 in
theorem indexFunc_any (a : List V) (u : V) (x : Value) (w : World) (B tb ib : Nat) (hx : Rep w B x a) (hu : Asks w B tb ib u) (hB : B ≤ w.heap.size) :
    Calls Tryd.prog 41 #[x, .func (.func 42) #[] #[.pointer (some ⟨tb, 0, none⟩), .pointer (some ⟨ib, 0, none⟩)]] w fun e w' => e = .returned (.int .i64 (plc u 0 a)) ∧ Below w.heap.size w w' := by
  have HX := Lib.hid hx
  have HU := Lib.hid hu
  obtain ⟨oa, ca, rfl, _, hlm, hel⟩ := hx.slice
  have HEL := Lib.hid hel
  clear hx hu hel
  go_enter Tryd.func41, Tryd.ntmps41
  go_wp2_with fail
  go_loopw [8] (fun i wr => ∃ k : Nat, k ≤ a.length ∧ i = .int .i64 k ∧ Hid (plc u k (a.drop k) = plc u 0 a) ∧ Below w.heap.size w wr) (fun i _ => a.length - (intOf i).toNat)
  case atStart => exact ⟨0, Nat.zero_le _, rfl, Lib.hid rfl, Below.refl _ _⟩
  case round =>
    obtain ⟨k, hk, rfl, HD, hbel⟩ := hrel
    by_cases hlt : k < a.length
    · have HS := Lib.hid (drop_l a k hlt)
      obtain ⟨b, off, oe, ce, rfl, hb, c0, c1, c2, c3, hr⟩ := HEL.out k _ (List.getElem?_eq_getElem hlt)
      have hbw : b < w.heap.size := Nat.lt_of_lt_of_le hb hB
      rw [← hbel.cell (p := ⟨b, _, none⟩) hbw] at c0 c1 c2 c3
      have hki : (k : Int) < (a.length : Int) := by omega
      have hki0 : (0 : Int) ≤ (k : Int) := by omega
      have HC := Lib.hid (index1_any a[k] u _ wr B tb ib (hr.later (hbel.mono hB)) (HU.out.later hbel hB) (Nat.le_trans hB hbel.size))
      have hsr := hbel.size
      clear hr
      go_wp2_with fail
      refine HC.out.mono ?_
      rintro e w4 ⟨rfl, hb4⟩
      by_cases hz : a[k].eqb u = true
      · have HT := Lib.hid hz
        go_wp2_with fail
        go_ret
        exact ⟨ret_int (by rw [← HD.out, HS.out, plc_cons_yes HT.out]), hbel.trans (hb4.mono hsr)⟩
      · have HT := Lib.hid hz
        go_wp2_with fail
        go_roundw
        case rel => exact ⟨k + 1, hlt, by go_num, Lib.hid (by rw [← HD.out, HS.out, plc_cons_no HT.out]; rfl), hbel.trans (hb4.mono hsr)⟩
        case measure => simp [intOf]; omega
    · go_wp2_with fail
      go_ret
      exact ⟨ret_int (by rw [← HD.out, List.drop_of_length_le (by omega), plc]), hbel⟩

set_option maxRecDepth 100000 in
set_option maxHeartbeats 1600000 in
theorem place_any (a : List V) (u : V) (x su : Value) (w : World) (B : Nat) (hx : Rep w B x a) (hu : Rep w B su u.l) (hB : B ≤ w.heap.size) :
    Calls Tryd.prog 34 #[x, .agg #[.int .i64 u.t, .int .i64 u.n, .string u.s, su]] w fun e w' => e = .returned (.int .i64 (plc u 0 a)) ∧ Below w.heap.size w w' := by
  have HX := Lib.hid hx
  have HU := Lib.hid hu
  obtain ⟨oa, ca, rfl, _, hlm, hel⟩ := hx.slice
  obtain ⟨ou, cu, rfl, _, _, _⟩ := hu.slice
  have HEL := Lib.hid hel
  clear hx hu hel
  have HB0 := Lib.hid (below1 w (.cells #[.int .i64 u.t, .int .i64 u.n, .string u.s, .slice ou u.l.length cu] 54))
  have HBX := Lib.hid (Box.new (w := w) u (.slice ou u.l.length cu) 54 rfl)
  go_enter Tryd.func34, Tryd.ntmps34
  go_wp2_with fail
  go_loopw [5] (fun i wr => ∃ k : Nat, k ≤ a.length ∧ i = .int .i64 k ∧ Hid (plc u k (a.drop k) = plc u 0 a) ∧ Below (w.heap.size + 1) (w.alloc (.cells #[.int .i64 u.t, .int .i64 u.n, .string u.s, .slice ou u.l.length cu] 54)) wr) (fun i _ => a.length - (intOf i).toNat)
  case atStart => exact ⟨0, Nat.zero_le _, rfl, Lib.hid rfl, Below.refl _ _⟩
  case round =>
    obtain ⟨k, hk, rfl, HD, hbel⟩ := hrel
    have HBW := Lib.hid (HB0.out.trans (hbel.mono (Nat.le_succ _)))
    by_cases hlt : k < a.length
    · have HS := Lib.hid (drop_l a k hlt)
      obtain ⟨b, off, oe, ce, rfl, hb, c0, c1, c2, c3, hr⟩ := HEL.out k _ (List.getElem?_eq_getElem hlt)
      have hbw : b < w.heap.size := Nat.lt_of_lt_of_le hb hB
      rw [← HBW.out.cell (p := ⟨b, _, none⟩) hbw] at c0 c1 c2 c3
      obtain ⟨x0, x1, x2, x3⟩ := HBX.out.later hbel (Nat.lt_succ_self _)
      have hki : (k : Int) < (a.length : Int) := by omega
      have hki0 : (0 : Int) ≤ (k : Int) := by omega
      have hsr := HBW.out.size
      have q0 := fun d os => cell_regrown c0 d os
      have q1 := fun d os => cell_regrown c1 d os
      have q2 := fun d os => cell_regrown c2 d os
      have q3 := fun d os => cell_regrown c3 d os
      have p0 := fun d os => cell_regrown x0 d os
      have p1 := fun d os => cell_regrown x1 d os
      have p2 := fun d os => cell_regrown x2 d os
      have p3 := fun d os => cell_regrown x3 d os
      have re := fun d os => Calls.regrown_of (refEqual_any a[k] u (.slice oe a[k].l.length ce) (.slice ou u.l.length cu) (grow (redrawn wr d) os) B ((hr.later (HBW.out.mono hB)).later ((below_regrown wr d os).mono (Nat.le_trans hB hsr))) ((HU.out.later (HBW.out.mono hB)).later ((below_regrown wr d os).mono (Nat.le_trans hB hsr))) (Nat.le_trans (Nat.le_trans hB hsr) (below_regrown wr d os).size))
      obtain ⟨z, hz⟩ : ∃ z, a[k].eqb u = z := ⟨_, rfl⟩
      have HZ := Lib.hid hz
      rw [hz] at re
      clear hr c0 c1 c2 c3 x0 x1 x2 x3 hz
      go_wp2_with fail
      refine wp_region_quiet_below (by kernel_rfl) (by kernel_rfl) ?_
      repeat (quiet_step (first | with_reducible exact re _ _))
      refine wpQuiet_nil ?_
      intro w' hw'
      obtain ⟨p, rfl⟩ := hw'
      have HBP := Lib.hid (hbel.trans ((below_regrown wr p.d p.os).mono (by have := hbel.size; simp at this; omega)))
      clear q0 q1 q2 q3 p0 p1 p2 p3 re
      cases z
      · go_wp2_with fail
        go_roundw
        case rel => exact ⟨k + 1, hlt, by go_num, Lib.hid (by rw [← HD.out, HS.out, plc_cons_no (by rw [HZ.out]; simp)]; rfl), HBP.out⟩
        case measure => simp [intOf]; omega
      · go_wp2_with fail
        go_ret
        exact ⟨ret_int (by rw [← HD.out, HS.out, plc_cons_yes HZ.out]), HB0.out.trans (HBP.out.mono (Nat.le_succ _))⟩
    · go_wp2_with fail
      go_ret
      exact ⟨ret_int (by rw [← HD.out, List.drop_of_length_le (by omega), plc]), HBW.out⟩

theorem idxF_nil (n : Int) (t : List V) : idxF n [] t = some n := by cases t <;> simp [idxF]
theorem idxF_no {n : Int} {a : List V} {l : List (List V)} {u : V} {t : List V} (h : plc u 0 a < 0) : idxF n (a :: l) (u :: t) = none := by rw [idxF, if_pos h]
theorem idxF_yes {n : Int} {a : List V} {l : List (List V)} {u : V} {t : List V} (h : ¬ plc u 0 a < 0) : idxF n (a :: l) (u :: t) = idxF (wrap64 (wrap64 (n * (a.length : Int)) + plc u 0 a)) l t := by rw [idxF, if_neg h]
def idN (l : List (List V)) (t : List V) : Int := (idxD l t).getD 0
def idB (l : List (List V)) (t : List V) : Bool := (idxD l t).isSome
theorem id_none {l : List (List V)} {t : List V} (h : idxD l t = none) : idN l t = 0 ∧ idB l t = false := by unfold idN idB; rw [h]; exact ⟨rfl, rfl⟩
theorem id_some {l : List (List V)} {t : List V} {n : Int} (h : idxD l t = some n) : idN l t = n ∧ idB l t = true := by unfold idN idB; rw [h]; exact ⟨rfl, rfl⟩
theorem szE_yes {l : List (List V)} (h : szE l = 0) : (szD l).isSome = true := by
  unfold szE at h
  split at h
  · assumption
  · cases h
theorem szE_no {l : List (List V)} (h : szE l = 11) : (szD l).isSome = false := by
  cases hs : (szD l).isSome with
  | false => rfl
  | true => unfold szE at h; rw [hs] at h; cases h
theorem ret_nb {a b : Int} {c d : Bool} (h : a = b) (h' : c = d) : Ending.returned (.tuple #[.int .i64 a, .bool c]) = .returned (.tuple #[.int .i64 b, .bool d]) := by rw [h, h']

set_option maxRecDepth 100000 in
set_option maxHeartbeats 3200000 in
theorem index_any (l : List (List V)) (tu : List V) (x y : Value) (w : World) (B : Nat) (hx : LAx w B x l) (hy : Rep w B y tu) (hB : B ≤ w.heap.size) :
    Calls Tryd.prog 23 #[.agg #[x], y] w fun e w' => e = .returned (.tuple #[.int .i64 (idN l tu), .bool (idB l tu)]) ∧ Below w.heap.size w w' := by
  have HX := Lib.hid hx
  have HY := Lib.hid hy
  obtain ⟨oa, ca, rfl, _, hlm⟩ := hx.form
  obtain ⟨oy, cy, rfl, _, hym, hely⟩ := hy.slice
  have HEY := Lib.hid hely
  obtain ⟨w2, hw2⟩ : ∃ w2, w2 = (w.alloc (.cells #[.slice oa l.length ca] 24)).alloc (.cells #[.slice oy tu.length cy] 36) := ⟨_, rfl⟩
  have hb2 : Below w.heap.size w w2 := by rw [hw2]; exact below2 _ _ _
  have hs2 : w.heap.size + 2 ≤ w2.heap.size := by rw [hw2]; simp
  have hd2 : w2.cell? ⟨w.heap.size, 0, none⟩ = some (.slice oa l.length ca) := by
    rw [hw2]; exact ((below1 _ _).cell (p := ⟨w.heap.size, 0, none⟩) (by simp)).trans (cell_at _ _ _ _ _ rfl)
  have ht2 : w2.cell? ⟨w.heap.size + 1, 0, none⟩ = some (.slice oy tu.length cy) := by
    rw [hw2]
    have h := cell_at (w.alloc (.cells #[.slice oa l.length ca] 24)) #[.slice oy tu.length cy] 36 0 _ rfl
    rwa [World.size_alloc] at h
  have HS := Lib.hid (size_any l _ w2 B (hx.later (hb2.mono hB)) (by omega))
  have HB2 := Lib.hid hb2
  rw [hw2] at HS
  have hd2' := hd2
  rw [hw2] at hd2'
  clear hx hy hely
  go_enter Tryd.func23, Tryd.ntmps23
  go_wp2_with fail
  refine HS.out.mono ?_
  rw [← hw2]
  rintro e w3 ⟨rfl, hb3⟩
  have hd3 := (hb3.cell (p := ⟨w.heap.size, 0, none⟩) (by simp; omega)).trans hd2
  have ht3 := (hb3.cell (p := ⟨w.heap.size + 1, 0, none⟩) (by simp; omega)).trans ht2
  have HB3 := Lib.hid (HB2.out.trans (hb3.mono (by omega)))
  have HBZ := Lib.hid (hb3.mono hs2)
  have hs3 := hb3.size
  have HBD := Lib.hid (And.intro hd2 ht2)
  clear hb3 hd2 ht2 hb2 hd2' hw2
  rcases szE_cases l with ⟨hz, hzn⟩ | ⟨hz, hzn⟩
  · have HZS := Lib.hid (szE_yes hz)
    rw [hz, hzn]
    by_cases hlen : tu.length = l.length
    · have HD := Lib.hid (show idxD l tu = idxF 0 l tu from if_pos ⟨HZS.out, hlen⟩)
      have HLEN := Lib.hid hlen
      have hlb : ((tu.length : Int) != (l.length : Int)) = false := by rw [hlen]; simp
      clear hlen hz hzn
      go_wp2_with fail
      clear hd3 ht3
      go_loopw [30, 8] (fun i q wr => ∃ (k : Nat) (n : Int), k ≤ l.length ∧ i = .int .i64 k ∧ q = .int .i64 n ∧ Hid (idxF n (l.drop k) (tu.drop k) = idxF 0 l tu) ∧ Hid (Below (w.heap.size + 2) w2 wr)) (fun i _ _ => l.length - (intOf i).toNat)
      case atStart => exact ⟨0, 0, Nat.zero_le _, rfl, rfl, Lib.hid rfl, HBZ⟩
      case round =>
        obtain ⟨k, n, hk, rfl, rfl, HI, HBR⟩ := hrel
        have HBW := Lib.hid (HB2.out.trans (HBR.out.mono (by omega)))
        by_cases hlt : k < l.length
        · have hltu : k < tu.length := by rw [HLEN.out]; exact hlt
          have HS1 := Lib.hid (drop_l l k hlt)
          have HS2 := Lib.hid (drop_l tu k hltu)
          have htr := (HBR.out.cell (p := ⟨w.heap.size + 1, 0, none⟩) (by simp)).trans HBD.out.2
          obtain ⟨b, off, oe, ce, rfl, hb, hc, hr⟩ := HX.out.at_ (List.getElem?_eq_getElem hlt)
          rw [← HBW.out.cell (p := ⟨b, _, none⟩) (Nat.lt_of_lt_of_le hb hB)] at hc
          obtain ⟨b2, off2, oe2, ce2, rfl, hb2, c0, c1, c2, c3, hr2⟩ := HEY.out k _ (List.getElem?_eq_getElem hltu)
          have hki : (k : Int) < (l.length : Int) := by omega
          have hki0 : (0 : Int) ≤ (k : Int) := by omega
          obtain ⟨a, hak⟩ : ∃ a, l[k] = a := ⟨_, rfl⟩
          obtain ⟨u, huk⟩ : ∃ u, tu[k] = u := ⟨_, rfl⟩
          rw [hak] at hc hr HS1
          rw [huk] at c0 c1 c2 c3 hr2 HS2
          have hsr := HBR.out.size
          have hbi : Below w.heap.size w (wr.alloc (.cells #[.int .i64 (k : Int)] 3)) := HBW.out.trans ((below1 wr _).mono (by omega))
          have hb2w : b2 < w.heap.size := Nat.lt_of_lt_of_le hb2 hB
          have hask : Asks (wr.alloc (.cells #[.int .i64 (k : Int)] 3)) B (w.heap.size + 1) wr.heap.size u :=
            ⟨b2, off2, tu.length, cy, k, .slice oe2 u.l.length ce2, ((below1 wr _).cell (p := ⟨w.heap.size + 1, 0, none⟩) (by simp; omega)).trans htr, cell_at _ _ _ _ _ rfl, hltu,
              (hbi.cell (p := ⟨b2, _, none⟩) hb2w).trans c0, (hbi.cell (p := ⟨b2, _, none⟩) hb2w).trans c1, (hbi.cell (p := ⟨b2, _, none⟩) hb2w).trans c2, (hbi.cell (p := ⟨b2, _, none⟩) hb2w).trans c3, hr2.later (hbi.mono hB)⟩
          have HC := Lib.hid (indexFunc_any a u (.slice oe a.length ce) _ B _ _ (hr.later (hbi.mono hB)) hask (by have := hbi.size; omega))
          clear c0 c1 c2 c3 hr2 hr hask htr hak huk hbi
          go_wp2_with fail
          refine HC.out.mono ?_
          rintro e w5 ⟨rfl, hb5⟩
          have HB5 := Lib.hid (show Below (w.heap.size + 2) w2 w5 from HBR.out.trans (((below1 wr _).trans (hb5.mono (by simp))).mono (by omega)))
          clear hb5
          by_cases hneg : plc u 0 a < 0
          · have HNO := Lib.hid (id_none (show idxD l tu = none by rw [HD.out, ← HI.out, HS1.out, HS2.out]; exact idxF_no hneg))
            go_wp2_with fail
            go_ret2
            exact ⟨ret_nb HNO.out.1.symm HNO.out.2.symm, HB2.out.trans (HB5.out.mono (by omega))⟩
          · have HY2 := Lib.hid (idxF_yes (n := n) (l := l.drop (k + 1)) (t := tu.drop (k + 1)) hneg)
            go_wp2_with fail
            go_roundw
            case rel => exact ⟨k + 1, _, hlt, by go_num, rfl, Lib.hid (by rw [← HI.out, HS1.out, HS2.out, HY2.out]), HB5⟩
            case measure => simp [intOf]; omega
        · have HYES := Lib.hid (id_some (show idxD l tu = some n by rw [HD.out, ← HI.out, List.drop_of_length_le (by omega), idxF_nil]))
          go_wp2_with fail
          go_ret2
          exact ⟨ret_nb HYES.out.1.symm HYES.out.2.symm, HBW.out⟩
    · have HNO := Lib.hid (id_none (show idxD l tu = none from if_neg (fun h => hlen h.2)))
      have hlb : ((tu.length : Int) != (l.length : Int)) = true := bne_iff_ne.2 (by omega)
      clear hlen
      go_wp2_with fail
      go_ret2
      exact ⟨ret_nb HNO.out.1.symm HNO.out.2.symm, HB3.out⟩
  · have HNO := Lib.hid (id_none (show idxD l tu = none from if_neg (fun h => by rw [szE_no hz] at h; cases h.1)))
    rw [hz, hzn]
    go_wp2_with fail
    go_ret2
    exact ⟨ret_nb HNO.out.1.symm HNO.out.2.symm, HB3.out⟩

end Go.Proofs.YthfdlaphglpnpaaDoor
