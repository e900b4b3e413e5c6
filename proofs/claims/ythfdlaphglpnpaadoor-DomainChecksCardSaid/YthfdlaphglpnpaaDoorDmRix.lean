/-
  Index of the reference; DomainIndexes' walk. Nothing is assumed.
-/
import Derived.Test.YthfdlaphglpnpaaDoorDmIdx
import Derived.Test.YthfdlaphglpnpaaDoorDmLawA
namespace Go.Proofs.YthfdlaphglpnpaaDoor
open Go.RowKit
open Go.Sort (grow)

set_option maxRecDepth 100000 in
set_option maxHeartbeats 3200000 in
theorem rindex_any (l : List (List V)) (tu : List V) (x y : Value) (w : World) (B : Nat) (hx : LAx w B x l) (hy : Rep w B y tu) (hB : B ≤ w.heap.size) :
    Calls Tryd.prog 24 #[.agg #[x], y] w fun e w' => e = .returned (.tuple #[.int .i64 (idN l tu), .bool (idB l tu)]) ∧ Below w.heap.size w w' := by
  have HX := Lib.hid hx
  obtain ⟨oa, ca, rfl, _, hlm⟩ := hx.form
  obtain ⟨oy, cy, rfl, _, hym, hely⟩ := hy.slice
  have HEY := Lib.hid hely
  obtain ⟨w2, hw2⟩ : ∃ w2, w2 = w.alloc (.cells #[.slice oa l.length ca] 24) := ⟨_, rfl⟩
  have hb2 : Below w.heap.size w w2 := by rw [hw2]; exact below1 _ _
  have hs2 : w.heap.size + 1 ≤ w2.heap.size := by rw [hw2]; simp
  have hd2 : w2.cell? ⟨w.heap.size, 0, none⟩ = some (.slice oa l.length ca) := by rw [hw2]; exact cell_at _ _ _ _ _ rfl
  have HS := Lib.hid (rsize_any l _ w2 B (hx.later (hb2.mono hB)) (by omega))
  have HB2 := Lib.hid hb2
  rw [hw2] at HS
  have hd2' := hd2
  rw [hw2] at hd2'
  clear hx hy hely
  go_enter Tryd.func24, Tryd.ntmps24
  go_wp2_with fail
  refine HS.out.mono ?_
  rw [← hw2]
  rintro e w3 ⟨rfl, hb3⟩
  have hd3 := (hb3.cell (p := ⟨w.heap.size, 0, none⟩) (by simp; omega)).trans hd2
  have HB3 := Lib.hid (HB2.out.trans (hb3.mono (by omega)))
  have HBZ := Lib.hid (hb3.mono hs2)
  have HBD := Lib.hid hd2
  clear hb3 hd2 hb2 hd2' hw2
  rcases szE_cases l with ⟨hz, hzn⟩ | ⟨hz, hzn⟩
  · have HZS := Lib.hid (szE_yes hz)
    rw [hz, hzn]
    by_cases hlen : tu.length = l.length
    · have HD := Lib.hid (show idxD l tu = idxF 0 l tu from if_pos ⟨HZS.out, hlen⟩)
      have HLEN := Lib.hid hlen
      have hlb : ((tu.length : Int) != (l.length : Int)) = false := by rw [hlen]; simp
      clear hlen hz hzn
      go_wp2_with fail
      clear hd3
      go_loopw [9, 8] (fun i q wr => ∃ (k : Nat) (n : Int), k ≤ l.length ∧ i = .int .i64 k ∧ q = .int .i64 n ∧ Hid (idxF n (l.drop k) (tu.drop k) = idxF 0 l tu) ∧ Hid (Below (w.heap.size + 1) w2 wr)) (fun i _ _ => l.length - (intOf i).toNat)
      case atStart => exact ⟨0, 0, Nat.zero_le _, rfl, rfl, Lib.hid rfl, HBZ⟩
      case round =>
        obtain ⟨k, n, hk, rfl, rfl, HI, HBR⟩ := hrel
        have HBW := Lib.hid (HB2.out.trans (HBR.out.mono (by omega)))
        have hdr := (HBR.out.cell (p := ⟨w.heap.size, 0, none⟩) (by simp)).trans HBD.out
        by_cases hlt : k < l.length
        · have hltu : k < tu.length := by rw [HLEN.out]; exact hlt
          have HS1 := Lib.hid (drop_l l k hlt)
          have HS2 := Lib.hid (drop_l tu k hltu)
          obtain ⟨b, off, oe, ce, rfl, hb, hc, hr⟩ := HX.out.at_ (List.getElem?_eq_getElem hlt)
          have HCC := Lib.hid hc
          rw [← HBW.out.cell (p := ⟨b, _, none⟩) (Nat.lt_of_lt_of_le hb hB)] at hc
          obtain ⟨b2, off2, oe2, ce2, rfl, hb2, c0, c1, c2, c3, hr2⟩ := HEY.out k _ (List.getElem?_eq_getElem hltu)
          have hb2w : b2 < w.heap.size := Nat.lt_of_lt_of_le hb2 hB
          rw [← HBW.out.cell (p := ⟨b2, _, none⟩) hb2w] at c0 c1 c2 c3
          have hki : (k : Int) < (l.length : Int) := by omega
          have hki0 : (0 : Int) ≤ (k : Int) := by omega
          have hkt : (k : Int) < (tu.length : Int) := by omega
          obtain ⟨a, hak⟩ : ∃ a, l[k] = a := ⟨_, rfl⟩
          obtain ⟨u, huk⟩ : ∃ u, tu[k] = u := ⟨_, rfl⟩
          rw [hak] at hc hr HS1 HCC
          rw [huk] at c0 c1 c2 c3 hr2 HS2
          have hsr := HBW.out.size
          have q0 := fun d os => cell_regrown c0 d os
          have q1 := fun d os => cell_regrown c1 d os
          have q2 := fun d os => cell_regrown c2 d os
          have q3 := fun d os => cell_regrown c3 d os
          have p0 := fun d os => cell_regrown hc d os
          have p1 := fun d os => cell_regrown hdr d os
          have re := fun d os => Calls.regrown_of (place_any a u (.slice oe a.length ce) (.slice oe2 u.l.length ce2) (grow (redrawn wr d) os) B ((hr.later (HBW.out.mono hB)).later ((below_regrown wr d os).mono (Nat.le_trans hB hsr))) ((hr2.later (HBW.out.mono hB)).later ((below_regrown wr d os).mono (Nat.le_trans hB hsr))) (Nat.le_trans (Nat.le_trans hB hsr) (below_regrown wr d os).size))
          obtain ⟨z, hz⟩ : ∃ z, plc u 0 a = z := ⟨_, rfl⟩
          have HZ := Lib.hid hz
          rw [hz] at re
          clear hr2 hr c0 c1 c2 c3 hc hak huk hz
          go_wp2_with fail
          refine wp_region_quiet_below (by kernel_rfl) (by kernel_rfl) ?_
          repeat (quiet_step (first | with_reducible exact re _ _))
          refine wpQuiet_nil ?_
          intro w' hw'
          obtain ⟨p, rfl⟩ := hw'
          have HB5 := Lib.hid (show Below (w.heap.size + 1) w2 (grow (redrawn wr p.d) p.os) from HBR.out.trans ((below_regrown wr p.d p.os).mono (by have := HBR.out.size; omega)))
          have hd5 := p1 p.d p.os
          have hc5 := p0 p.d p.os
          generalize grow (redrawn wr p.d) p.os = w5 at *
          clear q0 q1 q2 q3 p0 p1 re hdr
          by_cases hneg : z < 0
          · have HNO := Lib.hid (id_none (show idxD l tu = none by rw [HD.out, ← HI.out, HS1.out, HS2.out]; exact idxF_no (by rw [HZ.out]; exact hneg)))
            go_wp2_with fail
            go_ret2
            exact ⟨ret_nb HNO.out.1.symm HNO.out.2.symm, HB2.out.trans (HB5.out.mono (by omega))⟩
          · have HY2 := Lib.hid (idxF_yes (n := n) (l := l.drop (k + 1)) (t := tu.drop (k + 1)) (a := a) (u := u) (by rw [HZ.out]; exact hneg))
            go_wp2_with fail
            go_roundw
            case rel => exact ⟨k + 1, _, hlt, by go_num, rfl, Lib.hid (by rw [← HI.out, HS1.out, HS2.out, HY2.out, HZ.out]), HB5⟩
            case measure => simp [intOf]; omega
        · have HYES := Lib.hid (id_some (show idxD l tu = some n by rw [HD.out, ← HI.out, List.drop_of_length_le (by omega), idxF_nil]))
          go_wp2_with fail
          go_ret2
          exact ⟨ret_nb HYES.out.1.symm HYES.out.2.symm, HBW.out⟩
    · have HNO := Lib.hid (id_none (show idxD l tu = none from if_neg (fun h => hlen h.2)))
      have hlb : ((tu.length : Int) != (l.length : Int)) = true := bne_iff_ne.2 (by omega)
      clear hlen
      go_wp2_with fail
      go_ret2
      exact ⟨ret_nb HNO.out.1.symm HNO.out.2.symm, HB3.out⟩
  · have HNO := Lib.hid (id_none (show idxD l tu = none from if_neg (fun h => by rw [szE_no hz] at h; cases h.1)))
    rw [hz, hzn]
    go_wp2_with fail
    go_ret2
    exact ⟨ret_nb HNO.out.1.symm HNO.out.2.symm, HB3.out⟩

end Go.Proofs.YthfdlaphglpnpaaDoor
