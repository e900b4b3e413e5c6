/-
  text and Print of the specification (printed by gen/rfx.py). Nothing is assumed.
-/
import Derived.Test.YtkogldlhidppaaaDoorPaRfS
import Derived.Test.YtkogldlhidppaaaDoorPaRfP
import Derived.Test.YtkogldlhidppaaaDoorPaWrite
import Derived.Lib.QuietBelow
namespace Go.Proofs.YtkogldlhidppaaaDoor
open Go.RowKit
open Go.Sort (grow)

theorem wrapQ_le (b : Bool) (x : List UInt8) : x.length ≤ (wrapQ b x).length := by
  unfold wrapQ
  split
  · simp; omega
  · exact Nat.le_refl _
/-- The outcome of text at a tree. -/
def RtOk (v : PT) : Prop := ∀ (w : World) (N : Nat) (oe : Option Addr) (ce : Nat), v.prop = true → Sok v → v.txt.length ≤ 1000000000 → HT w (· < N) (.slice oe v.l.length ce) v.l → N ≤ w.heap.size →
    Calls Tryd.prog 21 #[v.val (.slice oe v.l.length ce)] w fun e w' => e = .returned (.string (str v.txt)) ∧ Below w.heap.size w w'

set_option maxRecDepth 100000 in
set_option maxHeartbeats 3200000 in
/-- text at a kind of one's own: 1, 2 and 3. -/
theorem rtext_leaf (v : PT) (h : v.k = 1 ∨ v.k = 2 ∨ v.k = 3) : RtOk v := by
  intro w N oe ce hp hs hlen hT hN
  have h2 := (ok_parts hp).2.1
  have HST := Lib.hid (fun V => rsetText_any v.s hs.here h2 V)
  unfold S4.val at HST
  have hX1 : Box6 (w.alloc (.cells #[.int .i64 v.k, .int .u64 v.s.a, .int .u64 v.s.b, .int .u64 v.s.c, .int .u64 v.s.d, .slice oe v.l.length ce] 26)) w.heap.size (.int .i64 v.k) (.int .u64 v.s.a) (.int .u64 v.s.b) (.int .u64 v.s.c) (.int .u64 v.s.d) (.slice oe v.l.length ce) := Box6.new _ _ _ _ _ _ _ rfl
  have HT1 := Lib.hid (PT.txt_eq v)
  have hb1 := Lib.hid (below1 w (.cells #[.int .i64 v.k, .int .u64 v.s.a, .int .u64 v.s.b, .int .u64 v.s.c, .int .u64 v.s.d, .slice oe v.l.length ce] 26))
  obtain ⟨x0, x1, x2, x3, x4, x5, -⟩ := hX1
  unfold PT.val
  clear hp hs hlen hT h2
  rcases h with h | h | h
  · have HZ := Lib.hid (show v.txt = [91, 93] by rw [HT1.out, if_pos h])
    rw [h] at x0 x1 x2 x3 x4 x5 hb1 ⊢
    go_enter Tryd.func21, Tryd.ntmps21
    go_wp2_with fail
    go_ret
    exact ⟨by rw [HZ.out]; rfl, hb1.out⟩
  · have HZ := Lib.hid (show v.txt = [40, 41] by rw [HT1.out, if_neg (by rw [h]; decide), if_pos h])
    rw [h] at x0 x1 x2 x3 x4 x5 hb1 ⊢
    go_enter Tryd.func21, Tryd.ntmps21
    go_wp2_with fail
    go_ret
    exact ⟨by rw [HZ.out]; rfl, hb1.out⟩
  · have HZ := Lib.hid (show v.txt = classE v.s by rw [HT1.out, if_neg (by rw [h]; decide), if_neg (by rw [h]; decide), if_pos h])
    rw [h] at x0 x1 x2 x3 x4 x5 hb1 ⊢
    go_enter Tryd.func21, Tryd.ntmps21
    go_wp2_with fail
    refine (HST.out _).mono ?_
    rintro e w5 ⟨rfl, hb5⟩
    have HB5 := Lib.hid (hb1.out.trans (hb5.mono (by simp)))
    clear hb5
    go_wp2_with fail
    go_ret
    exact ⟨by rw [HZ.out]; rfl, HB5.out⟩

set_option maxRecDepth 100000 in
set_option maxHeartbeats 3200000 in
/-- text at a repetition. -/
theorem rtext_rep (v u : PT) (h : v.k = 6) (hl : v.l = [u]) (ih : RtOk u) : RtOk v := by
  intro w N oe ce hp hs hlen hT hN
  have hum : u ∈ v.l := by rw [hl]; exact List.mem_cons_self ..
  have hup : u.prop = true := (ok_parts hp).2.2.2 u hum
  have hus : Sok u := hs.mem hum
  have huk := may_k (ok_parts hup).2.2.1
  have htx : v.txt = wrapQ (parQ u.k 6) u.txt ++ [42] := by rw [PT.txt_eq, h, hl]; rw [if_neg (by decide), if_neg (by decide), if_neg (by decide), if_pos rfl, PT.txt1]
  have hul : u.txt.length ≤ 1000000000 := by
    have := wrapQ_le (parQ u.k 6) u.txt
    rw [htx, List.length_append] at hlen
    omega
  have hpq : parQ u.k 6 = decide (4 ≤ u.k) := by
    have : u.k = 1 ∨ u.k = 2 ∨ u.k = 3 ∨ u.k = 4 ∨ u.k = 5 ∨ u.k = 6 := by omega
    rcases this with h | h | h | h | h | h <;> rw [h] <;> rfl
  have hll : v.l.length = 1 := by rw [hl]; rfl
  rw [hll] at hT ⊢
  obtain ⟨w1, hw1⟩ : ∃ w1, w1 = w.alloc (.cells #[.int .i64 v.k, .int .u64 v.s.a, .int .u64 v.s.b, .int .u64 v.s.c, .int .u64 v.s.d, .slice oe 1 ce] 26) := ⟨_, rfl⟩
  have HW1 := Lib.hid hw1
  have hX1 : Box6 w1 w.heap.size (.int .i64 v.k) (.int .u64 v.s.a) (.int .u64 v.s.b) (.int .u64 v.s.c) (.int .u64 v.s.d) (.slice oe 1 ce) := by
    rw [hw1]
    exact Box6.new _ _ _ _ _ _ _ rfl
  have hs1 : w1.heap.size = w.heap.size + 1 := by rw [hw1]; simp
  have hb1 : Below w.heap.size w w1 := by rw [hw1]; exact below1 _ _
  have hT1 : HT w1 (· < N) (.slice oe 1 ce) v.l := hT.later (fun _ h => h) fun b hb o => hb1.cell (p := ⟨b, o, none⟩) (Nat.lt_of_lt_of_le hb hN)
  obtain ⟨b, off, ox, cx, rfl, hb, hTx, q0, q1, q2, q3, q4, q5⟩ := HT.at_ hT1 (i := 0) (v := u) (by rw [hl]; rfl)
  replace hb : b < N := hb
  rw [Nat.zero_mul, Nat.add_zero] at q0 q1 q2 q3 q4 q5
  have HC := Lib.hid (ih w1 N ox cx hup hus hul hTx (by omega))
  obtain ⟨x0, x1, x2, x3, x4, x5, -⟩ := hX1
  have HX5 : Hid (∀ V, Below w1.heap.size w1 V → V.cell? ⟨w.heap.size, 5, none⟩ = some (.slice (some ⟨b, off, none⟩) 1 ce) ∧ V.cell? ⟨b, off, none⟩ = some (.int .i64 u.k)) := Lib.hid (fun V hV => ⟨(hV.cell (p := ⟨w.heap.size, 5, none⟩) (by show w.heap.size < w1.heap.size; omega)).trans x5, (hV.cell (p := ⟨b, off, none⟩) (by show b < w1.heap.size; omega)).trans q0⟩)
  have HB1 := Lib.hid hb1
  obtain ⟨sx, hsx⟩ : ∃ sx, str u.txt = sx := ⟨_, rfl⟩
  have hsz : sx.size ≤ 1000000000 := by rw [← hsx, str_size]; exact hul
  have hz1 : ¬ 9223372036854775807 < 1 + sx.size := by omega
  have hz2 : ¬ 9223372036854775807 < 1 + sx.size + 1 := by omega
  have hz3 : ¬ 9223372036854775807 < 1 + sx.size + 1 + 1 := by omega
  have hz4 : ¬ 9223372036854775807 < sx.size + 1 := by omega
  have HF : Hid ((if 4 ≤ u.k then (⟨#[40]⟩ ++ sx ++ ⟨#[41]⟩ ++ ⟨#[42]⟩ : ByteArray) else sx ++ ⟨#[42]⟩) = str v.txt) := Lib.hid (by
    rw [htx, hpq, ← hsx]
    unfold wrapQ
    by_cases h4 : 4 ≤ u.k
    · rw [if_pos h4, if_pos (decide_eq_true h4)]
      show str [40] ++ str u.txt ++ str [41] ++ str [42] = _
      simp only [str_join]
      first | done | (congr 1; done) | (congr 1; simp)
    · rw [if_neg h4, if_neg (by simpa using h4)]
      show str u.txt ++ str [42] = _
      rw [str_join])
  rw [hsx] at HC
  rw [hw1] at x0 x1 x2 x3 x4 x5 q0 q1 q2 q3 q4 q5
  unfold PT.val at HC
  unfold PT.val
  rw [h] at x0 x1 x2 x3 x4 x5 q0 q1 q2 q3 q4 q5 HW1 ⊢
  rw [HW1.out] at HC
  have hs1' := Lib.hid hs1
  clear hw1 hT hT1 hTx hp hs hlen hup hus hul hpq hsx huk htx hum ih hb1 hll hl hs1
  by_cases h4 : 4 ≤ u.k
  · rw [if_pos h4] at HF
    go_enter Tryd.func21, Tryd.ntmps21
    go_wp2_with fail
    refine HC.out.mono ?_
    rintro e w5 ⟨rfl, hb5⟩
    rw [← HW1.out] at hb5
    obtain ⟨k5, k0⟩ := HX5.out w5 hb5
    have HB5 := Lib.hid (HB1.out.trans (hb5.mono (by have := hs1'.out; omega)))
    clear hb5 x0 x1 x2 x3 x4 x5 q0 q1 q2 q3 q4 q5
    go_wp2_with fail
    go_ret
    exact ⟨by rw [← HF.out]; rfl, HB5.out⟩
  · rw [if_neg h4] at HF
    go_enter Tryd.func21, Tryd.ntmps21
    go_wp2_with fail
    refine HC.out.mono ?_
    rintro e w5 ⟨rfl, hb5⟩
    rw [← HW1.out] at hb5
    obtain ⟨k5, k0⟩ := HX5.out w5 hb5
    have HB5 := Lib.hid (HB1.out.trans (hb5.mono (by have := hs1'.out; omega)))
    clear hb5 x0 x1 x2 x3 x4 x5 q0 q1 q2 q3 q4 q5
    go_wp2_with fail
    go_ret
    exact ⟨by rw [← HF.out]; rfl, HB5.out⟩

set_option maxRecDepth 100000 in
set_option maxHeartbeats 6400000 in
/-- text at a concatenation and at alternatives. -/
theorem rtext_many (v : PT) (kk : Int) (hk : kk = 4 ∨ kk = 5) (h : v.k = kk) (ih : ∀ x, x ∈ v.l → RtOk x) : RtOk v := by
  intro w N oe ce hp hs hlen hT hN
  have htx : v.txt = PT.txts kk v.l := by rw [PT.txt_eq, h]; rcases hk with rfl | rfl <;> rw [if_neg (by decide), if_neg (by decide), if_neg (by decide), if_neg (by decide)]
  rw [htx] at hlen
  rw [htx]
  have HPC := Lib.hid (ok_parts hp).2.2.2
  have HSC := Lib.hid (fun x (hx : x ∈ v.l) => hs.mem hx)
  have HUP : Hid (∀ i, (PT.upto kk v.l i).length ≤ 1000000000) := Lib.hid (fun i => by
    obtain ⟨r, hr⟩ := PT.upto_le kk v.l i
    rw [hr, List.length_append] at hlen
    omega)
  obtain ⟨hl1, hl2⟩ := HT.len hT
  have hlI : (v.l.length : Int) ≤ 1000000 := by omega
  obtain ⟨w1, hw1⟩ : ∃ w1, w1 = w.alloc (.cells #[.int .i64 v.k, .int .u64 v.s.a, .int .u64 v.s.b, .int .u64 v.s.c, .int .u64 v.s.d, .slice oe v.l.length ce] 26) := ⟨_, rfl⟩
  have HW1 := Lib.hid hw1
  have hX1 : Box6 w1 w.heap.size (.int .i64 v.k) (.int .u64 v.s.a) (.int .u64 v.s.b) (.int .u64 v.s.c) (.int .u64 v.s.d) (.slice oe v.l.length ce) := by
    rw [hw1]
    exact Box6.new _ _ _ _ _ _ _ rfl
  have hs1 : w1.heap.size = w.heap.size + 1 := by rw [hw1]; simp
  have hb1 : Below w.heap.size w w1 := by rw [hw1]; exact below1 _ _
  have HX1 := Lib.hid hX1
  have HB1 := Lib.hid hb1
  have HT0 := Lib.hid hT
  have HIH := Lib.hid ih
  have HLE := Lib.hid (show PT.upto kk v.l v.l.length = PT.txts kk v.l from PT.upto_all kk v.l)
  obtain ⟨x0, x1, x2, x3, x4, x5, -⟩ := hX1
  rw [hw1] at x0 x1 x2 x3 x4 x5
  unfold PT.val
  rw [h] at x0 x1 x2 x3 x4 x5 HX1 HW1 ⊢
  clear hw1 hT hp hs hlen ih hb1 htx h
  rcases hk with rfl | rfl
  · go_enter Tryd.func21, Tryd.ntmps21
    go_wp2_with fail
    rw [← HW1.out]
    clear x0 x1 x2 x3 x4 x5
    go_loopw [5, 4] (fun uv ov wr => ∃ (i : Nat) (so : ByteArray), uv = .int .i64 (i : Int) ∧ ov = .string so ∧ i ≤ v.l.length ∧ Hid (so = str (PT.upto 4 v.l i)) ∧ Hid (Below w1.heap.size w1 wr)) (fun uv _ _ => v.l.length - (intOf uv).toNat)
    case atStart => exact ⟨0, str [], rfl, rfl, Nat.zero_le _, Lib.hid (by rw [PT.upto_zero]), Lib.hid (Below.refl _ _)⟩
    case round =>
      obtain ⟨i, so, rfl, rfl, hi, HSO, HBr⟩ := hrel
      have HBw := Lib.hid (HB1.out.trans (HBr.out.mono (by omega)))
      obtain ⟨x0, x1, x2, x3, x4, x5, -⟩ := HX1.out.later HBr.out (by omega)
      by_cases hlt : i < v.l.length
      · have hltI : (i : Int) < (v.l.length : Int) := by omega
        have hi0 : (0 : Int) ≤ (i : Int) := by omega
        have hwi : IntKind.i64.wrap ((i : Int) + 1) = ((i + 1 : Nat) : Int) := by rw [IntWalk.i64_in _ (by omega)]; omega
        obtain ⟨x, hx⟩ : ∃ x, v.l[i]? = some x := ⟨_, List.getElem?_eq_getElem hlt⟩
        have hxm := List.mem_of_getElem? hx
        have HUN := Lib.hid (PT.upto_succ 4 v.l i x hx)
        have hxl : x.txt.length ≤ 1000000000 := by
          have h1 := HUP.out (i + 1)
          have h2 := wrapQ_le (parQ x.k 4) x.txt
          rw [HUN.out, List.length_append, List.length_append] at h1
          omega
        have hTr : HT wr (· < N) (.slice oe v.l.length ce) v.l := HT0.out.later (fun _ h => h) fun b hb o => HBw.out.cell (p := ⟨b, o, none⟩) (Nat.lt_of_lt_of_le hb hN)
        obtain ⟨b, off, ox, cx, rfl, hb, hTx, q0, q1, q2, q3, q4, q5⟩ := HT.at_ hTr hx
        have hsr : N ≤ wr.heap.size := Nat.le_trans hN HBw.out.size
        have p0 := fun d os => cell_regrown q0 d os
        have p1 := fun d os => cell_regrown q1 d os
        have p2 := fun d os => cell_regrown q2 d os
        have p3 := fun d os => cell_regrown q3 d os
        have p4 := fun d os => cell_regrown q4 d os
        have p5 := fun d os => cell_regrown q5 d os
        have p6 := fun d os => cell_regrown x5 d os
        have re := fun d os => Calls.regrown_of (HIH.out x hxm (grow (redrawn wr d) os) N ox cx (HPC.out x hxm) (HSC.out x hxm) hxl (hTx.later (fun _ h => h) fun b hb o => (below_regrown wr d os).cell (p := ⟨b, o, none⟩) (Nat.lt_of_lt_of_le hb hsr)) (Nat.le_trans hsr (below_regrown wr d os).size))
        unfold PT.val at re
        obtain ⟨sx, hsx⟩ : ∃ sx, str x.txt = sx := ⟨_, rfl⟩
        rw [hsx] at re
        have HSX := Lib.hid hsx
        have hs1' : sx.size ≤ 1000000000 := by rw [← hsx, str_size]; exact hxl
        have hs2' : so.size ≤ 1000000000 := by rw [HSO.out, str_size]; exact HUP.out i
        have hA : ¬ 9223372036854775807 < so.size + 1 := by omega
        have hB : ¬ 9223372036854775807 < 1 + sx.size := by omega
        have hC : ¬ 9223372036854775807 < 1 + sx.size + 1 := by omega
        have hD : ¬ 9223372036854775807 < so.size + sx.size := by omega
        have hE : ¬ 9223372036854775807 < so.size + 1 + sx.size := by omega
        have hF : ¬ 9223372036854775807 < so.size + (1 + sx.size + 1) := by omega
        have hG : ¬ 9223372036854775807 < so.size + 1 + (1 + sx.size + 1) := by omega
        have HK1 := Lib.hid (show i + 1 ≤ v.l.length from hlt)
        clear hlt hx hxm hxl hTr hTx hb hsx hs1' hs2'
        by_cases hi1 : i = 0
        · have hgt : ¬ (0 : Int) < (i : Int) := by omega
          have HSP := Lib.hid (show (if 0 < i ∧ (4 : Int) = 5 then [124] else [] : List UInt8) = [] by rw [if_neg (fun h => by omega)])
          clear hi1
          go_wp2_with fail
          refine wp_region_quiet_below (by kernel_rfl) (by kernel_rfl) ?_
          repeat (quiet_step (first | with_reducible exact re _ _))
          refine wpQuiet_nil ?_
          intro w' hw'
          obtain ⟨p, rfl⟩ := hw'
          have HB6 := Lib.hid (HBr.out.trans ((below_regrown wr p.d p.os).mono HBr.out.size))
          generalize grow (redrawn wr p.d) p.os = w6 at *
          clear p0 p1 p2 p3 p4 p5 p6 re x0 x1 x2 x3 x4 x5 q0 q1 q2 q3 q4 q5
          obtain ⟨z0, z1, z2, z3, z4, z5, -⟩ := HX1.out.later HB6.out (by omega)
          by_cases h5 : x.k = 5
          · have HPQ := Lib.hid (show parQ x.k 4 = true by rw [h5]; rfl)
            have e5 : (x.k == 5) = true := by rw [h5]; rfl
            clear h5
            go_wp2_with fail
            go_roundw
            case rel =>
              refine ⟨i + 1, _, by first | rfl | go_num, rfl, HK1.out, Lib.hid ?_, HB6⟩
              rw [HUN.out, HSP.out, HPQ.out, HSO.out, ← HSX.out]
              show str _ ++ (str [40] ++ str _ ++ str [41]) = _
              simp only [str_join]
              first | done | (congr 1; done) | (congr 1; simp [wrapQ])
            case measure => have := HK1.out; simp [intOf]; omega
          by_cases h4 : x.k = 4
          · have HPQ := Lib.hid (show parQ x.k 4 = true by rw [h4]; rfl)
            have e5 : (x.k == 5) = false := by rw [h4]; rfl
            have e4 : (x.k == 4) = true := by rw [h4]; rfl
            clear h4 h5
            go_wp2_with fail
            go_roundw
            case rel =>
              refine ⟨i + 1, _, by first | rfl | go_num, rfl, HK1.out, Lib.hid ?_, HB6⟩
              rw [HUN.out, HSP.out, HPQ.out, HSO.out, ← HSX.out]
              show str _ ++ (str [40] ++ str _ ++ str [41]) = _
              simp only [str_join]
              first | done | (congr 1; done) | (congr 1; simp [wrapQ])
            case measure => have := HK1.out; simp [intOf]; omega
          · have e5 : (x.k == 5) = false := by rw [beq_eq_false_iff_ne]; exact h5
            have e4 : (x.k == 4) = false := by rw [beq_eq_false_iff_ne]; exact h4
            have HPQ := Lib.hid (show parQ x.k 4 = false by unfold parQ; rw [e5, e4]; simp)
            clear h4 h5
            go_wp2_with fail
            go_roundw
            case rel =>
              refine ⟨i + 1, _, by first | rfl | go_num, rfl, HK1.out, Lib.hid ?_, HB6⟩
              rw [HUN.out, HSP.out, HPQ.out, HSO.out, ← HSX.out]
              show str _ ++ str _ = _
              simp only [str_join]
              first | done | (congr 1; done) | (congr 1; simp [wrapQ])
            case measure => have := HK1.out; simp [intOf]; omega
        · have hgt : (0 : Int) < (i : Int) := by omega
          have HSP := Lib.hid (show (if 0 < i ∧ (4 : Int) = 5 then [124] else [] : List UInt8) = [] by rw [if_neg (fun h => absurd h.2 (by decide))])
          clear hi1
          go_wp2_with fail
          refine wp_region_quiet_below (by kernel_rfl) (by kernel_rfl) ?_
          repeat (quiet_step (first | with_reducible exact re _ _))
          refine wpQuiet_nil ?_
          intro w' hw'
          obtain ⟨p, rfl⟩ := hw'
          have HB6 := Lib.hid (HBr.out.trans ((below_regrown wr p.d p.os).mono HBr.out.size))
          generalize grow (redrawn wr p.d) p.os = w6 at *
          clear p0 p1 p2 p3 p4 p5 p6 re x0 x1 x2 x3 x4 x5 q0 q1 q2 q3 q4 q5
          obtain ⟨z0, z1, z2, z3, z4, z5, -⟩ := HX1.out.later HB6.out (by omega)
          by_cases h5 : x.k = 5
          · have HPQ := Lib.hid (show parQ x.k 4 = true by rw [h5]; rfl)
            have e5 : (x.k == 5) = true := by rw [h5]; rfl
            clear h5
            go_wp2_with fail
            go_roundw
            case rel =>
              refine ⟨i + 1, _, by first | rfl | go_num, rfl, HK1.out, Lib.hid ?_, HB6⟩
              rw [HUN.out, HSP.out, HPQ.out, HSO.out, ← HSX.out]
              show str _ ++ (str [40] ++ str _ ++ str [41]) = _
              simp only [str_join]
              first | done | (congr 1; done) | (congr 1; simp [wrapQ])
            case measure => have := HK1.out; simp [intOf]; omega
          by_cases h4 : x.k = 4
          · have HPQ := Lib.hid (show parQ x.k 4 = true by rw [h4]; rfl)
            have e5 : (x.k == 5) = false := by rw [h4]; rfl
            have e4 : (x.k == 4) = true := by rw [h4]; rfl
            clear h4 h5
            go_wp2_with fail
            go_roundw
            case rel =>
              refine ⟨i + 1, _, by first | rfl | go_num, rfl, HK1.out, Lib.hid ?_, HB6⟩
              rw [HUN.out, HSP.out, HPQ.out, HSO.out, ← HSX.out]
              show str _ ++ (str [40] ++ str _ ++ str [41]) = _
              simp only [str_join]
              first | done | (congr 1; done) | (congr 1; simp [wrapQ])
            case measure => have := HK1.out; simp [intOf]; omega
          · have e5 : (x.k == 5) = false := by rw [beq_eq_false_iff_ne]; exact h5
            have e4 : (x.k == 4) = false := by rw [beq_eq_false_iff_ne]; exact h4
            have HPQ := Lib.hid (show parQ x.k 4 = false by unfold parQ; rw [e5, e4]; simp)
            clear h4 h5
            go_wp2_with fail
            go_roundw
            case rel =>
              refine ⟨i + 1, _, by first | rfl | go_num, rfl, HK1.out, Lib.hid ?_, HB6⟩
              rw [HUN.out, HSP.out, HPQ.out, HSO.out, ← HSX.out]
              show str _ ++ str _ = _
              simp only [str_join]
              first | done | (congr 1; done) | (congr 1; simp [wrapQ])
            case measure => have := HK1.out; simp [intOf]; omega
      · have hltI : ¬ ((i : Int) < (v.l.length : Int)) := by omega
        obtain rfl : i = v.l.length := by omega
        have HF := Lib.hid (show so = str (PT.txts 4 v.l) by rw [HSO.out, HLE.out])
        go_wp2_with fail
        go_ret
        exact ⟨by rw [← HF.out]; rfl, HBw.out⟩
  · go_enter Tryd.func21, Tryd.ntmps21
    go_wp2_with fail
    rw [← HW1.out]
    clear x0 x1 x2 x3 x4 x5
    go_loopw [5, 4] (fun uv ov wr => ∃ (i : Nat) (so : ByteArray), uv = .int .i64 (i : Int) ∧ ov = .string so ∧ i ≤ v.l.length ∧ Hid (so = str (PT.upto 5 v.l i)) ∧ Hid (Below w1.heap.size w1 wr)) (fun uv _ _ => v.l.length - (intOf uv).toNat)
    case atStart => exact ⟨0, str [], rfl, rfl, Nat.zero_le _, Lib.hid (by rw [PT.upto_zero]), Lib.hid (Below.refl _ _)⟩
    case round =>
      obtain ⟨i, so, rfl, rfl, hi, HSO, HBr⟩ := hrel
      have HBw := Lib.hid (HB1.out.trans (HBr.out.mono (by omega)))
      obtain ⟨x0, x1, x2, x3, x4, x5, -⟩ := HX1.out.later HBr.out (by omega)
      by_cases hlt : i < v.l.length
      · have hltI : (i : Int) < (v.l.length : Int) := by omega
        have hi0 : (0 : Int) ≤ (i : Int) := by omega
        have hwi : IntKind.i64.wrap ((i : Int) + 1) = ((i + 1 : Nat) : Int) := by rw [IntWalk.i64_in _ (by omega)]; omega
        obtain ⟨x, hx⟩ : ∃ x, v.l[i]? = some x := ⟨_, List.getElem?_eq_getElem hlt⟩
        have hxm := List.mem_of_getElem? hx
        have HUN := Lib.hid (PT.upto_succ 5 v.l i x hx)
        have hxl : x.txt.length ≤ 1000000000 := by
          have h1 := HUP.out (i + 1)
          have h2 := wrapQ_le (parQ x.k 5) x.txt
          rw [HUN.out, List.length_append, List.length_append] at h1
          omega
        have hTr : HT wr (· < N) (.slice oe v.l.length ce) v.l := HT0.out.later (fun _ h => h) fun b hb o => HBw.out.cell (p := ⟨b, o, none⟩) (Nat.lt_of_lt_of_le hb hN)
        obtain ⟨b, off, ox, cx, rfl, hb, hTx, q0, q1, q2, q3, q4, q5⟩ := HT.at_ hTr hx
        have hsr : N ≤ wr.heap.size := Nat.le_trans hN HBw.out.size
        have p0 := fun d os => cell_regrown q0 d os
        have p1 := fun d os => cell_regrown q1 d os
        have p2 := fun d os => cell_regrown q2 d os
        have p3 := fun d os => cell_regrown q3 d os
        have p4 := fun d os => cell_regrown q4 d os
        have p5 := fun d os => cell_regrown q5 d os
        have p6 := fun d os => cell_regrown x5 d os
        have re := fun d os => Calls.regrown_of (HIH.out x hxm (grow (redrawn wr d) os) N ox cx (HPC.out x hxm) (HSC.out x hxm) hxl (hTx.later (fun _ h => h) fun b hb o => (below_regrown wr d os).cell (p := ⟨b, o, none⟩) (Nat.lt_of_lt_of_le hb hsr)) (Nat.le_trans hsr (below_regrown wr d os).size))
        unfold PT.val at re
        obtain ⟨sx, hsx⟩ : ∃ sx, str x.txt = sx := ⟨_, rfl⟩
        rw [hsx] at re
        have HSX := Lib.hid hsx
        have hs1' : sx.size ≤ 1000000000 := by rw [← hsx, str_size]; exact hxl
        have hs2' : so.size ≤ 1000000000 := by rw [HSO.out, str_size]; exact HUP.out i
        have hA : ¬ 9223372036854775807 < so.size + 1 := by omega
        have hB : ¬ 9223372036854775807 < 1 + sx.size := by omega
        have hC : ¬ 9223372036854775807 < 1 + sx.size + 1 := by omega
        have hD : ¬ 9223372036854775807 < so.size + sx.size := by omega
        have hE : ¬ 9223372036854775807 < so.size + 1 + sx.size := by omega
        have hF : ¬ 9223372036854775807 < so.size + (1 + sx.size + 1) := by omega
        have hG : ¬ 9223372036854775807 < so.size + 1 + (1 + sx.size + 1) := by omega
        have HK1 := Lib.hid (show i + 1 ≤ v.l.length from hlt)
        clear hlt hx hxm hxl hTr hTx hb hsx hs1' hs2'
        by_cases hi1 : i = 0
        · have hgt : ¬ (0 : Int) < (i : Int) := by omega
          have HSP := Lib.hid (show (if 0 < i ∧ (5 : Int) = 5 then [124] else [] : List UInt8) = [] by rw [if_neg (fun h => by omega)])
          clear hi1
          go_wp2_with fail
          refine wp_region_quiet_below (by kernel_rfl) (by kernel_rfl) ?_
          repeat (quiet_step (first | with_reducible exact re _ _))
          refine wpQuiet_nil ?_
          intro w' hw'
          obtain ⟨p, rfl⟩ := hw'
          have HB6 := Lib.hid (HBr.out.trans ((below_regrown wr p.d p.os).mono HBr.out.size))
          generalize grow (redrawn wr p.d) p.os = w6 at *
          clear p0 p1 p2 p3 p4 p5 p6 re x0 x1 x2 x3 x4 x5 q0 q1 q2 q3 q4 q5
          obtain ⟨z0, z1, z2, z3, z4, z5, -⟩ := HX1.out.later HB6.out (by omega)
          by_cases h5 : x.k = 5
          · have HPQ := Lib.hid (show parQ x.k 5 = true by rw [h5]; rfl)
            have e5 : (x.k == 5) = true := by rw [h5]; rfl
            clear h5
            go_wp2_with fail
            go_roundw
            case rel =>
              refine ⟨i + 1, _, by first | rfl | go_num, rfl, HK1.out, Lib.hid ?_, HB6⟩
              rw [HUN.out, HSP.out, HPQ.out, HSO.out, ← HSX.out]
              show str _ ++ (str [40] ++ str _ ++ str [41]) = _
              simp only [str_join]
              first | done | (congr 1; done) | (congr 1; simp [wrapQ])
            case measure => have := HK1.out; simp [intOf]; omega
          by_cases h4 : x.k = 4
          · have HPQ := Lib.hid (show parQ x.k 5 = false by rw [h4]; rfl)
            have e5 : (x.k == 5) = false := by rw [h4]; rfl
            have e4 : (x.k == 4) = true := by rw [h4]; rfl
            clear h4 h5
            go_wp2_with fail
            go_roundw
            case rel =>
              refine ⟨i + 1, _, by first | rfl | go_num, rfl, HK1.out, Lib.hid ?_, HB6⟩
              rw [HUN.out, HSP.out, HPQ.out, HSO.out, ← HSX.out]
              show str _ ++ str _ = _
              simp only [str_join]
              first | done | (congr 1; done) | (congr 1; simp [wrapQ])
            case measure => have := HK1.out; simp [intOf]; omega
          · have e5 : (x.k == 5) = false := by rw [beq_eq_false_iff_ne]; exact h5
            have e4 : (x.k == 4) = false := by rw [beq_eq_false_iff_ne]; exact h4
            have HPQ := Lib.hid (show parQ x.k 5 = false by unfold parQ; rw [e5, e4]; simp)
            clear h4 h5
            go_wp2_with fail
            go_roundw
            case rel =>
              refine ⟨i + 1, _, by first | rfl | go_num, rfl, HK1.out, Lib.hid ?_, HB6⟩
              rw [HUN.out, HSP.out, HPQ.out, HSO.out, ← HSX.out]
              show str _ ++ str _ = _
              simp only [str_join]
              first | done | (congr 1; done) | (congr 1; simp [wrapQ])
            case measure => have := HK1.out; simp [intOf]; omega
        · have hgt : (0 : Int) < (i : Int) := by omega
          have HSP := Lib.hid (show (if 0 < i ∧ (5 : Int) = 5 then [124] else [] : List UInt8) = [124] by rw [if_pos ⟨by omega, rfl⟩])
          clear hi1
          go_wp2_with fail
          refine wp_region_quiet_below (by kernel_rfl) (by kernel_rfl) ?_
          repeat (quiet_step (first | with_reducible exact re _ _))
          refine wpQuiet_nil ?_
          intro w' hw'
          obtain ⟨p, rfl⟩ := hw'
          have HB6 := Lib.hid (HBr.out.trans ((below_regrown wr p.d p.os).mono HBr.out.size))
          generalize grow (redrawn wr p.d) p.os = w6 at *
          clear p0 p1 p2 p3 p4 p5 p6 re x0 x1 x2 x3 x4 x5 q0 q1 q2 q3 q4 q5
          obtain ⟨z0, z1, z2, z3, z4, z5, -⟩ := HX1.out.later HB6.out (by omega)
          by_cases h5 : x.k = 5
          · have HPQ := Lib.hid (show parQ x.k 5 = true by rw [h5]; rfl)
            have e5 : (x.k == 5) = true := by rw [h5]; rfl
            clear h5
            go_wp2_with fail
            go_roundw
            case rel =>
              refine ⟨i + 1, _, by first | rfl | go_num, rfl, HK1.out, Lib.hid ?_, HB6⟩
              rw [HUN.out, HSP.out, HPQ.out, HSO.out, ← HSX.out]
              show str _ ++ str [124] ++ (str [40] ++ str _ ++ str [41]) = _
              simp only [str_join]
              first | done | (congr 1; done) | (congr 1; simp [wrapQ])
            case measure => have := HK1.out; simp [intOf]; omega
          by_cases h4 : x.k = 4
          · have HPQ := Lib.hid (show parQ x.k 5 = false by rw [h4]; rfl)
            have e5 : (x.k == 5) = false := by rw [h4]; rfl
            have e4 : (x.k == 4) = true := by rw [h4]; rfl
            clear h4 h5
            go_wp2_with fail
            go_roundw
            case rel =>
              refine ⟨i + 1, _, by first | rfl | go_num, rfl, HK1.out, Lib.hid ?_, HB6⟩
              rw [HUN.out, HSP.out, HPQ.out, HSO.out, ← HSX.out]
              show str _ ++ str [124] ++ str _ = _
              simp only [str_join]
              first | done | (congr 1; done) | (congr 1; simp [wrapQ])
            case measure => have := HK1.out; simp [intOf]; omega
          · have e5 : (x.k == 5) = false := by rw [beq_eq_false_iff_ne]; exact h5
            have e4 : (x.k == 4) = false := by rw [beq_eq_false_iff_ne]; exact h4
            have HPQ := Lib.hid (show parQ x.k 5 = false by unfold parQ; rw [e5, e4]; simp)
            clear h4 h5
            go_wp2_with fail
            go_roundw
            case rel =>
              refine ⟨i + 1, _, by first | rfl | go_num, rfl, HK1.out, Lib.hid ?_, HB6⟩
              rw [HUN.out, HSP.out, HPQ.out, HSO.out, ← HSX.out]
              show str _ ++ str [124] ++ str _ = _
              simp only [str_join]
              first | done | (congr 1; done) | (congr 1; simp [wrapQ])
            case measure => have := HK1.out; simp [intOf]; omega
      · have hltI : ¬ ((i : Int) < (v.l.length : Int)) := by omega
        obtain rfl : i = v.l.length := by omega
        have HF := Lib.hid (show so = str (PT.txts 5 v.l) by rw [HSO.out, HLE.out])
        go_wp2_with fail
        go_ret
        exact ⟨by rw [← HF.out]; rfl, HBw.out⟩

theorem rtext_any (v : PT) : RtOk v := by
  induction v using PT.ind with
  | h v ih =>
    intro w N oe ce hp
    have hk := may_k (ok_parts hp).2.2.1
    have key : RtOk v := by
      by_cases h3 : v.k = 1 ∨ v.k = 2 ∨ v.k = 3
      · exact rtext_leaf v h3
      · by_cases h6 : v.k = 6
        · have hl : v.l.length = 1 := by omega
          obtain ⟨u, hu⟩ := List.length_eq_one_iff.1 hl
          exact rtext_rep v u h6 hu (ih u (by rw [hu]; exact List.mem_cons_self ..))
        · exact rtext_many v v.k (by omega) rfl ih
    exact key w N oe ce hp

set_option maxRecDepth 100000 in
set_option maxHeartbeats 3200000 in
/-- Print of the specification. -/
theorem rprint_any (v : PT) (hs : Sok v) (hlen : v.txt.length ≤ 1000000000) (w : World) (oe : Option Addr) (ce : Nat) (hT : HT w (· < w.heap.size) (.slice oe v.l.length ce) v.l) :
    Calls Tryd.prog 8 #[v.val (.slice oe v.l.length ce)] w fun e w' => e = .returned (printT v) ∧ Below w.heap.size w w' := by
  obtain ⟨w1, hw1⟩ : ∃ w1, w1 = w.alloc (.cells #[.int .i64 v.k, .int .u64 v.s.a, .int .u64 v.s.b, .int .u64 v.s.c, .int .u64 v.s.d, .slice oe v.l.length ce] 26) := ⟨_, rfl⟩
  have HW1 := Lib.hid hw1
  have hX1 : Box6 w1 w.heap.size (.int .i64 v.k) (.int .u64 v.s.a) (.int .u64 v.s.b) (.int .u64 v.s.c) (.int .u64 v.s.d) (.slice oe v.l.length ce) := by
    rw [hw1]
    exact Box6.new _ _ _ _ _ _ _ rfl
  have hs1 : w1.heap.size = w.heap.size + 1 := by rw [hw1]; simp
  have hb1 : Below w.heap.size w w1 := by rw [hw1]; exact below1 _ _
  have HX1 := Lib.hid hX1
  have HB1 := Lib.hid hb1
  have hT1 : HT w1 (· < w.heap.size) (.slice oe v.l.length ce) v.l := hT.later (fun _ h => h) fun b hb o => hb1.cell (p := ⟨b, o, none⟩) hb
  have HT1 := Lib.hid hT1
  have HC1 := Lib.hid (rproper_any v w1 w.heap.size oe ce hs hT1 (by omega))
  have HSK := Lib.hid hs
  have HLN := Lib.hid hlen
  have HPR := Lib.hid (show printT v = (if v.prop = true then (if 40 < v.txt.length then .tuple #[.string ⟨#[]⟩, .int .i64 2] else .tuple #[.string (str v.txt), .int .i64 0]) else .tuple #[.string ⟨#[]⟩, .int .i64 4]) from rfl)
  obtain ⟨x0, x1, x2, x3, x4, x5, -⟩ := hX1
  rw [hw1] at x0 x1 x2 x3 x4 x5
  unfold PT.val at HC1 ⊢
  rw [HW1.out] at HC1
  clear hw1 hT hT1 hb1 hs hlen
  cases hpr : v.prop
  · rw [hpr] at HC1
    rw [hpr, if_neg (by decide)] at HPR
    go_enter Tryd.func8, Tryd.ntmps8
    go_wp2_with fail
    refine HC1.out.mono ?_
    rintro e w5 ⟨rfl, hb5⟩
    rw [← HW1.out] at hb5
    have HB5 := Lib.hid (HB1.out.trans (hb5.mono (by omega)))
    clear hb5
    go_wp2_with fail
    refine bodyPost_ret (v := .tuple #[.string ⟨#[]⟩, .int .i64 4]) (by simp [results, Tryd.results8, go_sem, *]) rfl ?_
    exact ⟨by rw [HPR.out], HB5.out⟩
  · have HC2 := Lib.hid (fun V (hV : Below w1.heap.size w1 V) => rtext_any v V w.heap.size oe ce hpr HSK.out HLN.out (HT1.out.later (fun _ h => h) fun b hb o => hV.cell (p := ⟨b, o, none⟩) (by show b < w1.heap.size; have : b < w.heap.size := hb; omega)) (by have := hV.size; omega))
    rw [hpr] at HC1
    rw [hpr, if_pos rfl] at HPR
    obtain ⟨sx, hsx⟩ : ∃ sx, str v.txt = sx := ⟨_, rfl⟩
    have hsz : v.txt.length = sx.size := by rw [← hsx, str_size]
    rw [hsx, hsz] at HPR
    rw [hsx] at HC2
    unfold PT.val at HC2
    clear hsx hsz hpr
    go_enter Tryd.func8, Tryd.ntmps8
    go_wp2_with fail
    refine HC1.out.mono ?_
    rintro e w5 ⟨rfl, hb5⟩
    rw [← HW1.out] at hb5
    have HB5 := Lib.hid hb5
    obtain ⟨y0, y1, y2, y3, y4, y5, -⟩ := HX1.out.later hb5 (by omega)
    have HC3 := Lib.hid (HC2.out w5 hb5)
    clear hb5 x0 x1 x2 x3 x4 x5
    go_wp2_with fail
    refine HC3.out.mono ?_
    rintro e w6 ⟨rfl, hb6⟩
    have HB6 := Lib.hid (HB1.out.trans ((HB5.out.trans (hb6.mono HB5.out.size)).mono (by omega)))
    clear hb6
    by_cases h40 : 40 < sx.size
    · have h40I : (40 : Int) < (sx.size : Int) := by omega
      rw [if_pos h40] at HPR
      clear h40
      go_wp2_with fail
      refine bodyPost_ret (v := .tuple #[.string ⟨#[]⟩, .int .i64 2]) (by simp [results, Tryd.results8, go_sem, *]) rfl ?_
      exact ⟨by rw [HPR.out], HB6.out⟩
    · have h40I : ¬ (40 : Int) < (sx.size : Int) := by omega
      rw [if_neg h40] at HPR
      clear h40
      go_wp2_with fail
      refine bodyPost_ret (v := .tuple #[.string sx, .int .i64 0]) (by simp [results, Tryd.results8, go_sem, *]) rfl ?_
      exact ⟨by rw [HPR.out], HB6.out⟩

end Go.Proofs.YtkogldlhidppaaaDoor
