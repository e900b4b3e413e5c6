/-
  Put of the specification of the cache. Nothing is assumed.
-/
import Derived.Test.YtbimpfciadbnjaaCaRfB
namespace Go.Proofs.Ytbimpfciadbnjaa
open Go.RowKit

theorem without_del {q : List Ent} {k : ByteArray} {i : Nat} (h : idxQ q k = some i) (t : T) (cap : Nat) : putQ cap q k t = (k, t) :: (q.take i ++ q.drop (i + 1)) ∧ outQ cap q k = 0 := by
  obtain ⟨h1, h2, h3, h4⟩ := idxQ_some h
  unfold putQ outQ
  rw [h3, h4]
  exact ⟨rfl, rfl⟩
theorem cut_last (q : List Ent) (n : Nat) (h : n + 1 = q.length) : q.take n ++ q.drop (n + 1) = q.dropLast := by
  rw [List.drop_of_length_le (by omega), List.append_nil, List.dropLast_eq_take]
  congr 1
  omega
/-- The blocks of a state at a later world. -/
theorem RefQ.fin {w w' : World} {G G' : Nat → Prop} {xk xt : Value} {q : List Ent} (h : RefQ w G xk xt q) (z : Nat) (hk : ∀ b, b ≠ z → w'.heap[b]? = w.heap[b]?) (hz : ∀ b, G b → b ≠ z) (hG : ∀ b, G b → G' b) : RefQ w' G' xk xt q := h.keep (fun b hb => hk b (hz b hb)) hG
theorem RefQ.drew {w : World} {G : Nat → Prop} {xk xt : Value} {q : List Ent} (h : RefQ w G xk xt q) : RefQ w.drew G xk xt q := h.keep (fun _ _ => rfl) fun _ h => h

set_option maxRecDepth 100000 in
set_option maxHeartbeats 3200000 in
theorem rput_any (cap h m r : Nat) (xk xt : Value) (q : List Ent) (k : ByteArray) (t : T) (sl : Value) (w : World) (G : Nat → Prop) (hR : RefQ w G xk xt q) (hG : ∀ b, G b → b < w.heap.size) (hl : q.length ≤ 400) (hcap : 1 ≤ cap) (hr : r ≤ 1000000) (ht : RP w G sl t.l) :
    Calls Try.prog 13 #[stV cap h m r xk xt, .string k, .agg #[.int .i64 t.r, sl]] w fun e w' => RetS w w' G cap h m ((r + outQ cap q k : Nat) : Int) (putQ cap q k t) e ∧ Below w.heap.size w w' := by
  have HRQ := Lib.hid hR
  have HTT := Lib.hid ht
  obtain ⟨ok, ck, ot, ct, rfl, rfl, _, _, _⟩ := hR.form
  obtain ⟨oa, ca, rfl, _, _⟩ := ht.form
  obtain ⟨W, hW⟩ : ∃ W, W = ((w.alloc (.cells #[.int .i64 cap, .slice ok q.length ck, .slice ot q.length ct, .int .i64 h, .int .i64 m, .int .i64 r] 32)).alloc (.cells #[.int .i64 t.r, .slice oa t.l.length ca] 36)).alloc (.cells #[.int .i64 0, .slice none 0 0, .slice none 0 0, .int .i64 0, .int .i64 0, .int .i64 0] 32) := ⟨_, rfl⟩
  have hbW : Below w.heap.size w W := by rw [hW]; exact below3 _ _ _ _
  have hzW : W.heap.size = w.heap.size + 3 := by rw [hW]; simp
  have hS : StB W w.heap.size cap h m r (.slice ok q.length ck) (.slice ot q.length ct) := by
    rw [hW]
    exact ((StB.new w cap h m r (.slice ok q.length ck) (.slice ot q.length ct)).keep (Below.heap_alloc _ _ _ (by simp))).keep (Below.heap_alloc _ _ _ (by simp; omega))
  have hT : W.heap[w.heap.size + 1]? = some (.cells #[.int .i64 t.r, .slice oa t.l.length ca] 36 (0, 0)) := by
    rw [hW, Below.heap_alloc _ _ _ (by simp)]
    have h := heap_alloc_new (w.alloc (.cells #[.int .i64 cap, .slice ok q.length ck, .slice ot q.length ct, .int .i64 h, .int .i64 m, .int .i64 r] 32)) (.cells #[.int .i64 t.r, .slice oa t.l.length ca] 36)
    rw [World.size_alloc] at h
    exact h
  have hZ : StB W (w.heap.size + 2) 0 0 0 0 (.slice none 0 0) (.slice none 0 0) := by
    rw [hW]
    have h := zst ((w.alloc (.cells #[.int .i64 cap, .slice ok q.length ck, .slice ot q.length ct, .int .i64 h, .int .i64 m, .int .i64 r] 32)).alloc (.cells #[.int .i64 t.r, .slice oa t.l.length ca] 36))
    rw [World.size_alloc, World.size_alloc] at h
    exact h
  have hGW : ∀ b, G b → b < W.heap.size := fun b hb => Nat.lt_of_lt_of_le (hG b hb) hbW.size
  have hRW := hR.keep (w' := W) (G' := G) (fun b hb => hbW.block b (hG b hb)) fun _ h => h
  have hTW := ht.keep (w' := W) (P' := G) (fun b hb => hbW.block b (hG b hb)) fun _ h => h
  have HP := Lib.hid (place_any cap h m r _ _ q k W G hRW hGW)
  have HBW := Lib.hid hbW
  have HGW := Lib.hid hGW
  have HGB := Lib.hid hG
  have HRW := Lib.hid hRW
  have HTW := Lib.hid hTW
  have HS := Lib.hid hS
  have HT := Lib.hid hT
  have HZ := Lib.hid hZ
  obtain ⟨d0, d1, d2, d3, d4, d5⟩ := hS.cells
  clear hR ht hbW hS hT hZ hGW hRW hTW
  cases hidx : idxQ q k with
  | some i =>
    obtain ⟨hi, _, _, _⟩ := idxQ_some hidx
    have hpl : plQ q k = (i : Int) := by unfold plQ; rw [hidx]
    obtain ⟨q2, hq2⟩ : ∃ q2, q.take i ++ q.drop (i + 1) = q2 := ⟨_, rfl⟩
    have HE := Lib.hid (without_del hidx t cap)
    rw [hq2] at HE
    have HL2 : Hid (q2.length ≤ 400) := Lib.hid (by rw [← hq2]; simp; omega)
    rw [hpl] at HP
    have q0 : (0 : Int) ≤ (i : Int) := by omega
    clear hidx hpl
    go_enter Try.func13, Try.ntmps13
    rw [hW] at d0 d1 d2 d3 d4 d5
    go_wp2_with fail
    rw [← hW]
    clear hW d0 d1 d2 d3 d4 d5
    refine HP.out.mono ?_
    rintro e w1 ⟨rfl, hb1⟩
    have hz1 := hb1.size
    have hR1 := HRW.out.keep (w' := w1) (G' := G) (fun b hb => hb1.block b (HGW.out b hb)) fun _ h => h
    have hT1 := HTW.out.keep (w' := w1) (P' := G) (fun b hb => hb1.block b (HGW.out b hb)) fun _ h => h
    have hS1 := HS.out.keep (hb1.block _ (by omega))
    have hTb1 := (hb1.block (w.heap.size + 1) (by omega)).trans HT.out
    obtain ⟨d0, d1, d2, d3, d4, d5⟩ := hS1.cells
    have t0 : w1.cell? ⟨w.heap.size + 1, 0, none⟩ = some (.int .i64 t.r) := by unfold World.cell?; rw [hTb1]; rfl
    have t1 : w1.cell? ⟨w.heap.size + 1, 1, none⟩ = some (.slice oa t.l.length ca) := by unfold World.cell?; rw [hTb1]; rfl
    have HWT := Lib.hid (without_any cap h m r _ _ q i w1.drew G hR1.drew (fun b hb => Nat.lt_of_lt_of_le (HGW.out b hb) hz1) (by omega) hi)
    rw [hq2] at HWT
    clear hq2
    have HT1 := Lib.hid hT1
    have HB1 := Lib.hid hb1
    have HTb1 := Lib.hid hTb1
    clear hR1 hT1 hS1 hTb1 hb1 HP
    go_wp2_with fail
    go_region_law (first
      | (go_simp; go_at_call 33; (with_reducible refine HWT.out.mono ?_)
         rintro e w2 ⟨⟨yk, yt, rfl, hR2⟩, hb2'⟩
         have hb2 : Below w1.heap.size w1 w2 := ((Below.refl _ _).drew).trans hb2'
         have hz2 := hb2.size
         have hTb2 := (hb2.block (w.heap.size + 1) (by omega)).trans HTb1.out
         have t20 : w2.cell? ⟨w.heap.size + 1, 0, none⟩ = some (.int .i64 t.r) := by unfold World.cell?; rw [hTb2]; rfl
         have t21 : w2.cell? ⟨w.heap.size + 1, 1, none⟩ = some (.slice oa t.l.length ca) := by unfold World.cell?; rw [hTb2]; rfl
         have hG2 : ∀ b, G b ∨ w1.heap.size ≤ b ∧ b < w2.heap.size → b < w2.heap.size := fun b hb => hb.elim (fun hb => by have := HGB.out b hb; omega) fun h => h.2
         have HF := Lib.hid (first_any cap h m r yk yt _ k t (.slice oa t.l.length ca) w2 _ hR2 hG2 (by have := HL2.out; omega) ((HT1.out.keep (fun b hb => hb2.block b (by have := HGB.out b hb; omega)) fun b hb => .inl hb)))
         obtain ⟨ok2, ck2, ot2, ct2, rfl, rfl, _⟩ := hR2.form
         have HB2 := Lib.hid hb2
         clear hR2 hb2' hb2 hTb2 hG2)
      | (go_simp; go_at_call 32; (with_reducible refine HF.out.mono ?_)
         rintro e w3 ⟨⟨yk3, yt3, rfl, hR3⟩, hb3⟩
         obtain ⟨ok3, ck3, ot3, ct3, rfl, rfl, _⟩ := hR3.form
         have hz3 := hb3.size
         have hZ3 := HZ.out.keep ((hb3.block (w.heap.size + 2) (by omega)).trans ((HB2.out.block (w.heap.size + 2) (by omega)).trans (HB1.out.block (w.heap.size + 2) (by omega))))
         obtain ⟨z0, z1, z2, z3, z4, z5⟩ := hZ3.cells
         have zf := hZ3.frozen
         have HZ3 := Lib.hid hZ3
         have HR3 := Lib.hid hR3
         have HB3 := Lib.hid hb3
         clear hR3 hb3 hZ3))
    all_goals
      go_wp2_with fail
      obtain ⟨w9, hw9, hs9, hz9, hk9, hb9⟩ := StB.six (w := w3) (b := w.heap.size + 1 + 1) HZ3.out cap h m r (.slice ok3 (q2.length + 1) ck3) (.slice ot3 (q2.length + 1) ct3)
      rw [← hw9]
      obtain ⟨r0, r1, r2, r3, r4, r5⟩ := hs9.cells
      have HB9 := Lib.hid (hb9 w.heap.size (by omega))
      have HK9 := Lib.hid hk9
      have HZ9 := Lib.hid hz9
      clear hw9 hs9 hk9 hb9 hz9 z0 z1 z2 z3 z4 z5 zf
      refine bodyPost_ret (v := stV cap h m r (.slice ok3 (q2.length + 1) ck3) (.slice ot3 (q2.length + 1) ct3)) (by simp [results, Try.results13, go_sem, *]) rfl ?_
      rw [HE.out.1, HE.out.2]
      refine ⟨⟨_, _, rfl, HR3.out.fin (w.heap.size + 2) HK9.out (fun b hb => ?_) fun b hb => ?_⟩, (((HBW.out.trans (HB1.out.mono (by omega))).trans (HB2.out.mono (by omega))).trans (HB3.out.mono (by omega))).trans HB9.out⟩
      · rcases hb with (hb | hb) | hb
        · have := HGB.out b hb; omega
        all_goals ((try simp only [World.drew] at hb); omega)
      · have := HZ9.out
        rcases hb with (hb | hb) | hb
        · exact .inl hb
        all_goals exact .inr (by (try simp only [World.drew] at hb); omega)
  | none =>
    have hpl : plQ q k = -1 := by unfold plQ; rw [hidx]
    have hfn := idxQ_none hidx
    rw [hpl] at HP
    clear hidx hpl
    by_cases hfull : q.length = cap
    · obtain ⟨n1, hn1⟩ : ∃ n1, n1 + 1 = q.length := ⟨q.length - 1, by omega⟩
      have HE : Hid (putQ cap q k t = (k, t) :: (q.take n1 ++ q.drop (n1 + 1)) ∧ outQ cap q k = 1) := Lib.hid (by unfold putQ outQ; rw [hfn, cut_last q n1 hn1]; simp [hfull])
      have hle : ((q.length : Int) == (cap : Int)) = true := by rw [hfull]; simp
      have hq1 : IntKind.i64.wrap ((q.length : Int) - 1) = (n1 : Int) := by rw [IntWalk.i64_in _ (by omega)]; omega
      have hr1 : IntKind.i64.wrap ((r : Int) + 1) = (((r + 1 : Nat)) : Int) := by rw [IntWalk.i64_in _ (by omega)]; rfl
      obtain ⟨r', hr'⟩ : ∃ r', r + 1 = r' := ⟨_, rfl⟩
      rw [hr'] at hr1
      have HRR := Lib.hid hr'
      obtain ⟨q2, hq2⟩ : ∃ q2, q.take n1 ++ q.drop (n1 + 1) = q2 := ⟨_, rfl⟩
      rw [hq2] at HE
      have HL2 : Hid (q2.length ≤ 400) := Lib.hid (by rw [← hq2]; simp; omega)
      clear hfn hfull hr'
      go_enter Try.func13, Try.ntmps13
      rw [hW] at d0 d1 d2 d3 d4 d5
      go_wp2_with fail
      rw [← hW]
      clear hW d0 d1 d2 d3 d4 d5
      refine HP.out.mono ?_
      rintro e w1 ⟨rfl, hb1⟩
      have hz1 := hb1.size
      have hR1 := HRW.out.keep (w' := w1) (G' := G) (fun b hb => hb1.block b (HGW.out b hb)) fun _ h => h
      have hT1 := HTW.out.keep (w' := w1) (P' := G) (fun b hb => hb1.block b (HGW.out b hb)) fun _ h => h
      have hS1 := HS.out.keep (hb1.block _ (by omega))
      have hTb1 := (hb1.block (w.heap.size + 1) (by omega)).trans HT.out
      obtain ⟨d0, d1, d2, d3, d4, d5⟩ := hS1.cells
      have HWT := Lib.hid (without_any cap h m r _ _ q n1 w1 G hR1 (fun b hb => Nat.lt_of_lt_of_le (HGW.out b hb) hz1) (by omega) (by omega))
      rw [hq2] at HWT
      clear hq2 hn1
      have HT1 := Lib.hid hT1
      have HB1 := Lib.hid hb1
      have HTb1 := Lib.hid hTb1
      have HS1 := Lib.hid hS1
      clear hR1 hT1 hS1 hTb1 hb1 HP
      go_wp2_with fail
      refine HWT.out.mono ?_
      rintro e w2 ⟨⟨yk, yt, rfl, hR2⟩, hb2⟩
      have hz2 := hb2.size
      obtain ⟨ok2, ck2, ot2, ct2, rfl, rfl, _⟩ := hR2.form
      have hS2 := HS1.out.keep (hb2.block w.heap.size (by omega))
      have hTb2 := (hb2.block (w.heap.size + 1) (by omega)).trans HTb1.out
      have sf := hS2.frozen
      obtain ⟨s0, s1, s2, s3, s4, s5⟩ := hS2.cells
      obtain ⟨w3, hw3, hs3, hz3, hk3, hb3⟩ := StB.six (w := w2) (b := w.heap.size) hS2 cap h m r (.slice ok2 q2.length ck2) (.slice ot2 q2.length ct2)
      obtain ⟨w4, hw4⟩ : ∃ w4, w4 = w3.setCell ⟨w.heap.size, 5, none⟩ (.int .i64 r') := ⟨_, rfl⟩
      have hs4 : StB w4 w.heap.size cap h m r' (.slice ok2 q2.length ck2) (.slice ot2 q2.length ct2) := by rw [hw4]; exact heap_setCell_same _ _ _ _ _ _ hs3
      have hz4 : w4.heap.size = w2.heap.size := by rw [hw4, World.size_setCell, hz3]
      have hk4 : ∀ b, b ≠ w.heap.size → w4.heap[b]? = w2.heap[b]? := fun b hb => by rw [hw4, heap_setCell_other _ _ _ _ hb]; exact hk3 b hb
      have hb4 : Below w.heap.size w2 w4 := by rw [hw4]; exact (hb3 _ (Nat.le_refl _)).setCell (p := ⟨w.heap.size, 5, none⟩) (Nat.le_refl _) _
      have sf3 := hs3.frozen
      obtain ⟨_, _, _, _, _, p5⟩ := hs3.cells
      obtain ⟨g0, g1, g2, g3, g4, g5⟩ := hs4.cells
      have t0 : w4.cell? ⟨w.heap.size + 1, 0, none⟩ = some (.int .i64 t.r) := by unfold World.cell?; rw [hk4 (w.heap.size + 1) (by omega), hTb2]; rfl
      have t1 : w4.cell? ⟨w.heap.size + 1, 1, none⟩ = some (.slice oa t.l.length ca) := by unfold World.cell?; rw [hk4 (w.heap.size + 1) (by omega), hTb2]; rfl
      have hG2 : ∀ b, G b ∨ w1.heap.size ≤ b ∧ b < w2.heap.size → b < w4.heap.size := fun b hb => hb.elim (fun hb => by have := HGB.out b hb; omega) fun h => by omega
      have HF := Lib.hid (first_any cap h m r' (.slice ok2 q2.length ck2) (.slice ot2 q2.length ct2) q2 k t (.slice oa t.l.length ca) w4 (fun b => G b ∨ w1.heap.size ≤ b ∧ b < w2.heap.size) (hR2.fin w.heap.size hk4 (fun b hb => hb.elim (fun hb => by have := HGB.out b hb; omega) fun h => by omega) fun _ h => h) hG2 (by have := HL2.out; omega)
        ((HT1.out.keep (fun b hb => (hk4 b (by have := HGB.out b hb; omega)).trans (hb2.block b (by have := HGB.out b hb; omega))) fun b hb => .inl hb)))
      rw [hw4, hw3] at g0 g1 g2 g3 g4 g5 t0 t1
      rw [hw3] at p5 sf3
      have HB2 := Lib.hid hb2
      have HB4 := Lib.hid hb4
      have HK4 := Lib.hid hk4
      have HS4 := Lib.hid hz4
      clear hR2 hb2 hTb2 hG2 hS2 hs3 hz3 hk3 hb3 hs4 hz4 hk4 hb4 d0 d1 d2 d3 d4 d5 HWT
      go_wp2_with fail
      rw [← hw3, ← hw4]
      clear hw3 hw4 g0 g1 g2 g3 g4 g5 t0 t1 p5 sf3 s0 s1 s2 s3 s4 s5 sf
      refine HF.out.mono ?_
      rintro e w5 ⟨⟨yk5, yt5, rfl, hR5⟩, hb5⟩
      obtain ⟨ok5, ck5, ot5, ct5, rfl, rfl, _⟩ := hR5.form
      have hz5 := hb5.size
      have hz4 := HS4.out
      have hZ5 := HZ.out.keep ((hb5.block (w.heap.size + 2) (by omega)).trans ((HK4.out (w.heap.size + 2) (by omega)).trans ((HB2.out.block (w.heap.size + 2) (by omega)).trans (HB1.out.block (w.heap.size + 2) (by omega)))))
      obtain ⟨z0, z1, z2, z3, z4, z5⟩ := hZ5.cells
      have zf := hZ5.frozen
      have HZ5 := Lib.hid hZ5
      have HR5 := Lib.hid hR5
      have HB5 := Lib.hid hb5
      clear hR5 hb5 hZ5 hz4
      go_wp2_with fail
      obtain ⟨w9, hw9, hs9, hz9, hk9, hb9⟩ := StB.six (w := w5) (b := w.heap.size + 1 + 1) HZ5.out cap h m r' (.slice ok5 (q2.length + 1) ck5) (.slice ot5 (q2.length + 1) ct5)
      rw [← hw9]
      obtain ⟨r0, r1, r2, r3, r4, r5⟩ := hs9.cells
      have HB9 := Lib.hid (hb9 w.heap.size (by omega))
      have HK9 := Lib.hid hk9
      have HZ9 := Lib.hid hz9
      clear hw9 hs9 hk9 hb9 hz9 z0 z1 z2 z3 z4 z5 zf
      refine bodyPost_ret (v := stV cap h m r' (.slice ok5 (q2.length + 1) ck5) (.slice ot5 (q2.length + 1) ct5)) (by simp [results, Try.results13, go_sem, *]) rfl ?_
      rw [HE.out.1, HE.out.2]
      rw [HRR.out]
      have hz4 := HS4.out
      refine ⟨⟨_, _, rfl, HR5.out.fin (w.heap.size + 2) HK9.out (fun b hb => ?_) fun b hb => ?_⟩, ((((HBW.out.trans (HB1.out.mono (by omega))).trans (HB2.out.mono (by omega))).trans HB4.out).trans (HB5.out.mono (by have := HS4.out; omega))).trans HB9.out⟩
      · rcases hb with (hb | hb) | hb
        · have := HGB.out b hb; omega
        all_goals ((try simp only [World.drew] at hb); omega)
      · have := HZ9.out
        rcases hb with (hb | hb) | hb
        · exact .inl hb
        all_goals exact .inr (by (try simp only [World.drew] at hb); omega)
    · have HE : Hid (putQ cap q k t = (k, t) :: q ∧ outQ cap q k = 0) := Lib.hid (by unfold putQ outQ; rw [hfn]; simp [hfull])
      have hle : ((q.length : Int) == (cap : Int)) = false := by
        cases hh : ((q.length : Int) == (cap : Int)) with
        | false => rfl
        | true => exact absurd (by have := eq_of_beq hh; omega) hfull
      clear hfn hfull
      go_enter Try.func13, Try.ntmps13
      rw [hW] at d0 d1 d2 d3 d4 d5
      go_wp2_with fail
      rw [← hW]
      clear hW d0 d1 d2 d3 d4 d5
      refine HP.out.mono ?_
      rintro e w1 ⟨rfl, hb1⟩
      have hz1 := hb1.size
      have hR1 := HRW.out.keep (w' := w1) (G' := G) (fun b hb => hb1.block b (HGW.out b hb)) fun _ h => h
      have hT1 := HTW.out.keep (w' := w1) (P' := G) (fun b hb => hb1.block b (HGW.out b hb)) fun _ h => h
      have hS1 := HS.out.keep (hb1.block _ (by omega))
      have hTb1 := (hb1.block (w.heap.size + 1) (by omega)).trans HT.out
      obtain ⟨d0, d1, d2, d3, d4, d5⟩ := hS1.cells
      have t0 : w1.cell? ⟨w.heap.size + 1, 0, none⟩ = some (.int .i64 t.r) := by unfold World.cell?; rw [hTb1]; rfl
      have t1 : w1.cell? ⟨w.heap.size + 1, 1, none⟩ = some (.slice oa t.l.length ca) := by unfold World.cell?; rw [hTb1]; rfl
      have HF := Lib.hid (first_any cap h m r _ _ q k t (.slice oa t.l.length ca) w1 G hR1 (fun b hb => Nat.lt_of_lt_of_le (HGW.out b hb) hz1) (by omega) hT1)
      have HB1 := Lib.hid hb1
      clear hR1 hT1 hS1 hTb1 hb1 HP
      go_wp2_with fail
      refine HF.out.mono ?_
      rintro e w5 ⟨⟨yk5, yt5, rfl, hR5⟩, hb5⟩
      obtain ⟨ok5, ck5, ot5, ct5, rfl, rfl, _⟩ := hR5.form
      have hz5 := hb5.size
      have hZ5 := HZ.out.keep ((hb5.block (w.heap.size + 2) (by omega)).trans (HB1.out.block (w.heap.size + 2) (by omega)))
      obtain ⟨z0, z1, z2, z3, z4, z5⟩ := hZ5.cells
      have zf := hZ5.frozen
      have HZ5 := Lib.hid hZ5
      have HR5 := Lib.hid hR5
      have HB5 := Lib.hid hb5
      clear hR5 hb5 hZ5
      go_wp2_with fail
      obtain ⟨w9, hw9, hs9, hz9, hk9, hb9⟩ := StB.six (w := w5) (b := w.heap.size + 1 + 1) HZ5.out cap h m r (.slice ok5 (q.length + 1) ck5) (.slice ot5 (q.length + 1) ct5)
      rw [← hw9]
      obtain ⟨r0, r1, r2, r3, r4, r5⟩ := hs9.cells
      have HB9 := Lib.hid (hb9 w.heap.size (by omega))
      have HK9 := Lib.hid hk9
      have HZ9 := Lib.hid hz9
      clear hw9 hs9 hk9 hb9 hz9 z0 z1 z2 z3 z4 z5 zf
      refine bodyPost_ret (v := stV cap h m r (.slice ok5 (q.length + 1) ck5) (.slice ot5 (q.length + 1) ct5)) (by simp [results, Try.results13, go_sem, *]) rfl ?_
      rw [HE.out.1, HE.out.2]
      refine ⟨⟨_, _, rfl, HR5.out.fin (w.heap.size + 2) HK9.out (fun b hb => ?_) fun b hb => ?_⟩, ((HBW.out.trans (HB1.out.mono (by omega))).trans (HB5.out.mono (by omega))).trans HB9.out⟩
      · rcases hb with hb | hb
        · have := HGB.out b hb; omega
        all_goals ((try simp only [World.drew] at hb); omega)
      · have := HZ9.out
        rcases hb with hb | hb
        · exact .inl hb
        all_goals exact .inr (by (try simp only [World.drew] at hb); omega)

end Go.Proofs.Ytbimpfciadbnjaa
