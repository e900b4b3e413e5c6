/-
  Get of the specification of the cache. Nothing is assumed.
-/
import Derived.Test.YtbimpfciadbnjaaCaRfD
namespace Go.Proofs.Ytbimpfciadbnjaa
open Go.RowKit

set_option maxRecDepth 100000 in
set_option maxHeartbeats 3200000 in
theorem rget_any (cap h m r : Nat) (xk xt : Value) (q : List Ent) (k : ByteArray) (w : World) (G : Nat → Prop) (hR : RefQ w G xk xt q) (hG : ∀ b, G b → b < w.heap.size) (hl : q.length ≤ 400) (hh : h ≤ 1000000) (hm : m ≤ 1000000) :
    Calls Try.prog 15 #[stV cap h m r xk xt, .string k] w fun e w' => RetG w w' G cap (hitN q k h) (misN q k m) r (useQ q k) (fnd q k) e ∧ Below w.heap.size w w' := by
  have HRQ := Lib.hid hR
  obtain ⟨ok, ck, ot, ct, rfl, rfl, _, _, _⟩ := hR.form
  obtain ⟨W, hW⟩ : ∃ W, W = ((w.alloc (.cells #[.int .i64 cap, .slice ok q.length ck, .slice ot q.length ct, .int .i64 h, .int .i64 m, .int .i64 r] 32)).alloc (.cells #[.int .i64 0, .slice none 0 0, .slice none 0 0, .int .i64 0, .int .i64 0, .int .i64 0] 32)).alloc (.cells #[.int .i64 0, .slice none 0 0] 36) := ⟨_, rfl⟩
  have hbW : Below w.heap.size w W := by rw [hW]; exact below3 _ _ _ _
  have hzW : W.heap.size = w.heap.size + 3 := by rw [hW]; simp
  have hS : StB W w.heap.size cap h m r (.slice ok q.length ck) (.slice ot q.length ct) := by
    rw [hW]
    exact ((StB.new w cap h m r (.slice ok q.length ck) (.slice ot q.length ct)).keep (Below.heap_alloc _ _ _ (by simp))).keep (Below.heap_alloc _ _ _ (by simp; omega))
  have hZ : StB W (w.heap.size + 1) 0 0 0 0 (.slice none 0 0) (.slice none 0 0) := by
    rw [hW]
    have h := zst (w.alloc (.cells #[.int .i64 cap, .slice ok q.length ck, .slice ot q.length ct, .int .i64 h, .int .i64 m, .int .i64 r] 32))
    rw [World.size_alloc] at h
    exact h.keep (Below.heap_alloc _ _ _ (by simp))
  have hT : TmB W (w.heap.size + 2) 0 (.slice none 0 0) := by
    rw [hW]
    have h := heap_alloc_new ((w.alloc (.cells #[.int .i64 cap, .slice ok q.length ck, .slice ot q.length ct, .int .i64 h, .int .i64 m, .int .i64 r] 32)).alloc (.cells #[.int .i64 0, .slice none 0 0, .slice none 0 0, .int .i64 0, .int .i64 0, .int .i64 0] 32)) (.cells #[.int .i64 0, .slice none 0 0] 36)
    simp only [World.size_alloc] at h
    exact h
  have hGW : ∀ b, G b → b < W.heap.size := fun b hb => Nat.lt_of_lt_of_le (hG b hb) hbW.size
  have hRW := hR.keep (w' := W) (G' := G) (fun b hb => hbW.block b (hG b hb)) fun _ h => h
  have HP := Lib.hid (place_any cap h m r _ _ q k W G hRW hGW)
  have HBW := Lib.hid hbW
  have HGW := Lib.hid hGW
  have HGB := Lib.hid hG
  have HRW := Lib.hid hRW
  have HS := Lib.hid hS
  have HT := Lib.hid hT
  have HZ := Lib.hid hZ
  obtain ⟨d0, d1, d2, d3, d4, d5⟩ := hS.cells
  clear hR hbW hS hT hGW hRW hZ
  cases hidx : idxQ q k with
  | none =>
    have hpl : plQ q k = -1 := by unfold plQ; rw [hidx]
    have hfn := idxQ_none hidx
    have HF : Hid (fnd q k = none ∧ hitN q k h = h ∧ misN q k m = m + 1 ∧ useQ q k = q) := Lib.hid ⟨hfn, by unfold hitN; rw [hfn]; rfl, by unfold misN; rw [hfn]; rfl, useQ_none hfn⟩
    have hm1 : IntKind.i64.wrap ((m : Int) + 1) = (((m + 1 : Nat)) : Int) := by rw [IntWalk.i64_in _ (by omega)]; rfl
    obtain ⟨m', hm'⟩ : ∃ m', m + 1 = m' := ⟨_, rfl⟩
    rw [hm'] at hm1
    rw [hm'] at HF
    rw [hpl] at HP
    clear hidx hpl hfn hm'
    go_enter Try.func15, Try.ntmps15
    rw [hW] at d0 d1 d2 d3 d4 d5
    go_wp2_with fail
    rw [← hW]
    clear hW d0 d1 d2 d3 d4 d5
    refine HP.out.mono ?_
    rintro e w1 ⟨rfl, hb1⟩
    have hz1 := hb1.size
    have hR1 := HRW.out.keep (w' := w1) (G' := G) (fun b hb => hb1.block b (HGW.out b hb)) fun _ h => h
    have hS1 := HS.out.keep (hb1.block w.heap.size (by omega))
    have hT1 := HT.out.keep (hb1.block (w.heap.size + 2) (by omega))
    have hZ1 := HZ.out.keep (hb1.block (w.heap.size + 1) (by omega))
    obtain ⟨_, _, _, _, a4, _⟩ := hS1.cells
    have af := hS1.frozen 4
    obtain ⟨w2, hw2⟩ : ∃ w2, w2 = w1.setCell ⟨w.heap.size, 4, none⟩ (.int .i64 m') := ⟨_, rfl⟩
    have hS2 : StB w2 w.heap.size cap h m' r (.slice ok q.length ck) (.slice ot q.length ct) := by rw [hw2]; exact hS1.set4 _
    have hk2 : ∀ b, b ≠ w.heap.size → w2.heap[b]? = w1.heap[b]? := fun b hb => by rw [hw2]; exact heap_setCell_other _ _ _ _ hb
    have hz2 : w2.heap.size = w1.heap.size := by rw [hw2]; exact World.size_setCell _ _ _
    have hb2 : Below w.heap.size w1 w2 := by rw [hw2]; exact (Below.refl _ _).setCell (p := ⟨w.heap.size, 4, none⟩) (Nat.le_refl _) _
    have hZ2 := hZ1.keep (hk2 (w.heap.size + 1) (by omega))
    have hT2 := hT1.keep (hk2 (w.heap.size + 2) (by omega))
    obtain ⟨d0, d1, d2, d3, d4, d5⟩ := hS2.cells
    obtain ⟨z0, z1, z2, z3, z4, z5⟩ := hZ2.cells
    have zf := hZ2.frozen
    obtain ⟨w8, hw8, hs8, hz8, hk8, hb8⟩ := StB.six (w := w2) (b := w.heap.size + 1) hZ2 cap h m' r (.slice ok q.length ck) (.slice ot q.length ct)
    obtain ⟨w9, hw9, hT9, hz9, hk9, hb9⟩ := TmB.two (w := w8) (b := w.heap.size + 1 + 1) (hT2.keep (hk8 (w.heap.size + 2) (by omega))) 0 (.slice none 0 0)
    have hs9 := hs8.keep (hk9 (w.heap.size + 1) (by omega))
    obtain ⟨r0, r1, r2, r3, r4, r5⟩ := hs9.cells
    obtain ⟨u0, u1⟩ := hT9.cells
    obtain ⟨y0, y1⟩ := (hT2.keep (hk8 (w.heap.size + 2) (by omega))).cells
    have yf := (hT2.keep (hk8 (w.heap.size + 2) (by omega))).frozen
    have hR9 : RefQ w9 G (.slice ok q.length ck) (.slice ot q.length ct) q := hR1.keep (fun b hb => by
      have := HGB.out b hb
      exact (hk9 b (by omega)).trans ((hk8 b (by omega)).trans (hk2 b (by omega)))) fun _ h => h
    have HR9 := Lib.hid (hR9.keep (w' := w9) (G' := fun b => G b ∨ w.heap.size ≤ b ∧ b < w9.heap.size) (fun _ _ => rfl) fun b hb => .inl hb)
    have HB9 := Lib.hid ((((HBW.out.trans (hb1.mono (by omega))).trans hb2).trans (hb8 w.heap.size (by omega))).trans (hb9 w.heap.size (by omega)))
    have hw8' := hw8
    rw [hw2] at d0 d1 d2 d3 d4 d5 z0 z1 z2 z3 z4 z5 zf
    rw [hw8, hw2] at y0 y1 yf
    clear hR1 hS1 hT1 hZ1 hS2 hk2 hz2 hb2 hZ2 hT2 hz8 hk8 hb8 hz9 hk9 hb9 hR9 hb1 HP hs8 hT9 hs9
    go_wp2_with fail
    rw [← hw2, ← hw8, ← hw9]
    clear hw2 hw8 hw8' hw9 a4 af d0 d1 d2 d3 d4 d5 z0 z1 z2 z3 z4 z5 zf y0 y1 yf
    refine bodyPost_ret (v := .tuple #[stV cap h m' r (.slice ok q.length ck) (.slice ot q.length ct), .agg #[.int .i64 0, .slice none 0 0], .bool false]) (by simp [results, Try.results15, go_sem, *]) rfl ?_
    obtain ⟨e1, e2, e3, e4⟩ := HF.out
    rw [e1, e2, e3, e4]
    exact ⟨⟨_, _, HR9.out, rfl⟩, HB9.out⟩
  | some i =>
    obtain ⟨hi, hik, hfn, hdel⟩ := idxQ_some hidx
    have hpl : plQ q k = (i : Int) := by unfold plQ; rw [hidx]
    rw [hpl] at HP
    have q0 : (0 : Int) ≤ (i : Int) := by omega
    have q1 : (i : Int) < (q.length : Int) := by omega
    have q2 : ¬ (i : Int) < 0 := by omega
    have hh1 : IntKind.i64.wrap ((h : Int) + 1) = (((h + 1 : Nat)) : Int) := by rw [IntWalk.i64_in _ (by omega)]; rfl
    obtain ⟨h', hh'⟩ : ∃ h', h + 1 = h' := ⟨_, rfl⟩
    rw [hh'] at hh1
    obtain ⟨qd, hqd⟩ : ∃ qd, q.take i ++ q.drop (i + 1) = qd := ⟨_, rfl⟩
    rw [hqd] at hdel
    have HLD : Hid (qd.length ≤ 400) := Lib.hid (by rw [← hqd]; simp; omega)
    obtain ⟨_, _, _, h4⟩ := HRW.out.2.slice
    obtain ⟨bt, ft, oe, ce, rfl, hbt, e0, e1, hRe⟩ := h4 i q[i].2 (by simp [List.getElem?_eq_getElem hi])
    obtain ⟨t, ht⟩ : ∃ t, q[i].2 = t := ⟨_, rfl⟩
    rw [ht] at e0 e1 hRe hfn
    have HF : Hid (fnd q k = some t ∧ hitN q k h = h' ∧ misN q k m = m ∧ useQ q k = (k, t) :: qd) := Lib.hid ⟨hfn, by unfold hitN; rw [hfn]; exact hh', by unfold misN; rw [hfn]; rfl, by rw [useQ_some hfn, hdel]⟩
    have HRE := Lib.hid hRe
    clear hidx hpl hfn ht hRe h4 hdel hh'
    go_enter Try.func15, Try.ntmps15
    rw [hW] at d0 d1 d2 d3 d4 d5
    go_wp2_with fail
    rw [← hW]
    clear hW d0 d1 d2 d3 d4 d5
    refine HP.out.mono ?_
    rintro e w1 ⟨rfl, hb1⟩
    have hz1 := hb1.size
    have hR1 := HRW.out.keep (w' := w1) (G' := G) (fun b hb => hb1.block b (HGW.out b hb)) fun _ h => h
    have hS1 := HS.out.keep (hb1.block w.heap.size (by omega))
    have hT1 := HT.out.keep (hb1.block (w.heap.size + 2) (by omega))
    have hZ1 := HZ.out.keep (hb1.block (w.heap.size + 1) (by omega))
    have hRe1 := HRE.out.keep (w' := w1) (P' := G) (fun b hb => hb1.block b (HGW.out b hb)) fun _ h => h
    obtain ⟨_, _, a2, _⟩ := hS1.cells
    rw [← hb1.cell (p := ⟨bt, _, none⟩) (HGW.out bt hbt)] at e0 e1
    have hX1 : TmB (w1.alloc (.cells #[.int .i64 t.r, .slice oe t.l.length ce] 36)) w1.heap.size t.r (.slice oe t.l.length ce) := heap_alloc_new _ _
    have hbx : Below w1.heap.size w1 (w1.alloc (.cells #[.int .i64 t.r, .slice oe t.l.length ce] 36)) := below1 _ _
    clear HP
    go_upto_region 6 with fail
    obtain ⟨w2, hw2⟩ : ∃ w2, w2 = w1.alloc (.cells #[.int .i64 t.r, .slice oe t.l.length ce] 36) := ⟨_, rfl⟩
    rw [← hw2]
    rw [← hw2] at hX1 hbx
    have hz2 : w2.heap.size = w1.heap.size + 1 := by rw [hw2]; simp
    have hk12 : ∀ b, b < w1.heap.size → w2.heap[b]? = w1.heap[b]? := fun b hb => hbx.block b hb
    have hR2 := hR1.keep (w' := w2) (G' := G) (fun b hb => hk12 b (Nat.lt_of_lt_of_le (HGW.out b hb) hz1)) fun _ h => h
    have hRe2 := hRe1.keep (w' := w2) (P' := G) (fun b hb => hk12 b (Nat.lt_of_lt_of_le (HGW.out b hb) hz1)) fun _ h => h
    have HS2 := Lib.hid (hS1.keep (hk12 w.heap.size (by omega)))
    have HT2 := Lib.hid (hT1.keep (hk12 (w.heap.size + 2) (by omega)))
    have HZ2 := Lib.hid (hZ1.keep (hk12 (w.heap.size + 1) (by omega)))
    have HB2 := Lib.hid ((HBW.out.trans (hb1.mono (by omega))).trans (hbx.mono (show w.heap.size ≤ w1.heap.size by omega)))
    obtain ⟨d0, d1, d2, d3, d4, d5⟩ := HS2.out.cells
    obtain ⟨t0, t1⟩ := hX1.cells
    have HX2 := Lib.hid hX1
    have HWT := Lib.hid (without_any cap h m r _ _ q i w2.drew G hR2.drew (fun b hb => by show b < w2.heap.size; have := HGB.out b hb; omega) (by omega) hi)
    rw [hqd] at HWT
    have HRE2 := Lib.hid hRe2
    have HZZ := Lib.hid hz2
    have hlt2 : w1.heap.size < w2.heap.size := by omega
    have hlt3 : w.heap.size + 3 ≤ w1.heap.size := by omega
    clear hqd hw2 hX1 hbx hz2 hk12 hR2 hRe2 hR1 hS1 hT1 hZ1 hRe1 a2 e0 e1 hb1 hz1
    go_cut [] (fun wx => ∃ xk3 xt3, Hid (StB wx w.heap.size cap h m r xk3 xt3) ∧ Hid (RefQ wx (fun b => G b ∨ w2.heap.size ≤ b ∧ b < wx.heap.size) xk3 xt3 ((k, t) :: qd)) ∧ Hid (Below w.heap.size w2 wx) ∧ Hid (w2.heap.size ≤ wx.heap.size ∧ ∀ b, b ≠ w.heap.size → b < w2.heap.size → wx.heap[b]? = w2.heap[b]?))
    case first =>
      go_region_law (first
        | (go_simp; go_at_call 33; (with_reducible refine HWT.out.mono ?_)
           rintro e w3 ⟨⟨yk, yt, rfl, hR3⟩, hb3'⟩
           have hb3 : Below w2.heap.size w2 w3 := ((Below.refl _ _).drew).trans hb3'
           have hz3 := hb3.size
           have hX3 := HX2.out.keep (hb3.block w1.heap.size hlt2)
           obtain ⟨t30, t31⟩ := hX3.cells
           have hG3 : ∀ b, G b ∨ w2.heap.size ≤ b ∧ b < w3.heap.size → b < w3.heap.size := fun b hb => hb.elim (fun hb => by have := HGB.out b hb; omega) fun h => h.2
           have HF3 := Lib.hid (first_any cap h m r yk yt _ k t (.slice oe t.l.length ce) w3 _ hR3 hG3 (by have := HLD.out; omega) ((HRE2.out.keep (fun b hb => hb3.block b (by have := HGB.out b hb; omega)) fun b hb => .inl hb)))
           obtain ⟨ok3, ck3, ot3, ct3, rfl, rfl, _⟩ := hR3.form
           have HB3 := Lib.hid hb3
           clear hR3 hb3' hb3 hX3 hG3)
        | (go_simp; go_at_call 32; (with_reducible refine HF3.out.mono ?_)
           rintro e w4 ⟨⟨yk4, yt4, rfl, hR4⟩, hb4⟩
           obtain ⟨ok4, ck4, ot4, ct4, rfl, rfl, _⟩ := hR4.form
           have hz4 := hb4.size
           have hS4 := HS2.out.keep ((hb4.block w.heap.size (by omega)).trans (HB3.out.block w.heap.size (by omega)))
           obtain ⟨s0, s1, s2, s3, s4, s5⟩ := hS4.cells
           have sf := hS4.frozen
           have HS4 := Lib.hid hS4
           have HR4 := Lib.hid hR4
           have HB4 := Lib.hid hb4
           clear hR4 hb4 hS4))
      all_goals
        go_wp2_with fail
        obtain ⟨w5, hw5, hs5, hz5, hk5, hb5⟩ := StB.six (w := w4) (b := w.heap.size) HS4.out cap h m r (.slice ok4 (qd.length + 1) ck4) (.slice ot4 (qd.length + 1) ct4)
        rw [← hw5]
        go_meet
        refine ⟨_, _, Lib.hid hs5, Lib.hid (HR4.out.fin w.heap.size hk5 (fun b hb => ?_) fun b hb => ?_), Lib.hid (((HB3.out.mono (by omega)).trans (HB4.out.mono (by omega))).trans (hb5 _ (Nat.le_refl _))), Lib.hid ⟨by omega, fun b h1 h2 => (hk5 b h1).trans ((HB4.out.block b (by omega)).trans (HB3.out.block b h2))⟩⟩
        · rcases hb with (hb | hb) | hb
          · have := HGB.out b hb; omega
          all_goals ((try simp only [World.drew] at hb); omega)
        · rcases hb with (hb | hb) | hb
          · exact .inl hb
          all_goals exact .inr (by (try simp only [World.drew] at hb); omega)
    case rest =>
      obtain ⟨xk3, xt3, HS3, HR3, HB3, HKZ⟩ := hcut
      obtain ⟨hz3, hk3⟩ := HKZ.out
      have HK3 := Lib.hid hk3
      obtain ⟨ok3, ck3, ot3, ct3, rfl, rfl, _⟩ := HR3.out.form
      have hZ3 := HZ2.out.keep (HK3.out (w.heap.size + 1) (by omega) (by omega))
      have hT3 := HT2.out.keep (HK3.out (w.heap.size + 2) (by omega) (by omega))
      have hX3 := HX2.out.keep (HK3.out w1.heap.size (by omega) (by omega))
      have hE3 := HRE2.out.keep (w' := wc) (P' := G) (fun b hb => HK3.out b (by have := HGB.out b hb; omega) (by have := HGB.out b hb; omega)) fun _ h => h
      obtain ⟨_, _, _, b3, _⟩ := HS3.out.cells
      have bf := HS3.out.frozen 3
      obtain ⟨w4, hw4⟩ : ∃ w4, w4 = wc.setCell ⟨w.heap.size, 3, none⟩ (.int .i64 h') := ⟨_, rfl⟩
      have hS4 : StB w4 w.heap.size cap h' m r (.slice ok3 (qd.length + 1) ck3) (.slice ot3 (qd.length + 1) ct3) := by rw [hw4]; exact HS3.out.set3 _
      have hk4 : ∀ b, b ≠ w.heap.size → w4.heap[b]? = wc.heap[b]? := fun b hb => by rw [hw4]; exact heap_setCell_other _ _ _ _ hb
      have hz4 : w4.heap.size = wc.heap.size := by rw [hw4]; exact World.size_setCell _ _ _
      have hb4 : Below w.heap.size wc w4 := by rw [hw4]; exact (Below.refl _ _).setCell (p := ⟨w.heap.size, 3, none⟩) (Nat.le_refl _) _
      have hZ4 := hZ3.keep (hk4 (w.heap.size + 1) (by omega))
      have hT4 := hT3.keep (hk4 (w.heap.size + 2) (by omega))
      have hX4 := hX3.keep (hk4 w1.heap.size (by omega))
      obtain ⟨d0, d1, d2, d3, d4, d5⟩ := hS4.cells
      obtain ⟨z0, z1, z2, z3, z4, z5⟩ := hZ4.cells
      have zf := hZ4.frozen
      obtain ⟨x0, x1⟩ := hX4.cells
      obtain ⟨w8, hw8, hs8, hz8, hk8, hb8⟩ := StB.six (w := w4) (b := w.heap.size + 1) hZ4 cap h' m r (.slice ok3 (qd.length + 1) ck3) (.slice ot3 (qd.length + 1) ct3)
      obtain ⟨w9, hw9, hT9, hz9, hk9, hb9⟩ := TmB.two (w := w8) (b := w.heap.size + 1 + 1) (hT4.keep (hk8 (w.heap.size + 2) (by omega))) t.r (.slice oe t.l.length ce)
      have hs9 := hs8.keep (hk9 (w.heap.size + 1) (by omega))
      obtain ⟨r0, r1, r2, r3, r4, r5⟩ := hs9.cells
      obtain ⟨u0, u1⟩ := hT9.cells
      obtain ⟨y0, y1⟩ := (hT4.keep (hk8 (w.heap.size + 2) (by omega))).cells
      have yf := (hT4.keep (hk8 (w.heap.size + 2) (by omega))).frozen
      obtain ⟨v0, v1⟩ := (hX4.keep (hk8 w1.heap.size (by omega))).cells
      have hk9' : ∀ b, b ≠ w.heap.size → b ≠ w.heap.size + 1 → b ≠ w.heap.size + 2 → w9.heap[b]? = wc.heap[b]? := fun b h1 h2 h3 => (hk9 b h3).trans ((hk8 b h2).trans (hk4 b h1))
      have hG9 : ∀ b, G b → w9.heap[b]? = wc.heap[b]? := fun b hb => by
        have := HGB.out b hb
        exact hk9' b (by omega) (by omega) (by omega)
      have HR9 : Hid (RefQ w9 (fun b => G b ∨ w.heap.size ≤ b ∧ b < w9.heap.size) (.slice ok3 (qd.length + 1) ck3) (.slice ot3 (qd.length + 1) ct3) ((k, t) :: qd)) := Lib.hid (HR3.out.keep (fun b hb => hb.elim (hG9 b) fun hb => hk9' b (by omega) (by omega) (by omega)) fun b hb => hb.elim .inl fun h => .inr (by omega))
      have HE9 := Lib.hid (hE3.keep (w' := w9) (P' := fun b => G b ∨ w.heap.size ≤ b ∧ b < w9.heap.size) hG9 fun b hb => .inl hb)
      have HB9 := Lib.hid ((((HB2.out.trans HB3.out).trans hb4).trans (hb8 w.heap.size (by omega))).trans (hb9 w.heap.size (by omega)))
      rw [hw8] at y0 y1 yf v0 v1
      clear hZ3 hT3 hX3 hE3 hS4 hk4 hz4 hb4 hZ4 hT4 hX4 hz8 hk8 hb8 hz9 hk9 hb9 hk9' hG9 hs8 hT9 hs9 t0 t1
      go_wp2_with fail
      rw [← hw4]
      clear hw4 b3 bf
      go_region
      all_goals
        go_wp2_with fail
        rw [← hw8, ← hw9]
        clear hw8 hw9 d0 d1 d2 d3 d4 d5 z0 z1 z2 z3 z4 z5 zf x0 x1 y0 y1 yf v0 v1
        refine bodyPost_ret (v := .tuple #[stV cap h' m r (.slice ok3 (qd.length + 1) ck3) (.slice ot3 (qd.length + 1) ct3), .agg #[.int .i64 t.r, .slice oe t.l.length ce], .bool true]) (by simp [results, Try.results15, go_sem, *]) rfl ?_
        obtain ⟨e1, e2, e3, e4⟩ := HF.out
        rw [e1, e2, e3, e4]
        exact ⟨⟨_, _, HR9.out.keep (fun _ _ => rfl) fun _ h => h, _, rfl, HE9.out.keep (fun _ _ => rfl) fun _ h => h⟩, HB9.out.drew⟩

end Go.Proofs.Ytbimpfciadbnjaa
