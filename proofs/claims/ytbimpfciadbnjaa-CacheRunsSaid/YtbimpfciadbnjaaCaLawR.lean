/-
  The walk of CacheRuns. Nothing is assumed.
-/
import Derived.Test.YtbimpfciadbnjaaCaRun
import Derived.Test.YtbimpfciadbnjaaCaLight
namespace Go.Proofs.Ytbimpfciadbnjaa
open Go.RowKit

/-- The cache and the state in some world. -/
def Runs (W : World) (B n sb cap z : Nat) : Prop := ∃ F G q h m r xk xt, Bth W B n sb cap z F G q h m r xk xt

set_option maxRecDepth 100000 in
set_option maxHeartbeats 6400000 in
theorem lawRuns_any (c0 : Int) (x : Value) (l : List Cl) (w : World) (hx : HoldsO w w.heap.size x l) : Calls Try.prog 3 #[.int .i64 c0, x] w fun e w' => e = .returned (.bool true) ∧ Below w.heap.size w w' := by
  have HA : Hid (∀ W, Below w.heap.size w W → Calls Try.prog 9 #[] W fun e w' => e = .returned (.bool true) ∧ Below w.heap.size w w') := Lib.hid (fun W hW => (awake_any W).mono fun e w' ⟨h1, h2⟩ => ⟨h1, hW.trans (h2.mono hW.size)⟩)
  have HX := Lib.hid hx
  have HL := light_any l x w w.heap.size hx (Nat.le_refl _)
  obtain ⟨oa, cx, rfl, _, _⟩ := hx.form
  clear hx
  cases hlt : lightC l with
  | false =>
    rw [hlt] at HL
    clear hlt
    go_enter Try.func3, Try.ntmps3
    go_wp2_with fail
    refine HL.mono ?_
    rintro e w1 ⟨rfl, hb1⟩
    go_wp2_with fail
    refine (HA.out _ hb1).mono ?_
    rintro e w2 ⟨rfl, hb2⟩
    go_wp2_with fail
    go_ret
    exact ⟨rfl, hb2⟩
  | true =>
  rw [hlt] at HL
  have HLT := Lib.hid (light_of hlt)
  clear hlt
  by_cases hc : c0 < 1 ∨ 4096 < c0
  · go_enter Try.func3, Try.ntmps3
    have HC := Lib.hid hc
    clear hc
    go_wp2_with fail
    refine HL.mono ?_
    rintro e w1 ⟨rfl, hb1⟩
    have HB1 := Lib.hid hb1
    clear hb1
    go_wp2_with fail
    refine (new_no w1 c0 HC.out).mono ?_
    rintro e w2 ⟨rfl, h2⟩
    subst h2
    go_wp2_with fail
    refine (rnew_no w2 c0 HC.out).mono ?_
    rintro e w3 ⟨rfl, hb3⟩
    have HB3 := Lib.hid (HB1.out.trans (hb3.mono HB1.out.size))
    clear hb3
    go_wp2_with fail
    refine (HA.out _ (HB3.out.trans ((below1 w3 _).mono HB3.out.size))).mono ?_
    rintro e w4 ⟨rfl, hb4⟩
    go_wp2_with fail
    go_ret
    exact ⟨rfl, hb4⟩
  obtain ⟨cap, rfl⟩ : ∃ n : Nat, c0 = n := ⟨c0.toNat, by omega⟩
  have HCC : Hid (1 ≤ cap ∧ cap ≤ 4096) := Lib.hid (by omega)
  clear hc
  go_enter Try.func3, Try.ntmps3
  go_wp2_with fail
  refine HL.mono ?_
  rintro e w1 ⟨rfl, hb1⟩
  have HB1 := Lib.hid hb1
  clear hb1 HL
  go_wp2_with fail
  refine (new_any w1 cap HCC.out.1 HCC.out.2).mono ?_
  rintro e w2 ⟨rfl, h2, hb2⟩
  have HC2 := Lib.hid (h2 0)
  have HB12 := Lib.hid hb2
  have HB2 := Lib.hid (HB1.out.trans (hb2.mono HB1.out.size))
  clear h2 hb2
  go_wp2_with fail
  refine (rnew_any w2 cap (by have := HCC.out; omega) (by have := HCC.out; omega)).mono ?_
  rintro e w3 ⟨rfl, hb3⟩
  obtain ⟨w4, hw4⟩ : ∃ w4, w4 = w3.alloc (.cells #[.int .i64 cap, .slice none 0 0, .slice none 0 0, .int .i64 0, .int .i64 0, .int .i64 0] 32) := ⟨_, rfl⟩
  have hb34 : Below w3.heap.size w3 w4 := by rw [hw4]; exact below1 _ _
  have hb24 : Below w2.heap.size w2 w4 := hb3.trans (hb34.mono hb3.size)
  have HT4 : Hid (Runs w4 w.heap.size w1.heap.size w3.heap.size cap 0) := Lib.hid ⟨_, fun _ => False, [], 0, 0, 0, .slice none 0 0, .slice none 0 0, {
    c := HC2.out.below hb24
    s := by rw [hw4]; exact heap_alloc_new _ _
    r := ⟨HoldsS.nil _ _, .empty _ _⟩
    g := fun b hb => hb.elim
    f := fun b hb => ⟨Nat.le_trans HB1.out.size hb.1, by have := hb.2; have := hb3.size; omega⟩
    l := Nat.le_refl _
    b := by have := hb3.size; have := HB2.out.size; omega }⟩
  have HB4 := Lib.hid (HB2.out.trans (hb24.mono HB2.out.size))
  clear hb34 hb24 hb3
  go_wp2_with fail
  rw [← hw4]
  clear hw4
  generalize w1.heap.size = n at *
  generalize w3.heap.size = sb at *
  go_loopw [9] (fun i wr => ∃ k : Nat, k ≤ l.length ∧ i = .int .i64 k ∧ Hid (Runs wr w.heap.size n sb cap k) ∧ Below w.heap.size w wr) (fun i _ => l.length - (intOf i).toNat)
  case atStart => exact ⟨0, Nat.zero_le _, rfl, HT4, HB4.out⟩
  case round =>
    obtain ⟨k, hk, rfl, HT, hbr⟩ := hrel
    have HBR := Lib.hid hbr
    by_cases hlt : k < l.length
    · obtain ⟨b, off, os, cs, rfl, hb, s0, s1, s2, s3, hR⟩ := HX.out.at_ (List.getElem?_eq_getElem hlt)
      rw [← hbr.cell (p := ⟨b, _, none⟩) hb] at s0 s1 s2 s3
      obtain ⟨hl40, hsm⟩ := HLT.out
      obtain ⟨hsk, hst⟩ := hsm k _ (List.getElem?_eq_getElem hlt)
      have q0 : (0 : Int) ≤ (k : Int) := by omega
      have q1 : (k : Int) < (l.length : Int) := by omega
      have HRP := Lib.hid hR
      obtain ⟨u, hu⟩ : ∃ u, l[k] = u := ⟨_, rfl⟩
      rw [hu] at s0 s1 s2 s3 hsk hst HRP
      obtain ⟨w4, hw4⟩ : ∃ w4, w4 = wr.alloc (.cells #[.int .i64 u.kd, .string u.k, .int .i64 u.t.r, .slice os u.t.l.length cs] 38) := ⟨_, rfl⟩
      have hbx : Below wr.heap.size wr w4 := by rw [hw4]; exact below1 _ _
      have o0 : w4.cell? ⟨wr.heap.size, 0, none⟩ = some (.int .i64 u.kd) := by rw [hw4]; exact cell_at _ _ _ _ _ rfl
      have o1 : w4.cell? ⟨wr.heap.size, 1, none⟩ = some (.string u.k) := by rw [hw4]; exact cell_at _ _ _ _ _ rfl
      have o2 : w4.cell? ⟨wr.heap.size, 2, none⟩ = some (.int .i64 u.t.r) := by rw [hw4]; exact cell_at _ _ _ _ _ rfl
      have o3 : w4.cell? ⟨wr.heap.size, 3, none⟩ = some (.slice os u.t.l.length cs) := by rw [hw4]; exact cell_at _ _ _ _ _ rfl
      have hz4 : w4.heap.size = wr.heap.size + 1 := by rw [hw4]; simp
      obtain ⟨F, G, q, h, m, r, xk, xt, h3⟩ := HT.out
      have H4 := Lib.hid (h3.below hbx)
      have HB4 := Lib.hid (hbr.trans (hbx.mono hbr.size))
      have HOF : Hid (¬ F wr.heap.size ∧ wr.heap.size ≠ sb ∧ wr.heap.size < w4.heap.size) := Lib.hid ⟨fun hf => by have := h3.c.lt _ hf; omega, by have := h3.s.lt; omega, by omega⟩
      obtain ⟨ok, ck, ot, ct, rfl, rfl, _⟩ := h3.r.form
      have hk40 : k ≤ 40 := by omega
      have HO := Lib.hid (And.intro o1 (And.intro o2 o3))
      obtain ⟨hh, hm, hr⟩ := h3.c.cnt
      have hql := h3.l
      rw [hw4] at o0 o1 o2 o3
      clear hR hbx hl40 hsm hbr h3 hz4 hu HT
      go_upto_region 13 with fail
      rw [← hw4]
      rw [← hw4] at o0 o1 o2 o3
      clear hw4 s0 s1 s2 s3
      by_cases hkd : u.kd = 0
      · have hkd' : (u.kd == 0) = true := by rw [hkd]; rfl
        have HP := Lib.hid (put_any H4.out.c (by omega) HCC.out.1 u.k hsk u.t (.slice os u.t.l.length cs) (fun b => b < w.heap.size) (RP.of (HRP.out.later HB4.out)) (fun b hb => ⟨Nat.lt_of_lt_of_le hb HB4.out.size, fun hf => by have := (H4.out.f b hf).1; omega⟩) hst)
        obtain ⟨q1', hq1⟩ : ∃ q1', putQ cap q u.k u.t = q1' := ⟨_, rfl⟩
        obtain ⟨r1, hr1⟩ : ∃ r1, r + outQ cap q u.k = r1 := ⟨_, rfl⟩
        have HLQ : Hid (q1'.length ≤ k + 1) := Lib.hid (by rw [← hq1]; have := putQ_up cap q u.k u.t; omega)
        rw [hq1, hr1] at HP
        have HQR := Lib.hid (And.intro hq1 hr1)
        clear hq1 hr1 hkd
        go_wp2_with fail
        refine HP.out.mono ?_
        rintro e w5 ⟨rfl, h5, ho5⟩
        obtain ⟨hS5, hR5, hG5, hBw5⟩ := H4.out.half ho5
        obtain ⟨d0, d1, d2, d3, d4, d5⟩ := hS5.cells
        have p1 := (ho5.cell HOF.out.2.2 HOF.out.1 1).trans HO.out.1
        have p2 := (ho5.cell HOF.out.2.2 HOF.out.1 2).trans HO.out.2.1
        have p3 := (ho5.cell HOF.out.2.2 HOF.out.1 3).trans HO.out.2.2
        have HB5 := Lib.hid (HB4.out.trans (ho5.toBelow HB4.out.size fun b hb => (H4.out.f b hb).1))
        have HR := Lib.hid (rput_any cap h m r (.slice ok q.length ck) (.slice ot q.length ct) q u.k u.t (.slice os u.t.l.length cs) w5 (fun b => G b ∨ b < w.heap.size) hR5 hG5 (by omega) HCC.out.1 (by omega) ((RP.of (HRP.out.later HB5.out)).mono fun b hb => .inr hb))
        rw [HQR.out.1, HQR.out.2] at HR
        have HC5 := Lib.hid h5
        have HO5 := Lib.hid ho5
        have HS5 := Lib.hid hS5
        clear h5 ho5 hS5 hR5 hG5 hBw5 o0 o1 o2 o3 HP
        go_wp2_with fail
        refine HR.out.mono ?_
        rintro e w6 ⟨⟨yk, yt, rfl, hR6⟩, hb6⟩
        obtain ⟨ok6, ck6, ot6, ct6, rfl, rfl, _⟩ := hR6.form
        have hS6 := HS5.out.keep (hb6.block sb HS5.out.lt)
        obtain ⟨g0, g1, g2, g3, g4, g5⟩ := hS6.cells
        have gf := hS6.frozen
        obtain ⟨w7, hw7, hs7, hz7, hk7, hb7⟩ := StB.six (w := w6) (b := sb) hS6 cap h m r1 (.slice ok6 q1'.length ck6) (.slice ot6 q1'.length ct6)
        have H7 := Lib.hid (H4.out.step HC5.out HO5.out.kp.size (fun b hb => hb) hb6 hR6 (fun b hb => hb) hs7 hk7 hz7 HLQ.out)
        have HB7 := Lib.hid ((HB5.out.trans (hb6.mono HB5.out.size)).trans (hb7 w.heap.size H4.out.b))
        obtain ⟨e0, e1, e2, e3, e4, e5⟩ := hs7.cells
        rw [hw7] at e0 e1 e2 e3 e4 e5
        clear hR6 hb6 hS6 hs7 hk7 hz7 hb7 d0 d1 d2 d3 d4 d5 p1 p2 p3 HR HS5
        have HAG := Lib.hid (agrees_any H7.out.c (by have := H7.out.l; omega) (.slice ok6 q1'.length ck6) (.slice ot6 q1'.length ct6) _ H7.out.r (fun b hb => (H7.out.g b hb).1))
        go_wp2_with fail
        rw [← hw7]
        clear hw7 e0 e1 e2 e3 e4 e5 g0 g1 g2 g3 g4 g5 gf
        refine HAG.out.mono ?_
        rintro e w9 ⟨rfl, hb9⟩
        have HT9 := Lib.hid (H7.out.below hb9)
        have HB9 := Lib.hid (HB7.out.trans (hb9.mono HB7.out.size))
        clear hb9 HAG
        go_wp2_with fail
        go_roundw
        case rel => exact ⟨k + 1, hlt, by go_num, Lib.hid ⟨_, _, _, _, _, _, _, _, HT9.out⟩, HB9.out⟩
        case measure => simp [intOf]; omega
      have hkd0 : (u.kd == 0) = false := by rw [beq_eq_false_iff_ne]; exact hkd
      clear hkd
      by_cases hkd : u.kd = 1
      · have hkd1 : (u.kd == 1) = true := by rw [hkd]; rfl
        have HP := Lib.hid (get_any H4.out.c (by omega) u.k hsk)
        have HG := Lib.hid (fun (W : World) hR hG => rget_any cap h m r (.slice ok q.length ck) (.slice ot q.length ct) q u.k W (fun b => G b ∨ b < w.heap.size) hR hG (by omega) (by omega) (by omega))
        have HTS := Lib.hid (oT_small H4.out.c u.k)
        obtain ⟨q1', hq1⟩ : ∃ q1', useQ q u.k = q1' := ⟨_, rfl⟩
        obtain ⟨h1, hh1⟩ : ∃ h1, hitN q u.k h = h1 := ⟨_, rfl⟩
        obtain ⟨m1, hm1⟩ : ∃ m1, misN q u.k m = m1 := ⟨_, rfl⟩
        obtain ⟨fo, hfo⟩ : ∃ fo, fnd q u.k = fo := ⟨_, rfl⟩
        have HLQ : Hid (q1'.length ≤ k + 1) := Lib.hid (by rw [← hq1, useQ_len]; omega)
        rw [hq1, hh1, hm1, hfo] at HP HG
        rw [hfo] at HTS
        clear hq1 hh1 hm1 hfo hkd
        go_wp2_with fail
        refine HP.out.mono ?_
        rintro e w5 ⟨hr5, h5, ho5⟩
        obtain ⟨sl5, rfl, hP5⟩ := hr5.any
        obtain ⟨t1, ht1⟩ : ∃ t1, oT fo = t1 := ⟨_, rfl⟩
        obtain ⟨bb, hbb⟩ : ∃ bb, fo.isSome = bb := ⟨_, rfl⟩
        rw [ht1] at hP5 HTS ⊢
        rw [hbb]
        have HTB := Lib.hid (And.intro ht1 hbb)
        clear hr5 ht1 hbb
        obtain ⟨o5, c5, rfl, _, _⟩ := hP5.form
        obtain ⟨hS5, hR5, hG5, hBw5⟩ := H4.out.half ho5
        have p1 := (ho5.cell HOF.out.2.2 HOF.out.1 1).trans HO.out.1
        have hs45 := ho5.kp.size
        have HB5 := Lib.hid (HB4.out.trans (ho5.toBelow HB4.out.size fun b hb => (H4.out.f b hb).1))
        obtain ⟨w6, hw6⟩ : ∃ w6, w6 = w5.alloc (.cells #[.int .i64 t1.r, .slice o5 t1.l.length c5] 36) := ⟨_, rfl⟩
        have hb56 : Below w5.heap.size w5 w6 := by rw [hw6]; exact below1 _ _
        have hz6 : w6.heap.size = w5.heap.size + 1 := by rw [hw6]; simp
        have hX6 : TmB w6 w5.heap.size t1.r (.slice o5 t1.l.length c5) := by rw [hw6]; exact heap_alloc_new _ _
        have hsb4 := H4.out.s.lt
        have hS6 := hS5.keep (hb56.block sb (by omega))
        obtain ⟨d0, d1, d2, d3, d4, d5⟩ := hS6.cells
        have p1 := (hb56.cell (p := ⟨wr.heap.size, 1, none⟩) (by show wr.heap.size < w5.heap.size; have := HOF.out.2.2; omega)).trans p1
        have HR := Lib.hid (HG.out w6 (hR5.keep (fun b hb => hb56.block b (hG5 b hb)) fun _ h => h) (fun b hb => Nat.lt_of_lt_of_le (hG5 b hb) hb56.size))
        have HC5 := Lib.hid h5
        have HO5 := Lib.hid ho5
        have HS6 := Lib.hid hS6
        have HX6 := Lib.hid hX6
        have HB56 := Lib.hid hb56
        have HP5 := Lib.hid hP5
        have HG5 := Lib.hid hG5
        rw [hw6] at d0 d1 d2 d3 d4 d5 p1
        clear h5 ho5 hS5 hR5 hG5 hBw5 hb56 hX6 hS6 hP5 o0 o1 o2 o3 HP HG
        go_wp2_with fail
        rw [← hw6]
        clear hw6 d0 d1 d2 d3 d4 d5 p1
        refine HR.out.mono ?_
        rintro e w7 ⟨hr7, hb7⟩
        obtain ⟨yk, yt, sl7, rfl, hR7, hP7⟩ := hr7.any
        rw [HTB.out.1] at hP7 ⊢
        rw [HTB.out.2]
        clear hr7
        obtain ⟨ok7, ck7, ot7, ct7, rfl, rfl, _⟩ := hR7.form
        obtain ⟨o7, c7, rfl, _, _⟩ := hP7.form
        obtain ⟨w8, hw8⟩ : ∃ w8, w8 = (w7.alloc (.cells #[.int .i64 cap, .slice ok7 q1'.length ck7, .slice ot7 q1'.length ct7, .int .i64 h1, .int .i64 m1, .int .i64 r] 32)).alloc (.cells #[.int .i64 t1.r, .slice o7 t1.l.length c7] 36) := ⟨_, rfl⟩
        have hb78 : Below w7.heap.size w7 w8 := by rw [hw8]; exact below2 _ _ _
        have hz8 : w8.heap.size = w7.heap.size + 2 := by rw [hw8]; simp
        have hz7 := hb7.size
        have hY8 : StB w8 w7.heap.size cap h1 m1 r (.slice ok7 q1'.length ck7) (.slice ot7 q1'.length ct7) := by
          rw [hw8]
          exact (StB.new w7 cap h1 m1 r (.slice ok7 q1'.length ck7) (.slice ot7 q1'.length ct7)).keep (Below.heap_alloc _ _ _ (by simp))
        have hZ8 : TmB w8 (w7.heap.size + 1) t1.r (.slice o7 t1.l.length c7) := by
          rw [hw8]
          have h := heap_alloc_new (w7.alloc (.cells #[.int .i64 cap, .slice ok7 q1'.length ck7, .slice ot7 q1'.length ct7, .int .i64 h1, .int .i64 m1, .int .i64 r] 32)) (.cells #[.int .i64 t1.r, .slice o7 t1.l.length c7] 36)
          rw [World.size_alloc] at h
          exact h
        have hb68 : Below w6.heap.size w6 w8 := hb7.trans (hb78.mono hz7)
        have hb58 : Below w5.heap.size w5 w8 := HB56.out.trans (hb68.mono HB56.out.size)
        have hS8 := HS6.out.keep (hb68.block sb (by omega))
        have hX8 := HX6.out.keep (hb68.block w5.heap.size (by omega))
        obtain ⟨g0, g1, g2, g3, g4, g5⟩ := hS8.cells
        have gf := hS8.frozen
        obtain ⟨y0, y1, y2, y3, y4, y5⟩ := hY8.cells
        obtain ⟨w9, hw9, hs9, hz9, hk9, hb9⟩ := StB.six (w := w8) (b := sb) hS8 cap h1 m1 r (.slice ok7 q1'.length ck7) (.slice ot7 q1'.length ct7)
        obtain ⟨x0, x1⟩ := (hX8.keep (hk9 w5.heap.size (by omega))).cells
        obtain ⟨z0, z1⟩ := (hZ8.keep (hk9 (w7.heap.size + 1) (by omega))).cells
        have hR8 := hR7.keep (w' := w8) (G' := fun b => (G b ∨ b < w.heap.size) ∨ w6.heap.size ≤ b ∧ b < w7.heap.size) (fun b hb => hb78.block b (by
          rcases hb with hb | hb
          · have := HG5.out b hb; omega
          · omega)) fun _ h => h
        have H9 := Lib.hid (H4.out.step HC5.out HO5.out.kp.size (fun b hb => .inl hb) hb58 hR8 (fun b hb => hb.elim .inl fun h => .inr ⟨by omega, by omega⟩) hs9 hk9 hz9 HLQ.out)
        have HB9 := Lib.hid ((HB5.out.trans (hb58.mono HB5.out.size)).trans (hb9 w.heap.size H4.out.b))
        have hsb : ∀ b, G b ∨ b < w.heap.size → b ≠ sb := fun b hb => by
          rcases hb with hb | hb
          · exact (H4.out.g b hb).2.2
          · have := H4.out.b; omega
        have r1 : Rep w9 w9.heap.size (.slice o5 t1.l.length c5) t1.l := (HP5.out.keep (w' := w9) (P' := fun b => b < w9.heap.size) (fun b hb => (hk9 b (by omega)).trans (hb58.block b hb.2)) fun b hb => by have := hb.2; omega).rep (fun _ h => h)
        have r2 : Rep w9 w9.heap.size (.slice o7 t1.l.length c7) t1.l := (hP7.keep (w' := w9) (P' := fun b => b < w9.heap.size) (fun b hb => by
          rcases hb with hb | hb
          · exact (hk9 b (hsb b hb)).trans (hb78.block b (by have := HG5.out b hb; omega))
          · exact (hk9 b (by omega)).trans (hb78.block b hb.2)) fun b hb => by
          rcases hb with hb | hb
          · have := HG5.out b hb; omega
          · omega).rep (fun _ h => h)
        have HSM := sameTerm_any t1 t1 (.slice o5 t1.l.length c5) (.slice o7 t1.l.length c7) w9 _ r1 r2 (Nat.le_refl _) (by have := HTS.out; omega) (by have := HTS.out; omega)
        rw [same_self] at HSM
        have HSM := Lib.hid HSM
        have hbn : (bb != bb) = false := by cases bb <;> rfl
        rw [hw9, hw8] at x0 x1 z0 z1
        rw [hw8] at g0 g1 g2 g3 g4 g5 gf y0 y1 y2 y3 y4 y5
        clear hR7 hP7 hb7 hb78 hz8 hz7 hY8 hZ8 hb68 hb58 hS8 hX8 hs9 hz9 hk9 hb9 hR8 r1 r2 hsb HR hs45 hz6 hsb4
        go_wp2_with fail
        rw [← hw8, ← hw9]
        clear hw8 hw9 x0 x1 z0 z1 g0 g1 g2 g3 g4 g5 gf y0 y1 y2 y3 y4 y5
        refine HSM.out.mono ?_
        rintro e w10 ⟨rfl, hb10⟩
        have H10 := Lib.hid (H9.out.below hb10)
        have HB10 := Lib.hid (HB9.out.trans (hb10.mono HB9.out.size))
        obtain ⟨d0, d1, d2, d3, d4, d5⟩ := H10.out.s.cells
        clear hb10 HSM
        have HAG := Lib.hid (agrees_any H10.out.c (by have := H10.out.l; omega) (.slice ok7 q1'.length ck7) (.slice ot7 q1'.length ct7) _ H10.out.r (fun b hb => (H10.out.g b hb).1))
        go_wp2_with fail
        refine HAG.out.mono ?_
        rintro e w9 ⟨rfl, hb9⟩
        have HT9 := Lib.hid (H10.out.below hb9)
        have HB9 := Lib.hid (HB10.out.trans (hb9.mono HB10.out.size))
        clear hb9 HAG
        go_wp2_with fail
        go_roundw
        case rel => exact ⟨k + 1, hlt, by go_num, Lib.hid ⟨_, _, _, _, _, _, _, _, HT9.out⟩, HB9.out⟩
        case measure => simp [intOf]; omega
      have hkd1 : (u.kd == 1) = false := by rw [beq_eq_false_iff_ne]; exact hkd
      clear hkd
      by_cases hkd : u.kd = 2
      · have hkd2 : (u.kd == 2) = true := by rw [hkd]; rfl
        have HP := Lib.hid (peek_any H4.out.c u.k hsk)
        have HG := Lib.hid (fun (W : World) hR hG => rpeek_any cap h m r (.slice ok q.length ck) (.slice ot q.length ct) q u.k W (fun b => G b ∨ b < w.heap.size) hR hG)
        have HTS := Lib.hid (oT_small H4.out.c u.k)
        obtain ⟨fo, hfo⟩ : ∃ fo, fnd q u.k = fo := ⟨_, rfl⟩
        rw [hfo] at HP HTS HG
        clear hfo hkd
        go_wp2_with fail
        refine HP.out.mono ?_
        rintro e w5 ⟨hr5, hb5⟩
        obtain ⟨sl5, rfl, hP5⟩ := hr5.any
        obtain ⟨t1, ht1⟩ : ∃ t1, oT fo = t1 := ⟨_, rfl⟩
        obtain ⟨bb, hbb⟩ : ∃ bb, fo.isSome = bb := ⟨_, rfl⟩
        rw [ht1] at hP5 HTS ⊢
        rw [hbb]
        have HTB := Lib.hid (And.intro ht1 hbb)
        clear hr5 ht1 hbb
        obtain ⟨o5, c5, rfl, _, _⟩ := hP5.form
        obtain ⟨hS5, hR5, hG5, hBw5⟩ := H4.out.half (On.below (F := F) hb5)
        have p1 := (hb5.cell (p := ⟨wr.heap.size, 1, none⟩) HOF.out.2.2).trans HO.out.1
        have hs45 := hb5.size
        obtain ⟨w6, hw6⟩ : ∃ w6, w6 = w5.alloc (.cells #[.int .i64 t1.r, .slice o5 t1.l.length c5] 36) := ⟨_, rfl⟩
        have hb56 : Below w5.heap.size w5 w6 := by rw [hw6]; exact below1 _ _
        have hz6 : w6.heap.size = w5.heap.size + 1 := by rw [hw6]; simp
        have hX6 : TmB w6 w5.heap.size t1.r (.slice o5 t1.l.length c5) := by rw [hw6]; exact heap_alloc_new _ _
        have hsb4 := H4.out.s.lt
        have hS6 := hS5.keep (hb56.block sb (by omega))
        obtain ⟨d0, d1, d2, d3, d4, d5⟩ := hS6.cells
        have p1 := (hb56.cell (p := ⟨wr.heap.size, 1, none⟩) (by show wr.heap.size < w5.heap.size; have := HOF.out.2.2; omega)).trans p1
        have HR := Lib.hid (HG.out w6 (hR5.keep (fun b hb => hb56.block b (hG5 b hb)) fun _ h => h) (fun b hb => Nat.lt_of_lt_of_le (hG5 b hb) hb56.size))
        have HX6 := Lib.hid hX6
        have HB56 := Lib.hid hb56
        have HB46 := Lib.hid (hb5.trans (hb56.mono hs45))
        have HP5 := Lib.hid hP5
        have HG5 := Lib.hid hG5
        rw [hw6] at d0 d1 d2 d3 d4 d5 p1
        clear hb5 hS5 hR5 hG5 hBw5 hb56 hX6 hS6 hP5 o0 o1 o2 o3 HP HG
        go_wp2_with fail
        rw [← hw6]
        clear hw6 d0 d1 d2 d3 d4 d5 p1
        refine HR.out.mono ?_
        rintro e w7 ⟨hr7, hb7⟩
        obtain ⟨sl7, rfl, hP7⟩ := hr7.any
        rw [HTB.out.1] at hP7 ⊢
        rw [HTB.out.2]
        clear hr7
        obtain ⟨o7, c7, rfl, _, _⟩ := hP7.form
        obtain ⟨w8, hw8⟩ : ∃ w8, w8 = w7.alloc (.cells #[.int .i64 t1.r, .slice o7 t1.l.length c7] 36) := ⟨_, rfl⟩
        have hb78 : Below w7.heap.size w7 w8 := by rw [hw8]; exact below1 _ _
        have hz7 := hb7.size
        have hZ8 : TmB w8 w7.heap.size t1.r (.slice o7 t1.l.length c7) := by rw [hw8]; exact heap_alloc_new _ _
        have hb68 : Below w6.heap.size w6 w8 := hb7.trans (hb78.mono hz7)
        have hb58 : Below w5.heap.size w5 w8 := HB56.out.trans (hb68.mono HB56.out.size)
        have hX8 := HX6.out.keep (hb68.block w5.heap.size (by omega))
        obtain ⟨x0, x1⟩ := hX8.cells
        obtain ⟨z0, z1⟩ := hZ8.cells
        have hb48 : Below w4.heap.size w4 w8 := HB46.out.trans (hb68.mono HB46.out.size)
        have H8 := Lib.hid ((H4.out.below hb48).more (Nat.le_succ k))
        have HB8 := Lib.hid (HB4.out.trans (hb48.mono HB4.out.size))
        have h58 := hb58.size
        have r1 : Rep w8 w8.heap.size (.slice o5 t1.l.length c5) t1.l := (HP5.out.keep (w' := w8) (P' := fun b => b < w8.heap.size) (fun b hb => hb58.block b hb.2) fun b hb => by have := hb.2; omega).rep (fun _ h => h)
        have h78 := hb78.size
        have r2 : Rep w8 w8.heap.size (.slice o7 t1.l.length c7) t1.l := (hP7.keep (w' := w8) (P' := fun b => b < w8.heap.size) (fun b hb => hb78.block b (by have := HG5.out b hb; omega)) fun b hb => by have := HG5.out b hb; omega).rep (fun _ h => h)
        have HSM := sameTerm_any t1 t1 (.slice o5 t1.l.length c5) (.slice o7 t1.l.length c7) w8 _ r1 r2 (Nat.le_refl _) (by have := HTS.out; omega) (by have := HTS.out; omega)
        rw [same_self] at HSM
        have HSM := Lib.hid HSM
        have hbn : (bb != bb) = false := by cases bb <;> rfl
        rw [hw8] at x0 x1 z0 z1
        clear hP7 hb7 hb78 hz7 hZ8 hb68 hb58 hX8 r1 r2 HR hs45 hz6 hsb4 hb48 h58 h78
        go_wp2_with fail
        rw [← hw8]
        clear hw8 x0 x1 z0 z1
        refine HSM.out.mono ?_
        rintro e w10 ⟨rfl, hb10⟩
        have H10 := Lib.hid (H8.out.below hb10)
        have HB10 := Lib.hid (HB8.out.trans (hb10.mono HB8.out.size))
        obtain ⟨d0, d1, d2, d3, d4, d5⟩ := H10.out.s.cells
        clear hb10 HSM
        have HAG := Lib.hid (agrees_any H10.out.c (by have := H10.out.l; omega) (.slice ok q.length ck) (.slice ot q.length ct) _ H10.out.r (fun b hb => (H10.out.g b hb).1))
        go_wp2_with fail
        refine HAG.out.mono ?_
        rintro e w9 ⟨rfl, hb9⟩
        have HT9 := Lib.hid (H10.out.below hb9)
        have HB9 := Lib.hid (HB10.out.trans (hb9.mono HB10.out.size))
        clear hb9 HAG
        go_wp2_with fail
        go_roundw
        case rel => exact ⟨k + 1, hlt, by go_num, Lib.hid ⟨_, _, _, _, _, _, _, _, HT9.out⟩, HB9.out⟩
        case measure => simp [intOf]; omega
      have hkd2 : (u.kd == 2) = false := by rw [beq_eq_false_iff_ne]; exact hkd
      clear hkd
      by_cases hkd : u.kd = 3
      · have hkd3 : (u.kd == 3) = true := by rw [hkd]; rfl
        have HP := Lib.hid (clear_any H4.out.c)
        clear hkd
        go_wp2_with fail
        refine HP.out.mono ?_
        rintro e w5 ⟨rfl, h5, ho5⟩
        obtain ⟨hS5, hR5, hG5, hBw5⟩ := H4.out.half ho5
        obtain ⟨d0, d1, d2, d3, d4, d5⟩ := hS5.cells
        have HB5 := Lib.hid (HB4.out.trans (ho5.toBelow HB4.out.size fun b hb => (H4.out.f b hb).1))
        have HR := Lib.hid (rclear_any cap h m r (.slice ok q.length ck) (.slice ot q.length ct) q w5 _ hR5)
        have HC5 := Lib.hid h5
        have HO5 := Lib.hid ho5
        have HS5 := Lib.hid hS5
        clear h5 ho5 hS5 hR5 hG5 hBw5 o0 o1 o2 o3 HP
        go_wp2_with fail
        refine HR.out.mono ?_
        rintro e w6 ⟨rfl, hb6⟩
        have hS6 := HS5.out.keep (hb6.block sb HS5.out.lt)
        obtain ⟨g0, g1, g2, g3, g4, g5⟩ := hS6.cells
        have gf := hS6.frozen
        obtain ⟨w7, hw7, hs7, hz7, hk7, hb7⟩ := StB.six (w := w6) (b := sb) hS6 cap h m r (.slice none 0 0) (.slice none 0 0)
        have H7 := Lib.hid ((H4.out.step (G2 := fun _ => False) (q1 := []) HC5.out HO5.out.kp.size (fun b hb => hb) hb6 ⟨HoldsS.nil _ _, .empty _ _⟩ (fun b hb => hb.elim) hs7 hk7 hz7 (Nat.zero_le _)).more (Nat.le_succ k))
        have HB7 := Lib.hid ((HB5.out.trans (hb6.mono HB5.out.size)).trans (hb7 w.heap.size H4.out.b))
        obtain ⟨e0, e1, e2, e3, e4, e5⟩ := hs7.cells
        rw [hw7] at e0 e1 e2 e3 e4 e5
        clear hb6 hS6 hs7 hk7 hz7 hb7 d0 d1 d2 d3 d4 d5 HR HS5
        have HAG := Lib.hid (agrees_any H7.out.c (by have := H7.out.l; omega) (.slice none 0 0) (.slice none 0 0) _ H7.out.r (fun b hb => (H7.out.g b hb).1))
        go_wp2_with fail
        rw [← hw7]
        clear hw7 e0 e1 e2 e3 e4 e5 g0 g1 g2 g3 g4 g5 gf
        refine HAG.out.mono ?_
        rintro e w9 ⟨rfl, hb9⟩
        have HT9 := Lib.hid (H7.out.below hb9)
        have HB9 := Lib.hid (HB7.out.trans (hb9.mono HB7.out.size))
        clear hb9 HAG
        go_wp2_with fail
        go_roundw
        case rel => exact ⟨k + 1, hlt, by go_num, Lib.hid ⟨_, _, _, _, _, _, _, _, HT9.out⟩, HB9.out⟩
        case measure => simp [intOf]; omega
      have hkd3 : (u.kd == 3) = false := by rw [beq_eq_false_iff_ne]; exact hkd
      clear hkd
      have H5 := Lib.hid (H4.out.more (Nat.le_succ k))
      obtain ⟨d0, d1, d2, d3, d4, d5⟩ := H5.out.s.cells
      have HAG := Lib.hid (agrees_any H5.out.c (by have := H5.out.l; omega) (.slice ok q.length ck) (.slice ot q.length ct) _ H5.out.r (fun b hb => (H5.out.g b hb).1))
      go_wp2_with fail
      refine HAG.out.mono ?_
      rintro e w9 ⟨rfl, hb9⟩
      have HT9 := Lib.hid (H5.out.below hb9)
      have HB9 := Lib.hid (HB4.out.trans (hb9.mono HB4.out.size))
      clear hb9 HAG
      go_wp2_with fail
      go_roundw
      case rel => exact ⟨k + 1, hlt, by go_num, Lib.hid ⟨_, _, _, _, _, _, _, _, HT9.out⟩, HB9.out⟩
      case measure => simp [intOf]; omega
    · go_wp2_with fail
      refine (HA.out _ HBR.out).mono ?_
      rintro e w4 ⟨rfl, hb4⟩
      go_wp2_with fail
      go_ret
      exact ⟨rfl, hb4⟩

end Go.Proofs.Ytbimpfciadbnjaa
