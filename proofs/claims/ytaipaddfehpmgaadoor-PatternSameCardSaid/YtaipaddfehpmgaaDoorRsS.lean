/-
  Same of the specification. Nothing is assumed.
-/
import Derived.Test.YtaipaddfehpmgaaDoorRsT
import Derived.Lib.QuietBelow
namespace Go.Proofs.YtaipaddfehpmgaaDoor
open Go.RowKit
open Go.Sort (grow)

set_option maxRecDepth 100000 in
set_option maxHeartbeats 12800000 in
theorem rsame_any (p q : ByteArray) (t u : PT) (ht : TP p t) (hu : TP q u) (w : World) :
    Calls Tryd.prog 7 #[.string p, .string q] w fun e w' => e = .returned (.tuple #[.bool (rSame (rOf t) (rOf u)).1, .int .i64 (rSame (rOf t) (rOf u)).2]) ∧ Below w.heap.size w w' := by
  have HP := Lib.hid (rparse_tp ht w)
  have HQ := Lib.hid (fun (V : World) => rparse_tp hu V)
  have HOt := Lib.hid (fun (V : World) (oe : Option Addr) (ce : Nat) (h : HT V (· < V.heap.size) (.slice oe t.l.length ce) t.l) => of_any t ht.fit ht.sok (tp_lv ht) V oe ce h)
  have HOu := Lib.hid (fun (V : World) (oe : Option Addr) (ce : Nat) (h : HT V (· < V.heap.size) (.slice oe u.l.length ce) u.l) => of_any u hu.fit hu.sok (tp_lv hu) V oe ce h)
  clear ht hu
  unfold PT.val at HP HQ HOt HOu
  unfold OfR mV at HOt HOu
  generalize rOf t = rt at *
  generalize rOf u = ru at *
  obtain ⟨⟨ss, fs⟩, pa⟩ := rt
  obtain ⟨⟨tt, us⟩, qa⟩ := ru
  dsimp only at HOt HOu
  unfold rSame
  generalize hX : exR (nextR ((ss, fs), pa) ((tt, us), qa) (grps ((ss, fs), pa) ((tt, us), qa))) 4098 [(begZ, begZ)] [] = X
  obtain ⟨F, E⟩ := X
  dsimp only
  have HX := Lib.hid hX
  clear hX
  obtain ⟨⟨rb, ri⟩, hR⟩ : ∃ z : Bool × Int, z = (if 4096 < F.length then (false, 10) else (F.all (fun z => accR pa z.1 == accR qa z.2), 0)) := ⟨_, rfl⟩
  rw [← hR]
  dsimp only
  have HRR := Lib.hid hR
  clear hR
  go_enter Tryd.func7, Tryd.ntmps7
  go_wp2_with fail
  refine HP.out.mono ?_
  rintro e w1 ⟨⟨oe, ce, rfl, hT1⟩, hb1⟩
  have HT1 := Lib.hid hT1
  have hs1 := hb1.size
  have HB1 := Lib.hid (hb1.trans ((below1 w1 (.cells #[.int .i64 t.k, .int .u64 t.s.a, .int .u64 t.s.b, .int .u64 t.s.c, .int .u64 t.s.d, .slice oe t.l.length ce] 60)).mono hb1.size))
  clear hb1 hT1
  go_wp2_with fail
  refine (HQ.out _).mono ?_
  rintro e w2 ⟨⟨of, cf, rfl, hT2⟩, hb2⟩
  have HT2 := Lib.hid hT2
  have hs2 : w1.heap.size + 1 ≤ w2.heap.size := by have := hb2.size; rw [World.size_alloc] at this; exact this
  have HT1' : Hid (HT w2 (· < w2.heap.size) (.slice oe t.l.length ce) t.l) := Lib.hid (HT1.out.later (fun b h => by show b < w2.heap.size; have : b < w1.heap.size := h; omega) (fun b hb o => ((below1 w1 _).trans (hb2.mono (by simp))).cell (p := ⟨b, o, none⟩) hb))
  have HA1 : Hid (w2.heap[w1.heap.size]? = some (.cells #[.int .i64 t.k, .int .u64 t.s.a, .int .u64 t.s.b, .int .u64 t.s.c, .int .u64 t.s.d, .slice oe t.l.length ce] 60 (0, 0))) := Lib.hid ((hb2.block _ (by simp)).trans (top_at _ _ rfl))
  have hb2' := HB1.out.trans (hb2.mono HB1.out.size)
  obtain ⟨w3, hw3⟩ : ∃ w3, w3 = w2.alloc (.cells #[.int .i64 u.k, .int .u64 u.s.a, .int .u64 u.s.b, .int .u64 u.s.c, .int .u64 u.s.d, .slice of u.l.length cf] 60) := ⟨_, rfl⟩
  have HW3 := Lib.hid hw3
  have h23 : Below w2.heap.size w2 w3 := by rw [hw3]; exact below1 _ _
  have hs3 : w3.heap.size = w2.heap.size + 1 := by rw [hw3]; simp
  have HA2 : Hid (w3.heap[w2.heap.size]? = some (.cells #[.int .i64 u.k, .int .u64 u.s.a, .int .u64 u.s.b, .int .u64 u.s.c, .int .u64 u.s.d, .slice of u.l.length cf] 60 (0, 0))) := Lib.hid (by rw [hw3]; exact top_at _ _ rfl)
  have HA1' : Hid (w3.heap[w1.heap.size]? = some (.cells #[.int .i64 t.k, .int .u64 t.s.a, .int .u64 t.s.b, .int .u64 t.s.c, .int .u64 t.s.d, .slice oe t.l.length ce] 60 (0, 0))) := Lib.hid ((h23.block _ (by omega)).trans HA1.out)
  have HB3 := Lib.hid (hb2'.trans (h23.mono hb2'.size))
  have HTt : Hid (∀ V, Below w3.heap.size w3 V → HT V (· < V.heap.size) (.slice oe t.l.length ce) t.l) := Lib.hid (fun V hV => HT1'.out.later (fun b h => by show b < V.heap.size; have : b < w2.heap.size := h; have := hV.size; omega) (fun b hb o => (h23.trans (hV.mono (by omega))).cell (p := ⟨b, o, none⟩) hb))
  have HTu : Hid (∀ V, Below w3.heap.size w3 V → HT V (· < V.heap.size) (.slice of u.l.length cf) u.l) := Lib.hid (fun V hV => HT2.out.later (fun b h => by show b < V.heap.size; have : b < w2.heap.size := h; have := hV.size; omega) (fun b hb o => (h23.trans (hV.mono (by omega))).cell (p := ⟨b, o, none⟩) hb))
  have HC1 := Lib.hid (fun V (hV : Below w3.heap.size w3 V) => HOt.out V oe ce (HTt.out V hV))
  have HC2 := Lib.hid (fun V (hV : Below w3.heap.size w3 V) => HOu.out V of cf (HTu.out V hV))
  have bx : ∀ (W : World) (g : Nat) (k a b c d : Int) (x : Value), W.heap[g]? = some (.cells #[.int .i64 k, .int .u64 a, .int .u64 b, .int .u64 c, .int .u64 d, x] 60 (0, 0)) → W.cell? ⟨g, 0, none⟩ = some (.int .i64 k) ∧ W.cell? ⟨g, 1, none⟩ = some (.int .u64 a) ∧ W.cell? ⟨g, 2, none⟩ = some (.int .u64 b) ∧ W.cell? ⟨g, 3, none⟩ = some (.int .u64 c) ∧ W.cell? ⟨g, 4, none⟩ = some (.int .u64 d) ∧ W.cell? ⟨g, 5, none⟩ = some x := fun W g k a b c d x h => by
    unfold World.cell?
    rw [h]
    exact ⟨rfl, rfl, rfl, rfl, rfl, rfl⟩
  have HVM := Lib.hid (fun V (hV : Below w3.heap.size w3 V) => And.intro (bx V _ _ _ _ _ _ _ ((hV.block _ (by omega)).trans HA1'.out)) (bx V _ _ _ _ _ _ _ ((hV.block _ (by omega)).trans HA2.out)))
  obtain ⟨⟨u0, u1, u2, u3, u4, u5⟩, v0, v1, v2, v3, v4, v5⟩ := HVM.out w3.drew (Below.refl _ _).drew
  have HZ0 : Hid (Below w3.heap.size w3 w3.drew) := Lib.hid (Below.refl _ _).drew
  have HK : Hid (∀ (V : World) (o : Obj), Below w3.heap.size w3 V → Below w3.heap.size w3 (V.alloc o)) := Lib.hid (fun V o h => h.alloc h.size o)
  have HD : Hid (∀ (V : World), Below w3.heap.size w3 V → Below w3.heap.size w3 V.drew) := Lib.hid (fun V h => h.drew)
  have HPs : Hid (∀ (V : World) (b k : Nat) (u : Value), Below w3.heap.size w3 V → w3.heap.size ≤ b → Below w3.heap.size w3 (V.setCell ⟨b, k, none⟩ u)) := Lib.hid (fun V b k u h hb => h.setCell (p := ⟨b, k, none⟩) hb u)
  clear hs3 hT2 hb2 hb2' h23 hw3 bx HT1 HT2 HT1' HA1 HA1' HA2 HB1 HP HQ HOt HOu HTt HTu
  go_upto_region 7 with fail
  rw [← HW3.out]
  go_cut [11, 12] (fun s7 s8 wx => ∃ (b c : Nat) (o1 o2 o3 o4 : Option Addr) (c1 c2 c3 c4 : Nat), s7 = .pointer (some ⟨b, 0, none⟩) ∧ s8 = .pointer (some ⟨c, 0, none⟩) ∧ Hid (Cut2 w3 wx b c pa qa (.slice o1 ss.length c1) (.slice o2 fs.length c2) (.slice o3 tt.length c3) (.slice o4 us.length c4) o1 o2 o3 o4 ss tt fs us))
  case first =>
    go_region_held3 (fun V => (V.cell? ⟨w1.heap.size, 0, none⟩ = some (.int .i64 t.k) ∧ V.cell? ⟨w1.heap.size, 1, none⟩ = some (.int .u64 t.s.a) ∧ V.cell? ⟨w1.heap.size, 2, none⟩ = some (.int .u64 t.s.b) ∧ V.cell? ⟨w1.heap.size, 3, none⟩ = some (.int .u64 t.s.c) ∧ V.cell? ⟨w1.heap.size, 4, none⟩ = some (.int .u64 t.s.d) ∧ V.cell? ⟨w1.heap.size, 5, none⟩ = some (.slice oe t.l.length ce)) ∧ (V.cell? ⟨w2.heap.size, 0, none⟩ = some (.int .i64 u.k) ∧ V.cell? ⟨w2.heap.size, 1, none⟩ = some (.int .u64 u.s.a) ∧ V.cell? ⟨w2.heap.size, 2, none⟩ = some (.int .u64 u.s.b) ∧ V.cell? ⟨w2.heap.size, 3, none⟩ = some (.int .u64 u.s.c) ∧ V.cell? ⟨w2.heap.size, 4, none⟩ = some (.int .u64 u.s.d) ∧ V.cell? ⟨w2.heap.size, 5, none⟩ = some (.slice of u.l.length cf))) (exact HVM.out _ (by repeat' (first | with_reducible exact HZ0.out | with_reducible exact HB6.out | with_reducible exact HB5.out | with_reducible exact Below.refl _ _ | with_reducible refine HK.out _ _ ?_ | with_reducible refine HPs.out _ _ _ _ ?_ ?_ | with_reducible refine HD.out _ ?_ | exact Nat.le_refl _ | omega))) (first
      | (have hz := HB5; clear hz; go_simp; go_at_call 22; refine (HC2.out _ (by repeat' (first | with_reducible exact HZ0.out | with_reducible exact HB5.out | with_reducible exact Below.refl _ _ | with_reducible refine HK.out _ _ ?_ | with_reducible refine HD.out _ ?_))).mono ?_; rintro e w6 ⟨⟨o3, c3, o4, c4, rfl, hm6⟩, hb6⟩
         have HQ6 := Lib.hid hb6
         have HN6 := Lib.hid hm6
         have HB6 : Hid (Below w3.heap.size w3 w6) := Lib.hid (Below.trans (by repeat' (first | with_reducible exact HZ0.out | with_reducible exact HB5.out | with_reducible exact Below.refl _ _ | with_reducible refine HK.out _ _ ?_ | with_reducible refine HD.out _ ?_)) (hb6.mono (by have := HB5.out.size; first | omega | (simp; done) | (simp; omega))))
         have HB56 : Hid (Below w5.heap.size w5 w6) := Lib.hid (Below.trans (by repeat' (first | exact Below.refl _ _ | refine Below.drew ?_ | refine Below.alloc ?_ (by first | rfl | omega | (simp; done) | (simp; omega)) _)) (hb6.mono (by first | omega | (simp; done) | (simp; omega))))
         have HM6 := Lib.hid (HM5.out.later HB56.out HB56.out.size)
         have hs6 := HB6.out.size
         have hs56 := HB56.out.size
         (first
           | (have hx : M5 w6 w3.heap.size .zero (.slice none 0 0) (.slice none 0 0) := HX5.out.later HB56.out HX5.out.lt; have HX0 := Lib.hid hx; obtain ⟨j0, j1, j2, j3, j4⟩ := hx.cells; have jf0 := hx.free 0; have jf1 := hx.free 1; have jf2 := hx.free 2; have jf3 := hx.free 3; have jf4 := hx.free 4; have jlt := hx.lt; clear hx)
           | skip)
         (first
           | (have hx : M5 w6 (w3.heap.size + 1) .zero (.slice none 0 0) (.slice none 0 0) := HY5.out.later HB56.out HY5.out.lt; have HX1 := Lib.hid hx; obtain ⟨k0, k1, k2, k3, k4⟩ := hx.cells; have kf0 := hx.free 0; have kf1 := hx.free 1; have kf2 := hx.free 2; have kf3 := hx.free 3; have kf4 := hx.free 4; have klt := hx.lt; clear hx)
           | skip)
         (first
           | (have hx : M5 w6 w5.heap.size .zero (.slice none 0 0) (.slice none 0 0) := (HQ6.out.block _ (by first | (simp; done) | (simp; omega))).trans (by (try simp only [heap_drew]); first | exact top_at _ _ (by first | rfl | omega | (simp; done) | (simp; omega)) | exact old_at (top_at _ _ (by first | rfl | omega | (simp; done) | (simp; omega))) _); have HY0 := Lib.hid hx; obtain ⟨l0, l1, l2, l3, l4⟩ := hx.cells; have lf0 := hx.free 0; have lf1 := hx.free 1; have lf2 := hx.free 2; have lf3 := hx.free 3; have lf4 := hx.free 4; have llt := hx.lt; clear hx)
           | skip)
         (first
           | (have hx : M5 w6 (w5.heap.size + 1) .zero (.slice none 0 0) (.slice none 0 0) := (HQ6.out.block _ (by first | (simp; done) | (simp; omega))).trans (by (try simp only [heap_drew]); first | exact top_at _ _ (by first | rfl | omega | (simp; done) | (simp; omega)) | exact old_at (top_at _ _ (by first | rfl | omega | (simp; done) | (simp; omega))) _); have HY1 := Lib.hid hx; obtain ⟨m0, m1, m2, m3, m4⟩ := hx.cells; have mf0 := hx.free 0; have mf1 := hx.free 1; have mf2 := hx.free 2; have mf3 := hx.free 3; have mf4 := hx.free 4; have mlt := hx.lt; clear hx)
           | skip)
         clear hb6 hm6
         try dsimp only)
      | (go_simp; go_at_call 22; refine (HC1.out _ (by repeat' (first | with_reducible exact HZ0.out | with_reducible exact Below.refl _ _ | with_reducible refine HK.out _ _ ?_ | with_reducible refine HD.out _ ?_))).mono ?_; rintro e w5 ⟨⟨o1, c1, o2, c2, rfl, hm5⟩, hb5⟩
         have HQ5 := Lib.hid hb5
         have HM5 := Lib.hid hm5
         have HB5 : Hid (Below w3.heap.size w3 w5) := Lib.hid (Below.trans (by repeat' (first | with_reducible exact HZ0.out | with_reducible exact Below.refl _ _ | with_reducible refine HK.out _ _ ?_ | with_reducible refine HD.out _ ?_)) (hb5.mono (by first | omega | (simp; done) | (simp; omega))))
         have hs5 := HB5.out.size
         (first
           | (have hx : M5 w5 w3.heap.size .zero (.slice none 0 0) (.slice none 0 0) := (HQ5.out.block _ (by first | (simp; done) | (simp; omega))).trans (by (try simp only [heap_drew]); first | exact top_at _ _ (by first | rfl | omega | (simp; done) | (simp; omega)) | exact old_at (top_at _ _ (by first | rfl | omega | (simp; done) | (simp; omega))) _); have HX5 := Lib.hid hx; have hn35 : w3.heap.size ≠ w5.heap.size := by have := hx.lt; omega
              have hn53 := hn35.symm; clear hx)
           | skip)
         (first
           | (have hx : M5 w5 (w3.heap.size + 1) .zero (.slice none 0 0) (.slice none 0 0) := (HQ5.out.block _ (by first | (simp; done) | (simp; omega))).trans (by (try simp only [heap_drew]); first | exact top_at _ _ (by first | rfl | omega | (simp; done) | (simp; omega)) | exact old_at (top_at _ _ (by first | rfl | omega | (simp; done) | (simp; omega))) _); have HY5 := Lib.hid hx; clear hx)
           | skip)
         clear hb5 hm5
         try dsimp only))
    all_goals
      go_wp2_with fail
      go_meet
      refine ⟨_, _, o1, o2, o3, o4, c1, c2, c3, c4, rfl, rfl, Lib.hid ?_⟩
      first
        | with_reducible exact twoA HM6.out HN6.out HB6.out
        | with_reducible exact twoB HM6.out HN6.out HB6.out
        | with_reducible exact twoC HX0.out (by omega) HM6.out HN6.out HB6.out
        | with_reducible exact twoC HY0.out (by omega) HM6.out HN6.out HB6.out
        | with_reducible exact twoD HX0.out (by omega) HM6.out HN6.out HB6.out
        | with_reducible exact twoD HY0.out (by omega) HM6.out HN6.out HB6.out
        | with_reducible exact twoE (by omega) HX0.out HX1.out (by omega) (by omega) HM6.out HN6.out HB6.out
        | with_reducible exact twoE (by omega) HX1.out HX0.out (by omega) (by omega) HM6.out HN6.out HB6.out
        | with_reducible exact twoE (by omega) HY0.out HY1.out (by omega) (by omega) HM6.out HN6.out HB6.out
        | with_reducible exact twoE (by omega) HY1.out HY0.out (by omega) (by omega) HM6.out HN6.out HB6.out
        | with_reducible exact twoE (by omega) HX0.out HY0.out (by omega) (by omega) HM6.out HN6.out HB6.out
        | with_reducible exact twoE (by omega) HY0.out HX0.out (by omega) (by omega) HM6.out HN6.out HB6.out
  case rest =>
    obtain ⟨b, c, o1, o2, o3, o4, c1, c2, c3, c4, rfl, rfl, HCUT⟩ := hcut
    obtain ⟨hm7, hn7, hrm, hrn, hbc, hlb, hlc⟩ := HCUT.out
    obtain ⟨m0, m1, m2, m3, m4⟩ := hm7.cells
    obtain ⟨n0, n1, n2, n3, n4⟩ := hn7.cells
    have HM7 := Lib.hid hm7
    have HN7 := Lib.hid hn7
    have HBC := Lib.hid (HB3.out.trans (hbc.mono HB3.out.size))
    have hrc := (reached_any pa qa ss tt fs us wc wc.heap.size o1 o2 o3 o4 c1 c2 c3 c4 hrm hrn (Nat.le_refl _))
    rw [HX.out] at hrc
    dsimp only at hrc
    have HRC := Lib.hid hrc
    have HAC := Lib.hid (fun (x : Int) (V : World) => accepts5_any pa x (.slice o1 ss.length c1) (.slice o2 fs.length c2) V)
    have HAD := Lib.hid (fun (x : Int) (V : World) => accepts5_any qa x (.slice o3 tt.length c3) (.slice o4 us.length c4) V)
    clear hrc hm7 hn7 hrm hrn hbc HCUT HVM HZ0 HK HD HPs HC1 HC2 u0 u1 u2 u3 u4 u5 v0 v1 v2 v3 v4 v5
    unfold mV at HRC HAC HAD
    have hbm := HM7.out.lt
    have hcm := HN7.out.lt
    go_wp2_with fail
    refine HRC.out.mono ?_
    rintro e w6 ⟨⟨of, cf, ve, rfl, hrp, -⟩, hb6⟩
    have HRP := Lib.hid hrp
    have HM6 := Lib.hid (HM7.out.later hb6 hbm)
    have HN6 := Lib.hid (HN7.out.later hb6 hcm)
    have HB6 := Lib.hid (HBC.out.trans (hb6.mono HBC.out.size))
    clear hb6 hrp HRC m0 m1 m2 m3 m4 n0 n1 n2 n3 n4
    by_cases hbig : 4096 < F.length
    · have hbI : (F.length : Int) > 4096 := by omega
      have hr := HRR.out
      rw [if_pos hbig] at hr
      cases hr
      clear hbig
      go_wp2_with fail
      go_ret2
      exact ⟨rfl, HB6.out⟩
    · have hbI : ¬ ((F.length : Int) > 4096) := by omega
      have hr := HRR.out
      rw [if_neg hbig] at hr
      obtain ⟨hrb, rfl⟩ : rb = F.all (fun z => accR pa z.1 == accR qa z.2) ∧ ri = 0 := ⟨congrArg Prod.fst hr, congrArg Prod.snd hr⟩
      have HBG := Lib.hid hbig
      have HRB : Hid (rb = (F.drop 0).all (fun z => accR pa z.1 == accR qa z.2)) := Lib.hid (by rw [List.drop_zero]; exact hrb)
      clear hbig hr hrb HRR HX
      go_wp2_with fail
      go_loopg [15] (F.length + 1) (fun gk v wr => ∃ j : Nat, v = .int .i64 (j : Int) ∧ j + gk = F.length + 1 ∧ j ≤ F.length ∧ Hid (rb = (F.drop j).all (fun z => accR pa z.1 == accR qa z.2)) ∧ Hid (Below w6.heap.size w6 wr))
      case atStart => exact ⟨0, rfl, by omega, Nat.zero_le _, HRB, Lib.hid (Below.refl _ _)⟩
      case round =>
        obtain ⟨j, rfl, hgk, hjl, HAl, HBr⟩ := hrel
        clear HRB
        obtain ⟨wo, hwo⟩ : ∃ wo : World, wo = wr := ⟨_, rfl⟩
        subst hwo
        by_cases hlt : j < F.length
        · have hltI : (j : Int) < (F.length : Int) := by omega
          have hj0 : (0 : Int) ≤ (j : Int) := by omega
          have hwj : IntKind.i64.wrap ((j : Int) + 1) = ((j + 1 : Nat) : Int) := by rw [IntWalk.i64_in _ (by have := HBG.out; omega)]; omega
          obtain ⟨gh, rfl⟩ : ∃ gh, gk = gh + 1 := ⟨gk - 1, by omega⟩
          obtain ⟨z, hz⟩ : ∃ z, F[j]? = some z := ⟨_, List.getElem?_eq_getElem hlt⟩
          have HDR : Hid (F.drop j = z :: F.drop (j + 1)) := Lib.hid (by rw [List.drop_eq_getElem_cons hlt]; rw [List.getElem?_eq_getElem hlt] at hz; rw [Option.some.inj hz])
          obtain ⟨g, rfl, hgB, z0, z1⟩ := HRP.out j z hz
          obtain ⟨m0, m1, m2, m3, m4⟩ := (HM6.out.later HBr.out HM6.out.lt).cells
          obtain ⟨n0, n1, n2, n3, n4⟩ := (HN6.out.later HBr.out HN6.out.lt).cells
          have y0 := (HBr.out.cell (p := ⟨g, j * 2, none⟩) hgB).trans z0
          have y1 := (HBr.out.cell (p := ⟨g, j * 2 + 1, none⟩) hgB).trans z1
          have p0 := fun d os => cell_regrown m0 d os
          have p1 := fun d os => cell_regrown m1 d os
          have p2 := fun d os => cell_regrown m2 d os
          have p3 := fun d os => cell_regrown m3 d os
          have p4 := fun d os => cell_regrown m4 d os
          have q0 := fun d os => cell_regrown n0 d os
          have q1 := fun d os => cell_regrown n1 d os
          have q2 := fun d os => cell_regrown n2 d os
          have q3 := fun d os => cell_regrown n3 d os
          have q4 := fun d os => cell_regrown n4 d os
          have r0 := fun d os => cell_regrown y0 d os
          have r1 := fun d os => cell_regrown y1 d os
          have E1 := fun d os => Calls.regrown_of (HAC.out z.1 (grow (redrawn wo d) os))
          have E2 := fun d os => Calls.regrown_of (HAD.out z.2 (grow (redrawn wo d) os))
          have HRG : Hid (∀ d os, Below w6.heap.size w6 (grow (redrawn wo d) os)) := Lib.hid (fun d os => HBr.out.trans ((below_regrown wo d os).mono HBr.out.size))
          have HST : Hid (rb = ((accR pa z.1 == accR qa z.2) && (F.drop (j + 1)).all (fun z => accR pa z.1 == accR qa z.2))) := Lib.hid (by rw [HAl.out, HDR.out, List.all_cons])
          generalize hx : accR pa z.1 = x at E1 HST
          generalize hy : accR qa z.2 = y at E2 HST
          clear m0 m1 m2 m3 m4 n0 n1 n2 n3 n4 z0 z1 y0 y1 hz HDR HAl hx hy HAC HAD
          cases x <;> cases y
          all_goals
            go_wp2_with fail
            refine wp_region_quiet_below (by kernel_rfl) (by kernel_rfl) ?_
            repeat (quiet_step (first | with_reducible exact E1 _ _ | with_reducible exact E2 _ _))
            refine wpQuiet_nil ?_
            intro w' hw'
            obtain ⟨pw, rfl⟩ := hw'
            have HBE := Lib.hid (HRG.out pw.d pw.os)
            clear p0 p1 p2 p3 p4 q0 q1 q2 q3 q4 r0 r1 E1 E2 HRG
            go_wp2_with fail
          · go_roundg gh
            case measure => omega
            case rel => exact ⟨j + 1, by first | rfl | go_num, by omega, by omega, Lib.hid (by rw [HST.out]; rfl), HBE⟩
          · go_ret2
            exact ⟨by rw [HST.out]; rfl, HB6.out.trans (HBE.out.mono HB6.out.size)⟩
          · go_ret2
            exact ⟨by rw [HST.out]; rfl, HB6.out.trans (HBE.out.mono HB6.out.size)⟩
          · go_roundg gh
            case measure => omega
            case rel => exact ⟨j + 1, by first | rfl | go_num, by omega, by omega, Lib.hid (by rw [HST.out]; rfl), HBE⟩
        · have hltI : ¬ ((j : Int) < (F.length : Int)) := by omega
          have hall : rb = true := by rw [HAl.out, List.drop_eq_nil_of_le (by omega)]; rfl
          subst hall
          go_wp2_with fail
          go_ret2
          exact ⟨rfl, HB6.out.trans (HBr.out.mono HB6.out.size)⟩
end Go.Proofs.YtaipaddfehpmgaaDoor
