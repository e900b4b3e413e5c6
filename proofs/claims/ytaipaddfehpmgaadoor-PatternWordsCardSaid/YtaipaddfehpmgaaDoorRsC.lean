/-
  add of the specification: the machine of any tree. Nothing is assumed.
-/
import Derived.Test.YtaipaddfehpmgaaDoorRsB
import Derived.Deep.RegionHeld3
import Derived.Deep.RegionHeldLaw
import Derived.Deep.DeepCutAuto
namespace Go.Proofs.YtaipaddfehpmgaaDoor
open Go.RowKit

set_option maxRecDepth 100000 in
set_option maxHeartbeats 25600000 in
theorem radd_any (t : PT) : t.fit = true → Sok t → ∀ (w : World) (B : Nat) (p : Pa) (o1 o2 oe : Option Addr) (c1 c2 ce : Nat) (m : List S4 × List Int), RM w B o1 o2 m.1 m.2 → HT w (· < B) (.slice oe t.l.length ce) t.l → B ≤ w.heap.size → m.1.length + t.lv ≤ 100 →
    Calls Tryd.prog 48 #[mV p (.slice o1 m.1.length c1) (.slice o2 m.2.length c2), t.val (.slice oe t.l.length ce)] w (RAddR p (rAdd m t) w) := by
  induction t using PT.ind with
  | h t ih =>
  intro hfit hsok w B p o1 o2 oe c1 c2 ce m hM hT hB hl
  obtain ⟨w1, hw1⟩ : ∃ w1, w1 = (((w.alloc (.cells #[.bool p.e, .int .u64 p.f, .int .u64 p.t, .slice o1 m.1.length c1, .slice o2 m.2.length c2] 68)).alloc (.cells #[.int .i64 t.k, .int .u64 t.s.a, .int .u64 t.s.b, .int .u64 t.s.c, .int .u64 t.s.d, (.slice oe t.l.length ce)] 60)).alloc zM).alloc zP := ⟨_, rfl⟩
  have HW1 := Lib.hid hw1
  obtain ⟨a1, a2, a3, a4, hs1, hb1⟩ := al4 w (.cells #[.bool p.e, .int .u64 p.f, .int .u64 p.t, .slice o1 m.1.length c1, .slice o2 m.2.length c2] 68) (.cells #[.int .i64 t.k, .int .u64 t.s.a, .int .u64 t.s.b, .int .u64 t.s.c, .int .u64 t.s.d, (.slice oe t.l.length ce)] 60) zM zP
  rw [← hw1] at a1 a2 a3 a4 hs1 hb1
  have HM1 : Hid (M5 w1 w.heap.size p (.slice o1 m.1.length c1) (.slice o2 m.2.length c2)) := Lib.hid a1
  have HX1 : Hid (Box6 w1 (w.heap.size + 1) (.int .i64 t.k) (.int .u64 t.s.a) (.int .u64 t.s.b) (.int .u64 t.s.c) (.int .u64 t.s.d) (.slice oe t.l.length ce)) := Lib.hid (box6_of a2)
  have HN1 : Hid (M5 w1 (w.heap.size + 2) .zero (.slice none 0 0) (.slice none 0 0)) := Lib.hid a3
  have HP1 : Hid (P3 w1 (w.heap.size + 3) .zero) := Lib.hid a4
  clear a1 a2 a3 a4
  have HM0 := Lib.hid hM
  have HT0 := Lib.hid hT
  have HB1 := Lib.hid hb1
  have HAE := Lib.hid (rAdd_eq m t)
  have HFIT := Lib.hid hfit
  have HSOK := Lib.hid hsok
  have HIH := Lib.hid ih
  obtain ⟨m0, m1, m2, m3, m4⟩ := HM1.out.cells
  obtain ⟨x0, x1, x2, x3, x4, x5, xf⟩ := HX1.out
  obtain ⟨n0, n1, n2, n3, n4⟩ := HN1.out.cells
  have nf := fun k => HN1.out.free k
  obtain ⟨q0, q1, q2⟩ := HP1.out.cells
  have qf := fun k => HP1.out.free k
  have n0f := nf 0
  have n1f := nf 1
  have n2f := nf 2
  have n3f := nf 3
  have n4f := nf 4
  have q0f := qf 0
  have q1f := qf 1
  have q2f := qf 2
  generalize hRES : rAdd m t = RES at *
  unfold PT.val mV
  clear hw1 hM hT hfit hsok ih hb1 nf qf
  unfold zM zP at HW1
  go_enter Tryd.func48, Tryd.ntmps48
  by_cases k1 : t.k = 1
  · have hE : RES = (m, .zero) := by rw [HAE.out, if_pos k1]
    subst hE
    clear HAE hRES
    go_wp2_with fail
    refine bodyPost_ret (v := .tuple #[mV p (.slice o1 m.1.length c1) (.slice o2 m.2.length c2), (.agg #[.bool false, .int .u64 0, .int .u64 0])]) (by simp [results, Tryd.results48, go_sem, mV, *]) rfl ?_
    refine ⟨⟨o1, c1, o2, c2, rfl, HM0.out.later ((be4 w _ _ _ _).mono hB) ?_⟩, be4 w _ _ _ _⟩
    simp
    omega
  by_cases k2 : t.k = 2
  · have hE : RES = (m, ⟨true, 0, 0⟩) := by rw [HAE.out, if_neg k1, if_pos k2]
    subst hE
    clear HAE hRES
    go_wp2_with fail
    refine bodyPost_ret (v := .tuple #[mV p (.slice o1 m.1.length c1) (.slice o2 m.2.length c2), (.agg #[.bool true, .int .u64 0, .int .u64 0])]) (by simp [results, Tryd.results48, go_sem, mV, *]) rfl ?_
    refine ⟨⟨o1, c1, o2, c2, rfl, HM0.out.later ((be4 w _ _ _ _).mono hB) ?_⟩, be4 w _ _ _ _⟩
    simp
    omega
  by_cases k3 : t.k = 3
  · have hE : RES = ((m.1 ++ [t.s], m.2 ++ [0]), ⟨false, oneS m.1.length, oneS m.1.length⟩) := by rw [HAE.out, if_neg k1, if_neg k2, if_pos k3]
    subst hE
    obtain ⟨i4, hi, hz0, hz1, hz2⟩ := info_parts infoS4
    obtain ⟨i6, hj, hy0, hy1, hy2⟩ := info_parts info64
    have hlv : 1 ≤ t.lv := by rw [PT.lv_eq, if_pos k3]; omega
    have hl1 : m.1.length ≤ 99 := by omega
    have HRS : Hid (∀ V, Below w1.heap.size w1 V → ∀ (j : Nat) u, (c4 m.1)[j]? = some u → ∃ ad, o1 = some ad ∧ V.cell? (ad.add j) = some u) := Lib.hid (fun V hV => (HM0.out.s.later ((HB1.out.trans (hV.mono (by omega))).mono hB) (Nat.le_refl _)).src)
    have HLE := Lib.hid HM0.out.len
    have hlz : (m.1.length : Int) ≤ 99 := by omega
    have hlz0 : (0 : Int) ≤ (m.1.length : Int) := by omega
    have kb1 : (t.k == 1) = false := by rw [beq_eq_false_iff_ne]; exact k1
    have kb2 : (t.k == 2) = false := by rw [beq_eq_false_iff_ne]; exact k2
    have kb3 : (t.k == 3) = true := by rw [k3]; rfl
    have HLZ := Lib.hid hlz0
    clear HAE hRES k1 k2 k3 hlz0
    go_upto_region 8 with fail
    rw [← HW1.out]
    go_cut [] (fun wx => ∃ (o3 : Option Addr) (cap3 : Nat), Hid (RS wx wx.heap.size o3 (m.1 ++ [t.s])) ∧ Hid (M5 wx w.heap.size p (.slice o3 (m.1.length + 1) cap3) (.slice o2 m.2.length c2)) ∧ Hid (M5 wx (w.heap.size + 2) .zero (.slice none 0 0) (.slice none 0 0)) ∧ Hid (P3 wx (w.heap.size + 3) .zero) ∧ Hid (Below w.heap.size w wx) ∧ w.heap.size + 4 ≤ wx.heap.size)
    case first =>
      go_region_law (first
        | (have hz := HO2; clear hz; refine step_app rfl _ _ 65 33 rfl w1.heap.size i4 _ 4 32 Tryd.underlying65 hi hz0 hz1 hz2 rfl (by decide) (by decide) _ m.1.length (c4 m.1) rfl (by first | exact HO2.out | exact own_keep HO2.out (fun q cur hq _ => below_keep (below1 _ _) hq)) _ 1 1 rfl (c4 [t.s]) rfl (src_one (cs := #[.int .u64 t.s.a, .int .u64 t.s.b, .int .u64 t.s.c, .int .u64 t.s.d]) (t := 33) (by first | exact top_at _ _ rfl | exact (HG2.out.block _ (by first | (simp; done) | (simp; omega)) (fun e => absurd (Option.some.inj e) (by first | omega | (simp; done) | (simp; omega)))).trans (by first | exact top_at _ _ (by first | rfl | omega | (simp; done) | (simp; omega)) | exact old_at (top_at _ _ (by first | rfl | omega | (simp; done) | (simp; omega))) _))) (c4_one _) (by omega) (by have := HB2.out.size; first | omega | (simp; done) | (simp; omega)) ?_
           intro v3 w3 hown3 hg3
           obtain ⟨o3, cap3, rfl⟩ := own_form hown3
           have hb3 : Below w1.heap.size w1 w3 := by
             first
               | exact below_grownS HB2.out HB2.out.size HO2.out hg3
               | exact below_grownS (HB2.out.trans ((below1 w2 _).mono HB2.out.size)) (by have := HB2.out.size; simp; omega) (own_keep HO2.out (fun q cur hq _ => below_keep (below1 _ _) hq)) hg3
           have HO3 : Hid (w3.ownsRow w1.heap.size 33 4 (.slice o3 (m.1.length + 1) cap3) (m.1.length + 1) (c4 (m.1 ++ [t.s]))) := Lib.hid (by rw [c4_app]; exact hown3)
           have HB3 := Lib.hid hb3
           have y3 := (HM1.out.later hb3 (by omega)).cells.2.2.2.1
           have yf := (HM1.out.later hb3 (by omega)).free 3
           clear hown3 hg3 hb3)
        | (refine step_app rfl _ _ 65 33 rfl w1.heap.size i4 _ 4 32 Tryd.underlying65 hi hz0 hz1 hz2 rfl (by decide) (by decide) _ 0 (c4 []) rfl (own4_at (by first | exact top_at _ _ (by first | rfl | omega | (simp; done) | (simp; omega)) | exact old_at (top_at _ _ (by first | rfl | omega | (simp; done) | (simp; omega))) _) (by omega)) o1 m.1.length c1 rfl (c4 m.1) (by rw [c4_len]) (HRS.out _ (by repeat' (first | exact Below.refl _ _ | refine Below.drew ?_ | refine Below.alloc ?_ (by first | omega | (simp; done) | (simp; omega)) _))) (c4_one _) (by omega) (by first | omega | (simp; done) | (simp; omega)) ?_
           intro v2 w2 hown2 hg2
           have HO2 : Hid (w2.ownsRow w1.heap.size 33 4 v2 m.1.length (c4 m.1)) := Lib.hid (by simpa [c4] using hown2)
           have HB2 : Hid (Below w1.heap.size w1 w2) := Lib.hid (below_grownS (by repeat' (first | exact Below.refl _ _ | refine Below.drew ?_ | refine Below.alloc ?_ (by first | omega | (simp; done) | (simp; omega)) _)) (by first | omega | (simp; done) | (simp; omega)) (own4_at (by first | exact top_at _ _ (by first | rfl | omega | (simp; done) | (simp; omega)) | exact old_at (top_at _ _ (by first | rfl | omega | (simp; done) | (simp; omega))) _) (by omega)) hg2)
           have HG2 := Lib.hid hg2
           obtain ⟨-, z1, z2, z3, z4, -, -⟩ := HX1.out.later HB2.out (by omega)
           clear hown2 hg2))
      all_goals
        have hrs3 := (RS.of_own (o := o3) (n := m.1.length + 1) (c := cap3) (l := m.1 ++ [t.s]) (by rw [List.length_append, List.length_singleton]; exact HO3.out)).2
        have hm3 := HM1.out.later HB3.out (by omega)
        have hty := hm3.ty
        go_wp2_with fail
        go_meet
        refine ⟨o3, cap3, Lib.hid ?_, Lib.hid (hm3.set3 _), Lib.hid ?_, Lib.hid ?_, Lib.hid ?_, ?_⟩
        · rw [World.size_setCell]
          obtain ⟨cs, fr, hb⟩ := hty
          exact hrs3.put hb (by decide) _
        · exact (Below.heap_setCell _ _ _ _ (by show w.heap.size + 2 ≠ w.heap.size; omega)).trans (HN1.out.later HB3.out (by omega))
        · exact (Below.heap_setCell _ _ _ _ (by show w.heap.size + 3 ≠ w.heap.size; omega)).trans (HP1.out.later HB3.out (by omega))
        · exact (HB1.out.trans (HB3.out.mono (by omega))).setCell (p := ⟨w.heap.size, 3, none⟩) (Nat.le_refl _) _
        · rw [World.size_setCell]
          have := HB3.out.size
          omega
    case rest =>
      obtain ⟨o3, cap3, HS4, HM4, HN4, HP4, HB4, hs4⟩ := hcut
      clear m0 m1 m2 m3 m4 x0 x1 x2 x3 x4 x5 xf n0 n1 n2 n3 n4 q0 q1 q2 n0f n1f n2f n3f n4f q0f q1f q2f
      obtain ⟨m0, m1, m2, m3, m4⟩ := HM4.out.cells
      have HRF := Lib.hid ((HM0.out.f.later ((HB4.out.trans ((below1 wc (.cells #[] 32)).mono HB4.out.size)).mono hB) (Nat.le_refl _)).src)
      have hl2 : m.2.length ≤ 99 := by have := HLE.out; omega
      have HL2 := Lib.hid hl2
      have hlt4 : w.heap.size < wc.heap.size := by omega
      have m4b : (wc.alloc (.cells #[] 32)).cell? ⟨w.heap.size, 4, none⟩ = some (.slice o2 m.2.length c2) := ((below1 wc _).cell (p := ⟨w.heap.size, 4, none⟩) hlt4).trans m4
      go_wp2_with (at_builtin; refine app_src rfl _ _ 66 32 rfl wc.heap.size i6 _ 1 8 Tryd.underlying66 hj hy0 hy1 hy2 rfl (by decide) (by decide) _ 0 _ rfl (own64_empty wc) o2 m.2.length c2 rfl (m.2.map (Value.int .u64)) (by simp) HRF.out ?d1 ?d2 ?d3 ?_)
      case d1 => intro u hu; simp only [List.mem_map] at hu; obtain ⟨z, _, rfl⟩ := hu; rfl
      case d2 => omega
      case d3 => simp
      intro v5 w5 hown5 hg5
      have HB5 := Lib.hid (below_grownS (below1 wc _) (by simp) (own64_empty wc) hg5)
      have HO5 : Hid (w5.ownsRow wc.heap.size 32 1 v5 m.2.length (m.2.map (Value.int .u64))) := Lib.hid (by simpa using hown5)
      have hs5 := HB5.out.size
      have HO5b : Hid ((w5.alloc (.cells #[.int .u64 0] 32)).ownsRow wc.heap.size 32 1 v5 m.2.length (m.2.map (Value.int .u64))) := Lib.hid (own_keep HO5.out (fun q cur hq _ => below_keep (below1 _ _) hq))
      clear hown5 hg5 m0 m1 m2 m3 m4 m4b HRF
      go_wp2_with (at_builtin; refine app_src rfl _ _ 66 32 rfl wc.heap.size i6 _ 1 8 Tryd.underlying66 hj hy0 hy1 hy2 rfl (by decide) (by decide) _ m.2.length _ rfl HO5b.out _ 1 1 rfl [Value.int .u64 0] rfl (src_one (cs := #[.int .u64 0]) (t := 32) (top_at _ _ rfl)) ?d1 ?d2 ?d3 ?_)
      case d1 => intro u hu; simp only [List.mem_singleton] at hu; subst hu; rfl
      case d2 => omega
      case d3 => simp <;> omega
      intro v6 w6 hown6 hg6
      obtain ⟨o6, cap6, rfl⟩ := own_form hown6
      have hb6 := below_grownS (HB5.out.trans ((below1 w5 _).mono hs5)) (by simp <;> omega) HO5b.out hg6
      have hru := (RU.of_own (o := o6) (n := m.2.length + 1) (c := cap6) (l := m.2 ++ [0]) (by rw [List.length_append, List.length_singleton, List.map_append]; exact hown6)).2
      have hm6 := HM4.out.later hb6 (by omega)
      have y4 := hm6.cells.2.2.2.2
      have yf := hm6.free 4
      have hm7 := hm6.set4 (.slice o6 (m.2.length + 1) cap6)
      have hn7 : M5 (w6.setCell ⟨w.heap.size, 4, none⟩ (.slice o6 (m.2.length + 1) cap6)) (w.heap.size + 2) .zero (.slice none 0 0) (.slice none 0 0) := (Below.heap_setCell _ _ _ _ (by show w.heap.size + 2 ≠ w.heap.size; omega)).trans (HN4.out.later hb6 (by omega))
      have hp7 : P3 (w6.setCell ⟨w.heap.size, 4, none⟩ (.slice o6 (m.2.length + 1) cap6)) (w.heap.size + 3) .zero := (Below.heap_setCell _ _ _ _ (by show w.heap.size + 3 ≠ w.heap.size; omega)).trans (HP4.out.later hb6 (by omega))
      have HRM : Hid (RM (w6.setCell ⟨w.heap.size, 4, none⟩ (.slice o6 (m.2.length + 1) cap6)) (w6.setCell ⟨w.heap.size, 4, none⟩ (.slice o6 (m.2.length + 1) cap6)).heap.size o3 o6 (m.1 ++ [t.s]) (m.2 ++ [0])) := Lib.hid (by
        rw [World.size_setCell]
        refine RM.puM ⟨HS4.out.later hb6 hb6.size, hru, ?_, ?_, ?_⟩ hm6.ty _ _
        · rw [List.length_append, List.length_append, HLE.out]; rfl
        · rw [List.length_append, List.length_singleton]; omega
        · intro k s hs
          rw [List.getElem?_append] at hs
          split at hs
          · exact HM0.out.ok k s hs
          · have := (List.getElem?_eq_some_iff.1 hs).1
            simp only [List.length_singleton] at this
            rw [show k - m.1.length = 0 by omega] at hs
            cases hs
            exact HSOK.out.here)
      have HB7 : Hid (Below w.heap.size w (w6.setCell ⟨w.heap.size, 4, none⟩ (.slice o6 (m.2.length + 1) cap6))) := Lib.hid ((HB4.out.trans (hb6.mono (by omega))).setCell (p := ⟨w.heap.size, 4, none⟩) (Nat.le_refl _) _)
      obtain ⟨m0, m1, m2, m3, m4⟩ := hm7.cells
      obtain ⟨n0, n1, n2, n3, n4⟩ := hn7.cells
      have n0f := hn7.free 0
      have n1f := hn7.free 1
      have n2f := hn7.free 2
      have n3f := hn7.free 3
      have n4f := hn7.free 4
      obtain ⟨q0, q1, q2⟩ := hp7.cells
      have q0f := hp7.free 0
      have q1f := hp7.free 1
      have q2f := hp7.free 2
      have HN7 := Lib.hid hn7.ty
      have HP7 := Lib.hid hp7.ty
      clear hown6 hg6 hb6 hru hm6 hm7 hn7 hp7
      go_wp2_with fail
      refine bodyPost_ret (v := .tuple #[mV p (.slice o3 (m.1.length + 1) cap3) (.slice o6 (m.2.length + 1) cap6), .agg #[.bool false, .int .u64 (oneS m.1.length), .int .u64 (oneS m.1.length)]]) (by simp [results, Tryd.results48, go_sem, mV, oneS, *]) rfl ?_
      obtain ⟨h1, h2⟩ := fin8 (w := w) HN7.out HP7.out HRM.out HB7.out (by omega) (by omega) _ _ _ _ _ _ _ _
      refine ⟨⟨o3, cap3, o6, cap6, ?_, h1⟩, h2⟩
      show Ending.returned _ = .returned (.tuple #[mV p (.slice o3 (m.1 ++ [t.s]).length cap3) (.slice o6 (m.2 ++ [(0 : Int)]).length cap6), _])
      rw [List.length_append, List.length_append]
      rfl
  by_cases k6 : t.k = 6
  · have hne : t.l ≠ [] := fun e => by
      have := HFIT.out
      rw [PT.fit_eq, k6, e] at this
      simp at this
    obtain ⟨t0, tr, htl⟩ : ∃ t0 tr, t.l = t0 :: tr := by
      cases hx : t.l with
      | nil => exact absurd hx hne
      | cons a b => exact ⟨a, b, rfl⟩
    have hE : RES = (((rAdd m t0).1.1, lnkL (rAdd m t0).2.t (rAdd m t0).2.f (rAdd m t0).1.2), ⟨true, (rAdd m t0).2.f, (rAdd m t0).2.t⟩) := by rw [HAE.out, if_neg k1, if_neg k2, if_neg k3, if_pos k6, htl, rRep]
    have hmem : t0 ∈ t.l := by rw [htl]; exact List.mem_cons_self ..
    have hz : (0 : Int) < (t.l.length : Int) := by rw [htl]; simp
    have hzN : 0 < t.l.length := by rw [htl]; simp
    have hfit0 : t0.fit = true := by
      have h := HFIT.out
      rw [PT.fit_eq, Bool.and_eq_true] at h
      exact PT.fits_mem h.2 hmem
    have hlv0 : m.1.length + t0.lv ≤ 100 := by
      have : PT.lvs t.l = t0.lv + PT.lvs tr := by rw [htl, PT.lvs_cons]
      rw [PT.lv_eq] at hl
      omega
    obtain ⟨b, off, o0, c0, hoe, hbb, hT00, e0, e1, e2, e3, e4, e5⟩ := HT0.out.at_ (i := 0) (v := t0) (by rw [htl]; rfl)
    have HC : Hid (∀ V, Below w1.heap.size w1 V → Calls Tryd.prog 48 #[mV p (.slice o1 m.1.length c1) (.slice o2 m.2.length c2), t0.val (.slice o0 t0.l.length c0)] V (RAddR p (rAdd m t0) V)) := Lib.hid (fun V hV => by
      have hVw := (HB1.out.trans (hV.mono (by omega))).mono hB
      exact HIH.out t0 hmem hfit0 (HSOK.out.mem hmem) V B p o1 o2 o0 c1 c2 c0 m (HM0.out.later hVw (Nat.le_refl _)) (hT00.later (fun _ h => h) (fun b hb o => hVw.cell (p := ⟨b, o, none⟩) hb)) (by have := hV.size; omega) hlv0)
    have HPU := Lib.hid (rAdd_u t0 m)
    have HLEN : Hid ((rAdd m t0).1.1.length ≤ 100) := Lib.hid (by have := rAdd_len t0 m; omega)
    simp only [Nat.zero_mul, Nat.add_zero] at e0 e1 e2 e3 e4 e5
    have HVC : Hid (∀ V, Below w1.heap.size w1 V → V.cell? ⟨b, off, none⟩ = some (.int .i64 t0.k) ∧ V.cell? ⟨b, off + 1, none⟩ = some (.int .u64 t0.s.a) ∧ V.cell? ⟨b, off + 2, none⟩ = some (.int .u64 t0.s.b) ∧ V.cell? ⟨b, off + 3, none⟩ = some (.int .u64 t0.s.c) ∧ V.cell? ⟨b, off + 4, none⟩ = some (.int .u64 t0.s.d) ∧ V.cell? ⟨b, off + 5, none⟩ = some (.slice o0 t0.l.length c0)) := Lib.hid (fun V hV => by
      have hVw := (HB1.out.trans (hV.mono (by omega)))
      have g : ∀ o, V.cell? ⟨b, o, none⟩ = w.cell? ⟨b, o, none⟩ := fun o => hVw.cell (p := ⟨b, o, none⟩) (show b < w.heap.size by omega)
      exact ⟨(g _).trans e0, (g _).trans e1, (g _).trans e2, (g _).trans e3, (g _).trans e4, (g _).trans e5⟩)
    have HVM : Hid (∀ V, Below w1.heap.size w1 V → V.cell? ⟨w.heap.size, 0, none⟩ = some (.bool p.e) ∧ V.cell? ⟨w.heap.size, 1, none⟩ = some (.int .u64 p.f) ∧ V.cell? ⟨w.heap.size, 2, none⟩ = some (.int .u64 p.t) ∧ V.cell? ⟨w.heap.size, 3, none⟩ = some (.slice o1 m.1.length c1) ∧ V.cell? ⟨w.heap.size, 4, none⟩ = some (.slice o2 m.2.length c2) ∧ V.cell? ⟨w.heap.size + 1, 5, none⟩ = some (.slice oe t.l.length ce)) := Lib.hid (fun V hV => by
      obtain ⟨a0, a1, a2, a3, a4⟩ := (HM1.out.later hV (by omega)).cells
      obtain ⟨-, -, -, -, -, b5, -⟩ := HX1.out.later hV (by omega)
      exact ⟨a0, a1, a2, a3, a4, b5⟩)
    have kb1 : (t.k == 1) = false := by rw [beq_eq_false_iff_ne]; exact k1
    have kb2 : (t.k == 2) = false := by rw [beq_eq_false_iff_ne]; exact k2
    have kb3 : (t.k == 3) = false := by rw [beq_eq_false_iff_ne]; exact k3
    have kb6 : (t.k == 6) = true := by rw [k6]; rfl
    subst hE
    subst hoe
    generalize rAdd m t0 = r at *
    obtain ⟨⟨s5, f5⟩, q5⟩ := r
    dsimp only at HPU HLEN ⊢
    unfold RAddR PT.val mV Pa.val at HC
    dsimp only at HC
    clear HAE hRES k1 k2 k3 k6 hne htl e0 e1 e2 e3 e4 e5 hT00 hmem hfit0 hlv0
    clear m0 m1 m2 m3 m4 x0 x1 x2 x3 x4 x5 xf n0 n1 n2 n3 n4 q0 q1 q2 n0f n1f n2f n3f n4f q0f q1f q2f
    obtain ⟨v0, v1, v2, v3, v4, v5⟩ := HVC.out w1.drew (Below.refl _ _).drew
    obtain ⟨u0, u1, u2, u3, u4, u5⟩ := HVM.out w1.drew (Below.refl _ _).drew
    go_upto_region 12 with fail
    rw [← HW1.out]
    have HZ0 : Hid (Below w1.heap.size w1 w1.drew) := Lib.hid (Below.refl _ _).drew
    have HK : Hid (∀ (V : World) (o : Obj), Below w1.heap.size w1 V → Below w1.heap.size w1 (V.alloc o)) := Lib.hid (fun V o h => h.alloc h.size o)
    have HD : Hid (∀ (V : World), Below w1.heap.size w1 V → Below w1.heap.size w1 V.drew) := Lib.hid (fun V h => h.drew)
    have HP : Hid (∀ (V : World) (b k : Nat) (u : Value), Below w1.heap.size w1 V → w1.heap.size ≤ b → Below w1.heap.size w1 (V.setCell ⟨b, k, none⟩ u)) := Lib.hid (fun V b k u h hb => h.setCell (p := ⟨b, k, none⟩) hb u)
    go_cut [7, 8] (fun s7 s8 wx => ∃ (b7 b8 : Nat) (o3 o4 : Option Addr) (c3 c4 : Nat), s7 = .pointer (some ⟨b7, 0, none⟩) ∧ s8 = .pointer (some ⟨b8, 0, none⟩) ∧ Hid (CutM w1 wx b7 b8 p o3 s5.length c3 o4 f5.length c4 s5 f5 q5))
    case first =>
      go_region_held3 (fun V => (V.cell? ⟨b, off, none⟩ = some (.int .i64 t0.k) ∧ V.cell? ⟨b, off + 1, none⟩ = some (.int .u64 t0.s.a) ∧ V.cell? ⟨b, off + 2, none⟩ = some (.int .u64 t0.s.b) ∧ V.cell? ⟨b, off + 3, none⟩ = some (.int .u64 t0.s.c) ∧ V.cell? ⟨b, off + 4, none⟩ = some (.int .u64 t0.s.d) ∧ V.cell? ⟨b, off + 5, none⟩ = some (.slice o0 t0.l.length c0)) ∧ (V.cell? ⟨w.heap.size, 0, none⟩ = some (.bool p.e) ∧ V.cell? ⟨w.heap.size, 1, none⟩ = some (.int .u64 p.f) ∧ V.cell? ⟨w.heap.size, 2, none⟩ = some (.int .u64 p.t) ∧ V.cell? ⟨w.heap.size, 3, none⟩ = some (.slice o1 m.1.length c1) ∧ V.cell? ⟨w.heap.size, 4, none⟩ = some (.slice o2 m.2.length c2) ∧ V.cell? ⟨w.heap.size + 1, 5, none⟩ = some (.slice (some ⟨b, off, none⟩) t.l.length ce))) (exact ⟨HVC.out _ (by repeat' (first | with_reducible exact HZ0.out | with_reducible exact HB5.out | with_reducible exact Below.refl _ _ | with_reducible refine HK.out _ _ ?_ | with_reducible refine HP.out _ _ _ _ ?_ ?_ | with_reducible refine HD.out _ ?_ | exact Nat.le_refl _ | omega)), HVM.out _ (by repeat' (first | with_reducible exact HZ0.out | with_reducible exact HB5.out | with_reducible exact Below.refl _ _ | with_reducible refine HK.out _ _ ?_ | with_reducible refine HP.out _ _ _ _ ?_ ?_ | with_reducible refine HD.out _ ?_ | exact Nat.le_refl _ | omega))⟩) (first
        | (go_simp; go_at_call 48; refine (HC.out _ (by repeat' (first | with_reducible exact HZ0.out | with_reducible exact Below.refl _ _ | with_reducible refine HK.out _ _ ?_ | with_reducible refine HD.out _ ?_))).mono ?_; rintro e w5 ⟨⟨o3, c3, o4, c4, rfl, hm5⟩, hb5⟩
           have HQ5 := Lib.hid hb5
           have HM5 := Lib.hid hm5
           have HB5 : Hid (Below w1.heap.size w1 w5) := Lib.hid (Below.trans (by repeat' (first | with_reducible exact HZ0.out | with_reducible exact Below.refl _ _ | with_reducible refine HK.out _ _ ?_ | with_reducible refine HD.out _ ?_)) (hb5.mono (by first | omega | (simp; done) | (simp; omega))))
           have hs5 := HB5.out.size
           (first
             | (have hx : M5 w5 (w.heap.size + 4) .zero (.slice none 0 0) (.slice none 0 0) := (HQ5.out.block _ (by first | (simp; done) | (simp; omega))).trans (by (try simp only [heap_drew]); first | exact top_at _ _ (by first | rfl | omega | (simp; done) | (simp; omega)) | exact old_at (top_at _ _ (by first | rfl | omega | (simp; done) | (simp; omega))) _); have HX := Lib.hid hx; have hxl := hx.lt; obtain ⟨j0, j1, j2, j3, j4⟩ := hx.cells; have jf0 := hx.free 0; have jf1 := hx.free 1; have jf2 := hx.free 2; have jf3 := hx.free 3; have jf4 := hx.free 4; clear hx)
             | (have hx : M5 w5 (w.heap.size + 4 + 1) .zero (.slice none 0 0) (.slice none 0 0) := (HQ5.out.block _ (by first | (simp; done) | (simp; omega))).trans (by (try simp only [heap_drew]); exact top_at _ _ (by first | rfl | omega | (simp; done) | (simp; omega))); have HX := Lib.hid hx; have hxl := hx.lt; obtain ⟨j0, j1, j2, j3, j4⟩ := hx.cells; have jf0 := hx.free 0; have jf1 := hx.free 1; have jf2 := hx.free 2; have jf3 := hx.free 3; have jf4 := hx.free 4; clear hx)
             | skip)
           (first
             | (have hy : P3 w5 (w.heap.size + 4) .zero := (HQ5.out.block _ (by first | (simp; done) | (simp; omega))).trans (by (try simp only [heap_drew]); first | exact top_at _ _ (by first | rfl | omega | (simp; done) | (simp; omega)) | exact old_at (top_at _ _ (by first | rfl | omega | (simp; done) | (simp; omega))) _); have HY := Lib.hid hy; have hyl := hy.lt; obtain ⟨i0, i1, i2⟩ := hy.cells; have if0 := hy.free 0; have if1 := hy.free 1; have if2 := hy.free 2; clear hy)
             | (have hy : P3 w5 (w.heap.size + 4 + 1) .zero := (HQ5.out.block _ (by first | (simp; done) | (simp; omega))).trans (by (try simp only [heap_drew]); exact top_at _ _ (by first | rfl | omega | (simp; done) | (simp; omega))); have HY := Lib.hid hy; have hyl := hy.lt; obtain ⟨i0, i1, i2⟩ := hy.cells; have if0 := hy.free 0; have if1 := hy.free 1; have if2 := hy.free 2; clear hy)
             | skip)
           clear hb5 hm5
           try dsimp only))
      all_goals
        go_wp2_with fail
        go_meet
        refine ⟨_, _, o3, o4, c3, c4, rfl, rfl, Lib.hid ?_⟩
        first
          | with_reducible exact finA HM5.out HB5.out
          | with_reducible exact finB HM5.out HB5.out
          | with_reducible exact finC HX.out (by omega) HM5.out HB5.out
          | with_reducible exact finD HY.out (by omega) HM5.out HB5.out
          | with_reducible exact finE HX.out HY.out (by omega) (by omega) HM5.out HB5.out
    case rest =>
      obtain ⟨b7, b8, o3, o4, c3, c4, rfl, rfl, HCUT⟩ := hcut
      obtain ⟨hm7, hp8, hrm, hbc, hl7, hl8⟩ := HCUT.out
      have hne := hp8.ne5 hm7
      have hbl7 := hm7.lt
      have hbl8 := hp8.lt
      obtain ⟨y0, y1, y2, y3, y4⟩ := hm7.cells
      obtain ⟨z0, z1, z2⟩ := hp8.cells
      have HM7 := Lib.hid hm7
      have HP8 := Lib.hid hp8
      have HRM := Lib.hid hrm
      have HBC := Lib.hid hbc
      have hsc := hbc.size
      have HL := Lib.hid (linked_any f5 q5.t q5.f HPU.out.2 wc wc.heap.size o4 c4 hrm.f (Nat.le_refl _) (by rw [hrm.len]; exact hrm.lim))
      clear hm7 hp8 hrm hbc HCUT v0 v1 v2 v3 v4 v5 u0 u1 u2 u3 u4 u5
      go_wp2_with fail
      refine HL.out.mono ?_
      rintro e w6 ⟨⟨o6, c6, rfl, hru⟩, hb6⟩
      have hm6 := HM7.out.later hb6 hbl7
      have hp6 := HP8.out.later hb6 hbl8
      have y4 := hm6.cells.2.2.2.2
      have y4f := hm6.free 4
      have z0 := hp6.cells.1
      have z0f := hp6.free 0
      obtain ⟨W, hW⟩ : ∃ W, W = (w6.setCell ⟨b7, 4, none⟩ (.slice o6 f5.length c6)).setCell ⟨b8, 0, none⟩ (.bool true) := ⟨_, rfl⟩
      have HW := Lib.hid hW
      have hbw : Below w.heap.size w w6 := (HB1.out.trans (HBC.out.mono (by omega))).trans (hb6.mono (by omega))
      have hmW : M5 W b7 p (.slice o3 s5.length c3) (.slice o6 f5.length c6) := by rw [hW]; exact (hm6.set4 _).farC hne.symm _
      have hpW : P3 W b8 ⟨true, q5.f, q5.t⟩ := by rw [hW]; exact (hp6.farC hne _).set0 true
      have hnW : M5 W (w.heap.size + 2) .zero (.slice none 0 0) (.slice none 0 0) := by
        rw [hW]
        exact ((((HN1.out.later HBC.out (by omega)).later hb6 (by omega))).farC (by omega) _).farC (by omega) _
      have hqW : P3 W (w.heap.size + 3) .zero := by
        rw [hW]
        exact ((((HP1.out.later HBC.out (by omega)).later hb6 (by omega))).farC (by omega) _).farC (by omega) _
      have HBW : Hid (Below w.heap.size w W) := Lib.hid (by
        rw [hW]
        exact (hbw.setCell (p := ⟨b7, 4, none⟩) (show w.heap.size ≤ b7 by omega) _).setCell (p := ⟨b8, 0, none⟩) (show w.heap.size ≤ b8 by omega) _)
      have HRW : Hid (RM W W.heap.size o3 o6 s5 (lnkL q5.t q5.f f5)) := Lib.hid (by
        rw [hW]
        simp only [World.size_setCell]
        exact RM.puP (RM.puM ⟨HRM.out.s.later hb6 hb6.size, hru, by rw [lnk_len]; exact HRM.out.len, HRM.out.lim, HRM.out.ok⟩ hm6.ty _ _) ((hp6.farC hne _).ty) _ _)
      have HNT := Lib.hid hnW.ty
      have HQT := Lib.hid hqW.ty
      have HMW := Lib.hid hmW
      have HPW := Lib.hid hpW
      have HNW := Lib.hid hnW
      have HQW := Lib.hid hqW
      clear hb6 hru hm6 hp6 hW hbw hmW hpW hnW hqW HL y0 y1 y2 y3 z1 z2
      have HK0 : Hid ((W.drew.cell? ⟨b7, 0, none⟩ = some (.bool p.e) ∧ W.drew.cell? ⟨b7, 1, none⟩ = some (.int .u64 p.f) ∧ W.drew.cell? ⟨b7, 2, none⟩ = some (.int .u64 p.t) ∧ W.drew.cell? ⟨b7, 3, none⟩ = some (.slice o3 s5.length c3) ∧ W.drew.cell? ⟨b7, 4, none⟩ = some (.slice o6 f5.length c6)) ∧ (W.drew.cell? ⟨b8, 0, none⟩ = some (.bool true) ∧ W.drew.cell? ⟨b8, 1, none⟩ = some (.int .u64 q5.f) ∧ W.drew.cell? ⟨b8, 2, none⟩ = some (.int .u64 q5.t))) := Lib.hid ⟨HMW.out.dr.cells, HPW.out.dr.cells⟩
      have HK5 : Hid (∀ x0 x1 x2 x3 x4 : Value, ((((((W.setCell ⟨w.heap.size + 1 + 1, 0, none⟩ x0).setCell ⟨w.heap.size + 1 + 1, 1, none⟩ x1).setCell ⟨w.heap.size + 1 + 1, 2, none⟩ x2).setCell ⟨w.heap.size + 1 + 1, 3, none⟩ x3).setCell ⟨w.heap.size + 1 + 1, 4, none⟩ x4).drew.cell? ⟨b7, 0, none⟩ = some (.bool p.e) ∧ (((((W.setCell ⟨w.heap.size + 1 + 1, 0, none⟩ x0).setCell ⟨w.heap.size + 1 + 1, 1, none⟩ x1).setCell ⟨w.heap.size + 1 + 1, 2, none⟩ x2).setCell ⟨w.heap.size + 1 + 1, 3, none⟩ x3).setCell ⟨w.heap.size + 1 + 1, 4, none⟩ x4).drew.cell? ⟨b7, 1, none⟩ = some (.int .u64 p.f) ∧ (((((W.setCell ⟨w.heap.size + 1 + 1, 0, none⟩ x0).setCell ⟨w.heap.size + 1 + 1, 1, none⟩ x1).setCell ⟨w.heap.size + 1 + 1, 2, none⟩ x2).setCell ⟨w.heap.size + 1 + 1, 3, none⟩ x3).setCell ⟨w.heap.size + 1 + 1, 4, none⟩ x4).drew.cell? ⟨b7, 2, none⟩ = some (.int .u64 p.t) ∧ (((((W.setCell ⟨w.heap.size + 1 + 1, 0, none⟩ x0).setCell ⟨w.heap.size + 1 + 1, 1, none⟩ x1).setCell ⟨w.heap.size + 1 + 1, 2, none⟩ x2).setCell ⟨w.heap.size + 1 + 1, 3, none⟩ x3).setCell ⟨w.heap.size + 1 + 1, 4, none⟩ x4).drew.cell? ⟨b7, 3, none⟩ = some (.slice o3 s5.length c3) ∧ (((((W.setCell ⟨w.heap.size + 1 + 1, 0, none⟩ x0).setCell ⟨w.heap.size + 1 + 1, 1, none⟩ x1).setCell ⟨w.heap.size + 1 + 1, 2, none⟩ x2).setCell ⟨w.heap.size + 1 + 1, 3, none⟩ x3).setCell ⟨w.heap.size + 1 + 1, 4, none⟩ x4).drew.cell? ⟨b7, 4, none⟩ = some (.slice o6 f5.length c6)) ∧ ((((((W.setCell ⟨w.heap.size + 1 + 1, 0, none⟩ x0).setCell ⟨w.heap.size + 1 + 1, 1, none⟩ x1).setCell ⟨w.heap.size + 1 + 1, 2, none⟩ x2).setCell ⟨w.heap.size + 1 + 1, 3, none⟩ x3).setCell ⟨w.heap.size + 1 + 1, 4, none⟩ x4).drew.cell? ⟨b8, 0, none⟩ = some (.bool true) ∧ (((((W.setCell ⟨w.heap.size + 1 + 1, 0, none⟩ x0).setCell ⟨w.heap.size + 1 + 1, 1, none⟩ x1).setCell ⟨w.heap.size + 1 + 1, 2, none⟩ x2).setCell ⟨w.heap.size + 1 + 1, 3, none⟩ x3).setCell ⟨w.heap.size + 1 + 1, 4, none⟩ x4).drew.cell? ⟨b8, 1, none⟩ = some (.int .u64 q5.f) ∧ (((((W.setCell ⟨w.heap.size + 1 + 1, 0, none⟩ x0).setCell ⟨w.heap.size + 1 + 1, 1, none⟩ x1).setCell ⟨w.heap.size + 1 + 1, 2, none⟩ x2).setCell ⟨w.heap.size + 1 + 1, 3, none⟩ x3).setCell ⟨w.heap.size + 1 + 1, 4, none⟩ x4).drew.cell? ⟨b8, 2, none⟩ = some (.int .u64 q5.t))) := Lib.hid (fun x0 x1 x2 x3 x4 => ⟨(mfar5 HMW.out (by omega) x0 x1 x2 x3 x4).dr.cells, (far5 HPW.out (by omega) x0 x1 x2 x3 x4).dr.cells⟩)
      have HK8 : Hid (∀ x0 x1 x2 x3 x4 y0 y1 y2 : Value, (((((((((W.setCell ⟨w.heap.size + 1 + 1, 0, none⟩ x0).setCell ⟨w.heap.size + 1 + 1, 1, none⟩ x1).setCell ⟨w.heap.size + 1 + 1, 2, none⟩ x2).setCell ⟨w.heap.size + 1 + 1, 3, none⟩ x3).setCell ⟨w.heap.size + 1 + 1, 4, none⟩ x4).setCell ⟨w.heap.size + 1 + 1 + 1, 0, none⟩ y0).setCell ⟨w.heap.size + 1 + 1 + 1, 1, none⟩ y1).setCell ⟨w.heap.size + 1 + 1 + 1, 2, none⟩ y2).drew.cell? ⟨b7, 0, none⟩ = some (.bool p.e) ∧ ((((((((W.setCell ⟨w.heap.size + 1 + 1, 0, none⟩ x0).setCell ⟨w.heap.size + 1 + 1, 1, none⟩ x1).setCell ⟨w.heap.size + 1 + 1, 2, none⟩ x2).setCell ⟨w.heap.size + 1 + 1, 3, none⟩ x3).setCell ⟨w.heap.size + 1 + 1, 4, none⟩ x4).setCell ⟨w.heap.size + 1 + 1 + 1, 0, none⟩ y0).setCell ⟨w.heap.size + 1 + 1 + 1, 1, none⟩ y1).setCell ⟨w.heap.size + 1 + 1 + 1, 2, none⟩ y2).drew.cell? ⟨b7, 1, none⟩ = some (.int .u64 p.f) ∧ ((((((((W.setCell ⟨w.heap.size + 1 + 1, 0, none⟩ x0).setCell ⟨w.heap.size + 1 + 1, 1, none⟩ x1).setCell ⟨w.heap.size + 1 + 1, 2, none⟩ x2).setCell ⟨w.heap.size + 1 + 1, 3, none⟩ x3).setCell ⟨w.heap.size + 1 + 1, 4, none⟩ x4).setCell ⟨w.heap.size + 1 + 1 + 1, 0, none⟩ y0).setCell ⟨w.heap.size + 1 + 1 + 1, 1, none⟩ y1).setCell ⟨w.heap.size + 1 + 1 + 1, 2, none⟩ y2).drew.cell? ⟨b7, 2, none⟩ = some (.int .u64 p.t) ∧ ((((((((W.setCell ⟨w.heap.size + 1 + 1, 0, none⟩ x0).setCell ⟨w.heap.size + 1 + 1, 1, none⟩ x1).setCell ⟨w.heap.size + 1 + 1, 2, none⟩ x2).setCell ⟨w.heap.size + 1 + 1, 3, none⟩ x3).setCell ⟨w.heap.size + 1 + 1, 4, none⟩ x4).setCell ⟨w.heap.size + 1 + 1 + 1, 0, none⟩ y0).setCell ⟨w.heap.size + 1 + 1 + 1, 1, none⟩ y1).setCell ⟨w.heap.size + 1 + 1 + 1, 2, none⟩ y2).drew.cell? ⟨b7, 3, none⟩ = some (.slice o3 s5.length c3) ∧ ((((((((W.setCell ⟨w.heap.size + 1 + 1, 0, none⟩ x0).setCell ⟨w.heap.size + 1 + 1, 1, none⟩ x1).setCell ⟨w.heap.size + 1 + 1, 2, none⟩ x2).setCell ⟨w.heap.size + 1 + 1, 3, none⟩ x3).setCell ⟨w.heap.size + 1 + 1, 4, none⟩ x4).setCell ⟨w.heap.size + 1 + 1 + 1, 0, none⟩ y0).setCell ⟨w.heap.size + 1 + 1 + 1, 1, none⟩ y1).setCell ⟨w.heap.size + 1 + 1 + 1, 2, none⟩ y2).drew.cell? ⟨b7, 4, none⟩ = some (.slice o6 f5.length c6)) ∧ (((((((((W.setCell ⟨w.heap.size + 1 + 1, 0, none⟩ x0).setCell ⟨w.heap.size + 1 + 1, 1, none⟩ x1).setCell ⟨w.heap.size + 1 + 1, 2, none⟩ x2).setCell ⟨w.heap.size + 1 + 1, 3, none⟩ x3).setCell ⟨w.heap.size + 1 + 1, 4, none⟩ x4).setCell ⟨w.heap.size + 1 + 1 + 1, 0, none⟩ y0).setCell ⟨w.heap.size + 1 + 1 + 1, 1, none⟩ y1).setCell ⟨w.heap.size + 1 + 1 + 1, 2, none⟩ y2).drew.cell? ⟨b8, 0, none⟩ = some (.bool true) ∧ ((((((((W.setCell ⟨w.heap.size + 1 + 1, 0, none⟩ x0).setCell ⟨w.heap.size + 1 + 1, 1, none⟩ x1).setCell ⟨w.heap.size + 1 + 1, 2, none⟩ x2).setCell ⟨w.heap.size + 1 + 1, 3, none⟩ x3).setCell ⟨w.heap.size + 1 + 1, 4, none⟩ x4).setCell ⟨w.heap.size + 1 + 1 + 1, 0, none⟩ y0).setCell ⟨w.heap.size + 1 + 1 + 1, 1, none⟩ y1).setCell ⟨w.heap.size + 1 + 1 + 1, 2, none⟩ y2).drew.cell? ⟨b8, 1, none⟩ = some (.int .u64 q5.f) ∧ ((((((((W.setCell ⟨w.heap.size + 1 + 1, 0, none⟩ x0).setCell ⟨w.heap.size + 1 + 1, 1, none⟩ x1).setCell ⟨w.heap.size + 1 + 1, 2, none⟩ x2).setCell ⟨w.heap.size + 1 + 1, 3, none⟩ x3).setCell ⟨w.heap.size + 1 + 1, 4, none⟩ x4).setCell ⟨w.heap.size + 1 + 1 + 1, 0, none⟩ y0).setCell ⟨w.heap.size + 1 + 1 + 1, 1, none⟩ y1).setCell ⟨w.heap.size + 1 + 1 + 1, 2, none⟩ y2).drew.cell? ⟨b8, 2, none⟩ = some (.int .u64 q5.t))) := Lib.hid (fun x0 x1 x2 x3 x4 y0 y1 y2 => ⟨(far3 (mfar5 HMW.out (by omega) x0 x1 x2 x3 x4) (by omega) y0 y1 y2).dr.cells, (pfar3 (far5 HPW.out (by omega) x0 x1 x2 x3 x4) (by omega) y0 y1 y2).dr.cells⟩)
      go_upto_region 15 with fail
      rw [← HW.out]
      obtain ⟨m0, m1, m2, m3, m4⟩ := HMW.out.cells
      obtain ⟨p0, p1, p2⟩ := HPW.out.cells
      obtain ⟨n0, n1, n2, n3, n4⟩ := HNW.out.cells
      have n0f := HNW.out.free 0
      have n1f := HNW.out.free 1
      have n2f := HNW.out.free 2
      have n3f := HNW.out.free 3
      have n4f := HNW.out.free 4
      obtain ⟨q0, q1, q2⟩ := HQW.out.cells
      have q0f := HQW.out.free 0
      have q1f := HQW.out.free 1
      have q2f := HQW.out.free 2
      go_region_held3 (fun V => (V.cell? ⟨b7, 0, none⟩ = some (.bool p.e) ∧ V.cell? ⟨b7, 1, none⟩ = some (.int .u64 p.f) ∧ V.cell? ⟨b7, 2, none⟩ = some (.int .u64 p.t) ∧ V.cell? ⟨b7, 3, none⟩ = some (.slice o3 s5.length c3) ∧ V.cell? ⟨b7, 4, none⟩ = some (.slice o6 f5.length c6)) ∧ (V.cell? ⟨b8, 0, none⟩ = some (.bool true) ∧ V.cell? ⟨b8, 1, none⟩ = some (.int .u64 q5.f) ∧ V.cell? ⟨b8, 2, none⟩ = some (.int .u64 q5.t))) (first | with_reducible exact HK0.out | with_reducible exact HK5.out _ _ _ _ _ | with_reducible exact HK8.out _ _ _ _ _ _ _ _) (fail)
      all_goals
        go_wp2_with fail
        refine bodyPost_ret (v := .tuple #[mV p (.slice o3 s5.length c3) (.slice o6 f5.length c6), .agg #[.bool true, .int .u64 q5.f, .int .u64 q5.t]]) (by simp [results, Tryd.results48, go_sem, mV, *]) rfl ?_
        have hn' : Ty W (w.heap.size + 1 + 1) 68 := HNT.out
        have hq' : Ty W (w.heap.size + 1 + 1 + 1) 64 := HQT.out
        have hrw' := HRW.out
        have hbw' := HBW.out
        clear HK0 HK5 HK8 m0 m1 m2 m3 m4 p0 p1 p2 n0 n1 n2 n3 n4 n0f n1f n2f n3f n4f q0 q1 q2 q0f q1f q2f
        exact end6 hn' hq' hrw' hbw' (by omega) (by omega) _ _ _ _ _ _ _ _ (lnk_len _ _ _).symm
  · obtain ⟨alt, halt⟩ : ∃ alt, (t.k == 5) = alt := ⟨_, rfl⟩
    obtain ⟨e0, he0⟩ : ∃ e0, (t.k == 4) = e0 := ⟨_, rfl⟩
    have hE : RES = rSeq alt m ⟨e0, 0, 0⟩ t.l := by rw [HAE.out, if_neg k1, if_neg k2, if_neg k3, if_neg k6, halt, he0]
    have hfits : PT.fits t.l = true := by
      have h := HFIT.out
      rw [PT.fit_eq, Bool.and_eq_true] at h
      exact h.2
    have hlvs : m.1.length + PT.lvs t.l ≤ 100 := by rw [PT.lv_eq] at hl; omega
    have kb1 : (t.k == 1) = false := by rw [beq_eq_false_iff_ne]; exact k1
    have kb2 : (t.k == 2) = false := by rw [beq_eq_false_iff_ne]; exact k2
    have kb3 : (t.k == 3) = false := by rw [beq_eq_false_iff_ne]; exact k3
    have kb6 : (t.k == 6) = false := by rw [beq_eq_false_iff_ne]; exact k6
    have hlen1 := HT0.out.len
    have hlI : (t.l.length : Int) ≤ 1000000 := by omega
    obtain ⟨w2, hw2⟩ : ∃ w2, w2 = w1.alloc (.cells #[.bool e0, .int .u64 0, .int .u64 0] 64) := ⟨_, rfl⟩
    have HW2 := Lib.hid hw2
    have hs2 : w2.heap.size = w.heap.size + 5 := by rw [hw2]; simp; omega
    have hb2 : Below w1.heap.size w1 w2 := by rw [hw2]; exact below1 _ _
    have HM2 : Hid (M5 w2 w.heap.size p (.slice o1 m.1.length c1) (.slice o2 m.2.length c2)) := Lib.hid (HM1.out.later hb2 (by omega))
    have HX2 : Hid (Box6 w2 (w.heap.size + 1) (.int .i64 t.k) (.int .u64 t.s.a) (.int .u64 t.s.b) (.int .u64 t.s.c) (.int .u64 t.s.d) (.slice oe t.l.length ce)) := Lib.hid (HX1.out.later hb2 (by omega))
    have HN2 := Lib.hid (HN1.out.later hb2 (by omega))
    have HP2 := Lib.hid (HP1.out.later hb2 (by omega))
    have HQ2 : Hid (P3 w2 (w.heap.size + 4) ⟨e0, 0, 0⟩) := Lib.hid (by rw [hw2]; exact top_at _ _ hs1)
    have HB2 : Hid (Below w.heap.size w w2) := Lib.hid (HB1.out.trans (hb2.mono (by omega)))
    have HR2 : Hid (RM w2 w2.heap.size o1 o2 m.1 m.2) := Lib.hid (HM0.out.later (HB2.out.mono hB) (by omega))
    have HU2 : Hid (PU ⟨e0, 0, 0⟩) := Lib.hid ⟨u_zero6, u_zero6⟩
    have HE0 : Hid (rSeq alt m ⟨e0, 0, 0⟩ t.l = rSeq alt m ⟨e0, 0, 0⟩ (t.l.drop 0)) := Lib.hid (by rw [List.drop_zero])
    have HL0 : Hid (m.1.length + PT.lvs (t.l.drop 0) ≤ 100) := Lib.hid (by rw [List.drop_zero]; exact hlvs)
    have HFS := Lib.hid hfits
    subst hE
    generalize rSeq alt m ⟨e0, 0, 0⟩ t.l = RES at *
    clear HAE hRES k1 k2 k3 k6 hw2 hb2 hfits hlvs hl
    clear m0 m1 m2 m3 m4 n0 n1 n2 n3 n4 q0 q1 q2 n0f n1f n2f n3f n4f q0f q1f q2f
    go_wp2_with fail
    rw [← HW1.out, ← HW2.out]
    clear x0 x1 x2 x3 x4 x5 xf
    have HS2 := Lib.hid hs2
    go_loopg [10] (t.l.length + 1) (fun gk v wr => ∃ (k : Nat) (mm : List S4 × List Int) (q : Pa) (oa ob : Option Addr) (ca cb : Nat), v = .int .i64 (k : Int) ∧ k + gk = t.l.length + 1 ∧ k ≤ t.l.length ∧ Hid (M5 wr w.heap.size p (.slice oa mm.1.length ca) (.slice ob mm.2.length cb)) ∧ Hid (RM wr wr.heap.size oa ob mm.1 mm.2) ∧ Hid (P3 wr (w.heap.size + 4) q) ∧ Hid (PU q) ∧ Hid (RES = rSeq alt mm q (t.l.drop k)) ∧ Hid (mm.1.length + PT.lvs (t.l.drop k) ≤ 100) ∧ Hid (Below w.heap.size w wr) ∧ Hid (Box6 wr (w.heap.size + 1) (.int .i64 t.k) (.int .u64 t.s.a) (.int .u64 t.s.b) (.int .u64 t.s.c) (.int .u64 t.s.d) (.slice oe t.l.length ce)) ∧ Hid (M5 wr (w.heap.size + 2) .zero (.slice none 0 0) (.slice none 0 0)) ∧ Hid (P3 wr (w.heap.size + 3) .zero) ∧ w.heap.size + 5 ≤ wr.heap.size)
    case atStart => exact ⟨0, m, ⟨e0, 0, 0⟩, o1, o2, c1, c2, rfl, by omega, Nat.zero_le _, HM2, HR2, HQ2, HU2, HE0, HL0, HB2, HX2, HN2, HP2, by omega⟩
    case round =>
      obtain ⟨k, mm, q, oa, ob, ca, cb, rfl, hkg, hk, HMr, HRr, HQr, HUr, HE, HLv, HBr, HXr, HNr, HPr, hsr⟩ := hrel
      clear HM2 HR2 HQ2 HU2 HE0 HL0 HB2 HX2 HN2 HP2
      obtain ⟨w3, hw3⟩ : ∃ w3 : World, w3 = wr := ⟨_, rfl⟩
      subst hw3
      obtain ⟨x0, x1, x2, x3, x4, x5, xf⟩ := HXr.out
      by_cases hlt : k < t.l.length
      · have hltI : (k : Int) < (t.l.length : Int) := by omega
        have hk0 : (0 : Int) ≤ (k : Int) := by omega
        have hwk : IntKind.i64.wrap ((k : Int) + 1) = ((k + 1 : Nat) : Int) := by rw [IntWalk.i64_in _ (by omega)]; omega
        obtain ⟨g, rfl⟩ : ∃ g, gk = g + 1 := ⟨gk - 1, by omega⟩
        obtain ⟨t0, ht0⟩ : ∃ t0, t.l[k]? = some t0 := ⟨_, List.getElem?_eq_getElem hlt⟩
        have hmem : t0 ∈ t.l := List.mem_of_getElem? ht0
        have hdr : t.l.drop k = t0 :: t.l.drop (k + 1) := by rw [List.drop_eq_getElem_cons hlt, (List.getElem?_eq_some_iff.1 ht0).2]
        have hlv0 : mm.1.length + (t0.lv + PT.lvs (t.l.drop (k + 1))) ≤ 100 := by
          have h := HLv.out
          rw [hdr, PT.lvs_cons] at h
          exact h
        obtain ⟨b, off, o0, c0, hoe, hbb, hT00, e0', e1, e2, e3, e4, e5⟩ := HT0.out.at_ (i := k) (v := t0) ht0
        have HC : Hid (∀ V, Below w3.heap.size w3 V → Calls Tryd.prog 48 #[mV p (.slice oa mm.1.length ca) (.slice ob mm.2.length cb), t0.val (.slice o0 t0.l.length c0)] V (RAddR p (rAdd mm t0) V)) := Lib.hid (fun V hV => by
          have hVw := HBr.out.trans (hV.mono (by omega))
          exact HIH.out t0 hmem (PT.fits_mem HFS.out hmem) (HSOK.out.mem hmem) V w3.heap.size p oa ob o0 ca cb c0 mm (HRr.out.later hV (Nat.le_refl _)) (hT00.later (fun _ h => by omega) (fun b hb o => hVw.cell (p := ⟨b, o, none⟩) (show b < w.heap.size by omega))) hV.size (by omega))
        have HPU := Lib.hid (rAdd_u t0 mm)
        have HLEN := Lib.hid (rAdd_len t0 mm)
        have HVC : Hid (∀ V, Below w3.heap.size w3 V → (V.cell? ⟨b, off + k * 6, none⟩ = some (.int .i64 t0.k) ∧ V.cell? ⟨b, off + k * 6 + 1, none⟩ = some (.int .u64 t0.s.a) ∧ V.cell? ⟨b, off + k * 6 + 2, none⟩ = some (.int .u64 t0.s.b) ∧ V.cell? ⟨b, off + k * 6 + 3, none⟩ = some (.int .u64 t0.s.c) ∧ V.cell? ⟨b, off + k * 6 + 4, none⟩ = some (.int .u64 t0.s.d) ∧ V.cell? ⟨b, off + k * 6 + 5, none⟩ = some (.slice o0 t0.l.length c0))) := Lib.hid (fun V hV => by
          have hVw := HBr.out.trans (hV.mono (by omega))
          have g : ∀ o, V.cell? ⟨b, o, none⟩ = w.cell? ⟨b, o, none⟩ := fun o => hVw.cell (p := ⟨b, o, none⟩) (show b < w.heap.size by omega)
          exact ⟨(g _).trans e0', (g _).trans e1, (g _).trans e2, (g _).trans e3, (g _).trans e4, (g _).trans e5⟩)
        have HVM : Hid (∀ V, Below w3.heap.size w3 V → (V.cell? ⟨w.heap.size, 0, none⟩ = some (.bool p.e) ∧ V.cell? ⟨w.heap.size, 1, none⟩ = some (.int .u64 p.f) ∧ V.cell? ⟨w.heap.size, 2, none⟩ = some (.int .u64 p.t) ∧ V.cell? ⟨w.heap.size, 3, none⟩ = some (.slice oa mm.1.length ca) ∧ V.cell? ⟨w.heap.size, 4, none⟩ = some (.slice ob mm.2.length cb) ∧ V.cell? ⟨w.heap.size + 1, 5, none⟩ = some (.slice (some ⟨b, off, none⟩) t.l.length ce))) := Lib.hid (fun V hV => by
          obtain ⟨a0, a1, a2, a3, a4⟩ := (HMr.out.later hV (by omega)).cells
          obtain ⟨-, -, -, -, -, b5, -⟩ := HXr.out.later hV (by omega)
          rw [hoe] at b5
          exact ⟨a0, a1, a2, a3, a4, b5⟩)
        have HST : Hid (RES = if alt = true then rSeq alt (rAdd mm t0).1 (altS q (rAdd mm t0).2) (t.l.drop (k + 1)) else rSeq alt ((rAdd mm t0).1.1, lnkL q.t (rAdd mm t0).2.f (rAdd mm t0).1.2) (rJoin q (rAdd mm t0).2) (t.l.drop (k + 1))) := Lib.hid (by rw [HE.out, hdr, rSeq_cons])
        have HOE := Lib.hid hoe
        subst hoe
        generalize rAdd mm t0 = r at *
        obtain ⟨⟨s5, f5⟩, q5⟩ := r
        dsimp only at HPU HLEN HST
        unfold RAddR PT.val mV Pa.val at HC
        dsimp only at HC
        clear HE HLv ht0 hmem hdr e0' e1 e2 e3 e4 e5 hT00
        obtain ⟨v0, v1, v2, v3, v4, v5⟩ := HVC.out w3.drew (Below.refl _ _).drew
        obtain ⟨u0, u1, u2, u3, u4, u5⟩ := HVM.out w3.drew (Below.refl _ _).drew
        have HZ0 : Hid (Below w3.heap.size w3 w3.drew) := Lib.hid (Below.refl _ _).drew
        have HK : Hid (∀ (V : World) (o : Obj), Below w3.heap.size w3 V → Below w3.heap.size w3 (V.alloc o)) := Lib.hid (fun V o h => h.alloc h.size o)
        have HD : Hid (∀ (V : World), Below w3.heap.size w3 V → Below w3.heap.size w3 V.drew) := Lib.hid (fun V h => h.drew)
        have HP : Hid (∀ (V : World) (b k : Nat) (u : Value), Below w3.heap.size w3 V → w3.heap.size ≤ b → Below w3.heap.size w3 (V.setCell ⟨b, k, none⟩ u)) := Lib.hid (fun V b k u h hb => h.setCell (p := ⟨b, k, none⟩) hb u)
        go_upto_region 21 with fail
        go_cut [11, 12] (fun s7 s8 wx => ∃ (b7 b8 : Nat) (o3 o4 : Option Addr) (c3 c4 : Nat), s7 = .pointer (some ⟨b7, 0, none⟩) ∧ s8 = .pointer (some ⟨b8, 0, none⟩) ∧ Hid (CutM w3 wx b7 b8 p o3 s5.length c3 o4 f5.length c4 s5 f5 q5))
        case first =>
          go_region_held3 (fun V => (V.cell? ⟨b, off + k * 6, none⟩ = some (.int .i64 t0.k) ∧ V.cell? ⟨b, off + k * 6 + 1, none⟩ = some (.int .u64 t0.s.a) ∧ V.cell? ⟨b, off + k * 6 + 2, none⟩ = some (.int .u64 t0.s.b) ∧ V.cell? ⟨b, off + k * 6 + 3, none⟩ = some (.int .u64 t0.s.c) ∧ V.cell? ⟨b, off + k * 6 + 4, none⟩ = some (.int .u64 t0.s.d) ∧ V.cell? ⟨b, off + k * 6 + 5, none⟩ = some (.slice o0 t0.l.length c0)) ∧ (V.cell? ⟨w.heap.size, 0, none⟩ = some (.bool p.e) ∧ V.cell? ⟨w.heap.size, 1, none⟩ = some (.int .u64 p.f) ∧ V.cell? ⟨w.heap.size, 2, none⟩ = some (.int .u64 p.t) ∧ V.cell? ⟨w.heap.size, 3, none⟩ = some (.slice oa mm.1.length ca) ∧ V.cell? ⟨w.heap.size, 4, none⟩ = some (.slice ob mm.2.length cb) ∧ V.cell? ⟨w.heap.size + 1, 5, none⟩ = some (.slice (some ⟨b, off, none⟩) t.l.length ce))) (exact ⟨HVC.out _ (by repeat' (first | with_reducible exact HZ0.out | with_reducible exact HB5.out | with_reducible exact Below.refl _ _ | with_reducible refine HK.out _ _ ?_ | with_reducible refine HP.out _ _ _ _ ?_ ?_ | with_reducible refine HD.out _ ?_ | exact Nat.le_refl _ | omega)), HVM.out _ (by repeat' (first | with_reducible exact HZ0.out | with_reducible exact HB5.out | with_reducible exact Below.refl _ _ | with_reducible refine HK.out _ _ ?_ | with_reducible refine HP.out _ _ _ _ ?_ ?_ | with_reducible refine HD.out _ ?_ | exact Nat.le_refl _ | omega))⟩) (first
            | (go_simp; go_at_call 48; refine (HC.out _ (by repeat' (first | with_reducible exact HZ0.out | with_reducible exact Below.refl _ _ | with_reducible refine HK.out _ _ ?_ | with_reducible refine HD.out _ ?_))).mono ?_; rintro e w5 ⟨⟨o3, c3, o4, c4, rfl, hm5⟩, hb5⟩
               have HQ5 := Lib.hid hb5
               have HM5 := Lib.hid hm5
               have HB5 : Hid (Below w3.heap.size w3 w5) := Lib.hid (Below.trans (by repeat' (first | with_reducible exact HZ0.out | with_reducible exact Below.refl _ _ | with_reducible refine HK.out _ _ ?_ | with_reducible refine HD.out _ ?_)) (hb5.mono (by first | omega | (simp; done) | (simp; omega))))
               have hs5 := HB5.out.size
               (first
                 | (have hx : M5 w5 (w3.heap.size) .zero (.slice none 0 0) (.slice none 0 0) := (HQ5.out.block _ (by first | (simp; done) | (simp; omega))).trans (by (try simp only [heap_drew]); first | exact top_at _ _ (by first | rfl | omega | (simp; done) | (simp; omega)) | exact old_at (top_at _ _ (by first | rfl | omega | (simp; done) | (simp; omega))) _); have HX := Lib.hid hx; have hxl := hx.lt; obtain ⟨j0, j1, j2, j3, j4⟩ := hx.cells; have jf0 := hx.free 0; have jf1 := hx.free 1; have jf2 := hx.free 2; have jf3 := hx.free 3; have jf4 := hx.free 4; clear hx)
                 | (have hx : M5 w5 (w3.heap.size + 1) .zero (.slice none 0 0) (.slice none 0 0) := (HQ5.out.block _ (by first | (simp; done) | (simp; omega))).trans (by (try simp only [heap_drew]); exact top_at _ _ (by first | rfl | omega | (simp; done) | (simp; omega))); have HX := Lib.hid hx; have hxl := hx.lt; obtain ⟨j0, j1, j2, j3, j4⟩ := hx.cells; have jf0 := hx.free 0; have jf1 := hx.free 1; have jf2 := hx.free 2; have jf3 := hx.free 3; have jf4 := hx.free 4; clear hx)
                 | skip)
               (first
                 | (have hy : P3 w5 (w3.heap.size) .zero := (HQ5.out.block _ (by first | (simp; done) | (simp; omega))).trans (by (try simp only [heap_drew]); first | exact top_at _ _ (by first | rfl | omega | (simp; done) | (simp; omega)) | exact old_at (top_at _ _ (by first | rfl | omega | (simp; done) | (simp; omega))) _); have HY := Lib.hid hy; have hyl := hy.lt; obtain ⟨i0, i1, i2⟩ := hy.cells; have if0 := hy.free 0; have if1 := hy.free 1; have if2 := hy.free 2; clear hy)
                 | (have hy : P3 w5 (w3.heap.size + 1) .zero := (HQ5.out.block _ (by first | (simp; done) | (simp; omega))).trans (by (try simp only [heap_drew]); exact top_at _ _ (by first | rfl | omega | (simp; done) | (simp; omega))); have HY := Lib.hid hy; have hyl := hy.lt; obtain ⟨i0, i1, i2⟩ := hy.cells; have if0 := hy.free 0; have if1 := hy.free 1; have if2 := hy.free 2; clear hy)
                 | skip)
               clear hb5 hm5
               try dsimp only))
          all_goals
            go_wp2_with fail
            go_meet
            refine ⟨_, _, o3, o4, c3, c4, rfl, rfl, Lib.hid ?_⟩
            first
              | with_reducible exact finA HM5.out HB5.out
              | with_reducible exact finB HM5.out HB5.out
              | with_reducible exact finC HX.out (by omega) HM5.out HB5.out
              | with_reducible exact finD HY.out (by omega) HM5.out HB5.out
              | with_reducible exact finE HX.out HY.out (by omega) (by omega) HM5.out HB5.out
        case rest =>
          obtain ⟨b7, b8, o3, o4, c3, c4, rfl, rfl, HCUT⟩ := hcut
          obtain ⟨hm7, hp8, hrm, hbc, hl7, hl8⟩ := HCUT.out
          have hne := hp8.ne5 hm7
          obtain ⟨y0, y1, y2, y3, y4⟩ := hm7.cells
          have hmc := HMr.out.later hbc (by omega)
          obtain ⟨-, -, -, -, -⟩ := hmc.cells
          have n0 := hmc.cells.1
          have n1 := hmc.cells.2.1
          have n2 := hmc.cells.2.2.1
          have n3 := hmc.cells.2.2.2.1
          have n4 := hmc.cells.2.2.2.2
          have n0f := hmc.free 0
          have n1f := hmc.free 1
          have n2f := hmc.free 2
          have n3f := hmc.free 3
          have n4f := hmc.free 4
          have hsc := hbc.size
          obtain ⟨W, hW⟩ : ∃ W, W = ((((wc.setCell ⟨w.heap.size, 0, none⟩ (.bool p.e)).setCell ⟨w.heap.size, 1, none⟩ (.int .u64 p.f)).setCell ⟨w.heap.size, 2, none⟩ (.int .u64 p.t)).setCell ⟨w.heap.size, 3, none⟩ (.slice o3 s5.length c3)).setCell ⟨w.heap.size, 4, none⟩ (.slice o4 f5.length c4) := ⟨_, rfl⟩
          have HW := Lib.hid hW
          have hpb : P3 W b8 q5 := by rw [hW]; exact far5 hp8 (by omega) _ _ _ _ _
          have hrd : Rnd w W p o3 o4 c3 c4 s5 f5 q (.int .i64 t.k) (.int .u64 t.s.a) (.int .u64 t.s.b) (.int .u64 t.s.c) (.int .u64 t.s.d) (.slice (some ⟨b, off, none⟩) t.l.length ce) := by
            rw [hW]
            refine ⟨hmc.set p _ _, ?_, far5 (HQr.out.later hbc (by omega)) (by omega) _ _ _ _ _, below5s (HBr.out.trans (hbc.mono (by omega))) (Nat.le_refl _) _ _ _ _ _, Box6.far5 (HXr.out.later hbc (by omega)) (by omega) _ _ _ _ _, mfar5 (HNr.out.later hbc (by omega)) (by omega) _ _ _ _ _, far5 (HPr.out.later hbc (by omega)) (by omega) _ _ _ _ _, ?_⟩
            · simp only [World.size_setCell]
              exact hrm.pu5 hmc.ty _ _ _ _ _
            · simp only [World.size_setCell]
              omega
          have HRD := Lib.hid hrd
          have HPB := Lib.hid hpb
          have hb8W : b8 < W.heap.size := hpb.lt
          have hn84 : b8 ≠ w.heap.size + 4 := by omega
          have HLN : Hid (s5.length + PT.lvs (t.l.drop (k + 1)) ≤ 100) := Lib.hid (by have := HLEN.out; omega)
          have hr1 : U6 q.t := HUr.out.2
          clear hm7 hp8 hrm hbc HCUT hmc hW hpb hrd v0 v1 v2 v3 v4 v5 u0 u1 u2 u3 u4 u5 x0 x1 x2 x3 x4 x5 xf
          go_upto_region 23 with fail
          rw [← HW.out]
          clear y0 y1 y2 y3 y4 n0 n1 n2 n3 n4 n0f n1f n2f n3f n4f
          obtain ⟨x0, x1, x2, x3, x4, x5, xf⟩ := HRD.out.x
          cases alt
          · have HST2 : Hid (RES = rSeq false (s5, lnkL q.t q5.f f5) (rJoin q q5) (t.l.drop (k + 1))) := Lib.hid (by have h := HST.out; rwa [if_neg (by decide)] at h)
            have HU3 : Hid (PU (rJoin q q5)) := Lib.hid (rJoin_u HUr.out HPU.out)
            have HL := Lib.hid (linked_any f5 q.t q5.f hr1 W W.heap.size o4 c4 HRD.out.r.f (Nat.le_refl _) (by rw [HRD.out.r.len]; exact HRD.out.r.lim))
            obtain ⟨m0, m1, m2, m3, m4⟩ := HRD.out.m.cells
            obtain ⟨q0, q1, q2⟩ := HRD.out.q.cells
            obtain ⟨z0, z1, z2⟩ := HPB.out.cells
            clear HST
            go_wp2_with fail
            refine HL.out.mono ?_
            rintro e w6 ⟨⟨o6, c6, rfl, hru⟩, hb6⟩
            have hs6 := hb6.size
            have hsW := HRD.out.s
            have hm6 := HRD.out.m.later hb6 (by omega)
            have m4 := hm6.cells.2.2.2.2
            have m4f := hm6.free 4
            obtain ⟨W2, hW2⟩ : ∃ W2, W2 = w6.setCell ⟨w.heap.size, 4, none⟩ (.slice o6 f5.length c6) := ⟨_, rfl⟩
            have HW2' := Lib.hid hW2
            have hp2 : P3 W2 b8 q5 := by rw [hW2]; exact (HPB.out.later hb6 hb8W).farC (by omega) _
            have hrd2 : Rnd w W2 p o3 o6 c3 c6 s5 (lnkL q.t q5.f f5) q (.int .i64 t.k) (.int .u64 t.s.a) (.int .u64 t.s.b) (.int .u64 t.s.c) (.int .u64 t.s.d) (.slice (some ⟨b, off, none⟩) t.l.length ce) := by
              rw [hW2]
              refine ⟨?_, ?_, (HRD.out.q.later hb6 (by omega)).farC (by omega) _, (HRD.out.b.trans (hb6.mono (by omega))).setCell (p := ⟨w.heap.size, 4, none⟩) (Nat.le_refl _) _, (HRD.out.x.later hb6 (by omega)).farC (by omega) _, (HRD.out.n.later hb6 (by omega)).farC (by omega) _, (HRD.out.p.later hb6 (by omega)).farC (by omega) _, by simp only [World.size_setCell]; omega⟩
              · rw [lnk_len]
                exact hm6.set4 _
              · simp only [World.size_setCell]
                exact RM.puM ⟨HRD.out.r.s.later hb6 hs6, hru, by rw [lnk_len]; exact HRD.out.r.len, HRD.out.r.lim, HRD.out.r.ok⟩ hm6.ty _ _
            have HP2' := Lib.hid hp2
            have HR2' := Lib.hid hrd2
            have hs7 := hrd2.s
            clear hru hb6 hm6 hW2 hp2 hrd2 HL m0 m1 m2 m3 q0 q1 q2 z0 z1 z2 x0 x1 x2 x3 x4 x5 xf
            go_upto_region 26 with fail
            rw [← HW2'.out]
            clear m4 m4f
            obtain ⟨q0, q1, q2⟩ := HR2'.out.q.cells
            have q0f := HR2'.out.q.free 0
            have q1f := HR2'.out.q.free 1
            have q2f := HR2'.out.q.free 2
            obtain ⟨z0, z1, z2⟩ := HP2'.out.cells
            obtain ⟨qe, qf, qt⟩ := q
            obtain ⟨re, rf, rt⟩ := q5
            cases qe <;> cases re
            · go_wp2_with fail
              go_roundg g
              case measure => omega
              case rel =>
                rw [show w.heap.size + 1 + 1 + 1 + 1 = w.heap.size + 4 from rfl]
                have hq := HR2'.out.putB false rt
                exact ⟨k + 1, (s5, lnkL qt rf f5), rJoin ⟨false, qf, qt⟩ ⟨false, rf, rt⟩, o3, o6, c3, c6, by first | rfl | go_num, by omega, hlt, Lib.hid hq.m, Lib.hid hq.r, Lib.hid hq.q, Lib.hid HU3.out, Lib.hid HST2.out, HLN, Lib.hid hq.b, Lib.hid hq.x, Lib.hid hq.n, Lib.hid hq.p, hq.s⟩
            · go_wp2_with fail
              go_roundg g
              case measure => omega
              case rel =>
                rw [show w.heap.size + 1 + 1 + 1 + 1 = w.heap.size + 4 from rfl]
                have hq := HR2'.out.putB false (orS qt rt)
                exact ⟨k + 1, (s5, lnkL qt rf f5), rJoin ⟨false, qf, qt⟩ ⟨true, rf, rt⟩, o3, o6, c3, c6, by first | rfl | go_num, by omega, hlt, Lib.hid hq.m, Lib.hid hq.r, Lib.hid hq.q, Lib.hid HU3.out, Lib.hid HST2.out, HLN, Lib.hid hq.b, Lib.hid hq.x, Lib.hid hq.n, Lib.hid hq.p, hq.s⟩
            · go_wp2_with fail
              go_roundg g
              case measure => omega
              case rel =>
                rw [show w.heap.size + 1 + 1 + 1 + 1 = w.heap.size + 4 from rfl]
                have hq := HR2'.out.putA false (orS qf rf) rt
                exact ⟨k + 1, (s5, lnkL qt rf f5), rJoin ⟨true, qf, qt⟩ ⟨false, rf, rt⟩, o3, o6, c3, c6, by first | rfl | go_num, by omega, hlt, Lib.hid hq.m, Lib.hid hq.r, Lib.hid hq.q, Lib.hid HU3.out, Lib.hid HST2.out, HLN, Lib.hid hq.b, Lib.hid hq.x, Lib.hid hq.n, Lib.hid hq.p, hq.s⟩
            · go_wp2_with fail
              go_roundg g
              case measure => omega
              case rel =>
                rw [show w.heap.size + 1 + 1 + 1 + 1 = w.heap.size + 4 from rfl]
                have hq := HR2'.out.putA true (orS qf rf) (orS qt rt)
                exact ⟨k + 1, (s5, lnkL qt rf f5), rJoin ⟨true, qf, qt⟩ ⟨true, rf, rt⟩, o3, o6, c3, c6, by first | rfl | go_num, by omega, hlt, Lib.hid hq.m, Lib.hid hq.r, Lib.hid hq.q, Lib.hid HU3.out, Lib.hid HST2.out, HLN, Lib.hid hq.b, Lib.hid hq.x, Lib.hid hq.n, Lib.hid hq.p, hq.s⟩
          · have HST2 : Hid (RES = rSeq true (s5, f5) (altS q q5) (t.l.drop (k + 1))) := Lib.hid (by have h := HST.out; rwa [if_pos rfl] at h)
            have HU3 : Hid (PU (altS q q5)) := Lib.hid ⟨or_u _ _, or_u _ _⟩
            obtain ⟨q0, q1, q2⟩ := HRD.out.q.cells
            have q0f := HRD.out.q.free 0
            have q1f := HRD.out.q.free 1
            have q2f := HRD.out.q.free 2
            obtain ⟨z0, z1, z2⟩ := HPB.out.cells
            obtain ⟨qe, qf, qt⟩ := q
            clear HST
            cases qe
            all_goals
              go_wp2_with fail
              go_roundg g
              case measure => omega
              case rel =>
                rw [show w.heap.size + 1 + 1 + 1 + 1 = w.heap.size + 4 from rfl]
                first
                  | (have hq := HRD.out.put3 q5.e (orS qf q5.f) (orS qt q5.t)
                     exact ⟨k + 1, (s5, f5), altS ⟨false, qf, qt⟩ q5, o3, o4, c3, c4, by first | rfl | go_num, by omega, hlt, Lib.hid hq.m, Lib.hid hq.r, Lib.hid hq.q, Lib.hid HU3.out, Lib.hid HST2.out, HLN, Lib.hid hq.b, Lib.hid hq.x, Lib.hid hq.n, Lib.hid hq.p, hq.s⟩)
                  | (have hq := HRD.out.put3 true (orS qf q5.f) (orS qt q5.t)
                     exact ⟨k + 1, (s5, f5), altS ⟨true, qf, qt⟩ q5, o3, o4, c3, c4, by first | rfl | go_num, by omega, hlt, Lib.hid hq.m, Lib.hid hq.r, Lib.hid hq.q, Lib.hid HU3.out, Lib.hid HST2.out, HLN, Lib.hid hq.b, Lib.hid hq.x, Lib.hid hq.n, Lib.hid hq.p, hq.s⟩)
      · obtain rfl : k = t.l.length := by omega
        have hE2 : RES = (mm, q) := by rw [HE.out, List.drop_length, rSeq]
        obtain ⟨s5, f5⟩ := mm
        subst hE2
        have HMW : Hid (M5 w3 w.heap.size p (.slice oa s5.length ca) (.slice ob f5.length cb)) := HMr
        have HPW : Hid (P3 w3 (w.heap.size + 1 + 1 + 1 + 1) q) := HQr
        have HK0 : Hid ((w3.drew.cell? ⟨w.heap.size, 0, none⟩ = some (.bool p.e) ∧ w3.drew.cell? ⟨w.heap.size, 1, none⟩ = some (.int .u64 p.f) ∧ w3.drew.cell? ⟨w.heap.size, 2, none⟩ = some (.int .u64 p.t) ∧ w3.drew.cell? ⟨w.heap.size, 3, none⟩ = some (.slice oa s5.length ca) ∧ w3.drew.cell? ⟨w.heap.size, 4, none⟩ = some (.slice ob f5.length cb)) ∧ (w3.drew.cell? ⟨w.heap.size + 1 + 1 + 1 + 1, 0, none⟩ = some (.bool q.e) ∧ w3.drew.cell? ⟨w.heap.size + 1 + 1 + 1 + 1, 1, none⟩ = some (.int .u64 q.f) ∧ w3.drew.cell? ⟨w.heap.size + 1 + 1 + 1 + 1, 2, none⟩ = some (.int .u64 q.t))) := Lib.hid ⟨HMW.out.dr.cells, HPW.out.dr.cells⟩
        have HK5 : Hid (∀ x0 x1 x2 x3 x4 : Value, ((((((w3.setCell ⟨w.heap.size + 1 + 1, 0, none⟩ x0).setCell ⟨w.heap.size + 1 + 1, 1, none⟩ x1).setCell ⟨w.heap.size + 1 + 1, 2, none⟩ x2).setCell ⟨w.heap.size + 1 + 1, 3, none⟩ x3).setCell ⟨w.heap.size + 1 + 1, 4, none⟩ x4).drew.cell? ⟨w.heap.size, 0, none⟩ = some (.bool p.e) ∧ (((((w3.setCell ⟨w.heap.size + 1 + 1, 0, none⟩ x0).setCell ⟨w.heap.size + 1 + 1, 1, none⟩ x1).setCell ⟨w.heap.size + 1 + 1, 2, none⟩ x2).setCell ⟨w.heap.size + 1 + 1, 3, none⟩ x3).setCell ⟨w.heap.size + 1 + 1, 4, none⟩ x4).drew.cell? ⟨w.heap.size, 1, none⟩ = some (.int .u64 p.f) ∧ (((((w3.setCell ⟨w.heap.size + 1 + 1, 0, none⟩ x0).setCell ⟨w.heap.size + 1 + 1, 1, none⟩ x1).setCell ⟨w.heap.size + 1 + 1, 2, none⟩ x2).setCell ⟨w.heap.size + 1 + 1, 3, none⟩ x3).setCell ⟨w.heap.size + 1 + 1, 4, none⟩ x4).drew.cell? ⟨w.heap.size, 2, none⟩ = some (.int .u64 p.t) ∧ (((((w3.setCell ⟨w.heap.size + 1 + 1, 0, none⟩ x0).setCell ⟨w.heap.size + 1 + 1, 1, none⟩ x1).setCell ⟨w.heap.size + 1 + 1, 2, none⟩ x2).setCell ⟨w.heap.size + 1 + 1, 3, none⟩ x3).setCell ⟨w.heap.size + 1 + 1, 4, none⟩ x4).drew.cell? ⟨w.heap.size, 3, none⟩ = some (.slice oa s5.length ca) ∧ (((((w3.setCell ⟨w.heap.size + 1 + 1, 0, none⟩ x0).setCell ⟨w.heap.size + 1 + 1, 1, none⟩ x1).setCell ⟨w.heap.size + 1 + 1, 2, none⟩ x2).setCell ⟨w.heap.size + 1 + 1, 3, none⟩ x3).setCell ⟨w.heap.size + 1 + 1, 4, none⟩ x4).drew.cell? ⟨w.heap.size, 4, none⟩ = some (.slice ob f5.length cb)) ∧ ((((((w3.setCell ⟨w.heap.size + 1 + 1, 0, none⟩ x0).setCell ⟨w.heap.size + 1 + 1, 1, none⟩ x1).setCell ⟨w.heap.size + 1 + 1, 2, none⟩ x2).setCell ⟨w.heap.size + 1 + 1, 3, none⟩ x3).setCell ⟨w.heap.size + 1 + 1, 4, none⟩ x4).drew.cell? ⟨w.heap.size + 1 + 1 + 1 + 1, 0, none⟩ = some (.bool q.e) ∧ (((((w3.setCell ⟨w.heap.size + 1 + 1, 0, none⟩ x0).setCell ⟨w.heap.size + 1 + 1, 1, none⟩ x1).setCell ⟨w.heap.size + 1 + 1, 2, none⟩ x2).setCell ⟨w.heap.size + 1 + 1, 3, none⟩ x3).setCell ⟨w.heap.size + 1 + 1, 4, none⟩ x4).drew.cell? ⟨w.heap.size + 1 + 1 + 1 + 1, 1, none⟩ = some (.int .u64 q.f) ∧ (((((w3.setCell ⟨w.heap.size + 1 + 1, 0, none⟩ x0).setCell ⟨w.heap.size + 1 + 1, 1, none⟩ x1).setCell ⟨w.heap.size + 1 + 1, 2, none⟩ x2).setCell ⟨w.heap.size + 1 + 1, 3, none⟩ x3).setCell ⟨w.heap.size + 1 + 1, 4, none⟩ x4).drew.cell? ⟨w.heap.size + 1 + 1 + 1 + 1, 2, none⟩ = some (.int .u64 q.t))) := Lib.hid (fun x0 x1 x2 x3 x4 => ⟨(mfar5 HMW.out (by omega) x0 x1 x2 x3 x4).dr.cells, (far5 HPW.out (by omega) x0 x1 x2 x3 x4).dr.cells⟩)
        have HK8 : Hid (∀ x0 x1 x2 x3 x4 y0 y1 y2 : Value, (((((((((w3.setCell ⟨w.heap.size + 1 + 1, 0, none⟩ x0).setCell ⟨w.heap.size + 1 + 1, 1, none⟩ x1).setCell ⟨w.heap.size + 1 + 1, 2, none⟩ x2).setCell ⟨w.heap.size + 1 + 1, 3, none⟩ x3).setCell ⟨w.heap.size + 1 + 1, 4, none⟩ x4).setCell ⟨w.heap.size + 1 + 1 + 1, 0, none⟩ y0).setCell ⟨w.heap.size + 1 + 1 + 1, 1, none⟩ y1).setCell ⟨w.heap.size + 1 + 1 + 1, 2, none⟩ y2).drew.cell? ⟨w.heap.size, 0, none⟩ = some (.bool p.e) ∧ ((((((((w3.setCell ⟨w.heap.size + 1 + 1, 0, none⟩ x0).setCell ⟨w.heap.size + 1 + 1, 1, none⟩ x1).setCell ⟨w.heap.size + 1 + 1, 2, none⟩ x2).setCell ⟨w.heap.size + 1 + 1, 3, none⟩ x3).setCell ⟨w.heap.size + 1 + 1, 4, none⟩ x4).setCell ⟨w.heap.size + 1 + 1 + 1, 0, none⟩ y0).setCell ⟨w.heap.size + 1 + 1 + 1, 1, none⟩ y1).setCell ⟨w.heap.size + 1 + 1 + 1, 2, none⟩ y2).drew.cell? ⟨w.heap.size, 1, none⟩ = some (.int .u64 p.f) ∧ ((((((((w3.setCell ⟨w.heap.size + 1 + 1, 0, none⟩ x0).setCell ⟨w.heap.size + 1 + 1, 1, none⟩ x1).setCell ⟨w.heap.size + 1 + 1, 2, none⟩ x2).setCell ⟨w.heap.size + 1 + 1, 3, none⟩ x3).setCell ⟨w.heap.size + 1 + 1, 4, none⟩ x4).setCell ⟨w.heap.size + 1 + 1 + 1, 0, none⟩ y0).setCell ⟨w.heap.size + 1 + 1 + 1, 1, none⟩ y1).setCell ⟨w.heap.size + 1 + 1 + 1, 2, none⟩ y2).drew.cell? ⟨w.heap.size, 2, none⟩ = some (.int .u64 p.t) ∧ ((((((((w3.setCell ⟨w.heap.size + 1 + 1, 0, none⟩ x0).setCell ⟨w.heap.size + 1 + 1, 1, none⟩ x1).setCell ⟨w.heap.size + 1 + 1, 2, none⟩ x2).setCell ⟨w.heap.size + 1 + 1, 3, none⟩ x3).setCell ⟨w.heap.size + 1 + 1, 4, none⟩ x4).setCell ⟨w.heap.size + 1 + 1 + 1, 0, none⟩ y0).setCell ⟨w.heap.size + 1 + 1 + 1, 1, none⟩ y1).setCell ⟨w.heap.size + 1 + 1 + 1, 2, none⟩ y2).drew.cell? ⟨w.heap.size, 3, none⟩ = some (.slice oa s5.length ca) ∧ ((((((((w3.setCell ⟨w.heap.size + 1 + 1, 0, none⟩ x0).setCell ⟨w.heap.size + 1 + 1, 1, none⟩ x1).setCell ⟨w.heap.size + 1 + 1, 2, none⟩ x2).setCell ⟨w.heap.size + 1 + 1, 3, none⟩ x3).setCell ⟨w.heap.size + 1 + 1, 4, none⟩ x4).setCell ⟨w.heap.size + 1 + 1 + 1, 0, none⟩ y0).setCell ⟨w.heap.size + 1 + 1 + 1, 1, none⟩ y1).setCell ⟨w.heap.size + 1 + 1 + 1, 2, none⟩ y2).drew.cell? ⟨w.heap.size, 4, none⟩ = some (.slice ob f5.length cb)) ∧ (((((((((w3.setCell ⟨w.heap.size + 1 + 1, 0, none⟩ x0).setCell ⟨w.heap.size + 1 + 1, 1, none⟩ x1).setCell ⟨w.heap.size + 1 + 1, 2, none⟩ x2).setCell ⟨w.heap.size + 1 + 1, 3, none⟩ x3).setCell ⟨w.heap.size + 1 + 1, 4, none⟩ x4).setCell ⟨w.heap.size + 1 + 1 + 1, 0, none⟩ y0).setCell ⟨w.heap.size + 1 + 1 + 1, 1, none⟩ y1).setCell ⟨w.heap.size + 1 + 1 + 1, 2, none⟩ y2).drew.cell? ⟨w.heap.size + 1 + 1 + 1 + 1, 0, none⟩ = some (.bool q.e) ∧ ((((((((w3.setCell ⟨w.heap.size + 1 + 1, 0, none⟩ x0).setCell ⟨w.heap.size + 1 + 1, 1, none⟩ x1).setCell ⟨w.heap.size + 1 + 1, 2, none⟩ x2).setCell ⟨w.heap.size + 1 + 1, 3, none⟩ x3).setCell ⟨w.heap.size + 1 + 1, 4, none⟩ x4).setCell ⟨w.heap.size + 1 + 1 + 1, 0, none⟩ y0).setCell ⟨w.heap.size + 1 + 1 + 1, 1, none⟩ y1).setCell ⟨w.heap.size + 1 + 1 + 1, 2, none⟩ y2).drew.cell? ⟨w.heap.size + 1 + 1 + 1 + 1, 1, none⟩ = some (.int .u64 q.f) ∧ ((((((((w3.setCell ⟨w.heap.size + 1 + 1, 0, none⟩ x0).setCell ⟨w.heap.size + 1 + 1, 1, none⟩ x1).setCell ⟨w.heap.size + 1 + 1, 2, none⟩ x2).setCell ⟨w.heap.size + 1 + 1, 3, none⟩ x3).setCell ⟨w.heap.size + 1 + 1, 4, none⟩ x4).setCell ⟨w.heap.size + 1 + 1 + 1, 0, none⟩ y0).setCell ⟨w.heap.size + 1 + 1 + 1, 1, none⟩ y1).setCell ⟨w.heap.size + 1 + 1 + 1, 2, none⟩ y2).drew.cell? ⟨w.heap.size + 1 + 1 + 1 + 1, 2, none⟩ = some (.int .u64 q.t))) := Lib.hid (fun x0 x1 x2 x3 x4 y0 y1 y2 => ⟨(far3 (mfar5 HMW.out (by omega) x0 x1 x2 x3 x4) (by omega) y0 y1 y2).dr.cells, (pfar3 (far5 HPW.out (by omega) x0 x1 x2 x3 x4) (by omega) y0 y1 y2).dr.cells⟩)
        clear HE HLv
        go_upto_region 32 with fail
        clear x0 x1 x2 x3 x4 x5 xf
        obtain ⟨m0, m1, m2, m3, m4⟩ := HMW.out.cells
        obtain ⟨p0, p1, p2⟩ := HPW.out.cells
        obtain ⟨n0, n1, n2, n3, n4⟩ := HNr.out.cells
        have n0f := HNr.out.free 0
        have n1f := HNr.out.free 1
        have n2f := HNr.out.free 2
        have n3f := HNr.out.free 3
        have n4f := HNr.out.free 4
        obtain ⟨q0, q1, q2⟩ := HPr.out.cells
        have q0f := HPr.out.free 0
        have q1f := HPr.out.free 1
        have q2f := HPr.out.free 2
        go_region_held3 (fun V => (V.cell? ⟨w.heap.size, 0, none⟩ = some (.bool p.e) ∧ V.cell? ⟨w.heap.size, 1, none⟩ = some (.int .u64 p.f) ∧ V.cell? ⟨w.heap.size, 2, none⟩ = some (.int .u64 p.t) ∧ V.cell? ⟨w.heap.size, 3, none⟩ = some (.slice oa s5.length ca) ∧ V.cell? ⟨w.heap.size, 4, none⟩ = some (.slice ob f5.length cb)) ∧ (V.cell? ⟨w.heap.size + 1 + 1 + 1 + 1, 0, none⟩ = some (.bool q.e) ∧ V.cell? ⟨w.heap.size + 1 + 1 + 1 + 1, 1, none⟩ = some (.int .u64 q.f) ∧ V.cell? ⟨w.heap.size + 1 + 1 + 1 + 1, 2, none⟩ = some (.int .u64 q.t))) (first | with_reducible exact HK0.out | with_reducible exact HK5.out _ _ _ _ _ | with_reducible exact HK8.out _ _ _ _ _ _ _ _) (fail)
        all_goals
          go_wp2_with fail
          refine bodyPost_ret (v := .tuple #[mV p (.slice oa s5.length ca) (.slice ob f5.length cb), .agg #[.bool q.e, .int .u64 q.f, .int .u64 q.t]]) (by simp [results, Tryd.results48, go_sem, mV, *]) rfl ?_
          have hn' : Ty w3 (w.heap.size + 1 + 1) 68 := HNr.out.ty
          have hq' : Ty w3 (w.heap.size + 1 + 1 + 1) 64 := HPr.out.ty
          have hrw' := HRr.out
          have hbw' := HBr.out
          clear HK0 HK5 HK8 m0 m1 m2 m3 m4 p0 p1 p2 n0 n1 n2 n3 n4 n0f n1f n2f n3f n4f q0 q1 q2 q0f q1f q2f
          exact end6 hn' hq' hrw' hbw' (by omega) (by omega) _ _ _ _ _ _ _ _ rfl
end Go.Proofs.YtaipaddfehpmgaaDoor
