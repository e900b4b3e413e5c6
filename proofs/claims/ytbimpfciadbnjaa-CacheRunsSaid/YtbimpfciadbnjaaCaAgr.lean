/-
  agrees: a cache has the keys, the programs and the counters of a state of the specification. Nothing is assumed.
-/
import Derived.Test.YtbimpfciadbnjaaCaRfE
import Derived.Test.YtbimpfciadbnjaaCaKeys
import Derived.Test.YtbimpfciadbnjaaCaLawM
import Derived.Lib.QuietBelow
import Derived.Deep.QuietTactic
namespace Go.Proofs.Ytbimpfciadbnjaa
open Go.RowKit
open Go.Sort (grow)

theorem CaS.sound {w : World} {F : Nat → Prop} {n cap z h m r : Nat} {q : List Ent} (H : CaS w F n cap z q h m r) : (q.map Prod.fst).Nodup ∧ q.length ≤ cap ∧ ∀ e ∈ q, e.1.size ≤ 60 ∧ e.2.size ≤ 20 := by
  obtain ⟨P, e0, mb, l, rfl, h2, h3, h4, h5, h6, HH, HC⟩ := H
  refine ⟨h2, h3, fun e he => ?_⟩
  obtain ⟨x, hx, rfl⟩ := List.mem_map.1 he
  exact HC.sm x hx

set_option maxRecDepth 100000 in
set_option maxHeartbeats 3200000 in
theorem agrees_any {w : World} {F : Nat → Prop} {n cap z h m r : Nat} {q : List Ent} (H : CaS w F n cap z q h m r) (hq : q.length ≤ 400) (xk xt : Value) (G : Nat → Prop) (hR : RefQ w G xk xt q) (hG : ∀ b, G b → b < w.heap.size) :
    Calls Try.prog 21 #[ptr n, stV cap h m r xk xt] w fun e w' => e = .returned (.bool true) ∧ Below w.heap.size w w' := by
  have HRQ := Lib.hid hR
  obtain ⟨ok, ck, ot, ct, rfl, rfl, _, _, _⟩ := hR.form
  obtain ⟨W, hW⟩ : ∃ W, W = w.alloc (.cells #[.int .i64 cap, .slice ok q.length ck, .slice ot q.length ct, .int .i64 h, .int .i64 m, .int .i64 r] 32) := ⟨_, rfl⟩
  have hbW : Below w.heap.size w W := by rw [hW]; exact below1 _ _
  have hzW : W.heap.size = w.heap.size + 1 := by rw [hW]; simp
  have HSB : Hid (StB W w.heap.size cap h m r (.slice ok q.length ck) (.slice ot q.length ct)) := Lib.hid (by rw [hW]; exact StB.new _ _ _ _ _ _ _)
  have HCW := Lib.hid (H.below hbW)
  have HRW := Lib.hid (hR.keep (w' := W) (G' := G) (fun b hb => hbW.block b (hG b hb)) fun _ h => h)
  have HGB := Lib.hid hG
  have HK := Lib.hid (keys_any HCW.out (by omega))
  have HSD := Lib.hid H.sound
  have HBW := Lib.hid hbW
  clear H hR hbW
  go_enter Try.func21, Try.ntmps21
  go_wp2_with fail
  rw [← hW]
  clear hW
  refine HK.out.mono ?_
  rintro e w2 ⟨⟨v, rfl, ho2⟩, hb2⟩
  obtain ⟨o2, c2, rfl⟩ := owns_form ho2
  have hln : (q.map Prod.fst).length = q.length := by simp
  rw [hln] at ho2 ⊢
  have HC2 := Lib.hid (HCW.out.below hb2)
  have HST := Lib.hid (stats_any HC2.out)
  have HO2 := Lib.hid ho2
  have HB2 := Lib.hid hb2
  clear ho2 hb2 HK hln
  go_wp2_with fail
  refine HST.out.mono ?_
  rintro e w3 ⟨rfl, hb3, hz3⟩
  have hs2 := HB2.out.size
  have HC3 := Lib.hid (HC2.out.below hb3)
  have HO3 := Lib.hid ((HO2.out.later hb3).holds)
  have HB3 := Lib.hid (HB2.out.trans (hb3.mono hs2))
  have hS3 := HSB.out.keep (HB3.out.block w.heap.size (by omega))
  have HS3 := Lib.hid hS3
  have HR3 := Lib.hid (HRW.out.keep (w' := w3) (G' := G) (fun b hb => HB3.out.block b (by have := HGB.out b hb; omega)) fun _ h => h)
  obtain ⟨s0, s1, s2, s3, s4, s5⟩ := hS3.cells
  clear hb3 hS3 HST
  go_wp2_with fail
  clear s0 s1 s2 s3 s4 s5
  go_loopw [9] (fun i wr => ∃ j : Nat, j ≤ q.length ∧ i = .int .i64 j ∧ Below w3.heap.size w3 wr) (fun i _ => q.length - (intOf i).toNat)
  case atStart => exact ⟨0, Nat.zero_le _, rfl, Below.refl _ _⟩
  case round =>
    obtain ⟨j, hj, rfl, hbr⟩ := hrel
    have HBR := Lib.hid hbr
    by_cases hlt : j < q.length
    · obtain ⟨bk, fk, rfl, hbk, k0⟩ := HO3.out.at_ (i := j) (z := q[j].1) (by rw [List.getElem?_map, List.getElem?_eq_getElem hlt]; rfl)
      obtain ⟨bs, fs, rfl, hbs, k1⟩ := HR3.out.1.at_ (i := j) (z := q[j].1) (by rw [List.getElem?_map, List.getElem?_eq_getElem hlt]; rfl)
      obtain ⟨_, _, _, h4⟩ := HR3.out.2.slice
      obtain ⟨bt, ft, oe, ce, rfl, hbt, e0, e1, hRe⟩ := h4 j q[j].2 (by rw [List.getElem?_map, List.getElem?_eq_getElem hlt]; rfl)
      obtain ⟨hnd, _, hsm⟩ := HSD.out
      have hfn : fnd q q[j].1 = some q[j].2 := fnd_of_mem hnd (List.getElem_mem hlt)
      obtain ⟨hs60, hs20⟩ := hsm q[j] (List.getElem_mem hlt)
      obtain ⟨t, ht⟩ : ∃ t, q[j].2 = t := ⟨_, rfl⟩
      obtain ⟨ky, hky⟩ : ∃ ky, q[j].1 = ky := ⟨_, rfl⟩
      rw [ht] at e0 e1 hRe hfn hs20
      rw [hky] at k0 k1 hfn hs60
      have hz3 : w.heap.size < w3.heap.size := by have := HB3.out.size; omega
      rw [← hbr.cell (p := ⟨bk, _, none⟩) hbk.2] at k0
      have k0H := Lib.hid k0
      have HP := Lib.hid (peek_any (HC3.out.below hbr) ky hs60)
      rw [hfn] at HP
      have q0 : (0 : Int) ≤ (j : Int) := by omega
      have q1 : (j : Int) < (q.length : Int) := by omega
      have HE := Lib.hid (And.intro k1 (And.intro e0 e1))
      have HRE := Lib.hid hRe
      have hbr' := hbr.size
      clear hnd hsm hfn ht hky h4 e0 e1 hRe k1 hbr
      go_wp2_with fail
      refine HP.out.mono ?_
      rintro e w4 ⟨⟨sl, rfl, hf4⟩, hb4⟩
      obtain ⟨o4, c4, rfl, _, _⟩ := hf4.form
      obtain ⟨w5, hw5⟩ : ∃ w5, w5 = w4.alloc (.cells #[.int .i64 t.r, .slice o4 t.l.length c4] 36) := ⟨_, rfl⟩
      have hb45 : Below w4.heap.size w4 w5 := by rw [hw5]; exact below1 _ _
      have hX5 : TmB w5 w4.heap.size t.r (.slice o4 t.l.length c4) := by rw [hw5]; exact heap_alloc_new _ _
      have hz5 : w5.heap.size = w4.heap.size + 1 := by rw [hw5]; simp
      have hb35 : Below w3.heap.size w3 w5 := HBR.out.trans ((hb4.mono hbr').trans (hb45.mono (Nat.le_trans hbr' hb4.size)))
      have hbr5 : Below wr.heap.size wr w5 := hb4.trans (hb45.mono hb4.size)
      have hS5 := HS3.out.keep (hb35.block w.heap.size hz3)
      obtain ⟨_, g1, g2, _⟩ := hS5.cells
      obtain ⟨x0, x1⟩ := hX5.cells
      have k0 := (hbr5.cell (p := ⟨bk, _, none⟩) (Nat.lt_of_lt_of_le hbk.2 hbr')).trans k0H.out
      obtain ⟨k1, e0, e1⟩ := HE.out
      have hGW3 : ∀ b, G b → b < w3.heap.size := fun b hb => by have := HGB.out b hb; omega
      rw [← hb35.cell (p := ⟨bs, _, none⟩) (hGW3 bs hbs)] at k1
      rw [← hb35.cell (p := ⟨bt, _, none⟩) (hGW3 bt hbt)] at e0 e1
      have hr1 : Rep w5 w5.heap.size (.slice o4 t.l.length c4) t.l := (((RP.fr hf4).keep (w' := w5) (P' := fun b => b < w5.heap.size) (fun b hb => hb45.block b hb.2) fun b hb => by have := hb.2; omega)).rep (fun _ h => h)
      have hr2 : Rep w5 w5.heap.size (.slice oe t.l.length ce) t.l := (HRE.out.keep (w' := w5) (P' := fun b => b < w5.heap.size) (fun b hb => hb35.block b (hGW3 b hb)) fun b hb => Nat.lt_of_lt_of_le (hGW3 b hb) hb35.size).rep (fun _ h => h)
      have p0 := fun d os => cell_regrown k0 d os
      have p1 := fun d os => cell_regrown k1 d os
      have p2 := fun d os => cell_regrown e0 d os
      have p3 := fun d os => cell_regrown e1 d os
      have p4 := fun d os => cell_regrown g1 d os
      have p5 := fun d os => cell_regrown g2 d os
      have p6 := fun d os => cell_regrown x0 d os
      have p7 := fun d os => cell_regrown x1 d os
      have re := fun d os => Calls.regrown_of (sameTerm_any t t (.slice o4 t.l.length c4) (.slice oe t.l.length ce) (grow (redrawn w5 d) os) w5.heap.size (hr1.later (below_regrown w5 d os)) (hr2.later (below_regrown w5 d os)) (below_regrown w5 d os).size (by omega) (by omega))
      rw [same_self] at re
      have hqq : (ky.toList == ky.toList) = true := by simp
      have HB35 := Lib.hid hb35
      have HJ := Lib.hid (show j + 1 ≤ q.length from hlt)
      clear hf4 hb4 hb45 hX5 hz5 hb35 hbr5 hS5 hr1 hr2 HP k0 k1 e0 e1 g1 g2 x0 x1 hs60 hs20 hbk hbs hbt hGW3
      go_wp2_with fail
      rw [← hw5]
      clear hw5
      refine wp_region_quiet_below (by kernel_rfl) (by kernel_rfl) ?_
      repeat (quiet_step (first | with_reducible exact re _ _))
      refine wpQuiet_nil ?_
      intro w' hw'
      obtain ⟨p, rfl⟩ := hw'
      have HB6 := Lib.hid (HB35.out.trans ((below_regrown w5 p.d p.os).mono HB35.out.size))
      generalize grow (redrawn w5 p.d) p.os = w6 at *
      clear p0 p1 p2 p3 p4 p5 p6 p7 re
      go_wp2_with fail
      go_roundw
      case rel => exact ⟨j + 1, HJ.out, by go_num, HB6.out⟩
      case measure => simp [intOf]; omega
    · go_wp2_with fail
      go_ret
      exact ⟨rfl, (HBW.out.trans (HB3.out.mono (by omega))).trans (HBR.out.mono (by have := HB3.out.size; omega))⟩

end Go.Proofs.Ytbimpfciadbnjaa
