/-
  without of the specification of the cache. Nothing is assumed.
-/
import Derived.Test.YtbimpfciadbnjaaCaRfA
import Derived.Deep.RegionHeldLaw
import Derived.BigRegion
import Derived.Deep.DeepCutAuto
namespace Go.Proofs.Ytbimpfciadbnjaa
open Go.RowKit

set_option maxRecDepth 100000 in
set_option maxHeartbeats 3200000 in
theorem without_any (cap h m r : Int) (xk xt : Value) (q : List Ent) (i : Nat) (w : World) (G : Nat → Prop) (hR : RefQ w G xk xt q) (hG : ∀ b, G b → b < w.heap.size) (hl : q.length ≤ 500) (hi : i < q.length) :
    Calls Try.prog 33 #[stV cap h m r xk xt, .int .i64 i] w fun e w' => RetS w w' G cap h m r (q.take i ++ q.drop (i + 1)) e ∧ Below w.heap.size w w' := by
  have HRQ := Lib.hid hR
  obtain ⟨ok, ck, ot, ct, rfl, rfl, hlk, hlt, _⟩ := hR.form
  obtain ⟨bk, fk, rfl, hbk, _⟩ := hR.1.at_ (i := 0) (z := q[0].1) (by rw [List.getElem?_map, List.getElem?_eq_getElem (Nat.zero_lt_of_lt hi)]; rfl)
  obtain ⟨_, _, _, ht4⟩ := hR.2.slice
  obtain ⟨bt, ft, _, _, rfl, hbt, _⟩ := ht4 0 q[0].2 (by simp [List.getElem?_eq_getElem (Nat.zero_lt_of_lt hi)])
  obtain ⟨W, hW⟩ : ∃ W, W = (w.alloc (.cells #[.int .i64 cap, .slice (some ⟨bk, fk, none⟩) q.length ck, .slice (some ⟨bt, ft, none⟩) q.length ct, .int .i64 h, .int .i64 m, .int .i64 r] 32)).alloc (.cells #[.int .i64 0, .slice none 0 0, .slice none 0 0, .int .i64 0, .int .i64 0, .int .i64 0] 32) := ⟨_, rfl⟩
  have hbW : Below w.heap.size w W := by rw [hW]; exact below2 _ _ _
  have hzW : W.heap.size = w.heap.size + 2 := by rw [hW]; simp
  have hS : StB W w.heap.size cap h m r (.slice (some ⟨bk, fk, none⟩) q.length ck) (.slice (some ⟨bt, ft, none⟩) q.length ct) := by
    rw [hW]
    exact (StB.new w cap h m r _ _).keep (Below.heap_alloc _ _ _ (by simp))
  have hZ : StB W (w.heap.size + 1) 0 0 0 0 (.slice none 0 0) (.slice none 0 0) := by
    rw [hW]
    have h := zst (w.alloc (.cells #[.int .i64 cap, .slice (some ⟨bk, fk, none⟩) q.length ck, .slice (some ⟨bt, ft, none⟩) q.length ct, .int .i64 h, .int .i64 m, .int .i64 r] 32))
    rw [World.size_alloc] at h
    exact h
  have hRW := hR.keep (w' := W) (G' := G) (fun b hb => hbW.block b (hG b hb)) fun _ h => h
  have HBW := Lib.hid hbW
  have HGW := Lib.hid (fun b (hb : G b) => Nat.lt_of_lt_of_le (hG b hb) hbW.size)
  have HRW := Lib.hid hRW
  have HGB := Lib.hid hG
  have HS := Lib.hid hS
  have HZ := Lib.hid hZ
  have q0 : (0 : Int) ≤ (i : Int) := by omega
  have q1 : (i : Int) ≤ (q.length : Int) := by omega
  have q2 : (i : Int) ≤ (ck : Int) := by omega
  have q3 : (i : Int) ≤ (ct : Int) := by omega
  have q4 : (q.length : Int) ≤ (ck : Int) := by omega
  have q5 : (q.length : Int) ≤ (ct : Int) := by omega
  have hwr : IntKind.i64.wrap ((i : Int) + 1) = (((i + 1 : Nat)) : Int) := by rw [IntWalk.i64_in _ (by omega)]; rfl
  obtain ⟨c1, hc1⟩ : ∃ c1, i + 1 = c1 := ⟨_, rfl⟩
  rw [hc1] at hwr
  have q6 : (0 : Int) ≤ (c1 : Int) := by omega
  have q7 : (c1 : Int) ≤ (q.length : Int) := by omega
  have q8 : (c1 : Int) ≤ (ck : Int) := by omega
  have q9 : (c1 : Int) ≤ (ct : Int) := by omega
  obtain ⟨d0, d1, d2, _⟩ := hS.cells
  have d1f := hS.frozen 1
  have kk : ∀ (X : Obj), (W.alloc X).cell? ⟨w.heap.size, 1, none⟩ = some (.slice (some ⟨bk, fk, none⟩) q.length ck) := fun X => ((below1 W X).cell (p := ⟨w.heap.size, 1, none⟩) (by show w.heap.size < W.heap.size; omega)).trans d1
  obtain ⟨KI, hKI⟩ : ∃ KI, (q.map Prod.fst).take i = KI := ⟨_, rfl⟩
  obtain ⟨KD, hKD⟩ : ∃ KD, (q.map Prod.fst).drop c1 = KD := ⟨_, rfl⟩
  have HLI : Hid (KI.length = i) := Lib.hid (by rw [← hKI]; simp; omega)
  have HLD : Hid (KD.length = q.length - c1) := Lib.hid (by rw [← hKD]; simp)
  have hI : HoldsS W G (.slice (some ⟨bk, fk, none⟩) i ck) KI := hKI ▸ hRW.1.take (show i ≤ q.length by omega)
  have HSI : Hid (∀ w', Below W.heap.size W w' → ∀ (j : Nat) z, KI[j]? = some z → ∃ ad, some (⟨bk, fk, none⟩ : Addr) = some ad ∧ w'.cell? (ad.add j) = some (.string z)) := Lib.hid (fun w' hb => (hI.keep (w' := w') (Q := G) (fun _ h _ => h) (fun b o hb' _ => hb.cell (p := ⟨b, o, none⟩) (HGW.out b hb'))).src)
  have HTB : ∃ oB nB cB, HoldsS W G (.slice oB nB cB) KD ∧ ((ck = c1 ∧ oB = some ⟨bk, fk, none⟩ ∧ nB = 0 ∧ cB = 0) ∨ (ck ≠ c1 ∧ oB = some ⟨bk, fk + c1, none⟩ ∧ nB = q.length - c1 ∧ cB = ck - c1)) := by
    by_cases hca : ck = c1
    · exact ⟨_, _, _, by rw [← hKD, List.drop_of_length_le (by simp; omega)]; exact HoldsS.empty _ _ (some ⟨bk, fk, none⟩), .inl ⟨hca, rfl, rfl, rfl⟩⟩
    · exact ⟨_, _, _, hKD ▸ hRW.1.drop (by omega), .inr ⟨hca, rfl, rfl, rfl⟩⟩
  obtain ⟨oB, nB, cB, hD, hcase⟩ := HTB
  have HNB : Hid (KD.length = nB) := Lib.hid hD.len.1
  have HSD : Hid (∀ w', Below W.heap.size W w' → ∀ (j : Nat) z, KD[j]? = some z → ∃ ad, oB = some ad ∧ w'.cell? (ad.add j) = some (.string z)) := Lib.hid (fun w' hb => (hD.keep (w' := w') (Q := G) (fun _ h _ => h) (fun b o hb' _ => hb.cell (p := ⟨b, o, none⟩) (HGW.out b hb'))).src)
  have HO1 : Hid (OwnS (W.alloc (.cells #[] 9)) W.heap.size (.slice (some ⟨W.heap.size, 0, none⟩) 0 0) []) := Lib.hid (own_empty W)
  rw [hzW] at HO1
  have HQ : Hid (KI ++ KD = (q.take i ++ q.drop (i + 1)).map Prod.fst) := Lib.hid (by rw [← hKI, ← hKD, ← hc1]; simp [List.map_take, List.map_drop])
  clear hR hbW hS hZ hRW hI hD hKI hKD
  go_enter Try.func33, Try.ntmps33
  go_upto_region 1 with fail
  rw [← hW]
  clear hW
  go_cut [] (fun wx => ∃ o3 cc3 w3, wx = w3.setCell ⟨w.heap.size, 1, none⟩ (.slice o3 (KI.length + KD.length) cc3) ∧ Hid (OwnS w3 (w.heap.size + 2) (.slice o3 (KI.length + KD.length) cc3) (KI ++ KD)) ∧ Hid (Below (w.heap.size + 2) W w3))
  case first =>
    rcases hcase with ⟨hca, rfl, rfl, rfl⟩ | ⟨hca, rfl, rfl, rfl⟩
    all_goals
      (try subst hca)
      go_region_law (first
      | (refine step_src (by rfl) _ _ (by rfl) (w.heap.size + 2) _ [] (by rfl) HO1.out _ i _ (by rfl) KI HLI.out (HSI.out _ (below1 W _).drew) (by simp; omega) (by simp [World.drew]; omega) ?_
         intro v2 w2 h2 hg2 _
         have hb2 : Below (w.heap.size + 2) W w2 := ((below1 W (.cells #[] 9)).drew.mono (by omega)).grown hg2 (by simp [World.drew]; omega) (fun p hp => (own_lt HO1.out p hp).1)
         have H2 := Lib.hid h2
         have HB2 := Lib.hid hb2
         obtain ⟨o2, cc2, rfl⟩ : ∃ o2 cc2, v2 = .slice o2 ([] ++ KI).length cc2 := owns_form h2
         have hz2 : w.heap.size + 2 ≤ w2.heap.size := by have := HB2.out.size; omega
         have k2 : w2.cell? ⟨w.heap.size, 1, none⟩ = some (.slice (some ⟨bk, fk, none⟩) q.length _) := (hb2.cell (p := ⟨w.heap.size, 1, none⟩) (by show w.heap.size < w.heap.size + 2; omega)).trans d1
         clear h2 hg2 hb2)
      | (refine step_src (by rfl) _ _ (by rfl) (w.heap.size + 2) _ ([] ++ KI) (by rfl) H2.out _ _ _ (by rfl) KD HNB.out (HSD.out _ (HB2.out.mono (by omega))) (by have := HLI.out; simp; omega) hz2 ?_
         intro v3 w3 h3 hg3 _
         have hb3 := HB2.out.grown hg3 hz2 (fun p hp => (own_lt H2.out p hp).1)
         have H3 := Lib.hid h3
         have HB3 := Lib.hid hb3
         obtain ⟨o3, cc3, rfl⟩ : ∃ o3 cc3, v3 = .slice o3 ([] ++ KI ++ KD).length cc3 := owns_form h3
         have k3 : w3.cell? ⟨w.heap.size, 1, none⟩ = some (.slice (some ⟨bk, fk, none⟩) q.length _) := (hb3.cell (p := ⟨w.heap.size, 1, none⟩) (by show w.heap.size < w.heap.size + 2; omega)).trans d1
         have k3f : w3.frozen? ⟨w.heap.size, 1, none⟩ = false := (hb3.frozen (p := ⟨w.heap.size, 1, none⟩) (by show w.heap.size < w.heap.size + 2; omega)).trans d1f
         clear h3 hg3 hb3))
      all_goals
        go_wp2_with fail
        go_meet
        exact ⟨o3, cc3, w3, rfl, by have := H3; simpa using this, HB3⟩
  case rest =>
    obtain ⟨o3, cc3, w3, hwc, HO3, HB3⟩ := hcut
    obtain ⟨wb, hwb⟩ : ∃ wb, wb = wc := ⟨wc, rfl⟩
    subst hwb
    have hzc : wb.heap.size = w3.heap.size := by rw [hwc]; exact World.size_setCell _ _ _
    have hz3 := HB3.out.size
    have hSc : StB wb w.heap.size cap h m r (.slice o3 (KI.length + KD.length) cc3) (.slice (some ⟨bt, ft, none⟩) q.length ct) := by
      rw [hwc]
      exact (HS.out.keep (HB3.out.block w.heap.size (by omega))).set1 _
    have hkc : ∀ b, b ≠ w.heap.size → wb.heap[b]? = w3.heap[b]? := fun b hb => by rw [hwc]; exact heap_setCell_other _ _ _ _ hb
    have hZc := HZ.out.keep ((hkc (w.heap.size + 1) (by omega)).trans (HB3.out.block (w.heap.size + 1) (by omega)))
    have hGc : ∀ b, G b → wb.heap[b]? = W.heap[b]? := fun b hb => by
      have := HGB.out b hb
      exact (hkc b (by omega)).trans (HB3.out.block b (by omega))
    have hbc : Below w.heap.size W wb := by rw [hwc]; exact (HB3.out.mono (show w.heap.size ≤ w.heap.size + 2 by omega)).setCell (p := ⟨w.heap.size, 1, none⟩) (Nat.le_refl _) _
    have hRc := HRW.out.2.keep (w' := wb) (P' := G) hGc fun _ h => h
    have HGC := Lib.hid (fun b (hb : G b) => Nat.lt_of_lt_of_le (HGB.out b hb) (show w.heap.size ≤ wb.heap.size by omega))
    obtain ⟨xI, hIl, hIx, hIc, hIo⟩ := (hRc.take (show i ≤ q.length by omega)).src
    have HTB : ∃ oB nB cB, RP wb G (.slice oB nB cB) ((q.map Prod.snd).drop c1) ∧ ((ct = c1 ∧ oB = some ⟨bt, ft, none⟩ ∧ nB = 0 ∧ cB = 0) ∨ (ct ≠ c1 ∧ oB = some ⟨bt, ft + c1 * 2, none⟩ ∧ nB = q.length - c1 ∧ cB = ct - c1)) := by
      by_cases hca : ct = c1
      · exact ⟨_, _, _, by rw [List.drop_of_length_le (by simp; omega)]; exact .empty _ _, .inl ⟨hca, rfl, rfl, rfl⟩⟩
      · exact ⟨_, _, _, hRc.drop (by omega) hlt, .inr ⟨hca, rfl, rfl, rfl⟩⟩
    obtain ⟨oC, nC, cC, hD, hcase2⟩ := HTB
    obtain ⟨xD, hDl, hDx, hDc, hDo⟩ := hD.src
    have HIL := Lib.hid hIl
    have HDL := Lib.hid hDl
    have HX := Lib.hid (hIx.app hDx)
    have HIC : Hid (∀ w', Below wb.heap.size wb w' → ∀ (j : Nat) u, (flatT xI)[j]? = some u → ∃ ad, some (⟨bt, ft, none⟩ : Addr) = some ad ∧ w'.cell? (ad.add j) = some u) := Lib.hid (fun w' hb j u hj => by
      obtain ⟨ad, e, hc⟩ := hIc j u hj
      exact ⟨ad, e, (hb.cell (World.block_lt_of_cell? wb (ad.add j) hc)).trans hc⟩)
    have HDC : Hid (∀ w', Below wb.heap.size wb w' → ∀ (j : Nat) u, (flatT xD)[j]? = some u → ∃ ad, oC = some ad ∧ w'.cell? (ad.add j) = some u) := Lib.hid (fun w' hb j u hj => by
      obtain ⟨ad, e, hc⟩ := hDc j u hj
      exact ⟨ad, e, (hb.cell (World.block_lt_of_cell? wb (ad.add j) hc)).trans hc⟩)
    have HDlen : Hid (xI.length ≤ 500 ∧ xD.length ≤ 500) := Lib.hid ⟨by omega, by
      rw [hDl]
      rcases hcase2 with ⟨_, _, e, _⟩ | ⟨_, _, e, _⟩ <;> omega⟩
    have HO4 : Hid ((wb.alloc (.cells #[] 36)).ownsRow wb.heap.size 36 2 (.slice (some ⟨wb.heap.size, 0, none⟩) 0 0) ([] : List (Int × Value)).length (flatT [])) :=
      Lib.hid ⟨rfl, .inr ⟨wb.heap.size, 0, #[], rfl, Nat.le_refl _, heap_alloc_new _ _, Nat.le_refl _, by unfold maxLen; omega, rfl, rfl⟩⟩
    have HIO := Lib.hid hIo
    have HDO := Lib.hid hDo
    obtain ⟨_, _, e2, _⟩ := hSc.cells
    have e2f := hSc.frozen 2
    have hlts : w.heap.size < wb.heap.size := by omega
    have hlts1 : w.heap.size + 1 < wb.heap.size := by omega
    have ee : ∀ (X : Obj), (wb.alloc X).cell? ⟨w.heap.size, 2, none⟩ = some (.slice (some ⟨bt, ft, none⟩) q.length ct) := fun X => ((below1 wb X).cell (p := ⟨w.heap.size, 2, none⟩) hlts).trans e2
    have HSC := Lib.hid hSc
    have HZC := Lib.hid hZc
    have HKC := Lib.hid hkc
    have HBC := Lib.hid hbc
    have HZB := Lib.hid hzc
    clear hzc hwc hSc hZc hkc hbc hRc hIl hIx hIc hIo hD hDl hDx hDc hDo d0 d1 d2 d1f kk hGc hcase HSI HSD HO1 HLI HLD HNB
    go_upto_region 2 with fail
    go_cut [] (fun wx => ∃ o5 cc5 w5, wx = w5.setCell ⟨w.heap.size, 2, none⟩ (.slice o5 (xI.length + xD.length) cc5) ∧ Hid (w5.ownsRow wb.heap.size 36 2 (.slice o5 (xI.length + xD.length) cc5) (xI ++ xD).length (flatT (xI ++ xD))) ∧ Hid (Below wb.heap.size wb w5))
    case first =>
      rcases hcase2 with ⟨hca, rfl, rfl, rfl⟩ | ⟨hca, rfl, rfl, rfl⟩
      all_goals
        (try subst hca)
        go_region_law (first
        | (refine step_tms (by rfl) _ _ (by rfl) wb.heap.size _ [] xI (by rfl) HO4.out _ i _ (by rfl) HIL.out (HIC.out _ (below1 wb _).drew) HIO.out (by have := HDlen.out; simp; omega) (by simp [World.drew]) ?_
           intro v4 w4 h4 hg4
           have hb4 : Below wb.heap.size wb w4 := ((below1 wb (.cells #[] 36)).drew).grown hg4 (by simp [World.drew]) (fun p hp => (own_lt HO4.out p hp).1)
           have H4 := Lib.hid h4
           have HB4 := Lib.hid hb4
           obtain ⟨o4, cc4, rfl⟩ : ∃ o4 cc4, v4 = .slice o4 ([] ++ xI).length cc4 := owns_form h4
           have hz4 : wb.heap.size ≤ w4.heap.size := HB4.out.size
           have k4 : w4.cell? ⟨w.heap.size, 2, none⟩ = some (.slice (some ⟨bt, ft, none⟩) q.length _) := (hb4.cell (p := ⟨w.heap.size, 2, none⟩) hlts).trans e2
           clear h4 hg4 hb4)
        | (refine step_tms (by rfl) _ _ (by rfl) wb.heap.size _ ([] ++ xI) xD (by rfl) H4.out _ _ _ (by rfl) HDL.out (HDC.out _ HB4.out) HDO.out (by have := HDlen.out; have := HDL.out; simp; omega) hz4 ?_
           intro v5 w5 h5 hg5
           have hb5 := HB4.out.grown hg5 hz4 (fun p hp => (own_lt H4.out p hp).1)
           have H5 := Lib.hid h5
           have HB5 := Lib.hid hb5
           obtain ⟨o5, cc5, rfl⟩ : ∃ o5 cc5, v5 = .slice o5 ([] ++ xI ++ xD).length cc5 := owns_form h5
           have k5 : w5.cell? ⟨w.heap.size, 2, none⟩ = some (.slice (some ⟨bt, ft, none⟩) q.length _) := (hb5.cell (p := ⟨w.heap.size, 2, none⟩) hlts).trans e2
           have k5f : w5.frozen? ⟨w.heap.size, 2, none⟩ = false := (hb5.frozen (p := ⟨w.heap.size, 2, none⟩) hlts).trans e2f
           clear h5 hg5 hb5))
        all_goals
          go_wp2_with fail
          go_meet
          exact ⟨o5, cc5, w5, rfl, by have := H5; simpa using this, HB5⟩
    case rest =>
      obtain ⟨o5, cc5, w5, hwd, HO5, HB5⟩ := hcut
      have HS5 := Lib.hid (HSC.out.keep (HB5.out.block w.heap.size (by omega)))
      have HZ5 := Lib.hid (HZC.out.keep (HB5.out.block (w.heap.size + 1) hlts1))
      have HS6 := Lib.hid (HS5.out.set2 (.slice o5 (xI.length + xD.length) cc5))
      have HZ6 := Lib.hid (HZ5.out.keep (w' := w5.setCell ⟨w.heap.size, 2, none⟩ (.slice o5 (xI.length + xD.length) cc5)) (heap_setCell_other _ _ _ _ (by show w.heap.size + 1 ≠ w.heap.size; omega)))
      rw [← hwd] at HS6 HZ6
      have hkd : ∀ b, b ≠ w.heap.size → wc.heap[b]? = w5.heap[b]? := fun b hb => by rw [hwd]; exact heap_setCell_other _ _ _ _ hb
      have hzd : wc.heap.size = w5.heap.size := by rw [hwd]; exact World.size_setCell _ _ _
      have HBD : Hid (Below w.heap.size wb wc) := Lib.hid (by rw [hwd]; exact (HB5.out.mono (show w.heap.size ≤ wb.heap.size by omega)).setCell (p := ⟨w.heap.size, 2, none⟩) (Nat.le_refl _) _)
      have HZD := Lib.hid hzd
      have HKD := Lib.hid hkd
      obtain ⟨g0, g1, g2, g3, g4, g5⟩ := HS6.out.cells
      obtain ⟨z0, z1, z2, z3, z4, z5⟩ := HZ6.out.cells
      have zf := HZ6.out.frozen
      have e7 := HQ.out
      have HE7 := Lib.hid (congrArg List.length e7)
      clear hwd hzd hkd e2 e2f ee e7 q0 q1 q2 q3 q4 q5 q6 q7 q8 q9 hwr
      go_wp2_with fail
      obtain ⟨w7, hw7, hs7, hz7, hk7, hb7⟩ := StB.six (w := wc) (b := w.heap.size + 1) HZ6.out cap h m r (.slice o3 (KI.length + KD.length) cc3) (.slice o5 (xI.length + xD.length) cc5)
      rw [← hw7]
      obtain ⟨r0, r1, r2, r3, r4, r5⟩ := hs7.cells
      have HB7 := Lib.hid (hb7 w.heap.size (by omega))
      have HK7 := Lib.hid hk7
      have HZ7 := Lib.hid hz7
      clear hw7 hs7 hk7 hb7 hz7 g0 g1 g2 g3 g4 g5 z0 z1 z2 z3 z4 z5 zf
      refine bodyPost_ret (v := stV cap h m r (.slice o3 (KI.length + KD.length) cc3) (.slice o5 (xI.length + xD.length) cc5)) (by simp [results, Try.results33, go_sem, *]) rfl ?_
      have hz7 := HZ7.out
      have hzd := HZD.out
      have hzb := HZB.out
      have hz5 := HB5.out.size
      refine ⟨⟨_, _, rfl, ?_, ?_⟩, ((HBW.out.trans HBC.out).trans HBD.out).trans HB7.out⟩
      · rw [← HQ.out]
        refine HO3.out.holds.keep (fun b hb _ => .inr ⟨by have := hb.1; omega, by have := hb.2; omega⟩) fun b o hb _ => World.cell?_of_block (w := w3) (a := ⟨b, o, none⟩) ?_
        have h1 := hb.1
        have h2 := hb.2
        exact (HK7.out b (by omega)).trans ((HKD.out b (by omega)).trans ((HB5.out.block b (by omega)).trans (HKC.out b (by omega))))
      · have hX5 : TmX w5 (fun b => G b ∨ wb.heap.size ≤ b ∧ b < w5.heap.size) (xI ++ xD) ((q.take i ++ q.drop (i + 1)).map Prod.snd) := by
          have h := HX.out.keep (w' := w5) (P' := fun b => G b ∨ wb.heap.size ≤ b ∧ b < w5.heap.size) (fun b hb => HB5.out.block b (HGC.out b hb)) fun b hb => .inl hb
          rw [← hc1] at h
          simpa [List.map_take, List.map_drop] using h
        have hl5 : (xI ++ xD).length = xI.length + xD.length := by simp
        refine (own_rp (P := fun b => G b ∨ wb.heap.size ≤ b ∧ b < w5.heap.size) (hl5 ▸ HO5.out) hX5 (fun g h1 h2 => .inr ⟨h1, h2⟩) (by have := HDlen.out; omega)).keep (fun b hb => (HK7.out b ?_).trans (HKD.out b ?_)) fun b hb => hb.elim .inl fun h => .inr ⟨by omega, by omega⟩
        · rcases hb with hb | hb
          · have := HGB.out b hb; omega
          · omega
        · rcases hb with hb | hb
          · have := HGB.out b hb; omega
          · omega

end Go.Proofs.Ytbimpfciadbnjaa
