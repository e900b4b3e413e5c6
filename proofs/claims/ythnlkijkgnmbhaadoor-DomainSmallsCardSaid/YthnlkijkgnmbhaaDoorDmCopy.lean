/-
  clone of package domain. Nothing is assumed.
-/
import Derived.Test.YthnlkijkgnmbhaaDoorDmClone
import Derived.Test.YthnlkijkgnmbhaaDoorLaw0B
import Derived.BigRegion
namespace Go.Proofs.YthnlkijkgnmbhaaDoor
open Go.RowKit

/-- The blocks from lo on but one. -/
def But (lo g hi : Nat) (b : Nat) : Prop := lo ≤ b ∧ b ≠ g ∧ b < hi

/-- What a round of clone has made. -/
def CpInv (w : World) (B : Nat) (wr : World) (n g : Nat) (l : List V) (k : Nat) : Prop :=
  ∃ f : Nat → Option (V × Value), RowV wr g l.length f ∧ (∀ i v, l[i]? = some v → i < k → ∃ s, f i = some (v, s) ∧ RepS wr (But (n + 2) g wr.heap.size) s v.l) ∧
    (∀ i v, l[i]? = some v → k ≤ i → ∃ s, f i = some (v, s) ∧ Rep w B s v.l)

theorem below_drewN (w : World) (B n : Nat) : Below B w (w.drewN n) := ⟨rfl, rfl, rfl, Nat.le_refl _, fun _ _ => rfl⟩
theorem frozen_new (w : World) (cs : Array Value) (t o : Nat) : (w.alloc (.cells cs t)).frozen? ⟨w.heap.size, o, none⟩ = false := by
  unfold World.frozen?
  rw [heap_alloc_new w (.cells cs t)]
  simp

set_option maxRecDepth 100000 in
set_option maxHeartbeats 1600000 in
theorem clone_any (v : V) : v.fits = true → ∀ (sl : Value) (w : World) (B : Nat), Rep w B sl v.l → B ≤ w.heap.size →
    Calls Tryd.prog 33 #[.agg #[.int .i64 v.t, .int .i64 v.n, .string v.s, sl]] w fun e w' =>
      (∃ sl', e = .returned (.agg #[.int .i64 v.t, .int .i64 v.n, .string v.s, sl']) ∧ RepS w' (fun b => w.heap.size ≤ b ∧ b < w'.heap.size) sl' v.l) ∧ Below w.heap.size w w' := by
  induction v using V.ind with
  | h v ih =>
  intro hfit sl w B hrep hB
  obtain ⟨hl1, hfm⟩ := V.fits_at hfit
  have HFM := Lib.hid hfm
  have HREP := Lib.hid hrep
  obtain ⟨oa, cap, rfl, _, hm, _⟩ := hrep.slice
  clear hrep hfm hfit
  have HIH := Lib.hid ih
  clear ih
  obtain ⟨l, hl⟩ : ∃ l, v.l = l := ⟨_, rfl⟩
  have HBW0 := Lib.hid (below2 w (.cells #[.int .i64 v.t, .int .i64 v.n, .string v.s, .slice oa l.length cap] 48) (.cells #[.int .i64 0, .int .i64 0, .string ⟨#[]⟩, .slice none 0 0] 48))
  have HBX := Lib.hid ((Box.new (w := w) v (.slice oa l.length cap) 48 rfl).later (below1 _ (.cells #[.int .i64 0, .int .i64 0, .string ⟨#[]⟩, .slice none 0 0] 48)) (by simp))
  have HBR := Lib.hid (Box.new (w := w.alloc (.cells #[.int .i64 v.t, .int .i64 v.n, .string v.s, .slice oa l.length cap] 48)) (.mk 0 0 ⟨#[]⟩ []) (.slice none 0 0) 48 rfl)
  rw [hl] at HREP HIH HFM hl1 hm ⊢
  have hs2 : ((w.alloc (.cells #[.int .i64 v.t, .int .i64 v.n, .string v.s, .slice oa l.length cap] 48)).alloc (.cells #[.int .i64 0, .int .i64 0, .string ⟨#[]⟩, .slice none 0 0] 48)).heap.size = w.heap.size + 2 := by simp
  have HC := Lib.hid (sclone_any l _ _ B (HREP.out.later (HBW0.out.mono hB)) hl1)
  have HS2 := Lib.hid hs2
  have HFZ := Lib.hid ((below1 (w.alloc (.cells #[.int .i64 v.t, .int .i64 v.n, .string v.s, .slice oa l.length cap] 48)) (.cells #[.int .i64 0, .int .i64 0, .string ⟨#[]⟩, .slice none 0 0] 48)).frozen (p := ⟨w.heap.size, 3, none⟩) (by simp) |>.trans (frozen_new w _ _ 3))
  have HFR := Lib.hid (fun o : Nat => frozen_new (w.alloc (.cells #[.int .i64 v.t, .int .i64 v.n, .string v.s, .slice oa l.length cap] 48)) #[.int .i64 0, .int .i64 0, .string ⟨#[]⟩, .slice none 0 0] 48 o)
  have HHL := Lib.hid hl
  clear hl hs2
  go_enter Tryd.func33, Tryd.ntmps33
  go_wp2_with fail
  refine HC.out.mono ?_
  rintro e w1 ⟨⟨oa2, c2, rfl, hlc2, hrow⟩, hb1⟩
  rw [HS2.out] at hb1
  obtain ⟨x0, x1, x2, x3⟩ := HBX.out.later hb1 (by omega)
  have z3 := (hb1.frozen (p := ⟨w.heap.size, 3, none⟩) (by simp)).trans HFZ.out
  have HR := Lib.hid hrow
  have HB1 := Lib.hid hb1
  have hs1 := hb1.size
  clear hrow hb1 hl1
  go_wp2_with fail
  obtain ⟨W, hW⟩ : ∃ W, W = w1.setCell ⟨w.heap.size, 3, none⟩ (.slice oa2 l.length c2) := ⟨_, rfl⟩
  rw [← hW]
  have HWS : W.heap.size = w1.heap.size := by rw [hW]; simp
  have HBX1 : Box W w.heap.size v (.slice oa2 l.length c2) := by
    rw [hW]
    refine ⟨(World.cell?_setCell_other _ _ _ _ (by simp)).trans x0, (World.cell?_setCell_other _ _ _ _ (by simp)).trans x1, (World.cell?_setCell_other _ _ _ _ (by simp)).trans x2, World.cell?_setCell_same' _ _ _ (by rw [x3]; rfl)⟩
  have HBR1 : Box W (w.heap.size + 1) (.mk 0 0 ⟨#[]⟩ []) (.slice none 0 0) := by
    have h := HBR.out
    rw [World.size_alloc] at h
    have h2 := h.later HB1.out (by omega)
    rw [hW]
    obtain ⟨r0, r1, r2, r3⟩ := h2
    exact ⟨(World.cell?_setCell_other _ _ _ _ (by simp)).trans r0, (World.cell?_setCell_other _ _ _ _ (by simp)).trans r1, (World.cell?_setCell_other _ _ _ _ (by simp)).trans r2, (World.cell?_setCell_other _ _ _ _ (by simp)).trans r3⟩
  have HFR1 : ∀ o : Nat, W.frozen? ⟨w.heap.size + 1, o, none⟩ = false := fun o => by
    have h := HFR.out o
    rw [World.size_alloc] at h
    rw [hW, World.frozen?_setCell]
    exact (HB1.out.frozen (p := ⟨w.heap.size + 1, o, none⟩) (by simp)).trans h
  have HBR1 := Lib.hid HBR1
  have HFR1 := Lib.hid HFR1
  have HBW := Lib.hid (show Below w.heap.size w W from by rw [hW]; exact (HBW0.out.trans (HB1.out.mono (by omega))).setCell (p := ⟨w.heap.size, 3, none⟩) (Nat.le_refl _) _)
  have HWK := Lib.hid (show ∀ b, b ≠ w.heap.size → W.heap[b]? = w1.heap[b]? from fun b hb => by rw [hW]; exact heap_setCell_other _ _ _ _ hb)
  have HBB := Lib.hid (show Below B ((w.alloc (.cells #[.int .i64 v.t, .int .i64 v.n, .string v.s, .slice oa l.length cap] 48)).alloc (.cells #[.int .i64 0, .int .i64 0, .string ⟨#[]⟩, .slice none 0 0] 48)) W from by rw [hW]; exact (HB1.out.mono (by omega)).setCell (p := ⟨w.heap.size, 3, none⟩) hB _)
  have HBX1 := Lib.hid HBX1
  clear x0 x1 x2 x3 z3 hW
  go_loopw [12] (fun i wr => ∃ k : Nat, k ≤ l.length ∧ i = .int .i64 k ∧ Hid (l = [] ∨ ∃ g, oa2 = some ⟨g, 0, none⟩ ∧ w.heap.size + 2 ≤ g ∧ CpInv ((w.alloc (.cells #[.int .i64 v.t, .int .i64 v.n, .string v.s, .slice oa l.length cap] 48)).alloc (.cells #[.int .i64 0, .int .i64 0, .string ⟨#[]⟩, .slice none 0 0] 48)) B wr w.heap.size g l k) ∧ Below (w.heap.size + 2) W wr) (fun i _ => l.length - (intOf i).toNat)
  case atStart =>
    refine ⟨0, Nat.zero_le _, rfl, Lib.hid ?_, Below.refl _ _⟩
    rcases HR.out with h | ⟨g, sl, rfl, hg, hrow, hrp⟩
    · exact .inl h
    · rw [HS2.out] at hg
      refine .inr ⟨g, rfl, hg, _, hrow.keep (HWK.out g (by omega)), fun i v _ h => absurd h (Nat.not_lt_zero _), fun i v hv _ => ⟨sl i, by simp only [hv]; rfl, ?_⟩⟩
      exact hrp i v hv
  case round =>
    obtain ⟨k, hk, rfl, HD, hbel⟩ := hrel
    have hrs := hbel.size
    have HBR2 := Lib.hid (HBW.out.trans (hbel.mono (by omega)))
    by_cases hlt : k < l.length
    · obtain ⟨g, hg2, hcp⟩ : ∃ g, oa2 = some ⟨g, 0, none⟩ ∧ w.heap.size + 2 ≤ g ∧ CpInv ((w.alloc (.cells #[.int .i64 v.t, .int .i64 v.n, .string v.s, .slice oa l.length cap] 48)).alloc (.cells #[.int .i64 0, .int .i64 0, .string ⟨#[]⟩, .slice none 0 0] 48)) B wr w.heap.size g l k := by
        rcases HD.out with h | h
        · rw [h] at hlt; simp at hlt
        · exact h
      obtain ⟨rfl, hg, f, hrow, hdone, htodo⟩ := And.intro hg2 hcp
      obtain ⟨s, hfk, hrk⟩ := htodo k _ (List.getElem?_eq_getElem hlt) (Nat.le_refl _)
      obtain ⟨oe, ce, rfl, _⟩ := hrk.slice
      obtain ⟨c0, c1, c2', c3⟩ := hrow.cells hlt hfk
      have hgl := hrow.lt
      have HROW := Lib.hid hrow
      have HDONE := Lib.hid hdone
      have HTODO := Lib.hid htodo
      have HFK := Lib.hid hfk
      obtain ⟨u, huk⟩ : ∃ u, l[k] = u := ⟨_, rfl⟩
      have HUK := Lib.hid (show l[k]? = some u by rw [← huk]; exact List.getElem?_eq_getElem hlt)
      rw [huk] at c0 c1 c2' c3 hrk
      have HRK := Lib.hid hrk
      have hki : (k : Int) < (l.length : Int) := by omega
      have hki0 : (0 : Int) ≤ (k : Int) := by omega
      obtain ⟨x0, x1, x2, x3⟩ := HBX1.out.later hbel (by omega)
      have HUP := Lib.hid (show ∀ w', Below (wr.heap.size + 1) (wr.alloc (.cells #[.int .i64 u.t, .int .i64 u.n, .string u.s, .slice oe u.l.length ce] 48)) w' → w'.cell? ⟨w.heap.size, 3, none⟩ = some (.slice (some ⟨g, 0, none⟩) l.length c2) ∧ RowV w' g l.length f from fun w' hb =>
        ⟨(((below1 wr _).trans (hb.mono (by omega))).cell (p := ⟨w.heap.size, 3, none⟩) (by simp; omega)).trans x3, HROW.out.keep (((below1 wr _).trans (hb.mono (by omega))).block g hgl)⟩)
      have y3 := (HUP.out _ (Below.refl _ _)).1
      have HCL := Lib.hid (HIH.out u (List.mem_of_getElem? HUK.out) (HFM.out u (List.mem_of_getElem? HUK.out)))
      have HRU := Lib.hid (show ∀ w', Below wr.heap.size wr w' → Rep w' B (.slice oe u.l.length ce) u.l from fun w' hb => (HRK.out.later (HBB.out.trans (hbel.mono (by omega)))).later (hb.mono (by omega)))
      clear hdone htodo hfk hrk huk hcp hg2 hrow
      go_wp2_with fail
      have HDR := Lib.hid (show Below (wr.heap.size + 1) (wr.alloc (.cells #[.int .i64 u.t, .int .i64 u.n, .string u.s, .slice oe u.l.length ce] 48)) (wr.alloc (.cells #[.int .i64 u.t, .int .i64 u.n, .string u.s, .slice oe u.l.length ce] 48)).drew from below_drewN _ _ 1)
      clear c0 c1 c2' c3 x0 x1 x2
      go_region_law (first | (go_simp; go_at_call 33; refine (HCL.out _ (wr.alloc (.cells #[.int .i64 u.t, .int .i64 u.n, .string u.s, .slice oe u.l.length ce] 48)).drew B (HRU.out _ ((below1 wr _).trans (HDR.out.mono (by omega)))) (by simp; omega)).mono ?_; rintro e w4 ⟨⟨sl4, rfl, hr4⟩, hb4⟩; obtain ⟨o4, cc4, rfl, _⟩ := hr4.form; have HR4 := Lib.hid hr4; have hbw4 := HDR.out.trans (hb4.mono (by simp)); have HB4 := Lib.hid hbw4; have hs4 := hbw4.size; have hup := HUP.out w4 hbw4; obtain ⟨hn3, hrw⟩ := hup; obtain ⟨d0, hd0⟩ := hrw.there (o := k * 4) (by omega); obtain ⟨d1, hd1⟩ := hrw.there (o := k * 4 + 1) (by omega); obtain ⟨d2, hd2⟩ := hrw.there (o := k * 4 + 2) (by omega); obtain ⟨d3, hd3⟩ := hrw.there (o := k * 4 + 3) (by omega); have e0 := hrw.frozen (k * 4); have e1 := hrw.frozen (k * 4 + 1); have e2 := hrw.frozen (k * 4 + 2); have e3 := hrw.frozen (k * 4 + 3); have HRW := Lib.hid hrw; clear hr4 hb4 hbw4 hrw))
      all_goals
        simp only [World.size_alloc] at hs4
        clear hn3 hd0 hd1 hd2 hd3 e0 e1 e2 e3 y3
        go_wp2_with fail
        go_roundw
        case rel =>
          refine ⟨k + 1, hlt, by go_num, Lib.hid (.inr ⟨g, rfl, hg, ?_⟩), ?_⟩
          · show CpInv _ B (put4 w4 g k u (.slice o4 u.l.length cc4)) _ g l (k + 1)
            refine ⟨fun i => if i = k then some (u, .slice o4 u.l.length cc4) else f i, HRW.out.store hlt _ _, fun i z hz hi => ?_, fun i z hz hi => ?_⟩
            · by_cases e : i = k
              · subst e
                rw [HUK.out] at hz
                cases hz
                refine ⟨_, if_pos rfl, HR4.out.keep (fun b hb => ?_) (fun b hb => put4_other _ _ _ _ _ ?_)⟩
                · have h1 := hb.1
                  simp at h1
                  exact ⟨by omega, by omega, by rw [put4_size]; exact hb.2⟩
                · have h1 := hb.1
                  simp at h1
                  omega
              · obtain ⟨s, h1, h2⟩ := HDONE.out i z hz (by omega)
                refine ⟨s, by simp only [if_neg e]; exact h1, h2.keep (fun b hb => ?_) (fun b hb => ?_)⟩
                · obtain ⟨b1, b2, b3⟩ := hb
                  exact ⟨b1, b2, by rw [put4_size]; omega⟩
                · obtain ⟨b1, b2, b3⟩ := hb
                  exact (put4_other _ _ _ _ _ b2).trans ((HB4.out.block b (by omega)).trans ((below1 wr _).block b b3))
            · obtain ⟨s, h1, h2⟩ := HTODO.out i z hz (by omega)
              exact ⟨s, by simp only [if_neg (show i ≠ k by omega)]; exact h1, h2⟩
          · exact put4_below (v := u) (s := .slice o4 u.l.length cc4) (k := k) (hbel.trans (((below1 wr _).trans (HB4.out.mono (by omega))).mono (by omega))) hg
        case measure => simp [intOf]; omega
    · have hkl : k = l.length := by omega
      subst hkl
      obtain ⟨x0, x1, x2, x3⟩ := HBX1.out.later hbel (by omega)
      obtain ⟨r0, r1, r2, r3⟩ := HBR1.out.later hbel (by omega)
      have f0 := (hbel.frozen (p := ⟨w.heap.size + 1, 0, none⟩) (by simp)).trans (HFR1.out 0)
      have f1 := (hbel.frozen (p := ⟨w.heap.size + 1, 1, none⟩) (by simp)).trans (HFR1.out 1)
      have f2 := (hbel.frozen (p := ⟨w.heap.size + 1, 2, none⟩) (by simp)).trans (HFR1.out 2)
      have f3 := (hbel.frozen (p := ⟨w.heap.size + 1, 3, none⟩) (by simp)).trans (HFR1.out 3)
      have HFM2 := Lib.hid hm
      clear hm
      go_wp2_with fail
      refine bodyPost_ret (v := .agg #[.int .i64 v.t, .int .i64 v.n, .string v.s, .slice oa2 l.length c2]) (by simp [results, Tryd.results33, go_sem, *]) rfl ?_
      refine ⟨⟨_, rfl, ?_⟩, ?_⟩
      · have hset : ∀ b, b ≠ w.heap.size + 1 → ((((wr.setCell ⟨w.heap.size + 1, 0, none⟩ (.int .i64 v.t)).setCell ⟨w.heap.size + 1, 1, none⟩ (.int .i64 v.n)).setCell ⟨w.heap.size + 1, 2, none⟩ (.string v.s)).setCell ⟨w.heap.size + 1, 3, none⟩ (.slice oa2 l.length c2)).heap[b]? = wr.heap[b]? := fun b hb =>
          (heap_setCell_other _ _ _ _ hb).trans ((heap_setCell_other _ _ _ _ hb).trans ((heap_setCell_other _ _ _ _ hb).trans (heap_setCell_other _ _ _ _ hb)))
        rcases HD.out with h | ⟨g, rfl, hg, f, hrow, hdone, _⟩
        · rw [h]; exact RepS.empty _ _
        · refine RepS.keep (S := fun b => w.heap.size + 2 ≤ b ∧ b < wr.heap.size) (RowV.repS hrow ⟨hg, hrow.lt⟩ hlc2 HFM2.out (fun i z hz => ?_)) (fun b hb => ⟨by omega, by simp only [World.size_setCell]; exact hb.2⟩) (fun b hb => hset b (by omega))
          obtain ⟨s, h1, h2⟩ := hdone i z hz (List.getElem?_eq_some_iff.1 hz).1
          exact ⟨s, h1, h2.keep (fun b hb => ⟨hb.1, hb.2.2⟩) (fun _ _ => rfl)⟩
      · exact HBR2.out.trans (((((Below.refl _ _).setCell (p := ⟨w.heap.size + 1, _, none⟩) (by simp) _).setCell (p := ⟨w.heap.size + 1, _, none⟩) (by simp) _).setCell (p := ⟨w.heap.size + 1, _, none⟩) (by simp) _).setCell (p := ⟨w.heap.size + 1, _, none⟩) (by simp) _)

end Go.Proofs.YthnlkijkgnmbhaaDoor
