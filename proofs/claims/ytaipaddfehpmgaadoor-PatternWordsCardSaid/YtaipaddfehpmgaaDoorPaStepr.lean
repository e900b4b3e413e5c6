/-
  stepper of package pattern. Nothing is assumed.
-/
import Derived.Test.YtaipaddfehpmgaaDoorPaShort
import Derived.Laws.OwnMore
import Derived.Deep.RegionHeldLaw
namespace Go.Proofs.YtaipaddfehpmgaaDoor

section
open Go.RowKit

/-- The head of a row of numbers, the rest zero. -/
def fillI (R : List Int) (k : Nat) : List Int := R.take k ++ List.replicate (R.length - k) 0
theorem fillI_len (R : List Int) (k : Nat) (h : k ≤ R.length) : (fillI R k).length = R.length := by unfold fillI; simp; omega
theorem fillI_zero (R : List Int) : fillI R 0 = List.replicate R.length 0 := by unfold fillI; simp
theorem fillI_set (R : List Int) (k : Nat) (h : k < R.length) : (fillI R k).set k R[k] = fillI R (k + 1) := by
  have e : R.take (k + 1) = R.take k ++ [R[k]] := by rw [List.take_add_one, List.getElem?_eq_getElem h]; rfl
  have hl : (R.take k).length = k := by rw [List.length_take]; omega
  unfold fillI
  rw [List.set_append_right _ _ (by omega), hl, Nat.sub_self, e, List.append_assoc, show R.length - k = (R.length - (k + 1)) + 1 by omega, List.replicate_succ]
  rfl
theorem fillI_all (R : List Int) : fillI R R.length = R := by unfold fillI; simp

/-- The reads of the bytes of the alphabet. -/
def rdL (ps : List Ps) : List Int := (List.range 95).map fun k => readsL (32 + k) 0 ps 0
theorem rdL_len (ps : List Ps) : (rdL ps).length = 95 := by unfold rdL; rw [List.length_map, List.length_range]
/-- The states after a state. -/
def stepL (ps : List Ps) (st : Int) : List Int := (rdL ps).map fun r => bits BinOp.and IntKind.u64 (afterL st 0 ps 0) r
theorem stepL_len (ps : List Ps) (st : Int) : (stepL ps st).length = 95 := by unfold stepL; rw [List.length_map, rdL_len]
/-- What the function of stepper holds: the machine, and the row of the reads, below a block. -/
structure IsSt (w : World) (N bm br gr : Nat) (g : Nat) (cap capr : Nat) (ps : List Ps) (last : Int) : Prop where
  mach : MB w bm (.slice (some ⟨g, 0, none⟩) ps.length cap) last
  reads : w.heap[br]? = some (.cells #[.slice (some ⟨gr, 0, none⟩) 95 capr] 55 (0, 0))
  row : ∀ k x, (rdL ps)[k]? = some x → w.cell? ⟨gr, k, none⟩ = some (.int .u64 x)
  pos : HQ w (· < N) (.slice (some ⟨g, 0, none⟩) ps.length cap) ps
  lm : bm < N
  lr : br < N
  lg : gr < N
  ln : N ≤ w.heap.size
theorem IsSt.later {w w' : World} {N bm br gr g cap capr : Nat} {ps : List Ps} {last : Int} (h : IsSt w N bm br gr g cap capr ps last) (hb : Below N w w') : IsSt w' N bm br gr g cap capr ps last where
  mach := (hb.block _ h.lm).trans h.mach
  reads := (hb.block _ h.lr).trans h.reads
  row := fun k x hx => (hb.cell (p := ⟨gr, k, none⟩) h.lg).trans (h.row k x hx)
  pos := h.pos.below hb (Nat.le_refl _)
  lm := h.lm
  lr := h.lr
  lg := h.lg
  ln := Nat.le_trans h.ln hb.size
def stV (bm br : Nat) : Value := .func (.func 46) #[] #[.pointer (some ⟨bm, 0, none⟩), .pointer (some ⟨br, 0, none⟩)]

set_option maxRecDepth 100000 in
set_option maxHeartbeats 3200000 in
theorem step_any (w : World) (N bm br gr g cap capr : Nat) (ps : List Ps) (last st : Int) (h : IsSt w N bm br gr g cap capr ps last) :
    Calls Tryd.prog 46 #[.int .u64 st, .pointer (some ⟨bm, 0, none⟩), .pointer (some ⟨br, 0, none⟩)] w fun e w' => (∃ gn, e = .returned (.slice (some ⟨gn, 0, none⟩) 95 95) ∧ OwnW w' w.heap.size (.slice (some ⟨gn, 0, none⟩) 95 95) (stepL ps st)) ∧ Below w.heap.size w w' := by
  obtain ⟨i0, hi, hz0, hz1, hz2⟩ := info_parts infoW
  have HI := Lib.hid h
  obtain ⟨c0, c1⟩ := h.mach.cells
  have HA := Lib.hid (after_any w N _ ps last st h.pos h.ln)
  obtain ⟨R, hR⟩ : ∃ R, R = stepL ps st := ⟨_, rfl⟩
  have hRl : R.length = 95 := by rw [hR, stepL_len]
  have HRl := Lib.hid hRl
  have HR := Lib.hid hR
  rw [← hR]
  clear h hR hRl
  go_enter Tryd.func46, Tryd.ntmps46
  go_wp2_with fail
  refine HA.out.mono ?_
  rintro e w1 ⟨rfl, hb1⟩
  have HI1 := Lib.hid (HI.out.later (hb1.mono HI.out.ln))
  have HB1 := Lib.hid hb1
  have r0 : w1.cell? ⟨br, 0, none⟩ = some (.slice (some ⟨gr, 0, none⟩) 95 capr) := by unfold World.cell?; rw [HI1.out.reads]; rfl
  have hs1 := hb1.size
  clear hb1 HA c0 c1
  go_wp2_with (at_make; refine wpList_make_full _ rfl _ _ 55 rfl w1.heap.size 42 i0 _ 1 Tryd.underlying55 hi hz0 hz1 _ _ _ _ 95 rfl rfl rfl rfl ?b2 ?b3 (Nat.le_refl _) ?_)
  case b2 => rw [hz2]; decide
  case b3 => unfold maxLen; decide
  intro w2 hown2 hgrow2
  have hb2 : Below w1.heap.size w1 w2 := (Below.refl _ _).grown hgrow2 (Nat.le_refl _) (fun k h => by cases h)
  have HO2 : Hid (w2.ownsRow w1.heap.size 42 1 (.slice (some ⟨w1.heap.size, 0, none⟩) 95 95) 95 ((fillI R 0).map (Value.int .u64))) := Lib.hid (by
    rw [fillI_zero, HRl.out, List.map_replicate, ← toList_madeCells_one]
    exact hown2)
  have HI2 := Lib.hid (HI1.out.later (hb2.mono HI1.out.ln))
  have HB2 := Lib.hid (HB1.out.trans (hb2.mono hs1))
  have r2 : w2.cell? ⟨br, 0, none⟩ = some (.slice (some ⟨gr, 0, none⟩) 95 capr) := by unfold World.cell?; rw [HI2.out.reads]; rfl
  have hs2 : w1.heap.size ≤ w2.heap.size := hb2.size
  have HN1 := Lib.hid HI1.out.ln
  clear hown2 hgrow2 hb2 r0 HI1 HB1
  go_wp2_with fail
  go_loopw [17] (fun v wr => ∃ k : Nat, v = .int .i64 (k : Int) ∧ k ≤ 95 ∧ Hid (wr.ownsRow w1.heap.size 42 1 (.slice (some ⟨w1.heap.size, 0, none⟩) 95 95) 95 ((fillI R k).map (Value.int .u64))) ∧ Hid (IsSt wr N bm br gr g cap capr ps last) ∧ Hid (Below w.heap.size w wr) ∧ w1.heap.size ≤ wr.heap.size) (fun v _ => 95 - (intOf v).toNat)
  case atStart => exact ⟨0, rfl, Nat.zero_le _, HO2, HI2, HB2, hs2⟩
  case round =>
    obtain ⟨k, rfl, hk, HOr, HIr, HBr, hsr⟩ := hrel
    clear HO2 HI2 HB2 r2
    by_cases hlt : k < 95
    · have hltI : (k : Int) < 95 := by omega
      have hk0 : (0 : Int) ≤ (k : Int) := by omega
      have hwk : IntKind.i64.wrap ((k : Int) + 1) = ((k + 1 : Nat) : Int) := by rw [IntWalk.i64_in _ (by omega)]; omega
      obtain ⟨rx, hrx⟩ : ∃ rx, (rdL ps)[k]? = some rx := ⟨_, List.getElem?_eq_getElem (by rw [rdL_len]; exact hlt)⟩
      have c3 := HIr.out.row k rx hrx
      have hRk : R[k]? = some (bits BinOp.and IntKind.u64 (afterL st 0 ps 0) rx) := by rw [HR.out]; unfold stepL; rw [List.getElem?_map, hrx]; rfl
      have hkR : k < R.length := (List.getElem?_eq_some_iff.1 hRk).1
      have hlen := fillI_len R k (by omega)
      have c4 : wr.cell? ⟨w1.heap.size, k, none⟩ = some (.int .u64 ((fillI R k)[k]'(by omega))) := by
        rw [World.ownsRow.cellAt HOr.out k (by omega), List.getElem?_map, List.getElem?_eq_getElem (by omega)]
        rfl
      have f4 := World.ownsRow.frozenAt HOr.out k
      have HOe : Hid ((wr.setCell ⟨w1.heap.size, k, none⟩ (.int .u64 (bits BinOp.and IntKind.u64 (afterL st 0 ps 0) rx))).ownsRow w1.heap.size 42 1 (.slice (some ⟨w1.heap.size, 0, none⟩) 95 95) 95 ((fillI R (k + 1)).map (Value.int .u64))) := Lib.hid (by
        have h1 := fillI_set R k hkR
        rw [(List.getElem?_eq_some_iff.1 hRk).2] at h1
        rw [← h1, List.map_set]
        exact (World.ownsRow.stored HOr.out k _).1)
      have hbs : Below w1.heap.size wr (wr.setCell ⟨w1.heap.size, k, none⟩ (.int .u64 (bits BinOp.and IntKind.u64 (afterL st 0 ps 0) rx))) := (Below.refl _ _).setCell (p := ⟨w1.heap.size, k, none⟩) (Nat.le_refl _) _
      have HIe := Lib.hid (HIr.out.later (hbs.mono HN1.out))
      have HBe := Lib.hid (HBr.out.trans (hbs.mono hs1))
      generalize (fillI R k)[k]'(by omega) = old at *
      clear hRk hrx hbs hlen hkR
      go_wp2_with fail
      go_roundw
      case rel => exact ⟨k + 1, by first | rfl | go_num, hlt, HOe, HIe, HBe, by simp [World.setCell]; omega⟩
      case measure => simp [intOf]; omega
    · have hltI : ¬ ((k : Int) < 95) := by omega
      obtain rfl : k = 95 := by omega
      have HOe : Hid (OwnW wr w1.heap.size (.slice (some ⟨w1.heap.size, 0, none⟩) 95 95) R) := Lib.hid (by
        have h := HOr.out
        have e : fillI R 95 = R := by rw [← HRl.out]; exact fillI_all R
        rw [e] at h
        unfold OwnW
        rw [HRl.out]
        exact h)
      go_wp2_with fail
      go_ret
      refine ⟨⟨w1.heap.size, rfl, ?_⟩, HBr.out⟩
      have h7 := HOe.out
      refine ⟨h7.1, ?_⟩
      rcases h7.2 with h2 | ⟨g2, cap3, cur, hv, hg, r⟩
      · exact .inl h2
      · exact .inr ⟨g2, cap3, cur, hv, by omega, r⟩
end

section
open Go.RowKit

theorem new_at (w : World) (o : Obj) : (w.alloc o).heap[w.heap.size]? = some o := by
  show (w.heap.push _)[w.heap.size]? = some _
  rw [Array.getElem?_push, if_pos rfl]
set_option maxRecDepth 100000 in
set_option maxHeartbeats 3200000 in
theorem stepper_any (w : World) (B g cap : Nat) (ps : List Ps) (last : Int) (h : HQ w (· < B) (.slice (some ⟨g, 0, none⟩) ps.length cap) ps) (hB : B ≤ w.heap.size) :
    Calls Tryd.prog 17 #[.agg #[.slice (some ⟨g, 0, none⟩) ps.length cap, .int .u64 last]] w fun e w' => (∃ bm br gr capr, e = .returned (stV bm br) ∧ IsSt w' w'.heap.size bm br gr g cap capr ps last) ∧ Below w.heap.size w w' := by
  obtain ⟨i0, hi, hz0, hz1, hz2⟩ := info_parts infoW
  have HH := Lib.hid h
  obtain ⟨w1, hw1⟩ : ∃ w1, w1 = (w.alloc (.cells #[.slice (some ⟨g, 0, none⟩) ps.length cap, .int .u64 last] 44)).alloc (.cells #[.slice none 0 0] 55) := ⟨_, rfl⟩
  have HW1 := Lib.hid hw1
  have hs1 : w1.heap.size = w.heap.size + 2 := by rw [hw1]; simp
  have hb1 : Below w.heap.size w w1 := by rw [hw1]; exact below2 _ _ _
  have HM1 : Hid (MB w1 w.heap.size (.slice (some ⟨g, 0, none⟩) ps.length cap) last) := Lib.hid (by rw [hw1]; exact (MB.new _ _ _).below (below1 _ _))
  have HX1 : Hid (w1.heap[w.heap.size + 1]? = some (.cells #[.slice none 0 0] 55 (0, 0))) := Lib.hid (by
    rw [hw1]
    show ((w.heap.push _).push _)[w.heap.size + 1]? = some _
    rw [Array.getElem?_push, if_pos (by simp)])
  have HB1 := Lib.hid hb1
  clear hw1 hb1 h
  go_enter Tryd.func17, Tryd.ntmps17
  go_wp2_with fail
  rw [← HW1.out]
  go_loopw [4] (fun v wr => ∃ (k : Nat) (oc : Option Addr) (cc : Nat), v = .int .u8 ((32 + k : Nat) : Int) ∧ k ≤ 95 ∧ Hid (wr.heap[w.heap.size + 1]? = some (.cells #[.slice oc k cc] 55 (0, 0))) ∧ Hid (wr.ownsRow (w.heap.size + 2) 42 1 (.slice oc k cc) k (((rdL ps).take k).map (Value.int .u64))) ∧ Hid (MB wr w.heap.size (.slice (some ⟨g, 0, none⟩) ps.length cap) last) ∧ Hid (Below w.heap.size w wr) ∧ w.heap.size + 2 ≤ wr.heap.size) (fun v _ => 127 - (intOf v).toNat)
  case atStart => exact ⟨0, none, 0, rfl, Nat.zero_le _, HX1, Lib.hid ⟨rfl, .inl ⟨rfl, rfl⟩⟩, HM1, HB1, by omega⟩
  case round =>
    obtain ⟨k, oc, cc, rfl, hk, HX, HO, HM, HB, hsr⟩ := hrel
    clear HX1 HM1 HB1
    obtain ⟨b, hb⟩ : ∃ b, b = 32 + k := ⟨_, rfl⟩
    rw [← hb]
    by_cases hlt : k < 95
    · have hbI : (b : Int) ≤ 126 := by omega
      have hwb : IntKind.u8.wrap ((b : Int) + 1) = ((b + 1 : Nat) : Int) := by rw [IntKind.wrap_u8]; omega
      have hrk : (rdL ps)[k]? = some (readsL b 0 ps 0) := by unfold rdL; rw [List.getElem?_map, List.getElem?_range hlt, hb]; rfl
      have htk : (rdL ps).take (k + 1) = (rdL ps).take k ++ [readsL b 0 ps 0] := by rw [List.take_add_one, hrk]; rfl
      have HTK := Lib.hid htk
      have HBb := Lib.hid hb
      have HS : Hid (∀ V, Below wr.heap.size wr V → V.cell? ⟨w.heap.size, 0, none⟩ = some (.slice (some ⟨g, 0, none⟩) ps.length cap) ∧ V.cell? ⟨w.heap.size, 1, none⟩ = some (.int .u64 last) ∧ V.cell? ⟨w.heap.size + 1, 0, none⟩ = some (.slice oc k cc)) := Lib.hid (fun V hV => by
        have h1 := (HM.out.below hV).cells
        refine ⟨h1.1, h1.2, ?_⟩
        unfold World.cell?
        rw [hV.block (w.heap.size + 1) (by omega), HX.out]
        rfl)
      have HRd := Lib.hid (reads_any wr.drew B _ ps last b (by omega) (HH.out.below ((HB.out.trans (Below.refl w.heap.size wr).drew).mono hB) (Nat.le_refl _)) (by show B ≤ wr.heap.size; omega))
      obtain ⟨ka, kb, kc⟩ := HS.out wr.drew (Below.refl _ _).drew
      have HAP : Hid (∀ (V W2 : World), Below wr.heap.size wr V → (V.alloc (.cells #[.int .u64 (readsL b 0 ps 0)] 42)).grownBy W2 (Value.slice oc k cc).ownBlock → W2.cell? ⟨w.heap.size + 1, 0, none⟩ = some (.slice oc k cc) ∧ W2.frozen? ⟨w.heap.size + 1, 0, none⟩ = false ∧ W2.heap[w.heap.size + 1]? = some (.cells #[.slice oc k cc] 55 (0, 0)) ∧ MB W2 w.heap.size (.slice (some ⟨g, 0, none⟩) ps.length cap) last) := Lib.hid (fun V W2 hV hg => by
        have hne : ∀ q, q < w.heap.size + 2 → (Value.slice oc k cc).ownBlock ≠ some q := fun q hq e => by have := (own_lt HO.out q e).1; omega
        have hVs := hV.size
        have hblk : ∀ q, q < w.heap.size + 2 → W2.heap[q]? = wr.heap[q]? := fun q hq => (hg.block q (by rw [World.size_alloc]; omega) (fun e => hne q hq e.symm)).trans (((below1 V _).block q (by omega)).trans (hV.block q (by omega)))
        have h1 : W2.heap[w.heap.size + 1]? = some (.cells #[.slice oc k cc] 55 (0, 0)) := (hblk _ (by omega)).trans HX.out
        refine ⟨by unfold World.cell?; rw [h1]; rfl, by unfold World.frozen?; rw [h1]; simp, h1, (hblk _ (by omega)).trans HM.out⟩)
      have hn1 : k + 1 ≤ maxLen := by unfold maxLen; omega
      have hby : (k + 1) * 8 ≤ 140737488355328 := by omega
      clear hb hrk htk
      go_wp2_with fail
      go_region_law (first
        | (go_simp; go_at_call 33; refine HRd.out.mono ?_; rintro e w5 ⟨rfl, hb5⟩
           have hq5 : Below wr.heap.size wr w5 := (Below.refl _ _).drew.trans hb5
           have hs5 : wr.heap.size ≤ w5.heap.size := hq5.size
           have HB5 := Lib.hid hq5
           have HO5 := Lib.hid (owns_kp (X := fun _ => False) HO.out (.of (hq5.trans ((below1 w5 (.cells #[.int .u64 (readsL b 0 ps 0)] 42)).mono hs5)) (Nat.le_refl _)) (Nat.le_refl _) (fun _ _ h => h))
           obtain ⟨kd, ke, kf⟩ := HS.out w5 hq5
           have kg := (HS.out _ (hq5.trans ((below1 w5 (.cells #[.int .u64 (readsL b 0 ps 0)] 42)).mono hs5))).2.2
           clear hb5 hq5
           dsimp only)
        | (refine step_append_lies _ (by rfl) _ _ _ (by rfl) (w.heap.size + 2) 42 i0 _ 1 8 Tryd.underlying55 hi hz0 hz1 hz2 rfl (by omega) (.slice oc k cc) k (((rdL ps).take k).map (Value.int .u64)) (by rfl) HO5.out
              ⟨w5.heap.size, 0, none⟩ 1 1 [.int .u64 (readsL b 0 ps 0)] (by rfl) (by rfl) (World.news_of_block (cs := #[.int .u64 (readsL b 0 ps 0)]) (t := 42) (fr := (0, 0)) (new_at w5 _)) (by simp [Value.oneCell']) (by omega) hn1 hby (by simp; omega) (w5.heap.size + 1) (by simp) ?_
           intro gg cap2 w2 hown1 hgrow hat hlt1
           obtain ⟨k0, kf0, kx, km⟩ := HAP.out w5 w2 HB5.out hgrow))
      all_goals
        have hs2 := hgrow.size
        rw [World.size_alloc] at hs2
        have hs3 : w.heap.size + 2 ≤ w2.heap.size := by omega
        have hbk : ∀ q, q < w.heap.size + 2 → w2.heap[q]? = wr.heap[q]? := fun q hq => (hgrow.block q (by rw [World.size_alloc]; omega) (fun e => by have := (own_lt HO.out q e.symm).1; omega)).trans (((below1 w5 _).block q (by omega)).trans (HB5.out.block q (by omega)))
        have HB2 : Hid (Below w.heap.size w w2) := Lib.hid (HB.out.trans ⟨hgrow.os.trans ((below1 w5 (.cells #[.int .u64 (readsL b 0 ps 0)] 42)).os.trans HB5.out.os), hgrow.tape.trans ((below1 w5 (.cells #[.int .u64 (readsL b 0 ps 0)] 42)).tape.trans HB5.out.tape), hgrow.output.trans ((below1 w5 (.cells #[.int .u64 (readsL b 0 ps 0)] 42)).output.trans HB5.out.output), by omega, fun q hq => hbk q (by omega)⟩)
        have HO2 : Hid (w2.ownsRow (w.heap.size + 2) 42 1 (.slice (some ⟨gg, 0, none⟩) (k + 1) cap2) (k + 1) (((rdL ps).take (k + 1)).map (Value.int .u64))) := Lib.hid (by rw [HTK.out, List.map_append]; exact hown1)
        have HM2 := Lib.hid km
        have HK := Lib.hid kx
        clear hgrow hown1 hat hlt1 hbk km kx hs2 HAP HO5 ka kb kc kd ke kf kg
        go_wp2_with fail
        have hxs : (w2.setCell ⟨w.heap.size + 1, 0, none⟩ (.slice (some ⟨gg, 0, none⟩) (k + 1) cap2)).heap[w.heap.size + 1]? = some (.cells #[.slice (some ⟨gg, 0, none⟩) (k + 1) cap2] 55 (0, 0)) := by
          have := HK.out
          simp [World.setCell, Array.getElem?_modify, this]
        have hbx : Below (w.heap.size + 1) w2 (w2.setCell ⟨w.heap.size + 1, 0, none⟩ (.slice (some ⟨gg, 0, none⟩) (k + 1) cap2)) := (Below.refl _ _).setCell (p := ⟨w.heap.size + 1, 0, none⟩) (Nat.le_refl _) _
        have hox : (w2.setCell ⟨w.heap.size + 1, 0, none⟩ (.slice (some ⟨gg, 0, none⟩) (k + 1) cap2)).ownsRow (w.heap.size + 2) 42 1 (.slice (some ⟨gg, 0, none⟩) (k + 1) cap2) (k + 1) (((rdL ps).take (k + 1)).map (Value.int .u64)) :=
          owns_kp (X := fun q => q = w.heap.size + 1) (N := w2.heap.size) HO2.out ((Kp.refl w2.heap.size (fun q => q = w.heap.size + 1) w2).set ⟨w.heap.size + 1, 0, none⟩ rfl _) (Nat.le_refl _) (fun q hq e => by omega)
        go_roundw
        case rel => exact ⟨k + 1, some ⟨gg, 0, none⟩, cap2, by rw [show (32 + (k + 1) : Nat) = b + 1 by have := HBb.out; omega]; first | rfl | (rw [← hwb]; rfl) | go_num, hlt, Lib.hid hxs, Lib.hid hox, Lib.hid ((hbx.block _ (by omega)).trans HM2.out), Lib.hid (HB2.out.trans (hbx.mono (by omega))), by simp [World.setCell]; omega⟩
        case measure => have := HBb.out; simp [intOf]; omega
    · have hbI : ¬ (b : Int) ≤ 126 := by omega
      obtain rfl : k = 95 := by omega
      have HRow : Hid (wr.ownsRow (w.heap.size + 2) 42 1 (.slice oc 95 cc) 95 ((rdL ps).map (Value.int .u64))) := Lib.hid (by
        have h := HO.out
        rw [List.take_of_length_le (by rw [rdL_len]; exact Nat.le_refl _)] at h
        exact h)
      clear HO
      obtain ⟨gr, hgr⟩ : ∃ gr, oc = some ⟨gr, 0, none⟩ := by
        rcases HRow.out.2 with ⟨hv, h0⟩ | ⟨gl, cq, cur, hv, _⟩
        · cases h0
        · cases hv; exact ⟨gl, rfl⟩
      subst hgr
      go_wp2_with fail
      go_ret
      have hgl := World.ownsRow.lt HRow.out gr rfl
      have hrow : ∀ j x, (rdL ps)[j]? = some x → wr.cell? ⟨gr, j, none⟩ = some (.int .u64 x) := by
        intro j x hx
        have hj := (List.getElem?_eq_some_iff.1 hx).1
        rw [rdL_len] at hj
        rw [World.ownsRow.cellAt HRow.out j (by omega), List.getElem?_map, hx]
        rfl
      have hst : IsSt wr wr.heap.size w.heap.size (w.heap.size + 1) gr g cap cc ps last := ⟨HM.out, HX.out, hrow, HH.out.below (HB.out.mono hB) (by omega), by omega, by omega, hgl.2, Nat.le_refl _⟩
      refine ⟨?_, HB.out⟩
      first | exact ⟨_, _, gr, cc, rfl, hst⟩ | exact ⟨_, _, rfl, gr, cc, hst⟩
end

end Go.Proofs.YtaipaddfehpmgaaDoor
