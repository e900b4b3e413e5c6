/-
  plain and same of the laws on patterns. Nothing is assumed.
-/
import Derived.Test.YtkogldlhidppaaaDoorPtPars
import Derived.Test.YtkogldlhidppaaaDoorPaRows
import Derived.Test.YtkogldlhidppaaaDoorPaStepr
import Derived.Deep.RegionHeldLaw
namespace Go.Proofs.YtkogldlhidppaaaDoor
open Go.RowKit

/-- The six cells of a tree. -/
def TR (w : World) (n : Nat) (t : TypeId) (v : PT) (sl : Value) : Prop := w.heap[n]? = some (.cells #[.int .i64 v.k, .int .u64 v.s.a, .int .u64 v.s.b, .int .u64 v.s.c, .int .u64 v.s.d, sl] t (0, 0))
theorem TR.cells {w : World} {n : Nat} {t : TypeId} {v : PT} {sl : Value} (h : TR w n t v sl) : w.cell? ⟨n, 0, none⟩ = some (.int .i64 v.k) ∧ w.cell? ⟨n, 1, none⟩ = some (.int .u64 v.s.a) ∧ w.cell? ⟨n, 2, none⟩ = some (.int .u64 v.s.b) ∧ w.cell? ⟨n, 3, none⟩ = some (.int .u64 v.s.c) ∧ w.cell? ⟨n, 4, none⟩ = some (.int .u64 v.s.d) ∧ w.cell? ⟨n, 5, none⟩ = some sl := by
  unfold World.cell?
  rw [h]
  exact ⟨rfl, rfl, rfl, rfl, rfl, rfl⟩
theorem TR.free {w : World} {n : Nat} {t : TypeId} {v : PT} {sl : Value} (h : TR w n t v sl) (k : Nat) : w.frozen? ⟨n, k, none⟩ = false := by unfold World.frozen?; rw [h]; simp
theorem TR.lt {w : World} {n : Nat} {t : TypeId} {v : PT} {sl : Value} (h : TR w n t v sl) : n < w.heap.size := (Array.getElem?_eq_some_iff.1 h).1
theorem TR.later {w w' : World} {N n : Nat} {t : TypeId} {v : PT} {sl : Value} (h : TR w n t v sl) (hb : Below N w w') (hn : n < N) : TR w' n t v sl := (hb.block _ hn).trans h
theorem TR.up {w w' : World} {n : Nat} {t : TypeId} {v : PT} {sl : Value} (h : TR w n t v sl) (hb : Below w.heap.size w w') : TR w' n t v sl := h.later hb h.lt
theorem TR.put {w : World} {n : Nat} {t : TypeId} {v : PT} {sl : Value} (h : TR w n t v sl) (u : Value) : TR (w.setCell ⟨n, 5, none⟩ u) n t v u := by
  unfold TR at *
  simp [World.setCell, Array.getElem?_modify, h]

theorem TR.far {w : World} {n m : Nat} {t : TypeId} {v : PT} {sl : Value} (h : TR w n t v sl) (hn : n ≠ m) (k : Nat) (u : Value) : TR (w.setCell ⟨m, k, none⟩ u) n t v sl := (Below.heap_setCell _ _ _ _ hn).trans h
/-- The contract of plain at a tree. -/
def PlOk (v : PT) : Prop := ∀ (w : World) (oe : Option Addr) (ce : Nat), HT w (· < w.heap.size) (.slice oe v.l.length ce) v.l →
    Calls Tryd.prog 6 #[v.val (.slice oe v.l.length ce)] w fun e w' => (∃ oe' ce', e = .returned (v.val (.slice oe' v.l.length ce')) ∧ HT w' (Btw w.heap.size w'.heap.size) (.slice oe' v.l.length ce') v.l) ∧ Below w.heap.size w w'
set_option maxRecDepth 100000 in
set_option maxHeartbeats 3200000 in
theorem plain_step (v : PT) (ih : ∀ x, x ∈ v.l → PlOk x) : PlOk v := by
  intro w oe ce hT
  obtain ⟨i0, hinf, hz0, hz1, hz2⟩ := info_parts infoTree
  obtain ⟨w1, hw1⟩ : ∃ w1, w1 = ((w.alloc (.cells #[.int .i64 v.k, .int .u64 v.s.a, .int .u64 v.s.b, .int .u64 v.s.c, .int .u64 v.s.d, .slice oe v.l.length ce] 26)).alloc (.cells #[.int .i64 0, .int .u64 0, .int .u64 0, .int .u64 0, .int .u64 0, .slice none 0 0] 31)).alloc (.cells #[.int .i64 v.k, .int .u64 v.s.a, .int .u64 v.s.b, .int .u64 v.s.c, .int .u64 v.s.d, .slice none 0 0] 31) := ⟨_, rfl⟩
  have HW1 := Lib.hid hw1
  have hs1 : w1.heap.size = w.heap.size + 3 := by rw [hw1]; simp
  have hb1 : Below w.heap.size w w1 := by rw [hw1]; exact (below2 w _ _).alloc (by simp; omega) _
  have HT1 : Hid (TR w1 w.heap.size 26 v (.slice oe v.l.length ce)) := Lib.hid (by
    rw [hw1]
    have h0 : TR (w.alloc (.cells #[.int .i64 v.k, .int .u64 v.s.a, .int .u64 v.s.b, .int .u64 v.s.c, .int .u64 v.s.d, .slice oe v.l.length ce] 26)) w.heap.size 26 v (.slice oe v.l.length ce) := new_at w _
    exact (h0.up (below2 _ _ _)))
  have HR1 : Hid (TR w1 (w.heap.size + 1) 31 (PT.mk 0 .zero []) (.slice none 0 0)) := Lib.hid (by
    rw [hw1]
    have h0 := new_at (w.alloc (.cells #[.int .i64 v.k, .int .u64 v.s.a, .int .u64 v.s.b, .int .u64 v.s.c, .int .u64 v.s.d, .slice oe v.l.length ce] 26)) (.cells #[.int .i64 0, .int .u64 0, .int .u64 0, .int .u64 0, .int .u64 0, .slice none 0 0] 31)
    rw [World.size_alloc] at h0
    exact TR.up (show TR _ (w.heap.size + 1) 31 (PT.mk 0 .zero []) (.slice none 0 0) from h0) (below1 _ _))
  have HO1 : Hid (TR w1 (w.heap.size + 2) 31 v (.slice none 0 0)) := Lib.hid (by
    rw [hw1]
    have h0 := new_at ((w.alloc (.cells #[.int .i64 v.k, .int .u64 v.s.a, .int .u64 v.s.b, .int .u64 v.s.c, .int .u64 v.s.d, .slice oe v.l.length ce] 26)).alloc (.cells #[.int .i64 0, .int .u64 0, .int .u64 0, .int .u64 0, .int .u64 0, .slice none 0 0] 31)) (.cells #[.int .i64 v.k, .int .u64 v.s.a, .int .u64 v.s.b, .int .u64 v.s.c, .int .u64 v.s.d, .slice none 0 0] 31)
    rw [World.size_alloc, World.size_alloc] at h0
    exact h0)
  have HTT1 : Hid (HT w1 (· < w.heap.size) (.slice oe v.l.length ce) v.l) := Lib.hid (hT.later (fun _ h => h) fun b hb o => hb1.cell (p := ⟨b, o, none⟩) hb)
  have HA1 : Hid (Acc w1 (w.heap.size + 3) (.slice none 0 0) (v.l.take 0)) := Lib.hid (by rw [List.take_zero]; exact Acc.nil _ _)
  have HB1 := Lib.hid hb1
  have HIH := Lib.hid ih
  obtain ⟨-, hlm⟩ := HT.len hT
  have hlmI : (v.l.length : Int) ≤ 1000000 := by omega
  clear hw1 hb1 hT ih
  unfold PT.val
  go_enter Tryd.func6, Tryd.ntmps6
  go_wp2_with fail
  rw [← HW1.out]
  go_loopw [4] (fun u wr => ∃ (i : Nat) (oc : Option Addr) (cc : Nat), u = .int .i64 (i : Int) ∧ i ≤ v.l.length ∧ Hid (TR wr (w.heap.size + 2) 31 v (.slice oc i cc)) ∧ Hid (TR wr (w.heap.size + 1) 31 (PT.mk 0 .zero []) (.slice none 0 0)) ∧ Hid (TR wr w.heap.size 26 v (.slice oe v.l.length ce)) ∧ Hid (Acc wr (w.heap.size + 3) (.slice oc i cc) (v.l.take i)) ∧ Hid (HT wr (· < w.heap.size) (.slice oe v.l.length ce) v.l) ∧ Hid (Below w.heap.size w wr) ∧ w.heap.size + 3 ≤ wr.heap.size) (fun u _ => v.l.length - (intOf u).toNat)
  case atStart => exact ⟨0, none, 0, rfl, Nat.zero_le _, HO1, HR1, HT1, HA1, HTT1, HB1, by omega⟩
  case round =>
    obtain ⟨i, oc, cc, rfl, hi, HO, HR, HTb, HA, HTT, HB, hsr⟩ := hrel
    clear HO1 HR1 HT1 HA1 HTT1 HB1
    by_cases hlt : i < v.l.length
    · have hltI : (i : Int) < (v.l.length : Int) := by omega
      have hi0 : (0 : Int) ≤ (i : Int) := by omega
      have hwi : IntKind.i64.wrap ((i : Int) + 1) = ((i + 1 : Nat) : Int) := by rw [IntWalk.i64_in _ (by omega)]; omega
      obtain ⟨x, hx⟩ : ∃ x, v.l[i]? = some x := ⟨_, List.getElem?_eq_getElem hlt⟩
      have hxm := List.mem_of_getElem? hx
      have HTk : Hid (v.l.take (i + 1) = v.l.take i ++ [x]) := Lib.hid (by rw [List.take_add_one, hx]; rfl)
      obtain ⟨b, off, ox, cx, rfl, hb, hTx, p0, p1, p2, p3, p4, p5⟩ := HT.at_ HTT.out hx
      have HXT := Lib.hid hTx
      have HT0 : Hid (HT w (· < w.heap.size) (.slice (some ⟨b, off, none⟩) v.l.length ce) v.l) := Lib.hid (HTT.out.later (fun _ h => h) fun q hq o => (HB.out.cell (p := ⟨q, o, none⟩) hq).symm)
      have HBl := Lib.hid hb
      obtain ⟨ps, hps, ho, hr⟩ := HA.out
      have hpl : ps.length = i := by
        have h := congrArg List.length hps
        rw [List.length_map, List.length_take] at h
        omega
      have HPS := Lib.hid hps
      have HPL := Lib.hid hpl
      have HOw : Hid (wr.ownsRow (w.heap.size + 3) 31 6 (.slice oc i cc) i (flatP ps)) := Lib.hid (by rw [hpl] at ho; exact ho)
      have HHr := Lib.hid hr
      have HEl : Hid (∀ V, Below wr.heap.size wr V → V.cell? ⟨w.heap.size + 2, 5, none⟩ = some (.slice oc i cc) ∧ V.cell? ⟨w.heap.size, 5, none⟩ = some (.slice (some ⟨b, off, none⟩) v.l.length ce) ∧ V.cell? ⟨b, off + i * 6, none⟩ = some (.int .i64 x.k) ∧ V.cell? ⟨b, off + i * 6 + 1, none⟩ = some (.int .u64 x.s.a) ∧ V.cell? ⟨b, off + i * 6 + 2, none⟩ = some (.int .u64 x.s.b) ∧ V.cell? ⟨b, off + i * 6 + 3, none⟩ = some (.int .u64 x.s.c) ∧ V.cell? ⟨b, off + i * 6 + 4, none⟩ = some (.int .u64 x.s.d) ∧ V.cell? ⟨b, off + i * 6 + 5, none⟩ = some (.slice ox x.l.length cx)) := Lib.hid (fun V hV => by
        have hbb : b < wr.heap.size := by have : b < w.heap.size := hb; omega
        exact ⟨(HO.out.up hV).cells.2.2.2.2.2, (HTb.out.up hV).cells.2.2.2.2.2, (hV.cell (p := ⟨b, _, none⟩) hbb).trans p0, (hV.cell (p := ⟨b, _, none⟩) hbb).trans p1, (hV.cell (p := ⟨b, _, none⟩) hbb).trans p2, (hV.cell (p := ⟨b, _, none⟩) hbb).trans p3, (hV.cell (p := ⟨b, _, none⟩) hbb).trans p4, (hV.cell (p := ⟨b, _, none⟩) hbb).trans p5⟩)
      have hTxd : HT wr.drew (· < wr.drew.heap.size) (.slice ox x.l.length cx) x.l := hTx.later (fun _ h => by show _ < wr.heap.size; have : _ < w.heap.size := h; omega) (fun _ _ _ => rfl)
      have hC := HIH.out x hxm wr.drew ox cx hTxd
      unfold PT.val at hC
      have HC := Lib.hid hC
      obtain ⟨k0, k1, k2, k3, k4, k5, k6, k7⟩ := HEl.out wr.drew (Below.refl _ _).drew
      obtain ⟨t0, t1, t2, t3, t4, t5⟩ := HTb.out.cells
      -- what stands behind the append
      have HAP : Hid (∀ (V W2 : World) (B : Obj), Below wr.heap.size wr V → (V.alloc B).grownBy W2 (Value.slice oc i cc).ownBlock → TR W2 (w.heap.size + 2) 31 v (.slice oc i cc) ∧ TR W2 (w.heap.size + 1) 31 (PT.mk 0 .zero []) (.slice none 0 0) ∧ TR W2 w.heap.size 26 v (.slice (some ⟨b, off, none⟩) v.l.length ce) ∧ Below w.heap.size w W2 ∧ w.heap.size + 3 ≤ W2.heap.size) := Lib.hid (fun V W2 B hV hg => by
        have hsV := hV.size
        have hsW := hg.size
        rw [World.size_alloc] at hsW
        have hblk : ∀ q, q < w.heap.size + 3 → W2.heap[q]? = wr.heap[q]? := fun q hq => (hg.block q (by rw [World.size_alloc]; omega) (fun e => by have := (own_lt HOw.out q e.symm).1; omega)).trans (((below1 V B).block q (by omega)).trans (hV.block q (by omega)))
        refine ⟨(hblk _ (by omega)).trans HO.out, (hblk _ (by omega)).trans HR.out, (hblk _ (by omega)).trans HTb.out, HB.out.trans ⟨hg.os.trans ((below1 V B).os.trans hV.os), hg.tape.trans ((below1 V B).tape.trans hV.tape), hg.output.trans ((below1 V B).output.trans hV.output), by omega, fun q hq => hblk q (by omega)⟩, by omega⟩)
      have hn1 : i + 1 ≤ maxLen := by unfold maxLen; omega
      have hby : (i + 1) * 64 ≤ 140737488355328 := by omega
      clear hx hxm hb hTx hps ho hr hpl hTxd hC p0 p1 p2 p3 p4 p5
      go_wp2_with fail
      go_region_law (first
        | (go_simp; go_at_call 6; refine HC.out.mono ?_; rintro e w5 ⟨⟨oy, cy, rfl, hty⟩, hb5⟩
           have hq5 : Below wr.heap.size wr w5 := (Below.refl _ _).drew.trans hb5
           have HB5 := Lib.hid hq5
           have hs5 := hq5.size
           have m0 := (HO.out.up hq5).cells.2.2.2.2.2
           have m1 := fun X => ((HO.out.up hq5).up (below1 w5 X)).cells.2.2.2.2.2
           have HTY := Lib.hid hty
           have HO6 : Hid ((w5.alloc (.cells #[.int .i64 x.k, .int .u64 x.s.a, .int .u64 x.s.b, .int .u64 x.s.c, .int .u64 x.s.d, .slice oy x.l.length cy] 31)).ownsRow (w.heap.size + 3) 31 6 (.slice oc i cc) i (flatP ps)) := Lib.hid (own_keep HOw.out (fun q cur hq _ => below_keep (hq5.trans ((below1 w5 _).mono hq5.size)) hq))
           have HBK : Hid (∀ W2, (w5.alloc (.cells #[.int .i64 x.k, .int .u64 x.s.a, .int .u64 x.s.b, .int .u64 x.s.c, .int .u64 x.s.d, .slice oy x.l.length cy] 31)).grownBy W2 (Value.slice oc i cc).ownBlock → W2.heap[b]? = wr.heap[b]?) := Lib.hid (fun W2 hg => by
             have hbl : b < w.heap.size := HBl.out
             exact (hg.block b (by rw [World.size_alloc]; have := hq5.size; omega) (fun e => by have := (own_lt HOw.out b e.symm).1; omega)).trans (((below1 w5 _).block b (by have := hq5.size; omega)).trans (hq5.block b (by omega))))
           clear hb5 hq5 hty
           try dsimp only)
        | (have hz5 := HB5; clear hz5
           refine step_append_lies _ (by rfl) _ _ _ (by rfl) (w.heap.size + 3) 31 i0 _ 6 64 Tryd.underlying29 hinf hz0 hz1 hz2 rfl (by omega) (.slice oc i cc) i (flatP ps) (by rfl) HO6.out
              ⟨w5.heap.size, 0, none⟩ 1 1 [.int .i64 x.k, .int .u64 x.s.a, .int .u64 x.s.b, .int .u64 x.s.c, .int .u64 x.s.d, .slice oy x.l.length cy] (by rfl) (by rfl) (World.news_of_block (cs := #[.int .i64 x.k, .int .u64 x.s.a, .int .u64 x.s.b, .int .u64 x.s.c, .int .u64 x.s.d, .slice oy x.l.length cy]) (t := 31) (fr := (0, 0)) (new_at w5 _)) (by simp [Value.oneCell']) (by omega) hn1 hby (by simp; omega) (w5.heap.size + 1) (by simp) ?_
           intro gg cap2 w7 hown7 hgrow hat hgl
           obtain ⟨r0, r1, r2, r3, r4⟩ := HAP.out w5 w7 _ HB5.out hgrow
           have kk := r0.cells.2.2.2.2.2
           have kf := r0.free 5
           have HR0 := Lib.hid r0
           have HR1 := Lib.hid r1
           have HR2 := Lib.hid r2
           have HR3 := Lib.hid r3
           have HR4 := Lib.hid r4
           have HOW := Lib.hid hown7
           have HGR := Lib.hid hgrow
           have HAT := Lib.hid hat
           have HGL := Lib.hid hgl
           clear r0 r1 r2 r3 r4 hown7 hgrow hat hgl))
      all_goals
        have hs57 := HR4.out
        have HA7 : Hid (Acc w7 (w.heap.size + 3) (.slice (some ⟨gg, 0, none⟩) (i + 1) cap2) (v.l.take (i + 1))) := Lib.hid (by
          have hpl := HPL.out
          have h := Acc.snoc (w := w5.alloc (.cells #[.int .i64 x.k, .int .u64 x.s.a, .int .u64 x.s.b, .int .u64 x.s.c, .int .u64 x.s.d, .slice oy x.l.length cy] 31)) (base := w.heap.size + 3) (v := x) (ps := ps) (H := wr.heap.size) (sl := .slice oc i cc) (slv := .slice oy x.l.length cy) (by rw [hpl]; exact HO6.out)
            (fun p hp => (HHr.out p hp).later (fun q hq => ⟨⟨hq.1.1, by rw [World.size_alloc]; have := hq.1.2; omega⟩, hq.2⟩) (fun q hq o => ((below1 w5 (.cells #[.int .i64 x.k, .int .u64 x.s.a, .int .u64 x.s.b, .int .u64 x.s.c, .int .u64 x.s.d, .slice oy x.l.length cy] 31)).mono hs5 |>.cell (p := ⟨q, o, none⟩) hq.1.2).trans (HB5.out.cell (p := ⟨q, o, none⟩) hq.1.2)))
            (HTY.out.later (fun q hq => ⟨hq.1, by rw [World.size_alloc]; have := hq.2; omega⟩) (fun q hq o => (below1 w5 (.cells #[.int .i64 x.k, .int .u64 x.s.a, .int .u64 x.s.b, .int .u64 x.s.c, .int .u64 x.s.d, .slice oy x.l.length cy] 31)).cell (p := ⟨q, o, none⟩) hq.2)) (by omega) (fun q hq => (own_lt HOw.out q hq).2) (by rw [hpl]; exact HOW.out) HGR.out (by rw [World.size_alloc]; exact HAT.out) HGL.out
          rw [hpl, HPS.out, ← HTk.out] at h
          exact h)
        have HA8 : Hid (Acc (w7.setCell ⟨w.heap.size + 2, 5, none⟩ (.slice (some ⟨gg, 0, none⟩) (i + 1) cap2)) (w.heap.size + 3) (.slice (some ⟨gg, 0, none⟩) (i + 1) cap2) (v.l.take (i + 1))) := Lib.hid (HA7.out.kp ((Kp.refl w7.heap.size (Is (w.heap.size + 2)) w7).set ⟨w.heap.size + 2, 5, none⟩ (Is.self _) _) (Nat.le_refl _) (fun k hk h => by unfold Is at h; omega))
        have HO8 : Hid (TR (w7.setCell ⟨w.heap.size + 2, 5, none⟩ (.slice (some ⟨gg, 0, none⟩) (i + 1) cap2)) (w.heap.size + 2) 31 v (.slice (some ⟨gg, 0, none⟩) (i + 1) cap2)) := Lib.hid (HR0.out.put _)
        have HR8 : Hid (TR (w7.setCell ⟨w.heap.size + 2, 5, none⟩ (.slice (some ⟨gg, 0, none⟩) (i + 1) cap2)) (w.heap.size + 1) 31 (PT.mk 0 .zero []) (.slice none 0 0)) := Lib.hid (HR1.out.far (by omega) _ _)
        have HT8 : Hid (TR (w7.setCell ⟨w.heap.size + 2, 5, none⟩ (.slice (some ⟨gg, 0, none⟩) (i + 1) cap2)) w.heap.size 26 v (.slice (some ⟨b, off, none⟩) v.l.length ce)) := Lib.hid (HR2.out.far (by omega) _ _)
        have HB8 : Hid (Below w.heap.size w (w7.setCell ⟨w.heap.size + 2, 5, none⟩ (.slice (some ⟨gg, 0, none⟩) (i + 1) cap2))) := Lib.hid (HR3.out.setCell (p := ⟨w.heap.size + 2, 5, none⟩) (by show w.heap.size ≤ w.heap.size + 2; omega) _)
        have HTT8 : Hid (HT (w7.setCell ⟨w.heap.size + 2, 5, none⟩ (.slice (some ⟨gg, 0, none⟩) (i + 1) cap2)) (· < w.heap.size) (.slice (some ⟨b, off, none⟩) v.l.length ce) v.l) := Lib.hid (HT0.out.later (fun _ h => h) fun q hq o => HB8.out.cell (p := ⟨q, o, none⟩) hq)
        have hs8 : w.heap.size + 3 ≤ (w7.setCell ⟨w.heap.size + 2, 5, none⟩ (.slice (some ⟨gg, 0, none⟩) (i + 1) cap2)).heap.size := by rw [World.size_setCell]; exact hs57
        clear HA7 HR0 HR1 HR2 HR3 HR4 HOW HGR HAT HGL HO6 HBK HTY HB5 m0 m1 k0 k1 k2 k3 k4 k5 k6 k7 kk kf HAP HEl HOw HHr HPS HPL HC HXT HBl
        go_wp2_with fail
        go_roundw
        case rel => exact ⟨i + 1, some ⟨gg, 0, none⟩, cap2, by first | rfl | go_num, hlt, HO8, HR8, HT8, HA8, HTT8, HB8, hs8⟩
        case measure => simp [intOf]; omega
    · have hltI : ¬ ((i : Int) < (v.l.length : Int)) := by omega
      obtain rfl : i = v.l.length := by omega
      obtain ⟨t0, t1, t2, t3, t4, t5⟩ := HTb.out.cells
      obtain ⟨o0, o1, o2, o3, o4, o5⟩ := HO.out.cells
      obtain ⟨r0, r1, r2, r3, r4, r5⟩ := HR.out.cells
      have f0 := fun k => HR.out.free k
      have HAe : Hid (HT wr (Btw (w.heap.size + 3) wr.heap.size) (.slice oc v.l.length cc) v.l) := Lib.hid (by
        have h := HA.out
        rw [List.take_length] at h
        exact h.repS hlm)
      clear HO HR HTb HA HTT
      go_wp2_with fail
      refine bodyPost_ret (v := .agg #[.int .i64 v.k, .int .u64 v.s.a, .int .u64 v.s.b, .int .u64 v.s.c, .int .u64 v.s.d, .slice oc v.l.length cc]) (by simp [results, Tryd.results6, go_sem, *]) rfl ?_
      refine ⟨⟨oc, cc, rfl, ?_⟩, below6 HB.out (by omega) _ _ _ _ _ _⟩
      refine HAe.out.later (fun q hq => ⟨by have := hq.1; omega, by simp only [World.size_setCell]; exact hq.2⟩) (fun q hq o => ?_)
      exact World.cell?_of_block (w := wr) (a := ⟨q, o, none⟩) (at6 (show q ≠ w.heap.size + 1 by have h9 : w.heap.size + 3 ≤ q := hq.1; omega) _ _ _ _ _ _)
theorem plain_any (v : PT) : PlOk v := by
  induction v using PT.ind with
  | h v ih => exact plain_step v ih
end Go.Proofs.YtkogldlhidppaaaDoor
