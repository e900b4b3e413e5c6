/-
  Get, Peek, Clear and New of the specification of the cache. Nothing is assumed.
-/
import Derived.Test.YtbimpfciadbnjaaCaRfC
import Derived.Test.YtbimpfciadbnjaaCaGet
namespace Go.Proofs.Ytbimpfciadbnjaa
open Go.RowKit

/-- A boxed term. -/
def TmB (w : World) (b : Nat) (r : Int) (v : Value) : Prop := w.heap[b]? = some (.cells #[.int .i64 r, v] 36 (0, 0))
theorem TmB.cells {w : World} {b : Nat} {r : Int} {v : Value} (H : TmB w b r v) : w.cell? ⟨b, 0, none⟩ = some (.int .i64 r) ∧ w.cell? ⟨b, 1, none⟩ = some v := by
  unfold TmB at H
  refine ⟨?_, ?_⟩ <;> (unfold World.cell?; rw [H]; rfl)
theorem TmB.frozen {w : World} {b : Nat} {r : Int} {v : Value} (H : TmB w b r v) (o : Nat) : w.frozen? ⟨b, o, none⟩ = false := by
  unfold World.frozen?
  rw [show w.heap[b]? = _ from H]
  simp
theorem TmB.keep {w w' : World} {b : Nat} {r : Int} {v : Value} (H : TmB w b r v) (hk : w'.heap[b]? = w.heap[b]?) : TmB w' b r v := hk.trans H
theorem TmB.two {w : World} {b : Nat} {r : Int} {v : Value} (H : TmB w b r v) (r' : Int) (v' : Value) : ∃ w', w' = (w.setCell ⟨b, 0, none⟩ (.int .i64 r')).setCell ⟨b, 1, none⟩ v' ∧ TmB w' b r' v' ∧ w'.heap.size = w.heap.size ∧ (∀ k, k ≠ b → w'.heap[k]? = w.heap[k]?) ∧ ∀ B, B ≤ b → Below B w w' := by
  refine ⟨_, rfl, ?_, ?_, fun k hk => ?_, fun B hB => ?_⟩
  · unfold TmB at H ⊢
    have h0 := heap_setCell_same w b 0 _ _ (.int .i64 r') H
    exact heap_setCell_same _ b 1 _ _ v' h0
  · simp
  · rw [heap_setCell_other _ _ _ _ hk, heap_setCell_other _ _ _ _ hk]
  · exact ((Below.refl B w).setCell (p := ⟨b, 0, none⟩) hB _).setCell (p := ⟨b, 1, none⟩) hB _
theorem StB.set4 {w : World} {b : Nat} {cap h m r : Int} {xk xt : Value} (H : StB w b cap h m r xk xt) (m' : Int) : StB (w.setCell ⟨b, 4, none⟩ (.int .i64 m')) b cap h m' r xk xt := heap_setCell_same _ _ _ _ _ _ H
theorem StB.set3 {w : World} {b : Nat} {cap h m r : Int} {xk xt : Value} (H : StB w b cap h m r xk xt) (h' : Int) : StB (w.setCell ⟨b, 3, none⟩ (.int .i64 h')) b cap h' m r xk xt := heap_setCell_same _ _ _ _ _ _ H

/-- What Get and Peek of the specification return. -/
def RetG (w w' : World) (G : Nat → Prop) (cap h m r : Int) (q' : List Ent) (o : Option T) (e : Ending) : Prop :=
  ∃ xk xt, RefQ w' (fun b => G b ∨ w.heap.size ≤ b ∧ b < w'.heap.size) xk xt q' ∧
    match o with
    | none => e = .returned (.tuple #[stV cap h m r xk xt, .agg #[.int .i64 0, .slice none 0 0], .bool false])
    | some t => ∃ sl, e = .returned (.tuple #[stV cap h m r xk xt, .agg #[.int .i64 t.r, sl], .bool true]) ∧ RP w' (fun b => G b ∨ w.heap.size ≤ b ∧ b < w'.heap.size) sl t.l
def RetP (w' : World) (G : Nat → Prop) (o : Option T) (e : Ending) : Prop :=
  match o with
  | none => e = .returned (.tuple #[.agg #[.int .i64 0, .slice none 0 0], .bool false])
  | some t => ∃ sl, e = .returned (.tuple #[.agg #[.int .i64 t.r, sl], .bool true]) ∧ RP w' G sl t.l

set_option maxRecDepth 100000 in
set_option maxHeartbeats 1600000 in
theorem rpeek_any (cap h m r : Nat) (xk xt : Value) (q : List Ent) (k : ByteArray) (w : World) (G : Nat → Prop) (hR : RefQ w G xk xt q) (hG : ∀ b, G b → b < w.heap.size) :
    Calls Try.prog 18 #[stV cap h m r xk xt, .string k] w fun e w' => RetP w' G (fnd q k) e ∧ Below w.heap.size w w' := by
  have HRQ := Lib.hid hR
  obtain ⟨ok, ck, ot, ct, rfl, rfl, _, _, _⟩ := hR.form
  obtain ⟨W, hW⟩ : ∃ W, W = (w.alloc (.cells #[.int .i64 cap, .slice ok q.length ck, .slice ot q.length ct, .int .i64 h, .int .i64 m, .int .i64 r] 32)).alloc (.cells #[.int .i64 0, .slice none 0 0] 36) := ⟨_, rfl⟩
  have hbW : Below w.heap.size w W := by rw [hW]; exact below2 _ _ _
  have hzW : W.heap.size = w.heap.size + 2 := by rw [hW]; simp
  have hS : StB W w.heap.size cap h m r (.slice ok q.length ck) (.slice ot q.length ct) := by
    rw [hW]
    exact (StB.new w cap h m r (.slice ok q.length ck) (.slice ot q.length ct)).keep (Below.heap_alloc _ _ _ (by simp))
  have hT : TmB W (w.heap.size + 1) 0 (.slice none 0 0) := by
    rw [hW]
    have h := heap_alloc_new (w.alloc (.cells #[.int .i64 cap, .slice ok q.length ck, .slice ot q.length ct, .int .i64 h, .int .i64 m, .int .i64 r] 32)) (.cells #[.int .i64 0, .slice none 0 0] 36)
    simp only [World.size_alloc] at h
    exact h
  have hGW : ∀ b, G b → b < W.heap.size := fun b hb => Nat.lt_of_lt_of_le (hG b hb) hbW.size
  have hRW := hR.keep (w' := W) (G' := G) (fun b hb => hbW.block b (hG b hb)) fun _ h => h
  have HP := Lib.hid (place_any cap h m r _ _ q k W G hRW hGW)
  have HBW := Lib.hid hbW
  have HGW := Lib.hid hGW
  have HGB := Lib.hid hG
  have HRW := Lib.hid hRW
  have HS := Lib.hid hS
  have HT := Lib.hid hT
  obtain ⟨d0, d1, d2, d3, d4, d5⟩ := hS.cells
  clear hR hbW hS hT hGW hRW
  cases hidx : idxQ q k with
  | none =>
    have hpl : plQ q k = -1 := by unfold plQ; rw [hidx]
    have HF := Lib.hid (idxQ_none hidx)
    rw [hpl] at HP
    clear hidx hpl
    go_enter Try.func18, Try.ntmps18
    rw [hW] at d0 d1 d2 d3 d4 d5
    go_wp2_with fail
    rw [← hW]
    clear hW d0 d1 d2 d3 d4 d5
    refine HP.out.mono ?_
    rintro e w1 ⟨rfl, hb1⟩
    have hT1 := HT.out.keep (hb1.block (w.heap.size + 1) (by omega))
    obtain ⟨t0, t1⟩ := hT1.cells
    have tf := hT1.frozen
    obtain ⟨w9, hw9, hT9, hz9, hk9, hb9⟩ := hT1.two 0 (.slice none 0 0)
    have HB1 := Lib.hid hb1
    clear hT1 hb1 HP
    go_wp2_with fail
    rw [show w.heap.size + 1 + 0 = w.heap.size + 1 from rfl] at hw9 
    rw [← hw9]
    obtain ⟨u0, u1⟩ := hT9.cells
    have HB9 := Lib.hid (hb9 w.heap.size (by omega))
    clear hw9 hT9 hz9 hk9 hb9 t0 t1 tf
    refine bodyPost_ret (v := .tuple #[.agg #[.int .i64 0, .slice none 0 0], .bool false]) (by simp [results, Try.results18, go_sem, *]) rfl ?_
    exact ⟨by rw [HF.out]; rfl, (HBW.out.trans (HB1.out.mono (by omega))).trans HB9.out⟩
  | some i =>
    obtain ⟨hi, hik, hfn, _⟩ := idxQ_some hidx
    have hpl : plQ q k = (i : Int) := by unfold plQ; rw [hidx]
    rw [hpl] at HP
    have q0 : (0 : Int) ≤ (i : Int) := by omega
    have q1 : (i : Int) < (q.length : Int) := by omega
    obtain ⟨_, _, _, h4⟩ := HRW.out.2.slice
    obtain ⟨bt, ft, oe, ce, rfl, hbt, e0, e1, hRe⟩ := h4 i q[i].2 (by simp [List.getElem?_eq_getElem hi])
    obtain ⟨t, ht⟩ : ∃ t, q[i].2 = t := ⟨_, rfl⟩
    rw [ht] at e0 e1 hRe hfn
    have HF := Lib.hid hfn
    have HRE := Lib.hid hRe
    clear hidx hpl hfn ht hRe h4
    go_enter Try.func18, Try.ntmps18
    rw [hW] at d0 d1 d2 d3 d4 d5
    go_wp2_with fail
    rw [← hW]
    clear hW d0 d1 d2 d3 d4 d5
    refine HP.out.mono ?_
    rintro e w1 ⟨rfl, hb1⟩
    have hT1 := HT.out.keep (hb1.block (w.heap.size + 1) (by omega))
    have hS1 := HS.out.keep (hb1.block w.heap.size (by omega))
    obtain ⟨_, _, d2, _⟩ := hS1.cells
    obtain ⟨t0, t1⟩ := hT1.cells
    have tf := hT1.frozen
    rw [← hb1.cell (p := ⟨bt, _, none⟩) (HGW.out bt hbt)] at e0 e1
    obtain ⟨w9, hw9, hT9, hz9, hk9, hb9⟩ := hT1.two t.r (.slice oe t.l.length ce)
    have hR9 := HRE.out.keep (w' := w9) (P' := G) (fun b hb => (hk9 b (by have := HGB.out b hb; omega)).trans (hb1.block b (HGW.out b hb))) fun _ h => h
    have HB1 := Lib.hid hb1
    have HR9 := Lib.hid hR9
    clear hT1 hS1 hb1 HP hR9
    go_wp2_with fail
    rw [← hw9]
    obtain ⟨u0, u1⟩ := hT9.cells
    have HB9 := Lib.hid (hb9 w.heap.size (by omega))
    clear hw9 hT9 hz9 hk9 hb9 t0 t1 tf e0 e1
    refine bodyPost_ret (v := .tuple #[.agg #[.int .i64 t.r, .slice oe t.l.length ce], .bool true]) (by simp [results, Try.results18, go_sem, *]) rfl ?_
    exact ⟨by rw [HF.out]; exact ⟨_, rfl, HR9.out⟩, (HBW.out.trans (HB1.out.mono (by omega))).trans HB9.out⟩

set_option maxRecDepth 100000 in
set_option maxHeartbeats 1600000 in
theorem rclear_any (cap h m r : Nat) (xk xt : Value) (q : List Ent) (w : World) (G : Nat → Prop) (hR : RefQ w G xk xt q) :
    Calls Try.prog 20 #[stV cap h m r xk xt] w fun e w' => e = .returned (stV cap h m r (.slice none 0 0) (.slice none 0 0)) ∧ Below w.heap.size w w' := by
  obtain ⟨ok, ck, ot, ct, rfl, rfl, _, _, _⟩ := hR.form
  clear hR
  go_enter Try.func20, Try.ntmps20
  go_wp2_with fail
  refine bodyPost_ret (v := stV cap h m r (.slice none 0 0) (.slice none 0 0)) (by simp [results, Try.results20, go_sem, *]) rfl ?_
  exact ⟨rfl, below2 _ _ _⟩

set_option maxRecDepth 100000 in
set_option maxHeartbeats 1600000 in
theorem rnew_any (w : World) (cap : Int) (h1 : ¬ cap < 1) (h2 : ¬ 4096 < cap) :
    Calls Try.prog 11 #[.int .i64 cap] w fun e w' => e = .returned (.tuple #[stV cap 0 0 0 (.slice none 0 0) (.slice none 0 0), .int .i64 0]) ∧ Below w.heap.size w w' := by
  go_enter Try.func11, Try.ntmps11
  go_wp2_with fail
  refine bodyPost_ret (v := .tuple #[stV cap 0 0 0 (.slice none 0 0) (.slice none 0 0), .int .i64 0]) (by simp [results, Try.results11, go_sem, *]) rfl ?_
  exact ⟨rfl, below1 _ _⟩

set_option maxRecDepth 100000 in
set_option maxHeartbeats 1600000 in
theorem rnew_no (w : World) (cap : Int) (hc : cap < 1 ∨ 4096 < cap) :
    Calls Try.prog 11 #[.int .i64 cap] w fun e w' => e = .returned (.tuple #[stV 0 0 0 0 (.slice none 0 0) (.slice none 0 0), .int .i64 1]) ∧ Below w.heap.size w w' := by
  by_cases h1 : cap < 1
  · clear hc
    go_enter Try.func11, Try.ntmps11
    go_wp2_with fail
    refine bodyPost_ret (v := .tuple #[stV 0 0 0 0 (.slice none 0 0) (.slice none 0 0), .int .i64 1]) (by simp [results, Try.results11, go_sem, *]) rfl ?_
    exact ⟨rfl, below1 _ _⟩
  · have h2 : 4096 < cap := by omega
    clear hc
    go_enter Try.func11, Try.ntmps11
    go_wp2_with fail
    refine bodyPost_ret (v := .tuple #[stV 0 0 0 0 (.slice none 0 0) (.slice none 0 0), .int .i64 1]) (by simp [results, Try.results11, go_sem, *]) rfl ?_
    exact ⟨rfl, below1 _ _⟩

end Go.Proofs.Ytbimpfciadbnjaa
