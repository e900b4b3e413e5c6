/-
  place and first of the specification of the cache. Nothing is assumed.
-/
import Derived.Test.YtbimpfciadbnjaaCaRst
import Derived.Test.YtbimpfciadbnjaaCaPure
import Derived.BigQuiet
import Derived.WalkKit
namespace Go.Proofs.Ytbimpfciadbnjaa
open Go.RowKit

/-- The position of a key. -/
def idxQ : List Ent → ByteArray → Option Nat
  | [], _ => none
  | e :: q, k => if e.1 = k then some 0 else (idxQ q k).map (· + 1)
def plQ (q : List Ent) (k : ByteArray) : Int := match idxQ q k with | some i => (i : Int) | none => -1
theorem idxQ_some {q : List Ent} {k : ByteArray} : ∀ {i : Nat}, idxQ q k = some i → ∃ h : i < q.length, q[i].1 = k ∧ fnd q k = some q[i].2 ∧ del q k = q.take i ++ q.drop (i + 1) := by
  induction q with
  | nil => intro i h; cases h
  | cons e q ih =>
    intro i h
    rw [idxQ] at h
    by_cases he : e.1 = k
    · rw [if_pos he] at h
      cases h
      exact ⟨by simp, he, by rw [fnd, if_pos he]; rfl, by rw [del, if_pos he]; rfl⟩
    · rw [if_neg he] at h
      obtain ⟨j, hj, rfl⟩ := Option.map_eq_some_iff.1 h
      obtain ⟨h1, h2, h3, h4⟩ := ih hj
      exact ⟨by simp; omega, by simpa using h2, by rw [fnd, if_neg he, h3]; rfl, by rw [del, if_neg he, h4]; rfl⟩
theorem idxQ_none {q : List Ent} {k : ByteArray} (h : idxQ q k = none) : fnd q k = none := by
  induction q with
  | nil => rfl
  | cons e q ih =>
    rw [idxQ] at h
    by_cases he : e.1 = k
    · rw [if_pos he] at h; cases h
    · rw [if_neg he, Option.map_eq_none_iff] at h
      rw [fnd, if_neg he, ih h]
theorem plQ_at {q : List Ent} {k : ByteArray} {i : Nat} (hi : i < q.length) (hno : ∀ (j : Nat) (hj : j < q.length), j < i → q[j].1 ≠ k) (he : q[i].1 = k) : plQ q k = i := by
  have h : idxQ q k = some i := by
    induction q generalizing i with
    | nil => simp at hi
    | cons e q ih =>
      rw [idxQ]
      match i, hi, hno, he with
      | 0, _, _, he => rw [if_pos (by simpa using he)]
      | i + 1, hi, hno, he =>
        rw [if_neg (show ¬ e.1 = k from hno 0 (by simp) (by omega)), ih (i := i) (by simpa using hi) (fun j hj hlt => hno (j + 1) (Nat.succ_lt_succ hj) (by omega)) he]
        rfl
  unfold plQ
  rw [h]
theorem plQ_no {q : List Ent} {k : ByteArray} (hno : ∀ (j : Nat) (hj : j < q.length), q[j].1 ≠ k) : plQ q k = -1 := by
  have h : idxQ q k = none := by
    induction q with
    | nil => rfl
    | cons e q ih =>
      rw [idxQ, if_neg (show ¬ e.1 = k from hno 0 (by simp)), ih (fun j hj => hno (j + 1) (Nat.succ_lt_succ hj))]
      rfl
  unfold plQ
  rw [h]

/-- A boxed state. -/
def StB (w : World) (b : Nat) (cap h m r : Int) (xk xt : Value) : Prop := w.heap[b]? = some (.cells #[.int .i64 cap, xk, xt, .int .i64 h, .int .i64 m, .int .i64 r] 32 (0, 0))
theorem StB.new (w : World) (cap h m r : Int) (xk xt : Value) : StB (w.alloc (.cells #[.int .i64 cap, xk, xt, .int .i64 h, .int .i64 m, .int .i64 r] 32)) w.heap.size cap h m r xk xt := heap_alloc_new _ _
theorem StB.keep {w w' : World} {b : Nat} {cap h m r : Int} {xk xt : Value} (H : StB w b cap h m r xk xt) (hk : w'.heap[b]? = w.heap[b]?) : StB w' b cap h m r xk xt := hk.trans H
theorem StB.cells {w : World} {b : Nat} {cap h m r : Int} {xk xt : Value} (H : StB w b cap h m r xk xt) : w.cell? ⟨b, 0, none⟩ = some (.int .i64 cap) ∧ w.cell? ⟨b, 1, none⟩ = some xk ∧ w.cell? ⟨b, 2, none⟩ = some xt ∧ w.cell? ⟨b, 3, none⟩ = some (.int .i64 h) ∧
    w.cell? ⟨b, 4, none⟩ = some (.int .i64 m) ∧ w.cell? ⟨b, 5, none⟩ = some (.int .i64 r) := by
  unfold StB at H
  refine ⟨?_, ?_, ?_, ?_, ?_, ?_⟩ <;> (unfold World.cell?; rw [H]; rfl)
theorem StB.frozen {w : World} {b : Nat} {cap h m r : Int} {xk xt : Value} (H : StB w b cap h m r xk xt) (o : Nat) : w.frozen? ⟨b, o, none⟩ = false := by
  unfold World.frozen?
  rw [show w.heap[b]? = _ from H]
  simp
theorem StB.lt {w : World} {b : Nat} {cap h m r : Int} {xk xt : Value} (H : StB w b cap h m r xk xt) : b < w.heap.size := (Array.getElem?_eq_some_iff.1 H).1
theorem StB.set1 {w : World} {b : Nat} {cap h m r : Int} {xk xt : Value} (H : StB w b cap h m r xk xt) (v : Value) : StB (w.setCell ⟨b, 1, none⟩ v) b cap h m r v xt := heap_setCell_same _ _ _ _ _ _ H
theorem StB.set2 {w : World} {b : Nat} {cap h m r : Int} {xk xt : Value} (H : StB w b cap h m r xk xt) (v : Value) : StB (w.setCell ⟨b, 2, none⟩ v) b cap h m r xk v := heap_setCell_same _ _ _ _ _ _ H

/-- The whole of a boxed state, written. -/
theorem StB.six {w : World} {b : Nat} {cap h m r : Int} {xk xt : Value} (H : StB w b cap h m r xk xt) (cap' h' m' r' : Int) (yk yt : Value) :
    ∃ w', w' = (((((w.setCell ⟨b, 0, none⟩ (.int .i64 cap')).setCell ⟨b, 1, none⟩ yk).setCell ⟨b, 2, none⟩ yt).setCell ⟨b, 3, none⟩ (.int .i64 h')).setCell ⟨b, 4, none⟩ (.int .i64 m')).setCell ⟨b, 5, none⟩ (.int .i64 r') ∧
      StB w' b cap' h' m' r' yk yt ∧ w'.heap.size = w.heap.size ∧ (∀ k, k ≠ b → w'.heap[k]? = w.heap[k]?) ∧ ∀ B, B ≤ b → Below B w w' := by
  refine ⟨_, rfl, ?_, ?_, fun k hk => ?_, fun B hB => ?_⟩
  · unfold StB at H ⊢
    have h0 := heap_setCell_same w b 0 _ _ (.int .i64 cap') H
    have h1 := heap_setCell_same _ b 1 _ _ yk h0
    have h2 := heap_setCell_same _ b 2 _ _ yt h1
    have h3 := heap_setCell_same _ b 3 _ _ (.int .i64 h') h2
    have h4 := heap_setCell_same _ b 4 _ _ (.int .i64 m') h3
    exact heap_setCell_same _ b 5 _ _ (.int .i64 r') h4
  · simp
  · rw [heap_setCell_other _ _ _ _ hk, heap_setCell_other _ _ _ _ hk, heap_setCell_other _ _ _ _ hk, heap_setCell_other _ _ _ _ hk, heap_setCell_other _ _ _ _ hk, heap_setCell_other _ _ _ _ hk]
  · exact ((((((Below.refl B w).setCell (p := ⟨b, 0, none⟩) hB _).setCell (p := ⟨b, 1, none⟩) hB _).setCell (p := ⟨b, 2, none⟩) hB _).setCell (p := ⟨b, 3, none⟩) hB _).setCell (p := ⟨b, 4, none⟩) hB _).setCell (p := ⟨b, 5, none⟩) hB _

set_option maxRecDepth 100000 in
set_option maxHeartbeats 1600000 in
theorem place_any (cap h m r : Int) (xk xt : Value) (q : List Ent) (k : ByteArray) (w : World) (G : Nat → Prop) (hR : RefQ w G xk xt q) (hG : ∀ b, G b → b < w.heap.size) :
    Calls Try.prog 31 #[stV cap h m r xk xt, .string k] w fun e w' => e = .returned (.int .i64 (plQ q k)) ∧ Below w.heap.size w w' := by
  have HRQ := Lib.hid hR
  obtain ⟨ok, ck, ot, ct, rfl, rfl, _, _, _⟩ := hR.form
  have hb1 := below1 w (.cells #[.int .i64 cap, .slice ok q.length ck, .slice ot q.length ct, .int .i64 h, .int .i64 m, .int .i64 r] 32)
  have HB := Lib.hid (StB.new w cap h m r (.slice ok q.length ck) (.slice ot q.length ct))
  have HK := Lib.hid (hR.1.keep (w' := w.alloc (.cells #[.int .i64 cap, .slice ok q.length ck, .slice ot q.length ct, .int .i64 h, .int .i64 m, .int .i64 r] 32)) (Q := G) (fun _ h _ => h) (fun b o hb _ => hb1.cell (p := ⟨b, o, none⟩) (hG b hb)))
  have HB1 := Lib.hid hb1
  clear hR hb1
  go_enter Try.func31, Try.ntmps31
  go_wp2_with fail
  generalize w.alloc (.cells #[.int .i64 cap, .slice ok q.length ck, .slice ot q.length ct, .int .i64 h, .int .i64 m, .int .i64 r] 32) = W at *
  go_loopw [5] (fun i wr => ∃ j : Nat, j ≤ q.length ∧ i = .int .i64 j ∧ Hid (∀ (p : Nat) (hp : p < q.length), p < j → q[p].1 ≠ k) ∧ wr = W) (fun i _ => q.length - (intOf i).toNat)
  case atStart => exact ⟨0, Nat.zero_le _, rfl, Lib.hid (fun p hp h => by omega), by first | trivial | rfl⟩
  case round =>
    obtain ⟨j, hj, rfl, HNO, hwr⟩ := hrel
    obtain rfl := hwr.symm
    obtain ⟨_, c1, _⟩ := HB.out.cells
    by_cases hlt : j < q.length
    · obtain ⟨b, off, rfl, _, c2⟩ := HK.out.at_ (i := j) (z := q[j].1) (by simp [hlt])
      have q0 : (0 : Int) ≤ (j : Int) := by omega
      have q1 : (j : Int) < (q.length : Int) := by omega
      by_cases he : q[j].1 = k
      · have hq : (q[j].1.toList == k.toList) = true := by rw [he]; simp
        have HE := Lib.hid (plQ_at hlt HNO.out he)
        clear he
        go_wp2_with fail
        go_ret
        exact ⟨ret_int HE.out.symm, HB1.out⟩
      · have hq := str_ne he
        have HN := Lib.hid (show ∀ (p : Nat) (hp : p < q.length), p < j + 1 → q[p].1 ≠ k from fun p hp hlt' => by
          by_cases e : p = j
          · subst e; exact he
          · exact HNO.out p hp (by omega))
        clear he
        go_wp2_with fail
        go_roundw
        case rel => exact ⟨j + 1, hlt, by go_num, HN, by first | trivial | rfl⟩
        case measure => simp [intOf]; omega
    · have HE := Lib.hid (plQ_no (q := q) (k := k) (fun p hp => HNO.out p hp (by omega)))
      go_wp2_with fail
      go_ret
      exact ⟨ret_int HE.out.symm, HB1.out⟩

/-- A state that a function of the specification has returned. -/
def RetS (w w' : World) (G : Nat → Prop) (cap h m r : Int) (q : List Ent) (e : Ending) : Prop := ∃ xk xt, e = .returned (stV cap h m r xk xt) ∧ RefQ w' (fun b => G b ∨ w.heap.size ≤ b ∧ b < w'.heap.size) xk xt q

theorem zst (w : World) : StB (w.alloc (.cells #[.int .i64 0, .slice none 0 0, .slice none 0 0, .int .i64 0, .int .i64 0, .int .i64 0] 32)) w.heap.size 0 0 0 0 (.slice none 0 0) (.slice none 0 0) := heap_alloc_new _ _

set_option maxRecDepth 100000 in
set_option maxHeartbeats 3200000 in
theorem first_any (cap h m r : Int) (xk xt : Value) (q : List Ent) (k : ByteArray) (t : T) (sl : Value) (w : World) (G : Nat → Prop) (hR : RefQ w G xk xt q) (hG : ∀ b, G b → b < w.heap.size) (hl : q.length ≤ 500) (ht : RP w G sl t.l) :
    Calls Try.prog 32 #[stV cap h m r xk xt, .string k, .agg #[.int .i64 t.r, sl]] w fun e w' => RetS w w' G cap h m r ((k, t) :: q) e ∧ Below w.heap.size w w' := by
  have HRQ := Lib.hid hR
  have HTT := Lib.hid ht
  obtain ⟨ok, ck, ot, ct, rfl, rfl, _, _, _⟩ := hR.form
  obtain ⟨oa, ca, rfl, _, _⟩ := ht.form
  obtain ⟨W, hW⟩ : ∃ W, W = ((w.alloc (.cells #[.int .i64 cap, .slice ok q.length ck, .slice ot q.length ct, .int .i64 h, .int .i64 m, .int .i64 r] 32)).alloc (.cells #[.int .i64 t.r, .slice oa t.l.length ca] 36)).alloc (.cells #[.int .i64 0, .slice none 0 0, .slice none 0 0, .int .i64 0, .int .i64 0, .int .i64 0] 32) := ⟨_, rfl⟩
  have hbW : Below w.heap.size w W := by rw [hW]; exact below3 _ _ _ _
  have hzW : W.heap.size = w.heap.size + 3 := by rw [hW]; simp
  have hS : StB W w.heap.size cap h m r (.slice ok q.length ck) (.slice ot q.length ct) := by
    rw [hW]
    exact ((StB.new w cap h m r (.slice ok q.length ck) (.slice ot q.length ct)).keep (Below.heap_alloc _ _ _ (by simp))).keep (Below.heap_alloc _ _ _ (by simp; omega))
  have hT : W.heap[w.heap.size + 1]? = some (.cells #[.int .i64 t.r, .slice oa t.l.length ca] 36 (0, 0)) := by
    rw [hW, Below.heap_alloc _ _ _ (by simp)]
    have h := heap_alloc_new (w.alloc (.cells #[.int .i64 cap, .slice ok q.length ck, .slice ot q.length ct, .int .i64 h, .int .i64 m, .int .i64 r] 32)) (.cells #[.int .i64 t.r, .slice oa t.l.length ca] 36)
    rw [World.size_alloc] at h
    exact h
  have hZ : StB W (w.heap.size + 2) 0 0 0 0 (.slice none 0 0) (.slice none 0 0) := by
    rw [hW]
    have h := zst ((w.alloc (.cells #[.int .i64 cap, .slice ok q.length ck, .slice ot q.length ct, .int .i64 h, .int .i64 m, .int .i64 r] 32)).alloc (.cells #[.int .i64 t.r, .slice oa t.l.length ca] 36))
    rw [World.size_alloc, World.size_alloc] at h
    exact h
  have HBW := Lib.hid hbW
  have HGW := Lib.hid (fun b (hb : G b) => Nat.lt_of_lt_of_le (hG b hb) hbW.size)
  have HRW := Lib.hid (hR.keep (w' := W) (G' := G) (fun b hb => hbW.block b (hG b hb)) fun _ h => h)
  have HTW := Lib.hid (ht.keep (w' := W) (P' := G) (fun b hb => hbW.block b (hG b hb)) fun _ h => h)
  have HGB := Lib.hid hG
  -- region 1
  obtain ⟨W1, hW1⟩ : ∃ W1, W1 = W.alloc (.cells #[.string k] 9) := ⟨_, rfl⟩
  have hb1 : Below W.heap.size W W1 := by rw [hW1]; exact below1 _ _
  have hz1 : W1.heap.size = w.heap.size + 4 := by rw [hW1]; simp; omega
  have ho1 : OwnS W1 (w.heap.size + 3) (.slice (some ⟨w.heap.size + 3, 0, none⟩) 1 1) [k] := by
    rw [hW1, ← hzW]
    exact ⟨rfl, .inr ⟨W.heap.size, 1, #[.string k], rfl, Nat.le_refl _, heap_alloc_new _ _, Nat.le_refl _, by unfold maxLen; omega, rfl, rfl⟩⟩
  have hS1 := hS.keep (hb1.block _ (by omega))
  have hk1 := (HRW.out.keep (w' := W1) (G' := G) (fun b hb => hb1.block b (HGW.out b hb)) fun _ h => h).1
  rw [hW] at hW1
  have HS1 := Lib.hid hS1
  have HK1 := Lib.hid hk1
  have HO1 := Lib.hid ho1
  have HT := Lib.hid hT
  have HZ := Lib.hid hZ
  have HB1 := Lib.hid hb1
  obtain ⟨_, d1, _⟩ := hS1.cells
  rw [hW1] at d1
  clear hR ht hS hT hZ hbW hk1 ho1 hb1 hS1
  go_enter Try.func32, Try.ntmps32
  go_wp2_with (at_builtin; refine appendS_src rfl _ _ rfl (w.heap.size + 3) _ [k] rfl (hW1 ▸ HO1.out) ok q.length ck rfl (q.map Prod.fst) (by simp) (hW1 ▸ HK1.out.src) ?c0 ?c1 ?_)
  case c0 => simp; omega
  case c1 => rw [← hW1]; omega
  intro v2 w2 hown2 hgrow2
  rw [← hW1] at hgrow2
  have hb2 : Below (w.heap.size + 3) W1 w2 := (Below.refl _ _).grown hgrow2 (by omega) (fun b e => by cases e; show w.heap.size + 3 ≤ w.heap.size + 1 + 1 + 1; omega)
  have hz2 := hb2.size
  obtain ⟨o2, c2, rfl⟩ := owns_form hown2
  have HS2 := Lib.hid (HS1.out.keep (hb2.block w.heap.size (by omega)))
  have HT2 := Lib.hid (((hb2.block (w.heap.size + 1) (by omega)).trans (HB1.out.block _ (by omega))).trans HT.out)
  have HZ2 := Lib.hid (HZ.out.keep (w' := w2) ((hb2.block (w.heap.size + 2) (by omega)).trans (HB1.out.block _ (by omega))))
  have HO2 := Lib.hid hown2
  obtain ⟨_, e1, _⟩ := HS2.out.cells
  have e1f := HS2.out.frozen 1
  -- the store, and the list of the term
  obtain ⟨w3, hw3⟩ : ∃ w3, w3 = w2.setCell ⟨w.heap.size, 1, none⟩ (.slice o2 (k :: q.map Prod.fst).length c2) := ⟨_, rfl⟩
  have hz3 : w3.heap.size = w2.heap.size := by rw [hw3]; exact World.size_setCell _ _ _
  have HS3 : Hid (StB w3 w.heap.size cap h m r (.slice o2 (k :: q.map Prod.fst).length c2) (.slice ot q.length ct)) := Lib.hid (by rw [hw3]; exact HS2.out.set1 _)
  have hk3 : ∀ b, b ≠ w.heap.size → w3.heap[b]? = w2.heap[b]? := fun b hb => by rw [hw3]; exact heap_setCell_other _ _ _ _ hb
  obtain ⟨w4, hw4⟩ : ∃ w4, w4 = w3.alloc (.cells #[.int .i64 t.r, .slice oa t.l.length ca] 36) := ⟨_, rfl⟩
  have hb4 : Below w3.heap.size w3 w4 := by rw [hw4]; exact below1 _ _
  have hz4 : w4.heap.size = w3.heap.size + 1 := by rw [hw4]; simp
  have hkG : ∀ b, G b → w4.heap[b]? = W.heap[b]? := fun b hb => by
    have h1 := HGB.out b hb
    exact (hb4.block b (by omega)).trans ((hk3 b (by omega)).trans ((hb2.block b (by omega)).trans (HB1.out.block b (by omega))))
  have hr4 := HRW.out.2.keep (w' := w4) (P' := G) hkG fun _ h => h
  have ht4 := HTW.out.keep (w' := w4) (P' := G) hkG fun _ h => h
  obtain ⟨ys, hyl, hyx, hyc, hyo⟩ := hr4.src
  have ho4 : w4.ownsRow w3.heap.size 36 2 (.slice (some ⟨w3.heap.size, 0, none⟩) 1 1) 1 (flatT [(t.r, .slice oa t.l.length ca)]) := by
    rw [hw4]
    exact ⟨rfl, .inr ⟨w3.heap.size, 1, #[.int .i64 t.r, .slice oa t.l.length ca], rfl, Nat.le_refl _, heap_alloc_new _ _, Nat.le_refl _, by unfold maxLen; omega, rfl, rfl⟩⟩
  have HS4 := Lib.hid (HS3.out.keep (hb4.block w.heap.size (by omega)))
  obtain ⟨_, _, f2, _⟩ := HS4.out.cells
  have u0 : w3.cell? ⟨w.heap.size + 1, 0, none⟩ = some (.int .i64 t.r) := by unfold World.cell?; rw [hk3 (w.heap.size + 1) (by omega), HT2.out]; rfl
  have u1 : w3.cell? ⟨w.heap.size + 1, 1, none⟩ = some (.slice oa t.l.length ca) := by unfold World.cell?; rw [hk3 (w.heap.size + 1) (by omega), HT2.out]; rfl
  rw [hw4] at f2
  have HX := Lib.hid ((TmX.one ht4).app hyx)
  rw [hz3] at ho4
  have HO4 := Lib.hid ho4
  have HYC := Lib.hid hyc
  have HB4 := Lib.hid hb4
  have HK3 := Lib.hid hk3
  have HB2 := Lib.hid hb2
  have HKG := Lib.hid hkG
  have hzt : (.slice o2 (k :: q.map Prod.fst).length c2 : Value) = .slice o2 (q.length + 1) c2 := by simp
  clear hown2 hgrow2 hb2 hb4 hr4 ht4 hyx hyc ho4 hkG d1 hk3
  rw [hzt] at hw3
  have hb34 : Below w.heap.size w2 w4 := by
    rw [hw4, hw3]
    exact ((Below.refl w.heap.size w2).setCell (p := ⟨w.heap.size, 1, none⟩) (Nat.le_refl _) _).alloc (by rw [World.size_setCell]; omega) _
  rw [hw3] at u0 u1 f2
  go_wp2_with (at_builtin; (rw [← hw3]); (first | rw [← hw4] | skip); refine appendT_src rfl _ _ rfl w2.heap.size _ [(t.r, .slice oa t.l.length ca)] ys rfl HO4.out ot q.length ct rfl hyl HYC.out hyo ?d0 ?d1 ?_)
  case d0 => simp; omega
  case d1 => omega
  intro v5 w5 hown5 hgrow5
  rw [← hw3, ← hw4] at hgrow5
  have hb5 : Below w2.heap.size w4 w5 := (Below.refl _ _).grown hgrow5 (by omega) (fun b e => by cases e; exact Nat.le_refl _)
  have hz5 := hb5.size
  obtain ⟨o5, c5, rfl⟩ : ∃ o c, v5 = .slice o (q.length + 1) c := by
    rcases hown5.2 with ⟨_, h0⟩ | ⟨g, cap, cur, e, _⟩
    · omega
    · exact ⟨_, _, e⟩
  have HS5 := Lib.hid (HS4.out.keep (hb5.block w.heap.size (by omega)))
  have HZ5 := Lib.hid (HZ2.out.keep (w' := w5) ((hb5.block (w.heap.size + 2) (by omega)).trans ((HB4.out.block (w.heap.size + 2) (by omega)).trans (HK3.out (w.heap.size + 2) (by omega)))))
  have HO5 := Lib.hid hown5
  have HB5 := Lib.hid hb5
  have hb5' : ∀ b, G b → w5.heap[b]? = w4.heap[b]? := fun b hb => HB5.out.block b (by have := HGB.out b hb; omega)
  have e2f := HS5.out.frozen 2
  obtain ⟨_, _, b2, _⟩ := HS5.out.cells
  have HS6 := Lib.hid (HS5.out.set2 (.slice o5 (q.length + 1) c5))
  obtain ⟨g0, g1, g2, g3, g4, g5⟩ := HS6.out.cells
  have HZ6 := Lib.hid (HZ5.out.keep (w' := w5.setCell ⟨w.heap.size, 2, none⟩ (.slice o5 (q.length + 1) c5)) (heap_setCell_other _ _ _ _ (by show w.heap.size + 2 ≠ w.heap.size; omega)))
  obtain ⟨z0, z1, z2, z3, z4, z5⟩ := HZ6.out.cells
  obtain ⟨y0, y1, y2, y3, y4, y5⟩ := HZ5.out.cells
  have zf := HZ6.out.frozen
  have yf := HZ5.out.frozen
  clear hown5 hgrow5 hb5 u0 u1 f2
  go_wp2_with fail
  obtain ⟨w7, hw7, hs7, hz7, hk7, hb7⟩ := StB.six (w := w5.setCell ⟨w.heap.size, 2, none⟩ (.slice o5 (q.length + 1) c5)) (b := w.heap.size + 1 + 1) HZ6.out cap h m r (.slice o2 (q.length + 1) c2) (.slice o5 (q.length + 1) c5)
  rw [← hw7]
  obtain ⟨r0, r1, r2, r3, r4, r5⟩ := hs7.cells
  have hk7' : ∀ b, b ≠ w.heap.size → b ≠ w.heap.size + 2 → w7.heap[b]? = w5.heap[b]? := fun b h1 h2 => (hk7 b h2).trans (heap_setCell_other _ _ _ _ h1)
  have hz7' : w7.heap.size = w5.heap.size := hz7.trans (World.size_setCell _ _ _)
  have HB7 := Lib.hid (hb7 w.heap.size (by omega))
  have HK7 := Lib.hid hk7'
  clear hw7 hs7 hk7 hb7 hz7 hk7' g0 g1 g2 g3 g4 g5 z0 z1 z2 z3 z4 z5 y0 y1 y2 y3 y4 y5 zf yf
  refine bodyPost_ret (v := stV cap h m r (.slice o2 (q.length + 1) c2) (.slice o5 (q.length + 1) c5)) (by simp [results, Try.results32, go_sem, *]) rfl ?_
  refine ⟨⟨_, _, rfl, ?_, ?_⟩, ?_⟩
  · rw [← hzt]
    refine HO2.out.holds.keep (fun b hb _ => .inr ⟨by have := hb.1; omega, by have := hb.2; omega⟩) fun b o hb _ => World.cell?_of_block (w := w2) (a := ⟨b, o, none⟩) ?_
    have h1 := hb.1
    have h2 := hb.2
    exact (HK7.out b (by omega) (by omega)).trans ((HB5.out.block b h2).trans ((HB4.out.block b (by omega)).trans (HK3.out b (by omega))))
  · have hX5 : TmX w5 (fun b => G b ∨ w2.heap.size ≤ b ∧ b < w5.heap.size) ((t.r, .slice oa t.l.length ca) :: ys) (t :: q.map Prod.snd) := HX.out.keep (w' := w5) (fun b hb => hb5' b hb) fun b hb => .inl hb
    have hl5 : ((t.r, (.slice oa t.l.length ca : Value)) :: ys).length = q.length + 1 := by simp; omega
    refine (own_rp (P := fun b => G b ∨ w2.heap.size ≤ b ∧ b < w5.heap.size) (hl5.symm ▸ HO5.out) hX5 (fun g h1 h2 => .inr ⟨h1, h2⟩) (by omega)).keep (fun b hb => HK7.out b ?_ ?_) fun b hb => hb.elim .inl fun h => .inr ⟨by omega, by omega⟩
    · rcases hb with hb | hb
      · have := HGB.out b hb; omega
      · omega
    · rcases hb with hb | hb
      · have := HGB.out b hb; omega
      · omega
  · exact ((((HBW.out.trans (HB1.out.mono (by omega))).trans (HB2.out.mono (by omega))).trans (hb34)).trans (HB5.out.mono (by omega))).trans (((Below.refl w.heap.size w5).setCell (p := ⟨w.heap.size, 2, none⟩) (Nat.le_refl _) _).trans HB7.out)

end Go.Proofs.Ytbimpfciadbnjaa
