/-
  link, addPosition and join of the automata. Nothing is assumed.
-/
import Derived.Test.YtaipaddfehpmgaaDoorPtAutA
import Derived.BigRegion
namespace Go.Proofs.YtaipaddfehpmgaaDoor
open Go.RowKit

/-- A machine in a block of its own. -/
def MB (w : World) (mb : Nat) (sl : Value) (last : Int) : Prop := w.heap[mb]? = some (.cells #[sl, .int .u64 last] 44 (0, 0))
theorem MB.cells {w : World} {mb : Nat} {sl : Value} {last : Int} (h : MB w mb sl last) : w.cell? ⟨mb, 0, none⟩ = some sl ∧ w.cell? ⟨mb, 1, none⟩ = some (.int .u64 last) := by
  unfold World.cell?
  rw [h]
  exact ⟨rfl, rfl⟩
theorem MB.free {w : World} {mb : Nat} {sl : Value} {last : Int} (h : MB w mb sl last) (k : Nat) : w.frozen? ⟨mb, k, none⟩ = false := by unfold World.frozen?; rw [h]; simp
theorem MB.lt {w : World} {mb : Nat} {sl : Value} {last : Int} (h : MB w mb sl last) : mb < w.heap.size := (Array.getElem?_eq_some_iff.1 h).1
theorem MB.set0 {w : World} {mb : Nat} {sl : Value} {last : Int} (h : MB w mb sl last) (sl' : Value) : MB (w.setCell ⟨mb, 0, none⟩ sl') mb sl' last := by
  unfold MB at *
  simp [World.setCell, Array.getElem?_modify, h]
theorem MB.set1 {w : World} {mb : Nat} {sl : Value} {last : Int} (h : MB w mb sl last) (last' : Int) : MB (w.setCell ⟨mb, 1, none⟩ (.int .u64 last')) mb sl last' := by
  unfold MB at *
  simp [World.setCell, Array.getElem?_modify, h]
/-- The positions of a machine, in a row that is the call's own. -/
def OwnQ (w : World) (base : Nat) (v : Value) (l : List Ps) : Prop := w.ownsRow base 117 5 v l.length (flatQ l)
theorem OwnQ.ne {w : World} {base mb : Nat} {v sl : Value} {l : List Ps} {last : Int} (h : OwnQ w base v l) (k : MB w mb sl last) : v.ownBlock ≠ some mb := by
  rcases h.2 with ⟨rfl, _⟩ | ⟨g, cap, cur, rfl, hg, hh, _⟩
  · simp [Value.ownBlock]
  · intro e
    simp [Value.ownBlock] at e
    subst e
    rw [show w.heap[g]? = _ from k] at hh
    simp at hh
theorem OwnQ.lt {w : World} {base : Nat} {v : Value} {l : List Ps} (h : OwnQ w base v l) : ∀ q, v.ownBlock = some q → base ≤ q ∧ q < w.heap.size := World.ownsRow.lt h
theorem OwnQ.kp {w w' : World} {base N : Nat} {v : Value} {l : List Ps} {X : Nat → Prop} (h : OwnQ w base v l) (hk : Kp N X w w') (hN : w.heap.size ≤ N) (hX : ∀ k, v.ownBlock = some k → ¬ X k) : OwnQ w' base v l := by
  refine ⟨h.1, ?_⟩
  rcases h.2 with h0 | ⟨g, cap, cur, hv, hg, hh, r⟩
  · exact .inl h0
  · exact .inr ⟨g, cap, cur, hv, hg, (hk.block g (Nat.lt_of_lt_of_le (Array.getElem?_eq_some_iff.1 hh).1 hN) (hX g (by rw [hv]; rfl))).trans hh, r⟩
theorem OwnQ.form {w : World} {base : Nat} {v : Value} {l : List Ps} (h : OwnQ w base v l) (hn : 0 < l.length) : ∃ g cap, v = .slice (some ⟨g, 0, none⟩) l.length cap := World.ownsRow.form h hn |>.imp fun _ h => h.imp fun _ h => h.1
theorem OwnQ.slice {w : World} {base : Nat} {v : Value} {l : List Ps} (h : OwnQ w base v l) : ∃ oa cap, v = .slice oa l.length cap := by
  rcases h.2 with ⟨h0, hk⟩ | ⟨g, cap, cur, hv, _⟩
  · exact ⟨none, 0, by rw [h0, hk]⟩
  · exact ⟨_, cap, hv⟩
theorem OwnQ.at_ {w : World} {base g n cap : Nat} {l : List Ps} (h : OwnQ w base (.slice (some ⟨g, 0, none⟩) n cap) l) (hn : l.length = n) {i : Nat} {p : Ps} (hp : l[i]? = some p) :
    ∀ j u, p.cs[j]? = some u → w.cell? ⟨g, i * 5 + j, none⟩ = some u := by
  subst hn
  intro j u hu
  have hi := (List.getElem?_eq_some_iff.1 hp).1
  have hj : j < 5 := (List.getElem?_eq_some_iff.1 hu).1
  rw [World.ownsRow.cellAt h (i * 5 + j) (by omega), flatQ_at l i j p hp hj]
  exact hu
theorem OwnQ.free {w : World} {base g n cap : Nat} {l : List Ps} (h : OwnQ w base (.slice (some ⟨g, 0, none⟩) n cap) l) (hn : l.length = n) (j : Nat) : w.frozen? ⟨g, j, none⟩ = false := by
  subst hn
  exact World.ownsRow.frozenAt h j
theorem OwnQ.set {w : World} {base g n cap : Nat} {l : List Ps} (h : OwnQ w base (.slice (some ⟨g, 0, none⟩) n cap) l) (hn : l.length = n) {i : Nat} {p : Ps} (hp : l[i]? = some p) (x : Int) :
    OwnQ (w.setCell ⟨g, i * 5 + 4, none⟩ (.int .u64 x)) base (.slice (some ⟨g, 0, none⟩) n cap) (l.set i ⟨p.s, x⟩) := by
  subst hn
  unfold OwnQ
  rw [flatQ_set l i p x hp, List.length_set]
  exact (World.ownsRow.stored h (i * 5 + 4) _).1
theorem OwnQ.holds {w : World} {base : Nat} {v : Value} {l : List Ps} (h : OwnQ w base v l) (hl : l.length ≤ 1000000) : HQ w (· < w.heap.size) v l := by
  rcases h.2 with ⟨h0, hk⟩ | ⟨g, cap, cur, hv, hg, hh, hcap, hmx, hcs, htk⟩
  · obtain rfl := List.eq_nil_of_length_eq_zero hk
    exact ⟨none, 0, h0, by simp, fun i p hp => by simp at hp⟩
  · subst hv
    exact ⟨_, cap, rfl, hl, fun i p hp => ⟨g, 0, rfl, (Array.getElem?_eq_some_iff.1 hh).1, fun j u hu => by rw [Nat.zero_add]; exact OwnQ.at_ h rfl hp j u hu⟩⟩

theorem linkL_step (s n : Int) (l : List Ps) (k : Nat) (h : k < l.length) : linkL s n k (l.drop k) = (if bitQ s k = true then ⟨(l[k]'h).s, orS (l[k]'h).n n⟩ else l[k]'h) :: linkL s n (k + 1) (l.drop (k + 1)) := by
  rw [List.drop_eq_getElem_cons h, linkL]
set_option maxRecDepth 100000 in
set_option maxHeartbeats 1600000 in
theorem link_any (w : World) (mb base : Nat) (sl : Value) (last : Int) (ps : List Ps) (s n : Int) (hM : MB w mb sl last) (hQ : OwnQ w base sl ps) (hp : 0 < ps.length) (hl : ps.length ≤ 1000000) :
    Calls Tryd.prog 80 #[(.pointer (some ⟨mb, 0, none⟩)), .int .u64 s, .int .u64 n] w fun e w' => e = .returned (.tuple #[]) ∧ MB w' mb sl last ∧ OwnQ w' base sl (linkL s n 0 ps) ∧ Kp w.heap.size (fun k => sl.ownBlock = some k) w w' := by
  obtain ⟨g, cap, rfl⟩ := hQ.form hp
  have hne : g ≠ mb := fun e => hQ.ne hM (by rw [e]; rfl)
  have hli : (ps.length : Int) ≤ 1000000 := by omega
  have HM := Lib.hid hM
  have HQ := Lib.hid hQ
  have hc0 := hM.cells.1
  clear hM hQ
  go_enter Tryd.func80, Tryd.ntmps80
  go_wp2_with fail
  go_loopw [12] (fun v wr => ∃ (k : Nat) (l : List Ps), k ≤ ps.length ∧ l.length = ps.length ∧ v = .int .i64 k ∧ Hid (OwnQ wr base (.slice (some ⟨g, 0, none⟩) ps.length cap) l) ∧ Hid (MB wr mb (.slice (some ⟨g, 0, none⟩) ps.length cap) last) ∧ Hid (linkL s n 0 ps = l.take k ++ linkL s n k (l.drop k)) ∧ Hid (Kp w.heap.size (fun k => (Value.slice (some ⟨g, 0, none⟩) ps.length cap).ownBlock = some k) w wr)) (fun v _ => ps.length - (intOf v).toNat)
  case atStart => exact ⟨0, ps, Nat.zero_le _, rfl, rfl, HQ, HM, Lib.hid rfl, Lib.hid (.refl _ _ _)⟩
  case round =>
    obtain ⟨k, l, hk, hll, rfl, HQr, HMr, HE, HK⟩ := hrel
    have HLL := Lib.hid hll
    clear HM HQ hc0
    by_cases hlt : k < ps.length
    · have hkl : k < l.length := by omega
      have hp5 := HQr.out.at_ hll (List.getElem?_eq_getElem hkl)
      have c4 := hp5 4 _ rfl
      have f4 := HQr.out.free hll (k * 5 + 4)
      obtain ⟨m0, m1⟩ := HMr.out.cells
      have HST := Lib.hid (linkL_step s n l k hkl)
      have hq0 : (0 : Int) ≤ (k : Int) := by omega
      clear hp5 hll
      cases hb2 : bitQ s k
      · have hq : (bits BinOp.and IntKind.u64 (s / 2 ^ min k 64) 1 == 1) = false := hb2
        rw [hb2] at HST
        have HE1 : Hid (linkL s n 0 ps = l.take (k + 1) ++ linkL s n (k + 1) (l.drop (k + 1))) := Lib.hid (by
          rw [HE.out, HST.out, List.take_succ_eq_append_getElem hkl, List.append_assoc]
          rfl)
        clear HE HST hb2
        go_wp2_with fail
        go_roundw
        case rel => exact ⟨k + 1, l, hlt, HLL.out, by go_num, HQr, HMr, HE1, HK⟩
        case measure => simp [intOf]; omega
      · have hq : (bits BinOp.and IntKind.u64 (s / 2 ^ min k 64) 1 == 1) = true := hb2
        rw [hb2] at HST
        have HE1 : Hid (linkL s n 0 ps = (l.set k ⟨l[k].s, orS l[k].n n⟩).take (k + 1) ++ linkL s n (k + 1) ((l.set k ⟨l[k].s, orS l[k].n n⟩).drop (k + 1))) := Lib.hid (by
          rw [HE.out, HST.out, List.drop_set_of_lt (by omega), List.take_succ_eq_append_getElem (by rw [List.length_set]; exact hkl), List.take_set_of_le (by omega)]
          simp)
        have HQ1 := Lib.hid (HQr.out.set HLL.out (List.getElem?_eq_getElem hkl) (orS l[k].n n))
        have HM1 : Hid (MB (wr.setCell ⟨g, k * 5 + 4, none⟩ (.int .u64 (orS l[k].n n))) mb (.slice (some ⟨g, 0, none⟩) ps.length cap) last) := Lib.hid ((Below.heap_setCell _ _ _ _ (fun e => hne e.symm)).trans HMr.out)
        have HK1 : Hid (Kp w.heap.size (fun k => (Value.slice (some ⟨g, 0, none⟩) ps.length cap).ownBlock = some k) w (wr.setCell ⟨g, k * 5 + 4, none⟩ (.int .u64 (orS l[k].n n)))) := Lib.hid (HK.out.set ⟨g, k * 5 + 4, none⟩ rfl _)
        clear HE HST hb2
        unfold orS at HQ1 HM1 HK1
        go_wp2_with fail
        go_roundw
        case rel => exact ⟨k + 1, _, hlt, by rw [List.length_set]; exact HLL.out, by go_num, HQ1, HM1, HE1, HK1⟩
        case measure => simp [intOf]; omega
    · obtain rfl : k = ps.length := by omega
      go_wp2_with fail
      go_end0
      refine ⟨rfl, HMr.out, ?_, HK.out⟩
      rw [HE.out, ← HLL.out, List.drop_length, linkL, List.append_nil, List.take_length]
      exact HLL.out ▸ HQr.out

/-- A part as the program hands it on. -/
def Pa.val (p : Pa) : Value := .agg #[.bool p.e, .int .u64 p.f, .int .u64 p.t]
theorem at3 {n b : Nat} {w1 : World} (hb : b ≠ n) (a1 b1 c1 : Value) : (((w1.setCell ⟨n, 0, none⟩ a1).setCell ⟨n, 1, none⟩ b1).setCell ⟨n, 2, none⟩ c1).heap[b]? = w1.heap[b]? := by
  rw [Below.heap_setCell _ _ _ _ hb, Below.heap_setCell _ _ _ _ hb, Below.heap_setCell _ _ _ _ hb]
theorem kp3 {N n : Nat} {X : Nat → Prop} {w w1 : World} (h : Kp N X w w1) (hn : N ≤ n) (a b c : Value) : Kp N X w (((w1.setCell ⟨n, 0, none⟩ a).setCell ⟨n, 1, none⟩ b).setCell ⟨n, 2, none⟩ c) :=
  h.trans (.of (((Below.refl N w1).setCell (p := ⟨n, 0, none⟩) hn a).setCell (p := ⟨n, 1, none⟩) hn b |>.setCell (p := ⟨n, 2, none⟩) hn c) (Nat.le_refl _))
theorem kp3a {N n : Nat} {w w1 : World} (h : Below N w w1) (a b c : Value) : Kp N (Is n) w (((w1.setCell ⟨n, 0, none⟩ a).setCell ⟨n, 1, none⟩ b).setCell ⟨n, 2, none⟩ c) :=
  (((Kp.of h (Nat.le_refl _)).set ⟨n, 0, none⟩ (Is.self n) a).set ⟨n, 1, none⟩ (Is.self n) b).set ⟨n, 2, none⟩ (Is.self n) c
theorem cell_of (w : World) (xs : Array Value) (t o : Nat) (x : Value) (h : xs[o]? = some x) : (w.alloc (.cells xs t)).cell? ⟨w.heap.size, o, none⟩ = some x := cell_at w xs t o x h
set_option maxRecDepth 100000 in
set_option maxHeartbeats 3200000 in
theorem join_any (w : World) (mb base : Nat) (sl : Value) (last : Int) (ps : List Ps) (p q : Pa) (hM : MB w mb sl last) (hQ : OwnQ w base sl ps) (hp : 0 < ps.length) (hl : ps.length ≤ 1000000) :
    Calls Tryd.prog 79 #[(.pointer (some ⟨mb, 0, none⟩)), p.val, q.val] w fun e w' => e = .returned ((joinS ps p q).2.val) ∧ MB w' mb sl last ∧ OwnQ w' base sl (joinS ps p q).1 ∧ Kp w.heap.size (fun k => sl.ownBlock = some k) w w' := by
  obtain ⟨pe, pf, pt⟩ := p
  obtain ⟨qe, qf, qt⟩ := q
  have hb0 := fun X Y Z => ((below1 w X).trans ((below1 (w.alloc X) Y).mono (by simp))).trans ((below1 ((w.alloc X).alloc Y) Z).mono (by simp; omega))
  obtain ⟨w1, hw1⟩ : ∃ w1, w1 = ((w.alloc (.cells #[.bool pe, .int .u64 pf, .int .u64 pt] 134)).alloc (.cells #[.bool qe, .int .u64 qf, .int .u64 qt] 134)).alloc (.cells #[.bool false, .int .u64 0, .int .u64 0] 134) := ⟨_, rfl⟩
  have HW1 := Lib.hid hw1
  have hs1 : w1.heap.size = w.heap.size + 3 := by rw [hw1]; simp
  have hb1 : Below w.heap.size w w1 := by rw [hw1]; exact hb0 _ _ _
  have cP : ∀ (o : Nat) x, (#[.bool pe, .int .u64 pf, .int .u64 pt] : Array Value)[o]? = some x → w1.cell? ⟨w.heap.size, o, none⟩ = some x := fun o x hx => by
    rw [hw1, (below1 _ _).cell (p := ⟨w.heap.size, o, none⟩) (by simp; omega), (below1 _ _).cell (p := ⟨w.heap.size, o, none⟩) (by simp)]
    exact cell_at _ _ _ _ _ hx
  have cQ : ∀ (o : Nat) x, (#[.bool qe, .int .u64 qf, .int .u64 qt] : Array Value)[o]? = some x → w1.cell? ⟨w.heap.size + 1, o, none⟩ = some x := fun o x hx => by
    rw [hw1, (below1 _ _).cell (p := ⟨w.heap.size + 1, o, none⟩) (by simp)]
    have := cell_at (w.alloc (.cells #[.bool pe, .int .u64 pf, .int .u64 pt] 134)) #[.bool qe, .int .u64 qf, .int .u64 qt] 134 o x hx
    rwa [show (w.alloc (.cells #[.bool pe, .int .u64 pf, .int .u64 pt] 134)).heap.size = w.heap.size + 1 by simp] at this
  have cR : ∀ (o : Nat) x, (#[.bool false, .int .u64 0, .int .u64 0] : Array Value)[o]? = some x → w1.cell? ⟨w.heap.size + 2, o, none⟩ = some x := fun o x hx => by
    have := cell_at ((w.alloc (.cells #[.bool pe, .int .u64 pf, .int .u64 pt] 134)).alloc (.cells #[.bool qe, .int .u64 qf, .int .u64 qt] 134)) #[.bool false, .int .u64 0, .int .u64 0] 134 o x hx
    rw [show ((w.alloc (.cells #[.bool pe, .int .u64 pf, .int .u64 pt] 134)).alloc (.cells #[.bool qe, .int .u64 qf, .int .u64 qt] 134)).heap.size = w.heap.size + 2 by simp] at this
    rw [hw1]
    exact this
  have fR : ∀ o, w1.frozen? ⟨w.heap.size + 2, o, none⟩ = false := fun o => by
    rw [hw1]
    have : ((w.alloc (.cells #[.bool pe, .int .u64 pf, .int .u64 pt] 134)).alloc (.cells #[.bool qe, .int .u64 qf, .int .u64 qt] 134)).heap.size = w.heap.size + 2 := by simp
    exact World.frozen?_alloc_at _ _ _ _ (by rw [this])
  have HP := Lib.hid cP
  have HQQ := Lib.hid cQ
  have HRR := Lib.hid cR
  have HFR := Lib.hid fR
  have HC := Lib.hid (link_any w1 mb base sl last ps pt qf ((hb1.block mb hM.lt).trans hM) (hQ.kp (X := fun _ => False) (.of hb1 (Nat.le_refl _)) (Nat.le_refl _) (fun _ _ h => h)) hp hl)
  have HSL := Lib.hid (fun k hk => (hQ.lt k hk).2)
  have HB1 := Lib.hid hb1
  have hmlt := hM.lt
  have a0 := cP 0 _ rfl
  have a1 := cP 1 _ rfl
  have a2 := cP 2 _ rfl
  have b0 := cQ 0 _ rfl
  have b1 := cQ 1 _ rfl
  have b2 := cQ 2 _ rfl
  clear hw1 hM hQ cP cQ cR fR hb0 hb1
  unfold Pa.val joinS
  cases pe <;> cases qe
  · go_enter Tryd.func79, Tryd.ntmps79
    go_wp2_with fail
    rw [← HW1.out]
    go_wp2_with fail
    refine HC.out.mono ?_
    rintro e w2 ⟨rfl, hM2, hQ2, hK2⟩
    have hs2 := hK2.size
    have go : ∀ n o, n < 3 → w2.cell? ⟨w.heap.size + n, o, none⟩ = w1.cell? ⟨w.heap.size + n, o, none⟩ := fun n o hn => hK2.cell (p := ⟨w.heap.size + n, o, none⟩) (by show w.heap.size + n < _; omega) (fun e => by have := HSL.out _ e; have : w.heap.size + n < w.heap.size := this; omega)
    have gf : ∀ o, w2.frozen? ⟨w.heap.size + 2, o, none⟩ = w1.frozen? ⟨w.heap.size + 2, o, none⟩ := fun o => World.frozen?_of_block (w := w1) (a := ⟨w.heap.size + 2, o, none⟩) (hK2.block _ (by show w.heap.size + 2 < _; omega) (fun e => by have := HSL.out _ e; have : w.heap.size + 2 < w.heap.size := this; omega))
    have a0 := (go 0 0 (by omega)).trans (HP.out 0 _ rfl)
    have a1 := (go 0 1 (by omega)).trans (HP.out 1 _ rfl)
    have a2 := (go 0 2 (by omega)).trans (HP.out 2 _ rfl)
    have b0 := (go 1 0 (by omega)).trans (HQQ.out 0 _ rfl)
    have b1 := (go 1 1 (by omega)).trans (HQQ.out 1 _ rfl)
    have b2 := (go 1 2 (by omega)).trans (HQQ.out 2 _ rfl)
    have r0 := (go 2 0 (by omega)).trans (HRR.out 0 _ rfl)
    have r1 := (go 2 1 (by omega)).trans (HRR.out 1 _ rfl)
    have r2 := (go 2 2 (by omega)).trans (HRR.out 2 _ rfl)
    have f0 := (gf 0).trans (HFR.out 0)
    have f1 := (gf 1).trans (HFR.out 1)
    have f2 := (gf 2).trans (HFR.out 2)
    have ga : ∀ X n o, n < 3 → (w2.alloc X).cell? ⟨w.heap.size + n, o, none⟩ = w2.cell? ⟨w.heap.size + n, o, none⟩ := fun X n o hn => (below1 w2 X).cell (p := ⟨w.heap.size + n, o, none⟩) (by show w.heap.size + n < _; omega)
    have gb : ∀ X o, (w2.alloc X).frozen? ⟨w.heap.size + 2, o, none⟩ = w2.frozen? ⟨w.heap.size + 2, o, none⟩ := fun X o => World.frozen?_of_block (w := w2) (a := ⟨w.heap.size + 2, o, none⟩) ((below1 w2 X).block _ (by show w.heap.size + 2 < _; omega))
    have a0' := fun X => (ga X 0 0 (by omega)).trans a0
    have a1' := fun X => (ga X 0 1 (by omega)).trans a1
    have a2' := fun X => (ga X 0 2 (by omega)).trans a2
    have b0' := fun X => (ga X 1 0 (by omega)).trans b0
    have b1' := fun X => (ga X 1 1 (by omega)).trans b1
    have b2' := fun X => (ga X 1 2 (by omega)).trans b2
    have r0' := fun X => (ga X 2 0 (by omega)).trans r0
    have r1' := fun X => (ga X 2 1 (by omega)).trans r1
    have r2' := fun X => (ga X 2 2 (by omega)).trans r2
    have f0' := fun X => (gb X 0).trans f0
    have f1' := fun X => (gb X 1).trans f1
    have f2' := fun X => (gb X 2).trans f2
    clear ga gb
    simp only [Nat.add_zero] at a0 a1 a2 a0' a1' a2'
    have HM2 := Lib.hid hM2
    have HQ2 := Lib.hid hQ2
    have HK2 : Hid (Kp w.heap.size (fun k => sl.ownBlock = some k) w w2) := Lib.hid ((Kp.of HB1.out (Nat.le_refl _)).trans (hK2.less (by omega)))
    clear hM2 hQ2 hK2 go gf HC
    go_wp2_with fail
    refine bodyPost_ret (v := .agg #[.bool false, .int .u64 pf, .int .u64 qt]) (by simp [results, Tryd.results79, go_sem, *]) rfl ⟨rfl, ?_, ?_, kp3 (HK2.out.trans (.of (below1 w2 _) (by omega))) (by omega) _ _ _⟩
    · exact (at3 (by omega) _ _ _).trans (((below1 w2 _).block mb (by omega)).trans HM2.out)
    · exact HQ2.out.kp (kp3a (below1 w2 _) _ _ _) (Nat.le_refl _) (fun k hk e => by have := HSL.out k hk; unfold Is at e; omega)
  · go_enter Tryd.func79, Tryd.ntmps79
    go_wp2_with fail
    rw [← HW1.out]
    go_wp2_with fail
    refine HC.out.mono ?_
    rintro e w2 ⟨rfl, hM2, hQ2, hK2⟩
    have hs2 := hK2.size
    have go : ∀ n o, n < 3 → w2.cell? ⟨w.heap.size + n, o, none⟩ = w1.cell? ⟨w.heap.size + n, o, none⟩ := fun n o hn => hK2.cell (p := ⟨w.heap.size + n, o, none⟩) (by show w.heap.size + n < _; omega) (fun e => by have := HSL.out _ e; have : w.heap.size + n < w.heap.size := this; omega)
    have gf : ∀ o, w2.frozen? ⟨w.heap.size + 2, o, none⟩ = w1.frozen? ⟨w.heap.size + 2, o, none⟩ := fun o => World.frozen?_of_block (w := w1) (a := ⟨w.heap.size + 2, o, none⟩) (hK2.block _ (by show w.heap.size + 2 < _; omega) (fun e => by have := HSL.out _ e; have : w.heap.size + 2 < w.heap.size := this; omega))
    have a0 := (go 0 0 (by omega)).trans (HP.out 0 _ rfl)
    have a1 := (go 0 1 (by omega)).trans (HP.out 1 _ rfl)
    have a2 := (go 0 2 (by omega)).trans (HP.out 2 _ rfl)
    have b0 := (go 1 0 (by omega)).trans (HQQ.out 0 _ rfl)
    have b1 := (go 1 1 (by omega)).trans (HQQ.out 1 _ rfl)
    have b2 := (go 1 2 (by omega)).trans (HQQ.out 2 _ rfl)
    have r0 := (go 2 0 (by omega)).trans (HRR.out 0 _ rfl)
    have r1 := (go 2 1 (by omega)).trans (HRR.out 1 _ rfl)
    have r2 := (go 2 2 (by omega)).trans (HRR.out 2 _ rfl)
    have f0 := (gf 0).trans (HFR.out 0)
    have f1 := (gf 1).trans (HFR.out 1)
    have f2 := (gf 2).trans (HFR.out 2)
    have ga : ∀ X n o, n < 3 → (w2.alloc X).cell? ⟨w.heap.size + n, o, none⟩ = w2.cell? ⟨w.heap.size + n, o, none⟩ := fun X n o hn => (below1 w2 X).cell (p := ⟨w.heap.size + n, o, none⟩) (by show w.heap.size + n < _; omega)
    have gb : ∀ X o, (w2.alloc X).frozen? ⟨w.heap.size + 2, o, none⟩ = w2.frozen? ⟨w.heap.size + 2, o, none⟩ := fun X o => World.frozen?_of_block (w := w2) (a := ⟨w.heap.size + 2, o, none⟩) ((below1 w2 X).block _ (by show w.heap.size + 2 < _; omega))
    have a0' := fun X => (ga X 0 0 (by omega)).trans a0
    have a1' := fun X => (ga X 0 1 (by omega)).trans a1
    have a2' := fun X => (ga X 0 2 (by omega)).trans a2
    have b0' := fun X => (ga X 1 0 (by omega)).trans b0
    have b1' := fun X => (ga X 1 1 (by omega)).trans b1
    have b2' := fun X => (ga X 1 2 (by omega)).trans b2
    have r0' := fun X => (ga X 2 0 (by omega)).trans r0
    have r1' := fun X => (ga X 2 1 (by omega)).trans r1
    have r2' := fun X => (ga X 2 2 (by omega)).trans r2
    have f0' := fun X => (gb X 0).trans f0
    have f1' := fun X => (gb X 1).trans f1
    have f2' := fun X => (gb X 2).trans f2
    clear ga gb
    simp only [Nat.add_zero] at a0 a1 a2 a0' a1' a2'
    have HM2 := Lib.hid hM2
    have HQ2 := Lib.hid hQ2
    have HK2 : Hid (Kp w.heap.size (fun k => sl.ownBlock = some k) w w2) := Lib.hid ((Kp.of HB1.out (Nat.le_refl _)).trans (hK2.less (by omega)))
    clear hM2 hQ2 hK2 go gf HC
    go_wp2_with fail
    refine bodyPost_ret (v := .agg #[.bool false, .int .u64 pf, .int .u64 (bits BinOp.or IntKind.u64 qt pt)]) (by simp [results, Tryd.results79, go_sem, *]) rfl ⟨rfl, ?_, ?_, kp3 (HK2.out.trans (.of (below1 w2 _) (by omega))) (by omega) _ _ _⟩
    · exact (at3 (by omega) _ _ _).trans (((below1 w2 _).block mb (by omega)).trans HM2.out)
    · exact HQ2.out.kp (kp3a (below1 w2 _) _ _ _) (Nat.le_refl _) (fun k hk e => by have := HSL.out k hk; unfold Is at e; omega)
  · go_enter Tryd.func79, Tryd.ntmps79
    go_wp2_with fail
    rw [← HW1.out]
    go_wp2_with fail
    refine HC.out.mono ?_
    rintro e w2 ⟨rfl, hM2, hQ2, hK2⟩
    have hs2 := hK2.size
    have go : ∀ n o, n < 3 → w2.cell? ⟨w.heap.size + n, o, none⟩ = w1.cell? ⟨w.heap.size + n, o, none⟩ := fun n o hn => hK2.cell (p := ⟨w.heap.size + n, o, none⟩) (by show w.heap.size + n < _; omega) (fun e => by have := HSL.out _ e; have : w.heap.size + n < w.heap.size := this; omega)
    have gf : ∀ o, w2.frozen? ⟨w.heap.size + 2, o, none⟩ = w1.frozen? ⟨w.heap.size + 2, o, none⟩ := fun o => World.frozen?_of_block (w := w1) (a := ⟨w.heap.size + 2, o, none⟩) (hK2.block _ (by show w.heap.size + 2 < _; omega) (fun e => by have := HSL.out _ e; have : w.heap.size + 2 < w.heap.size := this; omega))
    have a0 := (go 0 0 (by omega)).trans (HP.out 0 _ rfl)
    have a1 := (go 0 1 (by omega)).trans (HP.out 1 _ rfl)
    have a2 := (go 0 2 (by omega)).trans (HP.out 2 _ rfl)
    have b0 := (go 1 0 (by omega)).trans (HQQ.out 0 _ rfl)
    have b1 := (go 1 1 (by omega)).trans (HQQ.out 1 _ rfl)
    have b2 := (go 1 2 (by omega)).trans (HQQ.out 2 _ rfl)
    have r0 := (go 2 0 (by omega)).trans (HRR.out 0 _ rfl)
    have r1 := (go 2 1 (by omega)).trans (HRR.out 1 _ rfl)
    have r2 := (go 2 2 (by omega)).trans (HRR.out 2 _ rfl)
    have f0 := (gf 0).trans (HFR.out 0)
    have f1 := (gf 1).trans (HFR.out 1)
    have f2 := (gf 2).trans (HFR.out 2)
    have ga : ∀ X n o, n < 3 → (w2.alloc X).cell? ⟨w.heap.size + n, o, none⟩ = w2.cell? ⟨w.heap.size + n, o, none⟩ := fun X n o hn => (below1 w2 X).cell (p := ⟨w.heap.size + n, o, none⟩) (by show w.heap.size + n < _; omega)
    have gb : ∀ X o, (w2.alloc X).frozen? ⟨w.heap.size + 2, o, none⟩ = w2.frozen? ⟨w.heap.size + 2, o, none⟩ := fun X o => World.frozen?_of_block (w := w2) (a := ⟨w.heap.size + 2, o, none⟩) ((below1 w2 X).block _ (by show w.heap.size + 2 < _; omega))
    have a0' := fun X => (ga X 0 0 (by omega)).trans a0
    have a1' := fun X => (ga X 0 1 (by omega)).trans a1
    have a2' := fun X => (ga X 0 2 (by omega)).trans a2
    have b0' := fun X => (ga X 1 0 (by omega)).trans b0
    have b1' := fun X => (ga X 1 1 (by omega)).trans b1
    have b2' := fun X => (ga X 1 2 (by omega)).trans b2
    have r0' := fun X => (ga X 2 0 (by omega)).trans r0
    have r1' := fun X => (ga X 2 1 (by omega)).trans r1
    have r2' := fun X => (ga X 2 2 (by omega)).trans r2
    have f0' := fun X => (gb X 0).trans f0
    have f1' := fun X => (gb X 1).trans f1
    have f2' := fun X => (gb X 2).trans f2
    clear ga gb
    simp only [Nat.add_zero] at a0 a1 a2 a0' a1' a2'
    have HM2 := Lib.hid hM2
    have HQ2 := Lib.hid hQ2
    have HK2 : Hid (Kp w.heap.size (fun k => sl.ownBlock = some k) w w2) := Lib.hid ((Kp.of HB1.out (Nat.le_refl _)).trans (hK2.less (by omega)))
    clear hM2 hQ2 hK2 go gf HC
    go_wp2_with fail
    refine bodyPost_ret (v := .agg #[.bool false, .int .u64 (bits BinOp.or IntKind.u64 pf qf), .int .u64 qt]) (by simp [results, Tryd.results79, go_sem, *]) rfl ⟨rfl, ?_, ?_, kp3 (HK2.out.trans (.of (below1 w2 _) (by omega))) (by omega) _ _ _⟩
    · exact (at3 (by omega) _ _ _).trans (((below1 w2 _).block mb (by omega)).trans HM2.out)
    · exact HQ2.out.kp (kp3a (below1 w2 _) _ _ _) (Nat.le_refl _) (fun k hk e => by have := HSL.out k hk; unfold Is at e; omega)
  · go_enter Tryd.func79, Tryd.ntmps79
    go_wp2_with fail
    rw [← HW1.out]
    go_wp2_with fail
    refine HC.out.mono ?_
    rintro e w2 ⟨rfl, hM2, hQ2, hK2⟩
    have hs2 := hK2.size
    have go : ∀ n o, n < 3 → w2.cell? ⟨w.heap.size + n, o, none⟩ = w1.cell? ⟨w.heap.size + n, o, none⟩ := fun n o hn => hK2.cell (p := ⟨w.heap.size + n, o, none⟩) (by show w.heap.size + n < _; omega) (fun e => by have := HSL.out _ e; have : w.heap.size + n < w.heap.size := this; omega)
    have gf : ∀ o, w2.frozen? ⟨w.heap.size + 2, o, none⟩ = w1.frozen? ⟨w.heap.size + 2, o, none⟩ := fun o => World.frozen?_of_block (w := w1) (a := ⟨w.heap.size + 2, o, none⟩) (hK2.block _ (by show w.heap.size + 2 < _; omega) (fun e => by have := HSL.out _ e; have : w.heap.size + 2 < w.heap.size := this; omega))
    have a0 := (go 0 0 (by omega)).trans (HP.out 0 _ rfl)
    have a1 := (go 0 1 (by omega)).trans (HP.out 1 _ rfl)
    have a2 := (go 0 2 (by omega)).trans (HP.out 2 _ rfl)
    have b0 := (go 1 0 (by omega)).trans (HQQ.out 0 _ rfl)
    have b1 := (go 1 1 (by omega)).trans (HQQ.out 1 _ rfl)
    have b2 := (go 1 2 (by omega)).trans (HQQ.out 2 _ rfl)
    have r0 := (go 2 0 (by omega)).trans (HRR.out 0 _ rfl)
    have r1 := (go 2 1 (by omega)).trans (HRR.out 1 _ rfl)
    have r2 := (go 2 2 (by omega)).trans (HRR.out 2 _ rfl)
    have f0 := (gf 0).trans (HFR.out 0)
    have f1 := (gf 1).trans (HFR.out 1)
    have f2 := (gf 2).trans (HFR.out 2)
    have ga : ∀ X n o, n < 3 → (w2.alloc X).cell? ⟨w.heap.size + n, o, none⟩ = w2.cell? ⟨w.heap.size + n, o, none⟩ := fun X n o hn => (below1 w2 X).cell (p := ⟨w.heap.size + n, o, none⟩) (by show w.heap.size + n < _; omega)
    have gb : ∀ X o, (w2.alloc X).frozen? ⟨w.heap.size + 2, o, none⟩ = w2.frozen? ⟨w.heap.size + 2, o, none⟩ := fun X o => World.frozen?_of_block (w := w2) (a := ⟨w.heap.size + 2, o, none⟩) ((below1 w2 X).block _ (by show w.heap.size + 2 < _; omega))
    have a0' := fun X => (ga X 0 0 (by omega)).trans a0
    have a1' := fun X => (ga X 0 1 (by omega)).trans a1
    have a2' := fun X => (ga X 0 2 (by omega)).trans a2
    have b0' := fun X => (ga X 1 0 (by omega)).trans b0
    have b1' := fun X => (ga X 1 1 (by omega)).trans b1
    have b2' := fun X => (ga X 1 2 (by omega)).trans b2
    have r0' := fun X => (ga X 2 0 (by omega)).trans r0
    have r1' := fun X => (ga X 2 1 (by omega)).trans r1
    have r2' := fun X => (ga X 2 2 (by omega)).trans r2
    have f0' := fun X => (gb X 0).trans f0
    have f1' := fun X => (gb X 1).trans f1
    have f2' := fun X => (gb X 2).trans f2
    clear ga gb
    simp only [Nat.add_zero] at a0 a1 a2 a0' a1' a2'
    have HM2 := Lib.hid hM2
    have HQ2 := Lib.hid hQ2
    have HK2 : Hid (Kp w.heap.size (fun k => sl.ownBlock = some k) w w2) := Lib.hid ((Kp.of HB1.out (Nat.le_refl _)).trans (hK2.less (by omega)))
    clear hM2 hQ2 hK2 go gf HC
    go_wp2_with fail
    refine bodyPost_ret (v := .agg #[.bool true, .int .u64 (bits BinOp.or IntKind.u64 pf qf), .int .u64 (bits BinOp.or IntKind.u64 qt pt)]) (by simp [results, Tryd.results79, go_sem, *]) rfl ⟨rfl, ?_, ?_, kp3 (HK2.out.trans (.of (below1 w2 _) (by omega))) (by omega) _ _ _⟩
    · exact (at3 (by omega) _ _ _).trans (((below1 w2 _).block mb (by omega)).trans HM2.out)
    · exact HQ2.out.kp (kp3a (below1 w2 _) _ _ _) (Nat.le_refl _) (fun k hk e => by have := HSL.out k hk; unfold Is at e; omega)
end Go.Proofs.YtaipaddfehpmgaaDoor
