/-
  position.numbered: the match of a number. Nothing is assumed.
-/
import Derived.Test.YtbogiigdadljpaaDoorPtMat
namespace Go.Proofs.YtbogiigdadljpaaDoor
open Go.RowKit Go.Shelf

attribute [local go_sem] Oper.semAt_some

/-- The match of a number: negative ones count from the end. -/
def pickL (l : List (Nat × Nat)) (k : Int) : Option (Nat × Nat) :=
  let k := if k < 0 then k + (l.length : Nat) else k
  if 0 ≤ k then l[k.toNat]? else none

/-- A store into a box of a number leaves every other thing as it was. -/
theorem stored_other {W : World} {B t : Nat} {k : Int} {v u : Value} {a : Addr} (hb : Boxed W B t (.int .i64 k)) (h : W.cell? a = some u) (hu : ∀ z, u ≠ .int .i64 z) : (W.setCell ⟨B, 0, none⟩ v).cell? a = some u := by
  rw [World.cell?_setCell_other]
  · exact h
  · intro e
    rw [← e, hb.cell] at h
    exact hu k (Option.some.inj h).symm
theorem IsIt.store {W : World} {n bs bm bh g c : Nat} {oa : Option Addr} {cap : Nat} {ps : List Ps} {last : Int} {s : ByteArray} (h : IsIt W n bs bm bh g c oa cap ps last s) {B t : Nat} {k : Int} (hb : Boxed W B t (.int .i64 k)) (v : Value) :
    IsIt (W.setCell ⟨B, 0, none⟩ v) n bs bm bh g c oa cap ps last s where
  text := stored_other hb h.text (fun _ e => by cases e)
  mach := stored_other hb h.mach (fun _ e => by cases e)
  last' := stored_other hb h.last' (fun _ e => by cases e)
  hope := stored_other hb h.hope (fun _ e => by cases e)
  pos := by
    obtain ⟨oa', cap', e, hm, hel⟩ := h.pos
    refine ⟨oa', cap', e, hm, fun i p hp => ?_⟩
    obtain ⟨b, off, h1, h2, h3⟩ := hel i p hp
    refine ⟨b, off, h1, h2, fun j u hu => stored_other hb (h3 j u hu) fun z e => ?_⟩
    subst e
    unfold Ps.cs at hu
    match j, hu with
    | 0, hu => cases hu
    | 1, hu => cases hu
    | 2, hu => cases hu
    | 3, hu => cases hu
    | 4, hu => cases hu
    | j + 5, hu => cases hu
  st := fun i x hx => stored_other hb (h.st i x hx) (fun _ e => by cases e)
  ls := h.ls
  lm := h.lm
  lh := h.lh
  lg := h.lg
  le := by rw [World.size_setCell]; exact h.le

theorem pair_cells {W : World} {B t : Nat} {a b : Value} (h : W.heap[B]? = some (.cells #[a, b] t)) : W.cell? ⟨B, 0, none⟩ = some a ∧ W.cell? ⟨B, 1, none⟩ = some b ∧ W.frozen? ⟨B, 0, none⟩ = false ∧ W.frozen? ⟨B, 1, none⟩ = false := by
  simp [World.cell?, World.frozen?, h]

/-- The world behind the three stores of a result. -/
theorem out_cells {W : World} {B : Nat} {a b c a' b' c' : Value} {t u : Nat} (h : W.heap[B + 1]? = some (.cells #[a, b] t)) (h' : Boxed W (B + 1 + 1) u c) :
    (((W.setCell ⟨B + 1, 0, none⟩ a').setCell ⟨B + 1, 1, none⟩ b').setCell ⟨B + 1 + 1, 0, none⟩ c').heap[B + 1]? = some (.cells #[a', b'] t) ∧
    Boxed (((W.setCell ⟨B + 1, 0, none⟩ a').setCell ⟨B + 1, 1, none⟩ b').setCell ⟨B + 1 + 1, 0, none⟩ c') (B + 1 + 1) u c' := by
  have hlt : B + 1 < W.heap.size := (Array.getElem?_eq_some_iff.1 h).1
  have hne : (⟨B + 1, 0, none⟩ : Addr).block ≠ B + 1 + 1 := by simp
  constructor
  · rw [Below.heap_setCell _ _ _ _ (by simp)]
    have e1 := heap_setCell_same W (B + 1) 0 #[a, b] t a' h
    have e2 := heap_setCell_same _ (B + 1) 1 _ t b' e1
    simpa using e2
  · refine Boxed.set _ (v := c) ?_
    unfold Boxed at h' ⊢
    rw [Below.heap_setCell _ _ _ _ (by simp), Below.heap_setCell _ _ _ _ (by simp)]
    exact h'
theorem out_below {W : World} {B : Nat} {a' b' c' : Value} :
    Below (B + 1) W (((W.setCell ⟨B + 1, 0, none⟩ a').setCell ⟨B + 1, 1, none⟩ b').setCell ⟨B + 1 + 1, 0, none⟩ c') :=
  (((Below.refl _ W).setCell (p := ⟨B + 1, 0, none⟩) (Nat.le_refl _) _).setCell (p := ⟨B + 1, 1, none⟩) (Nat.le_refl _) _).setCell (p := ⟨B + 1 + 1, 0, none⟩) (by simp) _

set_option maxRecDepth 100000 in
set_option maxHeartbeats 2000000 in
theorem numbered_in (n : Nat) (hn : 10 ≤ n) (p s : ByteArray) (k : Int) (hk : -2 ^ 63 ≤ k ∧ k < 2 ^ 63) (w : World) (hA : AL w) (hs : s.size ≤ 1000) :
    CallsIn Fence.wide n Tryd.prog 28 #[.string p, .string s, .int .i64 k] w fun e w' =>
      ((errP p ≠ 0 ∧ e = .returned (.tuple #[enM (0, 0), .int .i64 (errP p)])) ∨
       (errP p = 0 ∧ ((∃ x, pickL (matS p s) k = some x ∧ e = .returned (.tuple #[enM x, .int .i64 0])) ∨ (pickL (matS p s) k = none ∧ e = .returned (.tuple #[enM (0, 0), .int .i64 7]))))) ∧ Below w.heap.size w w' := by
  have h1 : 1 ≤ n := by omega
  have noD : ∀ k : Nat, (Fence.wide.depth.isSome = true → 1 ≤ k) := fun k h => by cases h
  obtain ⟨w5, hw5⟩ : ∃ w5, w5 = ((w.alloc (.cells #[.int .i64 k] 3)).alloc (.cells #[.int .i64 0, .int .i64 0] 36)).alloc (.cells #[.int .i64 0] 24) := ⟨_, rfl⟩
  have hs5 : w5.heap.size = w.heap.size + 3 := by rw [hw5]; simp
  have hb5 : Below w.heap.size w w5 := by
    rw [hw5]
    exact (((Below.refl _ w).alloc (Nat.le_refl _) _).alloc (by simp) _).alloc (by simp; omega) _
  have bK : Boxed w5 w.heap.size 3 (.int .i64 k) := by
    rw [hw5]; exact ((Boxed.new w _ _).alloc _).alloc _
  have bR : w5.heap[w.heap.size + 1]? = some (.cells #[.int .i64 0, .int .i64 0] 36) := by
    rw [hw5]
    refine (Below.heap_alloc _ _ _ (by simp)).trans ?_
    have := World.alloc_heap_new (w.alloc (.cells #[.int .i64 k] 3)) (.cells #[.int .i64 0, .int .i64 0] 36)
    simpa using this
  have bE : Boxed w5 (w.heap.size + 1 + 1) 24 (.int .i64 0) := by
    rw [hw5]
    have := Boxed.new ((w.alloc (.cells #[.int .i64 k] 3)).alloc (.cells #[.int .i64 0, .int .i64 0] 36)) 24 (.int .i64 0)
    simpa using this
  have HF := Lib.hid (find_any p s w5 (hA.later hb5) hs)
  refine callsIn_of_wp_marks Tryd.func28 rfl trivial ?_ rfl
  simp only [Tryd.ntmps28, List.size_toArray, List.length_cons, List.length_nil, Nat.reduceAdd, Nat.reduceSub, Array.replicate_succ, Array.replicate_zero, List.push_toArray, List.append_toArray, List.nil_append, List.cons_append]
  gi_wp2
  rw [← hw5]
  refine ⟨trivial, ?_⟩
  gi_at_call 23
  refine (callsIn_wide.2 HF.out).mono ?_
  clear HF
  rintro e w6 ⟨⟨hne, rfl⟩ | ⟨bs, bm, bh, g, c, oa, cap, t, h0, hm, rfl, hI⟩, hb6⟩
  · have hb7 := hb5.trans (hb6.mono (by omega))
    have rb := (hb6.block _ (by omega)).trans bR
    obtain ⟨r0, r1, r2, r3⟩ := pair_cells rb
    have eb : Boxed w6 (w.heap.size + 1 + 1) 24 (.int .i64 0) := (hb6.block _ (by omega)).trans bE
    have ec := eb.cell
    have ef := eb.frozen
    have HO := Lib.hid (out_cells (a' := .int .i64 0) (b' := .int .i64 0) (c' := .int .i64 (errP p)) rb eb)
    clear bR bE bK eb rb
    gi_wp2
    obtain ⟨k1, k2⟩ := HO.out
    obtain ⟨d0, d1, _, _⟩ := pair_cells k1
    have d2 := k2.cell
    exact ⟨.tuple #[.agg #[.int .i64 0, .int .i64 0], .int .i64 (errP p)], by simp [results, Tryd.results28, go_sem, d0, d1, d2], .inl ⟨hne, rfl⟩, hb7.trans (out_below.mono (by simp))⟩
  · have hb7 := hb5.trans (hb6.mono (by omega))
    have rb := (hb6.block _ (by omega)).trans bR
    have eb : Boxed w6 (w.heap.size + 1 + 1) 24 (.int .i64 0) := (hb6.block _ (by omega)).trans bE
    have kb : Boxed w6 w.heap.size 3 (.int .i64 k) := (hb6.block _ (by omega)).trans bK
    have kc := kb.cell
    have kf := kb.frozen
    have HM := Lib.hid hm
    have HI := Lib.hid hI
    clear hm hI bR bE bK
    rcases Int.lt_or_le k 0 with hneg | hpos
    · have kc := kb.cell
      have hmx : Tryd.prog.follows .mixedOrders = true := by kernel_rfl
      have hln : (matS p s).length ≤ s.size + 1 := by
        have := matL_len (buildT t).1 (hopeL (buildT t).1 (buildT t).2 s.data.toList) s.size (s.size + 1) 0
        rwa [matT_eq, ← HM.out] at this
      have hwr : IntKind.i64.wrap (k + ((matS p s).length : Int)) = k + ((matS p s).length : Int) := IntWalk.i64_in _ (by omega)
      have HID : Hid (IsIt w6.drew w6.drew.heap.size bs bm bh g c oa cap (buildT t).1 (buildT t).2 s) := Lib.hid (HI.out.later (Below.refl _ w6).drew)
      have HLn := Lib.hid (length_any w6.drew bs bm bh g c oa cap t s hs HID.out)
      rw [← HM.out] at HLn
      gi_wp2
      refine wpIn_region_any hmx ?_
      change wpAnyIn _ _ _ _ _ _ _ _ _ (World.drew _)
      have kd : Boxed w6.drew w.heap.size 3 (.int .i64 k) := kb
      have rd : w6.drew.heap[w.heap.size + 1]? = some (.cells #[.int .i64 0, .int .i64 0] 36) := rb
      have ed : Boxed w6.drew (w.heap.size + 1 + 1) 24 (.int .i64 0) := eb
      have hbd : Below w.heap.size w w6.drew := hb7.drew
      have hWd3 : w.heap.size + 3 ≤ w6.drew.heap.size := by have := hb6.size; show _ ≤ w6.heap.size; omega
      have cd := kd.cell
      have fd := kd.frozen
      clear kb rb eb hb7 hb6 HI kc kf
      generalize w6.drew = Wd at *
      refine wpAnyIn_ready (rs := [0, 1]) (by kernel_rfl) (by simp) ?_
      refine AllReadyIn.cons rfl (fun K hK => ?_) ?_
      · go_simp
        refine hK _ _ ?_
        clear hK K
        refine wpAnyIn_ready (rs := [1]) (by kernel_rfl) (by simp) ?_
        refine AllReadyIn.cons rfl (fun K hK => ?_) ?_
        · go_simp
          refine hK _ _ ?_
          clear hK K
          refine wpAnyIn_ready (rs := [2]) (by kernel_rfl) (by simp) ?_
          refine AllReadyIn.cons rfl (fun K hK => ?_) ?_
          · go_simp
            refine ⟨trivial, ?_⟩
            gi_at_call 27
            refine (callsIn_wide.2 HLn.out).mono ?_
            rintro e w7 ⟨rfl, hq7⟩
            refine hK _ _ ?_
            clear hK K
            have k7 : Boxed w7 w.heap.size 3 (.int .i64 k) := (hq7.block _ (by omega)).trans kd
            have c7 := k7.cell
            have f7 := k7.frozen
            clear kd
            refine wpAnyIn_ready (rs := [3]) (by kernel_rfl) (by simp) ?_
            refine AllReadyIn.cons rfl (fun K hK => ?_) ?_
            · go_simp
              refine hK _ _ ?_
              clear hK K
              refine wpAnyIn_ready (rs := [4]) (by kernel_rfl) (by simp) ?_
              refine AllReadyIn.cons rfl (fun K hK => ?_) ?_
              · go_simp
                refine hK _ _ ?_
                clear hK K
                refine wpAnyIn_done (by kernel_rfl) ?_ _
                obtain ⟨W9, hW9⟩ : ∃ W9, W9 = w7.setCell ⟨w.heap.size, 0, none⟩ (.int .i64 (k + ((matS p s).length : Int))) := ⟨_, rfl⟩
                rw [← hW9]
                have hs9 : W9.heap.size = w7.heap.size := by rw [hW9]; simp
                have h79 : Below w.heap.size w7 W9 := by rw [hW9]; exact (Below.refl _ _).setCell (p := ⟨w.heap.size, 0, none⟩) (Nat.le_refl _) _
                have h97 : ∀ j, j ≠ w.heap.size → W9.heap[j]? = w7.heap[j]? := fun j hj => by rw [hW9]; exact Below.heap_setCell _ _ _ _ hj
                have kbW : Boxed W9 w.heap.size 3 (.int .i64 (k + ((matS p s).length : Int))) := by rw [hW9]; exact k7.set _
                have rbW : W9.heap[w.heap.size + 1]? = some (.cells #[.int .i64 0, .int .i64 0] 36) := (h97 _ (by omega)).trans ((hq7.block _ (by omega)).trans rd)
                have ebW : Boxed W9 (w.heap.size + 1 + 1) 24 (.int .i64 0) := (h97 _ (by omega)).trans ((hq7.block _ (by omega)).trans ed)
                have hb7W : Below w.heap.size w W9 := (hbd.trans (hq7.mono (by omega))).trans h79
                have hI9 : IsIt W9 W9.heap.size bs bm bh g c oa cap (buildT t).1 (buildT t).2 s := by
                  rw [hW9]
                  exact ((HID.out.later hq7).store k7 _).weak (by have := hq7.size; simp; omega) (Nat.le_refl _)
                have HI := Lib.hid hI9
                have hW3 : w.heap.size + 3 ≤ W9.heap.size := by have := hq7.size; omega
                have HKK : Hid (pickL (matS p s) k = if 0 ≤ k + ((matS p s).length : Int) then (matS p s)[Int.toNat (k + ((matS p s).length : Int))]? else none) := Lib.hid (by unfold pickL; simp only [if_pos hneg])
                clear hI9 hW9 h79 h97 k7 hq7 rd ed hbd hwr hs9 c7 f7
                obtain ⟨w8, hw8⟩ : ∃ w8, w8 = W9.alloc (.cells #[.int .i64 0] 3) := ⟨_, rfl⟩
                have hs8 : w8.heap.size = W9.heap.size + 1 := by rw [hw8]; simp
                have hB8 : Below W9.heap.size W9 w8 := by rw [hw8]; exact below1 _ _
                have bI : Boxed w8 W9.heap.size 3 (.int .i64 0) := by rw [hw8]; exact Boxed.new W9 _ _
                have hMs := mat_stops (n - 1) W9.heap.size bs bm bh g c oa cap _ _ s hs w8 (HI.out.later hB8)
                rw [matT_eq, ← HM.out] at hMs
                have hkeep : ∀ V j, Below W9.heap.size W9 V → j < W9.heap.size → V.heap[j]? = W9.heap[j]? := fun V j hb hj => hb.block j hj
                gi_wp2
                rw [← hw8]
                refine wpIn_rangeFunc_ownH rfl h1 (gf := 49) (lb := #[.pointer (some ⟨bs, 0, none⟩), .pointer (some ⟨bm, 0, none⟩), .pointer (some ⟨bh, 0, none⟩)]) rfl trivial (enters_of Tryd.func49 (by kernel_rfl) rfl)
                  hMs (fun h k => h.trans k) (belowK_b (by omega)) (Below.refl _ _) (fun _ => rfl)
                  (fun (pre : List (Nat × Nat)) V => Boxed V W9.heap.size 3 (.int .i64 (pre.length : Nat)) ∧ (∀ j : Nat, j < pre.length → (j : Int) ≠ (k + ((matS p s).length : Int))) ∧ Below W9.heap.size W9 V)
                  (fun cc (pre : List (Nat × Nat)) V => (cc = .ret ∧ ∃ pre' x, pre = pre' ++ [x] ∧ (k + ((matS p s).length : Int)) = (pre'.length : Nat) ∧ V.heap[w.heap.size + 1]? = some (.cells #[.int .i64 (x.1 : Int), .int .i64 (x.2 : Int)] 36) ∧ Boxed V (w.heap.size + 1 + 1) 24 (.int .i64 0)) ∧ Below w.heap.size w V)
                  (OwnFrom.and (fun pre V V' row hh hg hr => (grownBy_keeps_cells hg (fun r e => (hr r e).2) hh rfl).trans hh) (OwnFrom.and (fun pre V V' row hh hg hr => hh) (ownFrom_below (Nat.le_refl _) (by omega))))
                  (fun cc => OwnFrom.and (fun pre V V' row hh hg hr => by
                    obtain ⟨g1, pre', x, g2, g3, g4, g5⟩ := hh
                    exact ⟨g1, pre', x, g2, g3, (grownBy_keeps_cells hg (fun r e => (hr r e).2) g4 rfl).trans g4, (grownBy_keeps_cells hg (fun r e => (hr r e).2) g5 rfl).trans g5⟩) (ownFrom_below (Nat.le_refl _) (by omega)))
                  ⟨bI, fun j hj => absurd hj (Nat.not_lt_zero _), hB8⟩
                  (fun (x : Nat × Nat) a' V => ∃ Bx, V.heap[Bx]? = some (.cells #[.int .i64 (x.1 : Int), .int .i64 (x.2 : Int)] 36) ∧ a' = { tmps := #[.string p, .string s, .int .i64 k, undef, undef, .pointer (some ⟨w.heap.size, 0, none⟩), .pointer (some ⟨w.heap.size + 1, 0, none⟩), .pointer (some ⟨w.heap.size + 1 + 1, 0, none⟩), itV bs bm bh, .int .i64 0, .pointer (some ⟨W9.heap.size, 0, none⟩), .pointer (some ⟨Bx, 0, none⟩), .tuple #[itV bs bm bh, .int .i64 0], .string p, .string s, .tuple #[itV bs bm bh, .int .i64 0], itV bs bm bh, .int .i64 0, .int .i64 0, .bool false, undef, undef, .int .i64 k, .bool true, .int .i64 k, itV bs bm bh, .int .i64 ((matS p s).length : Int), .int .i64 (k + ((matS p s).length : Int)), itV bs bm bh, enM x, undef, undef, undef, undef, undef, undef, undef], defers := [] })
                  (fun x a' _ X Y row hs hg hr => by
                    obtain ⟨Bx, k2, k3⟩ := hs
                    exact ⟨Bx, (grownBy_keeps_cells hg (fun r e => (hr r e).2) k2 rfl).trans k2, k3⟩)
                  ?assignNeg1 ?bodyNeg1 ?doneNeg1 ?stopNeg1
                case assignNeg1 =>
                  rintro l pre x V K ⟨bV, hnh, hBV⟩ hK
                  have hsV := hBV.size
                  simp only [enM, itV] at hK ⊢
                  gi_wp2
                  exact hK _ _ ((KeepsOthers.alloc _ _).from _) ((Below.refl _ _).alloc hsV _) ⟨bV.alloc _, hnh, hBV.alloc hsV _⟩ ⟨V.heap.size, World.alloc_heap_new V _, by simp⟩
                case bodyNeg1 =>
                  rintro l pre x a' V hl ⟨r, hr⟩ ⟨bV, hnh, hBV⟩ ⟨Bx, bX, rfl⟩ hlt
                  have hsV := hBV.size
                  have cI := bV.cell
                  have fI := bV.frozen
                  have kV : Boxed V w.heap.size 3 (.int .i64 ((k + ((matS p s).length : Int)))) := (hkeep V _ hBV (by omega)).trans kbW
                  have rV : V.heap[w.heap.size + 1]? = some (.cells #[.int .i64 0, .int .i64 0] 36) := (hkeep V _ hBV (by omega)).trans rbW
                  have eV : Boxed V (w.heap.size + 1 + 1) 24 (.int .i64 0) := (hkeep V _ hBV (by omega)).trans ebW
                  have cK := kV.cell
                  have cE := eV.cell
                  have fE := eV.frozen
                  obtain ⟨x0, x1, _, _⟩ := pair_cells bX
                  obtain ⟨r0, r1, r2, r3⟩ := pair_cells rV
                  have HO := Lib.hid (out_cells (a' := .int .i64 (x.1 : Int)) (b' := .int .i64 (x.2 : Int)) (c' := .int .i64 0) rV eV)
                  have hmp : pre.length ≤ s.size := by omega
                  have hwr : IntKind.i64.wrap ((pre.length : Int) + 1) = ((pre.length : Int) + 1) := IntWalk.i64_in _ (by omega)
                  have BVX := Lib.hid bV
                  have BEV := Lib.hid hBV
                  clear kV rV eV bX bV hBV hkeep hMs hB8 bI hl hr
                  simp only [itV, enM]
                  by_cases hq : (pre.length : Int) = (k + ((matS p s).length : Int))
                  · gi_wp2
                    obtain ⟨z1, z2⟩ := HO.out
                    refine ⟨(((KeepsOthers.setCell _ _ _).trans (KeepsOthers.setCell _ _ _)).trans (KeepsOthers.setCell _ _ _)).from _, ⟨rfl, pre, x, rfl, hq.symm, z1, z2⟩, ?_⟩
                    exact (hb7W.trans (BEV.out.mono (by omega))).trans (out_below.mono (by simp))
                  · gi_wp2
                    have hq2 : Below W9.heap.size V (V.setCell ⟨W9.heap.size, 0, none⟩ (.int .i64 ((pre.length : Int) + 1))) := (Below.refl _ _).setCell (p := ⟨W9.heap.size, 0, none⟩) (Nat.le_refl _) _
                    refine ⟨(KeepsOthers.setCell _ _ _).from _, hq2, ?_, ?_, BEV.out.trans hq2⟩
                    · rw [List.length_append, List.length_singleton, Int.natCast_add]
                      exact BVX.out.set _
                    · intro j hj
                      rw [List.length_append, List.length_singleton] at hj
                      rcases Nat.lt_or_ge j pre.length with h | h
                      · exact hnh j h
                      · obtain rfl : j = pre.length := by omega
                        exact hq
                case doneNeg1 =>
                  rintro D ys V hD rfl ⟨bV, hnh, hBV⟩ hK
                  have rV : V.heap[w.heap.size + 1]? = some (.cells #[.int .i64 0, .int .i64 0] 36) := (hkeep V _ hBV (by omega)).trans rbW
                  have eV : Boxed V (w.heap.size + 1 + 1) 24 (.int .i64 0) := (hkeep V _ hBV (by omega)).trans ebW
                  have cE := eV.cell
                  have fE := eV.frozen
                  obtain ⟨r0, r1, r2, r3⟩ := pair_cells rV
                  have HO := Lib.hid (out_cells (a' := .int .i64 0) (b' := .int .i64 0) (c' := .int .i64 7) rV eV)
                  have hKD : (((V.setCell ⟨w.heap.size + 1, 0, none⟩ (.int .i64 0)).setCell ⟨w.heap.size + 1, 1, none⟩ (.int .i64 0)).setCell ⟨w.heap.size + 1 + 1, 0, none⟩ (.int .i64 7)).heap[D]? = some (.deferred (some [])) := by
                    rw [Below.heap_setCell _ _ _ _ (by show D ≠ w.heap.size + 1 + 1; omega), Below.heap_setCell _ _ _ _ (by show D ≠ w.heap.size + 1; omega), Below.heap_setCell _ _ _ _ (by show D ≠ w.heap.size + 1; omega)]
                    exact hK
                  have BEV := Lib.hid hBV
                  clear rV eV hK hBV bV hkeep hMs hB8 bI
                  gi_wp2
                  refine ⟨by simp, .inl ⟨_, _, rfl, run_takeDeferred hKD, ?_⟩⟩
                  obtain ⟨z1, z2⟩ := HO.out
                  obtain ⟨d0, d1, _, _⟩ := pair_cells ((World.putObj_heap_other (o := .deferred none) (by show w.heap.size + 1 ≠ D; omega)).trans z1)
                  have d2 := Boxed.cell ((World.putObj_heap_other (o := .deferred none) (by show w.heap.size + 1 + 1 ≠ D; omega)).trans z2)
                  refine ⟨.tuple #[.agg #[.int .i64 0, .int .i64 0], .int .i64 7], by simp [results, Tryd.results28, go_sem, d0, d1, d2], .inr ⟨h0, .inr ⟨?_, rfl⟩⟩, ?_⟩
                  · rw [HKK.out]
                    by_cases hz : 0 ≤ (k + ((matS p s).length : Int))
                    · rw [if_pos hz]
                      refine List.getElem?_eq_none ?_
                      rcases Nat.lt_or_ge (Int.toNat ((k + ((matS p s).length : Int)))) (matS p s).length with h | h
                      · exact absurd (by omega) (hnh _ h)
                      · exact h
                    · rw [if_neg hz]
                  · exact ((hb7W.trans (BEV.out.mono (by omega))).trans (out_below.mono (by simp))).trans (belowK_b (w := w8) (by omega) _ D _ _ hD hKD rfl rfl)
                case stopNeg1 =>
                  rintro D cc pre V hD hp ⟨⟨rfl, pre', x, rfl, hkk, z1, z2⟩, hBV⟩ hK
                  obtain ⟨d0, d1, _, _⟩ := pair_cells ((World.putObj_heap_other (o := .deferred none) (by show w.heap.size + 1 ≠ D; omega)).trans z1)
                  have d2 := Boxed.cell ((World.putObj_heap_other (o := .deferred none) (by show w.heap.size + 1 + 1 ≠ D; omega)).trans z2)
                  gi_wp2
                  refine ⟨by simp, .inl ⟨_, _, rfl, run_takeDeferred hK, ?_⟩⟩
                  refine ⟨.tuple #[.agg #[.int .i64 (x.1 : Int), .int .i64 (x.2 : Int)], .int .i64 0], by simp [results, Tryd.results28, go_sem, d0, d1, d2], .inr ⟨h0, .inl ⟨x, ?_, rfl⟩⟩, ?_⟩
                  · rw [HKK.out, if_pos (by omega)]
                    have : Int.toNat ((k + ((matS p s).length : Int))) = pre'.length := by omega
                    rw [this]
                    obtain ⟨rest, hrest⟩ := hp
                    rw [← hrest]
                    simp
                  · exact hBV.trans (belowK_b (w := w8) (by omega) _ D _ _ hD hK rfl rfl)
              exact AllReadyIn.nil
            exact AllReadyIn.nil
          exact AllReadyIn.nil
        exact AllReadyIn.nil
      refine AllReadyIn.cons rfl (fun K hK => ?_) ?_
      · go_simp
        refine hK _ _ ?_
        clear hK K
        refine wpAnyIn_ready (rs := [0, 2]) (by kernel_rfl) (by simp) ?_
        refine AllReadyIn.cons rfl (fun K hK => ?_) ?_
        · go_simp
          refine hK _ _ ?_
          clear hK K
          refine wpAnyIn_ready (rs := [2]) (by kernel_rfl) (by simp) ?_
          refine AllReadyIn.cons rfl (fun K hK => ?_) ?_
          · go_simp
            refine ⟨trivial, ?_⟩
            gi_at_call 27
            refine (callsIn_wide.2 HLn.out).mono ?_
            rintro e w7 ⟨rfl, hq7⟩
            refine hK _ _ ?_
            clear hK K
            have k7 : Boxed w7 w.heap.size 3 (.int .i64 k) := (hq7.block _ (by omega)).trans kd
            have c7 := k7.cell
            have f7 := k7.frozen
            clear kd
            refine wpAnyIn_ready (rs := [3]) (by kernel_rfl) (by simp) ?_
            refine AllReadyIn.cons rfl (fun K hK => ?_) ?_
            · go_simp
              refine hK _ _ ?_
              clear hK K
              refine wpAnyIn_ready (rs := [4]) (by kernel_rfl) (by simp) ?_
              refine AllReadyIn.cons rfl (fun K hK => ?_) ?_
              · go_simp
                refine hK _ _ ?_
                clear hK K
                refine wpAnyIn_done (by kernel_rfl) ?_ _
                obtain ⟨W9, hW9⟩ : ∃ W9, W9 = w7.setCell ⟨w.heap.size, 0, none⟩ (.int .i64 (k + ((matS p s).length : Int))) := ⟨_, rfl⟩
                rw [← hW9]
                have hs9 : W9.heap.size = w7.heap.size := by rw [hW9]; simp
                have h79 : Below w.heap.size w7 W9 := by rw [hW9]; exact (Below.refl _ _).setCell (p := ⟨w.heap.size, 0, none⟩) (Nat.le_refl _) _
                have h97 : ∀ j, j ≠ w.heap.size → W9.heap[j]? = w7.heap[j]? := fun j hj => by rw [hW9]; exact Below.heap_setCell _ _ _ _ hj
                have kbW : Boxed W9 w.heap.size 3 (.int .i64 (k + ((matS p s).length : Int))) := by rw [hW9]; exact k7.set _
                have rbW : W9.heap[w.heap.size + 1]? = some (.cells #[.int .i64 0, .int .i64 0] 36) := (h97 _ (by omega)).trans ((hq7.block _ (by omega)).trans rd)
                have ebW : Boxed W9 (w.heap.size + 1 + 1) 24 (.int .i64 0) := (h97 _ (by omega)).trans ((hq7.block _ (by omega)).trans ed)
                have hb7W : Below w.heap.size w W9 := (hbd.trans (hq7.mono (by omega))).trans h79
                have hI9 : IsIt W9 W9.heap.size bs bm bh g c oa cap (buildT t).1 (buildT t).2 s := by
                  rw [hW9]
                  exact ((HID.out.later hq7).store k7 _).weak (by have := hq7.size; simp; omega) (Nat.le_refl _)
                have HI := Lib.hid hI9
                have hW3 : w.heap.size + 3 ≤ W9.heap.size := by have := hq7.size; omega
                have HKK : Hid (pickL (matS p s) k = if 0 ≤ k + ((matS p s).length : Int) then (matS p s)[Int.toNat (k + ((matS p s).length : Int))]? else none) := Lib.hid (by unfold pickL; simp only [if_pos hneg])
                clear hI9 hW9 h79 h97 k7 hq7 rd ed hbd hwr hs9 c7 f7
                obtain ⟨w8, hw8⟩ : ∃ w8, w8 = W9.alloc (.cells #[.int .i64 0] 3) := ⟨_, rfl⟩
                have hs8 : w8.heap.size = W9.heap.size + 1 := by rw [hw8]; simp
                have hB8 : Below W9.heap.size W9 w8 := by rw [hw8]; exact below1 _ _
                have bI : Boxed w8 W9.heap.size 3 (.int .i64 0) := by rw [hw8]; exact Boxed.new W9 _ _
                have hMs := mat_stops (n - 1) W9.heap.size bs bm bh g c oa cap _ _ s hs w8 (HI.out.later hB8)
                rw [matT_eq, ← HM.out] at hMs
                have hkeep : ∀ V j, Below W9.heap.size W9 V → j < W9.heap.size → V.heap[j]? = W9.heap[j]? := fun V j hb hj => hb.block j hj
                gi_wp2
                rw [← hw8]
                refine wpIn_rangeFunc_ownH rfl h1 (gf := 49) (lb := #[.pointer (some ⟨bs, 0, none⟩), .pointer (some ⟨bm, 0, none⟩), .pointer (some ⟨bh, 0, none⟩)]) rfl trivial (enters_of Tryd.func49 (by kernel_rfl) rfl)
                  hMs (fun h k => h.trans k) (belowK_b (by omega)) (Below.refl _ _) (fun _ => rfl)
                  (fun (pre : List (Nat × Nat)) V => Boxed V W9.heap.size 3 (.int .i64 (pre.length : Nat)) ∧ (∀ j : Nat, j < pre.length → (j : Int) ≠ (k + ((matS p s).length : Int))) ∧ Below W9.heap.size W9 V)
                  (fun cc (pre : List (Nat × Nat)) V => (cc = .ret ∧ ∃ pre' x, pre = pre' ++ [x] ∧ (k + ((matS p s).length : Int)) = (pre'.length : Nat) ∧ V.heap[w.heap.size + 1]? = some (.cells #[.int .i64 (x.1 : Int), .int .i64 (x.2 : Int)] 36) ∧ Boxed V (w.heap.size + 1 + 1) 24 (.int .i64 0)) ∧ Below w.heap.size w V)
                  (OwnFrom.and (fun pre V V' row hh hg hr => (grownBy_keeps_cells hg (fun r e => (hr r e).2) hh rfl).trans hh) (OwnFrom.and (fun pre V V' row hh hg hr => hh) (ownFrom_below (Nat.le_refl _) (by omega))))
                  (fun cc => OwnFrom.and (fun pre V V' row hh hg hr => by
                    obtain ⟨g1, pre', x, g2, g3, g4, g5⟩ := hh
                    exact ⟨g1, pre', x, g2, g3, (grownBy_keeps_cells hg (fun r e => (hr r e).2) g4 rfl).trans g4, (grownBy_keeps_cells hg (fun r e => (hr r e).2) g5 rfl).trans g5⟩) (ownFrom_below (Nat.le_refl _) (by omega)))
                  ⟨bI, fun j hj => absurd hj (Nat.not_lt_zero _), hB8⟩
                  (fun (x : Nat × Nat) a' V => ∃ Bx, V.heap[Bx]? = some (.cells #[.int .i64 (x.1 : Int), .int .i64 (x.2 : Int)] 36) ∧ a' = { tmps := #[.string p, .string s, .int .i64 k, undef, undef, .pointer (some ⟨w.heap.size, 0, none⟩), .pointer (some ⟨w.heap.size + 1, 0, none⟩), .pointer (some ⟨w.heap.size + 1 + 1, 0, none⟩), itV bs bm bh, .int .i64 0, .pointer (some ⟨W9.heap.size, 0, none⟩), .pointer (some ⟨Bx, 0, none⟩), .tuple #[itV bs bm bh, .int .i64 0], .string p, .string s, .tuple #[itV bs bm bh, .int .i64 0], itV bs bm bh, .int .i64 0, .int .i64 0, .bool false, undef, undef, .int .i64 k, .bool true, .int .i64 k, itV bs bm bh, .int .i64 ((matS p s).length : Int), .int .i64 (k + ((matS p s).length : Int)), itV bs bm bh, enM x, undef, undef, undef, undef, undef, undef, undef], defers := [] })
                  (fun x a' _ X Y row hs hg hr => by
                    obtain ⟨Bx, k2, k3⟩ := hs
                    exact ⟨Bx, (grownBy_keeps_cells hg (fun r e => (hr r e).2) k2 rfl).trans k2, k3⟩)
                  ?assignNeg2 ?bodyNeg2 ?doneNeg2 ?stopNeg2
                case assignNeg2 =>
                  rintro l pre x V K ⟨bV, hnh, hBV⟩ hK
                  have hsV := hBV.size
                  simp only [enM, itV] at hK ⊢
                  gi_wp2
                  exact hK _ _ ((KeepsOthers.alloc _ _).from _) ((Below.refl _ _).alloc hsV _) ⟨bV.alloc _, hnh, hBV.alloc hsV _⟩ ⟨V.heap.size, World.alloc_heap_new V _, by simp⟩
                case bodyNeg2 =>
                  rintro l pre x a' V hl ⟨r, hr⟩ ⟨bV, hnh, hBV⟩ ⟨Bx, bX, rfl⟩ hlt
                  have hsV := hBV.size
                  have cI := bV.cell
                  have fI := bV.frozen
                  have kV : Boxed V w.heap.size 3 (.int .i64 ((k + ((matS p s).length : Int)))) := (hkeep V _ hBV (by omega)).trans kbW
                  have rV : V.heap[w.heap.size + 1]? = some (.cells #[.int .i64 0, .int .i64 0] 36) := (hkeep V _ hBV (by omega)).trans rbW
                  have eV : Boxed V (w.heap.size + 1 + 1) 24 (.int .i64 0) := (hkeep V _ hBV (by omega)).trans ebW
                  have cK := kV.cell
                  have cE := eV.cell
                  have fE := eV.frozen
                  obtain ⟨x0, x1, _, _⟩ := pair_cells bX
                  obtain ⟨r0, r1, r2, r3⟩ := pair_cells rV
                  have HO := Lib.hid (out_cells (a' := .int .i64 (x.1 : Int)) (b' := .int .i64 (x.2 : Int)) (c' := .int .i64 0) rV eV)
                  have hmp : pre.length ≤ s.size := by omega
                  have hwr : IntKind.i64.wrap ((pre.length : Int) + 1) = ((pre.length : Int) + 1) := IntWalk.i64_in _ (by omega)
                  have BVX := Lib.hid bV
                  have BEV := Lib.hid hBV
                  clear kV rV eV bX bV hBV hkeep hMs hB8 bI hl hr
                  simp only [itV, enM]
                  by_cases hq : (pre.length : Int) = (k + ((matS p s).length : Int))
                  · gi_wp2
                    obtain ⟨z1, z2⟩ := HO.out
                    refine ⟨(((KeepsOthers.setCell _ _ _).trans (KeepsOthers.setCell _ _ _)).trans (KeepsOthers.setCell _ _ _)).from _, ⟨rfl, pre, x, rfl, hq.symm, z1, z2⟩, ?_⟩
                    exact (hb7W.trans (BEV.out.mono (by omega))).trans (out_below.mono (by simp))
                  · gi_wp2
                    have hq2 : Below W9.heap.size V (V.setCell ⟨W9.heap.size, 0, none⟩ (.int .i64 ((pre.length : Int) + 1))) := (Below.refl _ _).setCell (p := ⟨W9.heap.size, 0, none⟩) (Nat.le_refl _) _
                    refine ⟨(KeepsOthers.setCell _ _ _).from _, hq2, ?_, ?_, BEV.out.trans hq2⟩
                    · rw [List.length_append, List.length_singleton, Int.natCast_add]
                      exact BVX.out.set _
                    · intro j hj
                      rw [List.length_append, List.length_singleton] at hj
                      rcases Nat.lt_or_ge j pre.length with h | h
                      · exact hnh j h
                      · obtain rfl : j = pre.length := by omega
                        exact hq
                case doneNeg2 =>
                  rintro D ys V hD rfl ⟨bV, hnh, hBV⟩ hK
                  have rV : V.heap[w.heap.size + 1]? = some (.cells #[.int .i64 0, .int .i64 0] 36) := (hkeep V _ hBV (by omega)).trans rbW
                  have eV : Boxed V (w.heap.size + 1 + 1) 24 (.int .i64 0) := (hkeep V _ hBV (by omega)).trans ebW
                  have cE := eV.cell
                  have fE := eV.frozen
                  obtain ⟨r0, r1, r2, r3⟩ := pair_cells rV
                  have HO := Lib.hid (out_cells (a' := .int .i64 0) (b' := .int .i64 0) (c' := .int .i64 7) rV eV)
                  have hKD : (((V.setCell ⟨w.heap.size + 1, 0, none⟩ (.int .i64 0)).setCell ⟨w.heap.size + 1, 1, none⟩ (.int .i64 0)).setCell ⟨w.heap.size + 1 + 1, 0, none⟩ (.int .i64 7)).heap[D]? = some (.deferred (some [])) := by
                    rw [Below.heap_setCell _ _ _ _ (by show D ≠ w.heap.size + 1 + 1; omega), Below.heap_setCell _ _ _ _ (by show D ≠ w.heap.size + 1; omega), Below.heap_setCell _ _ _ _ (by show D ≠ w.heap.size + 1; omega)]
                    exact hK
                  have BEV := Lib.hid hBV
                  clear rV eV hK hBV bV hkeep hMs hB8 bI
                  gi_wp2
                  refine ⟨by simp, .inl ⟨_, _, rfl, run_takeDeferred hKD, ?_⟩⟩
                  obtain ⟨z1, z2⟩ := HO.out
                  obtain ⟨d0, d1, _, _⟩ := pair_cells ((World.putObj_heap_other (o := .deferred none) (by show w.heap.size + 1 ≠ D; omega)).trans z1)
                  have d2 := Boxed.cell ((World.putObj_heap_other (o := .deferred none) (by show w.heap.size + 1 + 1 ≠ D; omega)).trans z2)
                  refine ⟨.tuple #[.agg #[.int .i64 0, .int .i64 0], .int .i64 7], by simp [results, Tryd.results28, go_sem, d0, d1, d2], .inr ⟨h0, .inr ⟨?_, rfl⟩⟩, ?_⟩
                  · rw [HKK.out]
                    by_cases hz : 0 ≤ (k + ((matS p s).length : Int))
                    · rw [if_pos hz]
                      refine List.getElem?_eq_none ?_
                      rcases Nat.lt_or_ge (Int.toNat ((k + ((matS p s).length : Int)))) (matS p s).length with h | h
                      · exact absurd (by omega) (hnh _ h)
                      · exact h
                    · rw [if_neg hz]
                  · exact ((hb7W.trans (BEV.out.mono (by omega))).trans (out_below.mono (by simp))).trans (belowK_b (w := w8) (by omega) _ D _ _ hD hKD rfl rfl)
                case stopNeg2 =>
                  rintro D cc pre V hD hp ⟨⟨rfl, pre', x, rfl, hkk, z1, z2⟩, hBV⟩ hK
                  obtain ⟨d0, d1, _, _⟩ := pair_cells ((World.putObj_heap_other (o := .deferred none) (by show w.heap.size + 1 ≠ D; omega)).trans z1)
                  have d2 := Boxed.cell ((World.putObj_heap_other (o := .deferred none) (by show w.heap.size + 1 + 1 ≠ D; omega)).trans z2)
                  gi_wp2
                  refine ⟨by simp, .inl ⟨_, _, rfl, run_takeDeferred hK, ?_⟩⟩
                  refine ⟨.tuple #[.agg #[.int .i64 (x.1 : Int), .int .i64 (x.2 : Int)], .int .i64 0], by simp [results, Tryd.results28, go_sem, d0, d1, d2], .inr ⟨h0, .inl ⟨x, ?_, rfl⟩⟩, ?_⟩
                  · rw [HKK.out, if_pos (by omega)]
                    have : Int.toNat ((k + ((matS p s).length : Int))) = pre'.length := by omega
                    rw [this]
                    obtain ⟨rest, hrest⟩ := hp
                    rw [← hrest]
                    simp
                  · exact hBV.trans (belowK_b (w := w8) (by omega) _ D _ _ hD hK rfl rfl)
              exact AllReadyIn.nil
            exact AllReadyIn.nil
          exact AllReadyIn.nil
        refine AllReadyIn.cons rfl (fun K hK => ?_) ?_
        · go_simp
          refine ⟨trivial, ?_⟩
          gi_at_call 27
          refine (callsIn_wide.2 HLn.out).mono ?_
          rintro e w7 ⟨rfl, hq7⟩
          refine hK _ _ ?_
          clear hK K
          have k7 : Boxed w7 w.heap.size 3 (.int .i64 k) := (hq7.block _ (by omega)).trans kd
          have c7 := k7.cell
          have f7 := k7.frozen
          clear kd
          refine wpAnyIn_ready (rs := [0]) (by kernel_rfl) (by simp) ?_
          refine AllReadyIn.cons rfl (fun K hK => ?_) ?_
          · go_simp
            refine hK _ _ ?_
            clear hK K
            refine wpAnyIn_ready (rs := [3]) (by kernel_rfl) (by simp) ?_
            refine AllReadyIn.cons rfl (fun K hK => ?_) ?_
            · go_simp
              refine hK _ _ ?_
              clear hK K
              refine wpAnyIn_ready (rs := [4]) (by kernel_rfl) (by simp) ?_
              refine AllReadyIn.cons rfl (fun K hK => ?_) ?_
              · go_simp
                refine hK _ _ ?_
                clear hK K
                refine wpAnyIn_done (by kernel_rfl) ?_ _
                obtain ⟨W9, hW9⟩ : ∃ W9, W9 = w7.setCell ⟨w.heap.size, 0, none⟩ (.int .i64 (k + ((matS p s).length : Int))) := ⟨_, rfl⟩
                rw [← hW9]
                have hs9 : W9.heap.size = w7.heap.size := by rw [hW9]; simp
                have h79 : Below w.heap.size w7 W9 := by rw [hW9]; exact (Below.refl _ _).setCell (p := ⟨w.heap.size, 0, none⟩) (Nat.le_refl _) _
                have h97 : ∀ j, j ≠ w.heap.size → W9.heap[j]? = w7.heap[j]? := fun j hj => by rw [hW9]; exact Below.heap_setCell _ _ _ _ hj
                have kbW : Boxed W9 w.heap.size 3 (.int .i64 (k + ((matS p s).length : Int))) := by rw [hW9]; exact k7.set _
                have rbW : W9.heap[w.heap.size + 1]? = some (.cells #[.int .i64 0, .int .i64 0] 36) := (h97 _ (by omega)).trans ((hq7.block _ (by omega)).trans rd)
                have ebW : Boxed W9 (w.heap.size + 1 + 1) 24 (.int .i64 0) := (h97 _ (by omega)).trans ((hq7.block _ (by omega)).trans ed)
                have hb7W : Below w.heap.size w W9 := (hbd.trans (hq7.mono (by omega))).trans h79
                have hI9 : IsIt W9 W9.heap.size bs bm bh g c oa cap (buildT t).1 (buildT t).2 s := by
                  rw [hW9]
                  exact ((HID.out.later hq7).store k7 _).weak (by have := hq7.size; simp; omega) (Nat.le_refl _)
                have HI := Lib.hid hI9
                have hW3 : w.heap.size + 3 ≤ W9.heap.size := by have := hq7.size; omega
                have HKK : Hid (pickL (matS p s) k = if 0 ≤ k + ((matS p s).length : Int) then (matS p s)[Int.toNat (k + ((matS p s).length : Int))]? else none) := Lib.hid (by unfold pickL; simp only [if_pos hneg])
                clear hI9 hW9 h79 h97 k7 hq7 rd ed hbd hwr hs9 c7 f7
                obtain ⟨w8, hw8⟩ : ∃ w8, w8 = W9.alloc (.cells #[.int .i64 0] 3) := ⟨_, rfl⟩
                have hs8 : w8.heap.size = W9.heap.size + 1 := by rw [hw8]; simp
                have hB8 : Below W9.heap.size W9 w8 := by rw [hw8]; exact below1 _ _
                have bI : Boxed w8 W9.heap.size 3 (.int .i64 0) := by rw [hw8]; exact Boxed.new W9 _ _
                have hMs := mat_stops (n - 1) W9.heap.size bs bm bh g c oa cap _ _ s hs w8 (HI.out.later hB8)
                rw [matT_eq, ← HM.out] at hMs
                have hkeep : ∀ V j, Below W9.heap.size W9 V → j < W9.heap.size → V.heap[j]? = W9.heap[j]? := fun V j hb hj => hb.block j hj
                gi_wp2
                rw [← hw8]
                refine wpIn_rangeFunc_ownH rfl h1 (gf := 49) (lb := #[.pointer (some ⟨bs, 0, none⟩), .pointer (some ⟨bm, 0, none⟩), .pointer (some ⟨bh, 0, none⟩)]) rfl trivial (enters_of Tryd.func49 (by kernel_rfl) rfl)
                  hMs (fun h k => h.trans k) (belowK_b (by omega)) (Below.refl _ _) (fun _ => rfl)
                  (fun (pre : List (Nat × Nat)) V => Boxed V W9.heap.size 3 (.int .i64 (pre.length : Nat)) ∧ (∀ j : Nat, j < pre.length → (j : Int) ≠ (k + ((matS p s).length : Int))) ∧ Below W9.heap.size W9 V)
                  (fun cc (pre : List (Nat × Nat)) V => (cc = .ret ∧ ∃ pre' x, pre = pre' ++ [x] ∧ (k + ((matS p s).length : Int)) = (pre'.length : Nat) ∧ V.heap[w.heap.size + 1]? = some (.cells #[.int .i64 (x.1 : Int), .int .i64 (x.2 : Int)] 36) ∧ Boxed V (w.heap.size + 1 + 1) 24 (.int .i64 0)) ∧ Below w.heap.size w V)
                  (OwnFrom.and (fun pre V V' row hh hg hr => (grownBy_keeps_cells hg (fun r e => (hr r e).2) hh rfl).trans hh) (OwnFrom.and (fun pre V V' row hh hg hr => hh) (ownFrom_below (Nat.le_refl _) (by omega))))
                  (fun cc => OwnFrom.and (fun pre V V' row hh hg hr => by
                    obtain ⟨g1, pre', x, g2, g3, g4, g5⟩ := hh
                    exact ⟨g1, pre', x, g2, g3, (grownBy_keeps_cells hg (fun r e => (hr r e).2) g4 rfl).trans g4, (grownBy_keeps_cells hg (fun r e => (hr r e).2) g5 rfl).trans g5⟩) (ownFrom_below (Nat.le_refl _) (by omega)))
                  ⟨bI, fun j hj => absurd hj (Nat.not_lt_zero _), hB8⟩
                  (fun (x : Nat × Nat) a' V => ∃ Bx, V.heap[Bx]? = some (.cells #[.int .i64 (x.1 : Int), .int .i64 (x.2 : Int)] 36) ∧ a' = { tmps := #[.string p, .string s, .int .i64 k, undef, undef, .pointer (some ⟨w.heap.size, 0, none⟩), .pointer (some ⟨w.heap.size + 1, 0, none⟩), .pointer (some ⟨w.heap.size + 1 + 1, 0, none⟩), itV bs bm bh, .int .i64 0, .pointer (some ⟨W9.heap.size, 0, none⟩), .pointer (some ⟨Bx, 0, none⟩), .tuple #[itV bs bm bh, .int .i64 0], .string p, .string s, .tuple #[itV bs bm bh, .int .i64 0], itV bs bm bh, .int .i64 0, .int .i64 0, .bool false, undef, undef, .int .i64 k, .bool true, .int .i64 k, itV bs bm bh, .int .i64 ((matS p s).length : Int), .int .i64 (k + ((matS p s).length : Int)), itV bs bm bh, enM x, undef, undef, undef, undef, undef, undef, undef], defers := [] })
                  (fun x a' _ X Y row hs hg hr => by
                    obtain ⟨Bx, k2, k3⟩ := hs
                    exact ⟨Bx, (grownBy_keeps_cells hg (fun r e => (hr r e).2) k2 rfl).trans k2, k3⟩)
                  ?assignNeg3 ?bodyNeg3 ?doneNeg3 ?stopNeg3
                case assignNeg3 =>
                  rintro l pre x V K ⟨bV, hnh, hBV⟩ hK
                  have hsV := hBV.size
                  simp only [enM, itV] at hK ⊢
                  gi_wp2
                  exact hK _ _ ((KeepsOthers.alloc _ _).from _) ((Below.refl _ _).alloc hsV _) ⟨bV.alloc _, hnh, hBV.alloc hsV _⟩ ⟨V.heap.size, World.alloc_heap_new V _, by simp⟩
                case bodyNeg3 =>
                  rintro l pre x a' V hl ⟨r, hr⟩ ⟨bV, hnh, hBV⟩ ⟨Bx, bX, rfl⟩ hlt
                  have hsV := hBV.size
                  have cI := bV.cell
                  have fI := bV.frozen
                  have kV : Boxed V w.heap.size 3 (.int .i64 ((k + ((matS p s).length : Int)))) := (hkeep V _ hBV (by omega)).trans kbW
                  have rV : V.heap[w.heap.size + 1]? = some (.cells #[.int .i64 0, .int .i64 0] 36) := (hkeep V _ hBV (by omega)).trans rbW
                  have eV : Boxed V (w.heap.size + 1 + 1) 24 (.int .i64 0) := (hkeep V _ hBV (by omega)).trans ebW
                  have cK := kV.cell
                  have cE := eV.cell
                  have fE := eV.frozen
                  obtain ⟨x0, x1, _, _⟩ := pair_cells bX
                  obtain ⟨r0, r1, r2, r3⟩ := pair_cells rV
                  have HO := Lib.hid (out_cells (a' := .int .i64 (x.1 : Int)) (b' := .int .i64 (x.2 : Int)) (c' := .int .i64 0) rV eV)
                  have hmp : pre.length ≤ s.size := by omega
                  have hwr : IntKind.i64.wrap ((pre.length : Int) + 1) = ((pre.length : Int) + 1) := IntWalk.i64_in _ (by omega)
                  have BVX := Lib.hid bV
                  have BEV := Lib.hid hBV
                  clear kV rV eV bX bV hBV hkeep hMs hB8 bI hl hr
                  simp only [itV, enM]
                  by_cases hq : (pre.length : Int) = (k + ((matS p s).length : Int))
                  · gi_wp2
                    obtain ⟨z1, z2⟩ := HO.out
                    refine ⟨(((KeepsOthers.setCell _ _ _).trans (KeepsOthers.setCell _ _ _)).trans (KeepsOthers.setCell _ _ _)).from _, ⟨rfl, pre, x, rfl, hq.symm, z1, z2⟩, ?_⟩
                    exact (hb7W.trans (BEV.out.mono (by omega))).trans (out_below.mono (by simp))
                  · gi_wp2
                    have hq2 : Below W9.heap.size V (V.setCell ⟨W9.heap.size, 0, none⟩ (.int .i64 ((pre.length : Int) + 1))) := (Below.refl _ _).setCell (p := ⟨W9.heap.size, 0, none⟩) (Nat.le_refl _) _
                    refine ⟨(KeepsOthers.setCell _ _ _).from _, hq2, ?_, ?_, BEV.out.trans hq2⟩
                    · rw [List.length_append, List.length_singleton, Int.natCast_add]
                      exact BVX.out.set _
                    · intro j hj
                      rw [List.length_append, List.length_singleton] at hj
                      rcases Nat.lt_or_ge j pre.length with h | h
                      · exact hnh j h
                      · obtain rfl : j = pre.length := by omega
                        exact hq
                case doneNeg3 =>
                  rintro D ys V hD rfl ⟨bV, hnh, hBV⟩ hK
                  have rV : V.heap[w.heap.size + 1]? = some (.cells #[.int .i64 0, .int .i64 0] 36) := (hkeep V _ hBV (by omega)).trans rbW
                  have eV : Boxed V (w.heap.size + 1 + 1) 24 (.int .i64 0) := (hkeep V _ hBV (by omega)).trans ebW
                  have cE := eV.cell
                  have fE := eV.frozen
                  obtain ⟨r0, r1, r2, r3⟩ := pair_cells rV
                  have HO := Lib.hid (out_cells (a' := .int .i64 0) (b' := .int .i64 0) (c' := .int .i64 7) rV eV)
                  have hKD : (((V.setCell ⟨w.heap.size + 1, 0, none⟩ (.int .i64 0)).setCell ⟨w.heap.size + 1, 1, none⟩ (.int .i64 0)).setCell ⟨w.heap.size + 1 + 1, 0, none⟩ (.int .i64 7)).heap[D]? = some (.deferred (some [])) := by
                    rw [Below.heap_setCell _ _ _ _ (by show D ≠ w.heap.size + 1 + 1; omega), Below.heap_setCell _ _ _ _ (by show D ≠ w.heap.size + 1; omega), Below.heap_setCell _ _ _ _ (by show D ≠ w.heap.size + 1; omega)]
                    exact hK
                  have BEV := Lib.hid hBV
                  clear rV eV hK hBV bV hkeep hMs hB8 bI
                  gi_wp2
                  refine ⟨by simp, .inl ⟨_, _, rfl, run_takeDeferred hKD, ?_⟩⟩
                  obtain ⟨z1, z2⟩ := HO.out
                  obtain ⟨d0, d1, _, _⟩ := pair_cells ((World.putObj_heap_other (o := .deferred none) (by show w.heap.size + 1 ≠ D; omega)).trans z1)
                  have d2 := Boxed.cell ((World.putObj_heap_other (o := .deferred none) (by show w.heap.size + 1 + 1 ≠ D; omega)).trans z2)
                  refine ⟨.tuple #[.agg #[.int .i64 0, .int .i64 0], .int .i64 7], by simp [results, Tryd.results28, go_sem, d0, d1, d2], .inr ⟨h0, .inr ⟨?_, rfl⟩⟩, ?_⟩
                  · rw [HKK.out]
                    by_cases hz : 0 ≤ (k + ((matS p s).length : Int))
                    · rw [if_pos hz]
                      refine List.getElem?_eq_none ?_
                      rcases Nat.lt_or_ge (Int.toNat ((k + ((matS p s).length : Int)))) (matS p s).length with h | h
                      · exact absurd (by omega) (hnh _ h)
                      · exact h
                    · rw [if_neg hz]
                  · exact ((hb7W.trans (BEV.out.mono (by omega))).trans (out_below.mono (by simp))).trans (belowK_b (w := w8) (by omega) _ D _ _ hD hKD rfl rfl)
                case stopNeg3 =>
                  rintro D cc pre V hD hp ⟨⟨rfl, pre', x, rfl, hkk, z1, z2⟩, hBV⟩ hK
                  obtain ⟨d0, d1, _, _⟩ := pair_cells ((World.putObj_heap_other (o := .deferred none) (by show w.heap.size + 1 ≠ D; omega)).trans z1)
                  have d2 := Boxed.cell ((World.putObj_heap_other (o := .deferred none) (by show w.heap.size + 1 + 1 ≠ D; omega)).trans z2)
                  gi_wp2
                  refine ⟨by simp, .inl ⟨_, _, rfl, run_takeDeferred hK, ?_⟩⟩
                  refine ⟨.tuple #[.agg #[.int .i64 (x.1 : Int), .int .i64 (x.2 : Int)], .int .i64 0], by simp [results, Tryd.results28, go_sem, d0, d1, d2], .inr ⟨h0, .inl ⟨x, ?_, rfl⟩⟩, ?_⟩
                  · rw [HKK.out, if_pos (by omega)]
                    have : Int.toNat ((k + ((matS p s).length : Int))) = pre'.length := by omega
                    rw [this]
                    obtain ⟨rest, hrest⟩ := hp
                    rw [← hrest]
                    simp
                  · exact hBV.trans (belowK_b (w := w8) (by omega) _ D _ _ hD hK rfl rfl)
              exact AllReadyIn.nil
            exact AllReadyIn.nil
          exact AllReadyIn.nil
        exact AllReadyIn.nil
      exact AllReadyIn.nil
    · have kc := kb.cell
      clear kc kf
      have hb7W := hb7
      have rbW := rb
      have ebW := eb
      have kbW := kb
      have hW3 : w.heap.size + 3 ≤ w6.heap.size := by have := hb6.size; omega
      have HKK : Hid (pickL (matS p s) k = if 0 ≤ k then (matS p s)[Int.toNat k]? else none) := Lib.hid (by unfold pickL; simp only [if_neg (show ¬ k < 0 by omega)])
      obtain ⟨w8, hw8⟩ : ∃ w8, w8 = w6.alloc (.cells #[.int .i64 0] 3) := ⟨_, rfl⟩
      have hs8 : w8.heap.size = w6.heap.size + 1 := by rw [hw8]; simp
      have hB8 : Below w6.heap.size w6 w8 := by rw [hw8]; exact below1 _ _
      have bI : Boxed w8 w6.heap.size 3 (.int .i64 0) := by rw [hw8]; exact Boxed.new w6 _ _
      have hMs := mat_stops (n - 1) w6.heap.size bs bm bh g c oa cap _ _ s hs w8 (HI.out.later hB8)
      rw [matT_eq, ← HM.out] at hMs
      have hkeep : ∀ V j, Below w6.heap.size w6 V → j < w6.heap.size → V.heap[j]? = w6.heap[j]? := fun V j hb hj => hb.block j hj
      gi_wp2
      rw [← hw8]
      refine wpIn_rangeFunc_ownH rfl h1 (gf := 49) (lb := #[.pointer (some ⟨bs, 0, none⟩), .pointer (some ⟨bm, 0, none⟩), .pointer (some ⟨bh, 0, none⟩)]) rfl trivial (enters_of Tryd.func49 (by kernel_rfl) rfl)
        hMs (fun h k => h.trans k) (belowK_b (by omega)) (Below.refl _ _) (fun _ => rfl)
        (fun (pre : List (Nat × Nat)) V => Boxed V w6.heap.size 3 (.int .i64 (pre.length : Nat)) ∧ (∀ j : Nat, j < pre.length → (j : Int) ≠ k) ∧ Below w6.heap.size w6 V)
        (fun cc (pre : List (Nat × Nat)) V => (cc = .ret ∧ ∃ pre' x, pre = pre' ++ [x] ∧ k = (pre'.length : Nat) ∧ V.heap[w.heap.size + 1]? = some (.cells #[.int .i64 (x.1 : Int), .int .i64 (x.2 : Int)] 36) ∧ Boxed V (w.heap.size + 1 + 1) 24 (.int .i64 0)) ∧ Below w.heap.size w V)
        (OwnFrom.and (fun pre V V' row hh hg hr => (grownBy_keeps_cells hg (fun r e => (hr r e).2) hh rfl).trans hh) (OwnFrom.and (fun pre V V' row hh hg hr => hh) (ownFrom_below (Nat.le_refl _) (by omega))))
        (fun cc => OwnFrom.and (fun pre V V' row hh hg hr => by
          obtain ⟨g1, pre', x, g2, g3, g4, g5⟩ := hh
          exact ⟨g1, pre', x, g2, g3, (grownBy_keeps_cells hg (fun r e => (hr r e).2) g4 rfl).trans g4, (grownBy_keeps_cells hg (fun r e => (hr r e).2) g5 rfl).trans g5⟩) (ownFrom_below (Nat.le_refl _) (by omega)))
        ⟨bI, fun j hj => absurd hj (Nat.not_lt_zero _), hB8⟩
        (fun (x : Nat × Nat) a' V => ∃ Bx, V.heap[Bx]? = some (.cells #[.int .i64 (x.1 : Int), .int .i64 (x.2 : Int)] 36) ∧ a' = { tmps := #[.string p, .string s, .int .i64 k, undef, undef, .pointer (some ⟨w.heap.size, 0, none⟩), .pointer (some ⟨w.heap.size + 1, 0, none⟩), .pointer (some ⟨w.heap.size + 1 + 1, 0, none⟩), itV bs bm bh, .int .i64 0, .pointer (some ⟨w6.heap.size, 0, none⟩), .pointer (some ⟨Bx, 0, none⟩), .tuple #[itV bs bm bh, .int .i64 0], .string p, .string s, .tuple #[itV bs bm bh, .int .i64 0], itV bs bm bh, .int .i64 0, .int .i64 0, .bool false, undef, undef, .int .i64 k, .bool (decide (k < 0)), undef, undef, undef, undef, itV bs bm bh, enM x, undef, undef, undef, undef, undef, undef, undef], defers := [] })
        (fun x a' _ X Y row hs hg hr => by
          obtain ⟨Bx, k2, k3⟩ := hs
          exact ⟨Bx, (grownBy_keeps_cells hg (fun r e => (hr r e).2) k2 rfl).trans k2, k3⟩)
        ?assignPos ?bodyPos ?donePos ?stopPos
      case assignPos =>
        rintro l pre x V K ⟨bV, hnh, hBV⟩ hK
        have hsV := hBV.size
        simp only [enM, itV] at hK ⊢
        gi_wp2
        exact hK _ _ ((KeepsOthers.alloc _ _).from _) ((Below.refl _ _).alloc hsV _) ⟨bV.alloc _, hnh, hBV.alloc hsV _⟩ ⟨V.heap.size, World.alloc_heap_new V _, by simp⟩
      case bodyPos =>
        rintro l pre x a' V hl ⟨r, hr⟩ ⟨bV, hnh, hBV⟩ ⟨Bx, bX, rfl⟩ hlt
        have hsV := hBV.size
        have cI := bV.cell
        have fI := bV.frozen
        have kV : Boxed V w.heap.size 3 (.int .i64 (k)) := (hkeep V _ hBV (by omega)).trans kbW
        have rV : V.heap[w.heap.size + 1]? = some (.cells #[.int .i64 0, .int .i64 0] 36) := (hkeep V _ hBV (by omega)).trans rbW
        have eV : Boxed V (w.heap.size + 1 + 1) 24 (.int .i64 0) := (hkeep V _ hBV (by omega)).trans ebW
        have cK := kV.cell
        have cE := eV.cell
        have fE := eV.frozen
        obtain ⟨x0, x1, _, _⟩ := pair_cells bX
        obtain ⟨r0, r1, r2, r3⟩ := pair_cells rV
        have HO := Lib.hid (out_cells (a' := .int .i64 (x.1 : Int)) (b' := .int .i64 (x.2 : Int)) (c' := .int .i64 0) rV eV)
        have hmp : pre.length ≤ s.size := by omega
        have hwr : IntKind.i64.wrap ((pre.length : Int) + 1) = ((pre.length : Int) + 1) := IntWalk.i64_in _ (by omega)
        have BVX := Lib.hid bV
        have BEV := Lib.hid hBV
        clear kV rV eV bX bV hBV hkeep hMs hB8 bI hl hr
        simp only [itV, enM]
        by_cases hq : (pre.length : Int) = k
        · gi_wp2
          obtain ⟨z1, z2⟩ := HO.out
          refine ⟨(((KeepsOthers.setCell _ _ _).trans (KeepsOthers.setCell _ _ _)).trans (KeepsOthers.setCell _ _ _)).from _, ⟨rfl, pre, x, rfl, hq.symm, z1, z2⟩, ?_⟩
          exact (hb7W.trans (BEV.out.mono (by omega))).trans (out_below.mono (by simp))
        · gi_wp2
          have hq2 : Below w6.heap.size V (V.setCell ⟨w6.heap.size, 0, none⟩ (.int .i64 ((pre.length : Int) + 1))) := (Below.refl _ _).setCell (p := ⟨w6.heap.size, 0, none⟩) (Nat.le_refl _) _
          refine ⟨(KeepsOthers.setCell _ _ _).from _, hq2, ?_, ?_, BEV.out.trans hq2⟩
          · rw [List.length_append, List.length_singleton, Int.natCast_add]
            exact BVX.out.set _
          · intro j hj
            rw [List.length_append, List.length_singleton] at hj
            rcases Nat.lt_or_ge j pre.length with h | h
            · exact hnh j h
            · obtain rfl : j = pre.length := by omega
              exact hq
      case donePos =>
        rintro D ys V hD rfl ⟨bV, hnh, hBV⟩ hK
        have rV : V.heap[w.heap.size + 1]? = some (.cells #[.int .i64 0, .int .i64 0] 36) := (hkeep V _ hBV (by omega)).trans rbW
        have eV : Boxed V (w.heap.size + 1 + 1) 24 (.int .i64 0) := (hkeep V _ hBV (by omega)).trans ebW
        have cE := eV.cell
        have fE := eV.frozen
        obtain ⟨r0, r1, r2, r3⟩ := pair_cells rV
        have HO := Lib.hid (out_cells (a' := .int .i64 0) (b' := .int .i64 0) (c' := .int .i64 7) rV eV)
        have hKD : (((V.setCell ⟨w.heap.size + 1, 0, none⟩ (.int .i64 0)).setCell ⟨w.heap.size + 1, 1, none⟩ (.int .i64 0)).setCell ⟨w.heap.size + 1 + 1, 0, none⟩ (.int .i64 7)).heap[D]? = some (.deferred (some [])) := by
          rw [Below.heap_setCell _ _ _ _ (by show D ≠ w.heap.size + 1 + 1; omega), Below.heap_setCell _ _ _ _ (by show D ≠ w.heap.size + 1; omega), Below.heap_setCell _ _ _ _ (by show D ≠ w.heap.size + 1; omega)]
          exact hK
        have BEV := Lib.hid hBV
        clear rV eV hK hBV bV hkeep hMs hB8 bI
        gi_wp2
        refine ⟨by simp, .inl ⟨_, _, rfl, run_takeDeferred hKD, ?_⟩⟩
        obtain ⟨z1, z2⟩ := HO.out
        obtain ⟨d0, d1, _, _⟩ := pair_cells ((World.putObj_heap_other (o := .deferred none) (by show w.heap.size + 1 ≠ D; omega)).trans z1)
        have d2 := Boxed.cell ((World.putObj_heap_other (o := .deferred none) (by show w.heap.size + 1 + 1 ≠ D; omega)).trans z2)
        refine ⟨.tuple #[.agg #[.int .i64 0, .int .i64 0], .int .i64 7], by simp [results, Tryd.results28, go_sem, d0, d1, d2], .inr ⟨h0, .inr ⟨?_, rfl⟩⟩, ?_⟩
        · rw [HKK.out]
          by_cases hz : 0 ≤ k
          · rw [if_pos hz]
            refine List.getElem?_eq_none ?_
            rcases Nat.lt_or_ge (Int.toNat (k)) (matS p s).length with h | h
            · exact absurd (by omega) (hnh _ h)
            · exact h
          · rw [if_neg hz]
        · exact ((hb7W.trans (BEV.out.mono (by omega))).trans (out_below.mono (by simp))).trans (belowK_b (w := w8) (by omega) _ D _ _ hD hKD rfl rfl)
      case stopPos =>
        rintro D cc pre V hD hp ⟨⟨rfl, pre', x, rfl, hkk, z1, z2⟩, hBV⟩ hK
        obtain ⟨d0, d1, _, _⟩ := pair_cells ((World.putObj_heap_other (o := .deferred none) (by show w.heap.size + 1 ≠ D; omega)).trans z1)
        have d2 := Boxed.cell ((World.putObj_heap_other (o := .deferred none) (by show w.heap.size + 1 + 1 ≠ D; omega)).trans z2)
        gi_wp2
        refine ⟨by simp, .inl ⟨_, _, rfl, run_takeDeferred hK, ?_⟩⟩
        refine ⟨.tuple #[.agg #[.int .i64 (x.1 : Int), .int .i64 (x.2 : Int)], .int .i64 0], by simp [results, Tryd.results28, go_sem, d0, d1, d2], .inr ⟨h0, .inl ⟨x, ?_, rfl⟩⟩, ?_⟩
        · rw [HKK.out, if_pos (by omega)]
          have : Int.toNat (k) = pre'.length := by omega
          rw [this]
          obtain ⟨rest, hrest⟩ := hp
          rw [← hrest]
          simp
        · exact hBV.trans (belowK_b (w := w8) (by omega) _ D _ _ hD hK rfl rfl)

end Go.Proofs.YtbogiigdadljpaaDoor
