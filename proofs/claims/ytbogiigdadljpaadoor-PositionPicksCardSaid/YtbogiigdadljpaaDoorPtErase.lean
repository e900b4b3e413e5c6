/-
  position.Erase. Nothing is assumed.
-/
import Derived.Test.YtbogiigdadljpaaDoorPtShelfB
import Derived.Test.YtbogiigdadljpaaDoorRangeOk
namespace Go.Proofs.YtbogiigdadljpaaDoor
open Go.RowKit Go.Shelf

attribute [local go_sem] Oper.semAt_some

/-- Where the matches end. -/
def endE : Nat → List (Nat × Nat) → Nat
  | a, [] => a
  | _, x :: r => endE x.2 r
/-- What lies between the matches. -/
def outE (s : ByteArray) : Nat → List (Nat × Nat) → List UInt8
  | _, [] => []
  | a, x :: r => (s.extract a x.1).data.toList ++ outE s x.2 r
theorem endE_snoc (x : Nat × Nat) : ∀ (l : List (Nat × Nat)) (a : Nat), endE a (l ++ [x]) = x.2
  | [], _ => rfl
  | _ :: r, _ => endE_snoc x r _
theorem outE_snoc (s : ByteArray) (x : Nat × Nat) : ∀ (l : List (Nat × Nat)) (a : Nat), outE s a (l ++ [x]) = outE s a l ++ (s.extract (endE a l) x.1).data.toList
  | [], a => by simp [outE, endE]
  | y :: r, a => by simp [outE, endE, outE_snoc s x r]
theorem InOrd.cut {n : Nat} {x : Nat × Nat} {r : List (Nat × Nat)} : ∀ (l : List (Nat × Nat)) (a : Nat), InOrd n a (l ++ x :: r) → InOrd n a l ∧ endE a l ≤ x.1 ∧ x.1 < x.2 ∧ x.2 ≤ n
  | [], _, h => ⟨trivial, h.1, h.2.1, h.2.2.1⟩
  | y :: l, _, h => by
    have h' : InOrd n y.2 (l ++ x :: r) := h.2.2.2
    obtain ⟨h1, h2⟩ := InOrd.cut l y.2 h'
    exact ⟨⟨h.1, h.2.1, h.2.2.1, h1⟩, h2⟩
theorem outE_len (s : ByteArray) : ∀ (l : List (Nat × Nat)) (a : Nat), InOrd s.size a l → (outE s a l).length + a ≤ endE a l ∧ (a ≤ s.size → endE a l ≤ s.size)
  | [], a, _ => ⟨by simp [outE, endE], fun h => h⟩
  | x :: r, a, h => by
    have h1 := outE_len s r x.2 h.2.2.2
    have h2 : (s.extract a x.1).size = x.1 - a := by
      rw [ByteArray.size_extract, Nat.min_eq_left (by have := h.2.1; have := h.2.2.1; omega)]
    have h3 : (s.extract a x.1).data.toList.length = x.1 - a := by rw [← h2]; exact Array.length_toList
    refine ⟨?_, fun _ => h1.2 h.2.2.1⟩
    show ((s.extract a x.1).data.toList ++ outE s x.2 r).length + a ≤ endE x.2 r
    rw [List.length_append, h3]
    have := h.1
    have := h.2.1
    omega
/-- What Erase leaves. -/
def eraS (p s : ByteArray) : List UInt8 := outE s 0 (matS p s) ++ (s.extract (endE 0 (matS p s)) s.size).data.toList

theorem isB_kept {B : Nat} {l : List UInt8} {W W' : World} (h : IsB B l W) (hk : ∀ k o, W.heap[k]? = some o → o.isCells = true → (k = B ∨ ∃ c fz, o = .cells c 5 fz) → W'.heap[k]? = some o) : IsB B l W' := by
  have hat : ∀ p, Lib.BuilderAtF 60 5 B B p (Lib.byteCells l) W → Lib.BuilderAtF 60 5 B B p (Lib.byteCells l) W' := fun p hp => by
    obtain ⟨hB, v, hb, hown, hne⟩ := hp
    refine ⟨hB, v, hk _ _ hb rfl (.inl rfl), ⟨hown.1, ?_⟩, hne⟩
    rcases hown.2 with hn | ⟨g, cap, cur, fz, hv, hbg, hg, rest⟩
    · exact .inl hn
    · exact .inr ⟨g, cap, cur, fz, hv, hbg, hk _ _ hg rfl (.inr ⟨_, _, rfl⟩), rest⟩
  exact h.elim (fun x => .inl (hat _ x)) (fun x => .inr (hat _ x))
theorem isB_block {B : Nat} {l : List UInt8} {W : World} (h : IsB B l W) : ∃ c fz, W.heap[B]? = some (.cells c 60 fz) := by
  rcases h with ⟨_, v, hb, _⟩ | ⟨_, v, hb, _⟩ <;> exact ⟨_, _, hb⟩
theorem isB_below {B : Nat} {l : List UInt8} {W W' : World} (h : IsB B l W) (hb : Below W.heap.size W W') : IsB B l W' :=
  isB_kept h fun k _o hk _ _ => (hb.block k (Array.getElem?_eq_some_iff.1 hk).1).trans hk
theorem isB_put {B : Nat} {l : List UInt8} {W : World} (h : IsB B l W) {j : Nat} {o o' : Obj} (hj : W.heap[j]? = some o) (ho : o.isCells = false) : IsB B l (W.putObj j o') :=
  isB_kept h fun k o2 hk hc _ => by
    have hne : k ≠ j := fun e => by
      subst e
      rw [hj] at hk
      cases hk
      rw [ho] at hc
      cases hc
    exact (World.putObj_heap_other hne).trans hk
theorem isB_set {B E : Nat} {l : List UInt8} {W : World} {v v' : Value} (h : IsB B l W) (hE : Boxed W E 3 v) : IsB B l (W.setCell ⟨E, 0, none⟩ v') :=
  isB_kept h fun k o2 hk _ hor => by
    have hne : k ≠ E := fun e => by
      subst e
      rcases hor with rfl | ⟨c, fz, rfl⟩
      · obtain ⟨c, fz, hc⟩ := isB_block h
        rw [show W.heap[k]? = _ from hE] at hc
        simp at hc
      · rw [show W.heap[k]? = _ from hE] at hk
        simp at hk
    exact (Below.heap_setCell _ _ _ _ hne).trans hk

set_option maxRecDepth 100000 in
set_option maxHeartbeats 2000000 in
theorem erase_in (n : Nat) (hn : 10 ≤ n) (p s : ByteArray) (w : World) (hA : AL w) (hs : s.size ≤ 1000) :
    CallsIn Fence.wide n Tryd.prog 20 #[.string p, .string s] w fun e w' =>
      ((errP p ≠ 0 ∧ e = .returned (.tuple #[.string ⟨#[]⟩, .int .i64 (errP p)])) ∨ (errP p = 0 ∧ e = .returned (.tuple #[.string (str (eraS p s)), .int .i64 0]))) ∧ Below w.heap.size w w' := by
  have h1 : 1 ≤ n := by omega
  have noD : ∀ k : Nat, (Fence.wide.depth.isSome = true → 1 ≤ k) := fun k h => by cases h
  obtain ⟨w5, hw5⟩ : ∃ w5, w5 = w.alloc (.cells #[.string s] 9) := ⟨_, rfl⟩
  have hs5 : w5.heap.size = w.heap.size + 1 := by rw [hw5]; simp
  have hb5 : Below w.heap.size w w5 := by rw [hw5]; exact below1 _ _
  have bS : Boxed w5 w.heap.size 9 (.string s) := by rw [hw5]; exact Boxed.new w _ _
  have HF := Lib.hid (find_any p s w5 (hA.later hb5) hs)
  have cS := bS.cell
  refine callsIn_of_wp_marks Tryd.func20 rfl trivial ?_ rfl
  simp only [Tryd.ntmps20, List.size_toArray, List.length_cons, List.length_nil, Nat.reduceAdd, Nat.reduceSub, Array.replicate_succ, Array.replicate_zero, List.push_toArray, List.append_toArray, List.nil_append, List.cons_append]
  gi_wp2
  rw [← hw5]
  gi_wp2
  refine ⟨trivial, ?_⟩
  gi_at_call 23
  refine (callsIn_wide.2 HF.out).mono ?_
  clear HF
  rintro e w6 ⟨⟨hne, rfl⟩ | ⟨bs, bm, bh, g, c, oa, cap, t, h0, hm, rfl, hI⟩, hb6⟩
  · gi_wp2
    exact ⟨.tuple #[.string ⟨#[]⟩, .int .i64 (errP p)], by simp [results, Tryd.results20, go_sem], .inl ⟨hne, rfl⟩, hb5.trans (hb6.mono (by omega))⟩
  · have hb7 := hb5.trans (hb6.mono (by omega))
    have HM := Lib.hid hm
    have HI := Lib.hid hI
    have bS6 : Boxed w6 w.heap.size 9 (.string s) := (hb6.block _ (by omega)).trans bS
    have hw63 : w.heap.size + 1 ≤ w6.heap.size := by have := hb6.size; omega
    have hord := Lib.hid (matS_ord p s)
    clear hm hI bS cS
    obtain ⟨w8, hw8⟩ : ∃ w8, w8 = (w6.alloc (.cells #[.pointer none, .slice none 0 0] 60)).alloc (.cells #[.int .i64 0] 3) := ⟨_, rfl⟩
    have hs8 : w8.heap.size = w6.heap.size + 2 := by rw [hw8]; simp
    have hb8 : Below w6.heap.size w6 w8 := by rw [hw8]; exact ((Below.refl _ _).alloc (Nat.le_refl _) _).alloc (by simp) _
    have hB8 : IsB w6.heap.size [] w8 := by rw [hw8]; exact isB_below (isB_fresh w6) (below1 _ _)
    have bE8 : Boxed w8 (w6.heap.size + 1) 3 (.int .i64 0) := by
      rw [hw8]
      have := Boxed.new (w6.alloc (.cells #[.pointer none, .slice none 0 0] 60)) 3 (.int .i64 0)
      simpa using this
    have hMg := mat_goes (n - 1) w6.heap.size bs bm bh g c oa cap _ _ s hs w8 (HI.out.later hb8)
    rw [matT_eq, ← HM.out] at hMg
    gi_wp2
    rw [← hw8]
    refine wpIn_range_ok (n₀ := w6.heap.size) rfl h1 (gf := 49) (lb := #[.pointer (some ⟨bs, 0, none⟩), .pointer (some ⟨bm, 0, none⟩), .pointer (some ⟨bh, 0, none⟩)]) rfl trivial (enters_of Tryd.func49 (by kernel_rfl) rfl)
      (fun x => #[enM x]) (fun _ => rfl) (fun pre x => pre ++ [x] <+: matS p s) (matS p s) (by omega) hMg
      (fun (pre : List (Nat × Nat)) V => IsB w6.heap.size (outE s 0 pre) V ∧ Boxed V (w6.heap.size + 1) 3 (.int .i64 (endE 0 pre : Nat)) ∧ Below w6.heap.size w6 V ∧ w6.heap.size + 2 ≤ V.heap.size)
      (fun pre A B h hb => ⟨isB_below h.1 hb, (hb.block _ h.2.1.lt).trans h.2.1, h.2.2.1.trans (hb.mono h.2.2.1.size), Nat.le_trans h.2.2.2 hb.size⟩)
      (fun pre A l o o' h hl hA ho => ⟨isB_put h.1 hA ho, (World.putObj_heap_other (by omega)).trans h.2.1, h.2.2.1.trans ((Below.refl _ A).grown (grownBy_putObj' A l o') h.2.2.1.size (fun k e => by cases e; omega)), by simpa using h.2.2.2⟩)
      ⟨hB8, bE8, hb8, by omega⟩
      (fun (x : Nat × Nat) a' V => ∃ Bx, V.heap[Bx]? = some (.cells #[.int .i64 (x.1 : Int), .int .i64 (x.2 : Int)] 36) ∧ a' = { tmps := #[.string p, .string s, undef, .pointer (some ⟨w.heap.size, 0, none⟩), .string ⟨#[]⟩, .int .i64 0, itV bs bm bh, .int .i64 0, .pointer (some ⟨w6.heap.size, 0, none⟩), .pointer (some ⟨w6.heap.size + 1, 0, none⟩), .pointer (some ⟨Bx, 0, none⟩), .tuple #[itV bs bm bh, .int .i64 0], .string p, .string s, .tuple #[itV bs bm bh, .int .i64 0], itV bs bm bh, .int .i64 0, .int .i64 0, .bool false, undef, itV bs bm bh, enM x, undef, undef, undef, undef, undef, undef, undef, undef, undef, undef, undef, undef, undef], defers := [] })
      (fun x a' A l o o' h hl hA ho => by
        obtain ⟨Bx, k2, k3⟩ := h
        refine ⟨Bx, (World.putObj_heap_other fun e => ?_).trans k2, k3⟩
        subst e
        rw [hA] at k2
        cases k2
        cases ho)
      ?assign ?body ?done
    case assign =>
      rintro l pre x V K ⟨hBV, bEV, hbV, hzV⟩ hK
      have hsV := hbV.size
      simp only [enM, itV] at hK ⊢
      gi_wp2
      exact hK _ _ ((KeepsOthers.alloc _ _).from _) ((Below.refl _ _).alloc hsV _) ⟨isB_below hBV (below1 _ _), bEV.alloc _, hbV.alloc hsV _, by simp; omega⟩ ⟨V.heap.size, World.alloc_heap_new V _, by simp⟩
    case body =>
      rintro l pre x a' V ⟨hBV, bEV, hbV, hzV⟩ hok ⟨Bx, bX, rfl⟩
      obtain ⟨rest, hrest⟩ := hok
      rw [List.append_assoc, List.singleton_append] at hrest
      have ho := hord.out
      rw [← hrest] at ho
      obtain ⟨ho1, ho2, ho3, ho4⟩ := InOrd.cut _ _ ho
      have hol := (outE_len s pre 0 ho1).1
      have cS : V.cell? ⟨w.heap.size, 0, none⟩ = some (.string s) := (hbV.cell (p := ⟨w.heap.size, 0, none⟩) (by show w.heap.size < _; omega)).trans bS6.cell
      have cE := bEV.cell
      obtain ⟨x0, x1, _, _⟩ := pair_cells bX
      have hi1 : ((endE 0 pre : Nat) : Int) ≤ (x.1 : Int) := by omega
      have hi2 : (x.1 : Int) ≤ (s.size : Int) := by omega
      have hi3 : (0 : Int) ≤ ((endE 0 pre : Nat) : Int) := by omega
      have hes : (s.extract (endE 0 pre) x.1).size ≤ 1000 := by rw [ByteArray.size_extract]; omega
      have HW := Lib.hid (write_any w6.heap.size (outE s 0 pre) (s.extract (endE 0 pre) x.1) V hBV (by omega) (by omega))
      have hXB : Bx ≠ w6.heap.size := fun e => by
        subst e
        obtain ⟨cc, fz, hc⟩ := isB_block hBV
        rw [bX] at hc
        simp at hc
      have hnoc := Lib.hid hbV
      have HBX := Lib.hid bX
      have HBE := Lib.hid bEV
      clear ho hrest hBV bEV hbV bX hMg hB8 bE8 hb8 hol
      simp only [itV, enM]
      gi_wp2_with (refine ⟨trivial, noD _, ?_⟩; gi_at_call 30; refine (CallsIn.inRound l (callsIn_wide.2 HW.out)).mono ?_; rintro e V2 ⟨rfl, hB2, hb2, hk2⟩; have bX2 := hk2 Bx _ HBX.out (fun e => hXB (Option.some.inj e)) (fun c fz e => by simp at e); have bE2 : Boxed V2 (w6.heap.size + 1) 3 (.int .i64 (endE 0 pre : Nat)) := hk2 _ _ HBE.out (fun e => by simp at e) (fun c fz e => by simp at e); obtain ⟨y0, y1, _, _⟩ := pair_cells bX2; have cE2 := bE2.cell; have fE2 := bE2.frozen; have HR := Lib.hid (And.intro hB2 (And.intro hb2 (And.intro hk2 bE2))); clear hB2 hb2 hk2 bX2 bE2)
      obtain ⟨hB2, hb2, hk2, bE2⟩ := HR.out
      have hq : Below w6.heap.size V (V2.setCell ⟨w6.heap.size + 1, 0, none⟩ (.int .i64 (x.2 : Int))) := hb2.setCell (p := ⟨w6.heap.size + 1, 0, none⟩) (by simp) _
      refine ⟨⟨hq.size, fun i o hi ho hc => ?_⟩, hq, ?_, ?_, hnoc.out.trans hq, Nat.le_trans hzV hb2.size⟩
      · rw [Below.heap_setCell _ _ _ _ (by show i ≠ w6.heap.size + 1; omega)]
        exact hk2 i o ho (fun e => by have := Option.some.inj e; omega) (fun c fz e => by subst e; cases hc)
      · rw [outE_snoc]
        exact isB_set hB2 bE2
      · rw [endE_snoc]
        exact bE2.set _
    case done =>
      rintro V ⟨hBV, bEV, hbV, hzV⟩ hK
      have hol := outE_len s (matS p s) 0 hord.out
      have hoe := hol.2 (Nat.zero_le _)
      have cS : V.cell? ⟨w.heap.size, 0, none⟩ = some (.string s) := (hbV.cell (p := ⟨w.heap.size, 0, none⟩) (by show w.heap.size < _; omega)).trans bS6.cell
      have cE := bEV.cell
      have hi1 : ((endE 0 (matS p s) : Nat) : Int) ≤ (s.size : Int) := by omega
      have hi3 : (0 : Int) ≤ ((endE 0 (matS p s) : Nat) : Int) := by omega
      have hes : (s.extract (endE 0 (matS p s)) s.size).size ≤ 1000 := by rw [ByteArray.size_extract]; omega
      have HW := Lib.hid (write_any w6.heap.size (outE s 0 (matS p s)) (s.extract (endE 0 (matS p s)) s.size) V hBV (by omega) (by omega))
      obtain ⟨TL, hTL⟩ : ∃ TL, outE s 0 (matS p s) ++ (s.extract (endE 0 (matS p s)) s.size).data.toList = TL := ⟨_, rfl⟩
      rw [hTL] at HW
      have HTL : Hid (eraS p s = TL) := Lib.hid hTL
      clear hTL
      have HBV := Lib.hid hbV
      have HKD := Lib.hid hK
      have hsV : w8.heap.size < V.heap.size := (Array.getElem?_eq_some_iff.1 hK).1
      clear hol hoe hes hBV bEV hbV hK hMg hB8 bE8 hb8
      generalize hMM : matS p s = MM at *
      gi_wp2
      refine ⟨trivial, ?_⟩
      gi_at_call 30
      refine (callsIn_wide.2 HW.out).mono ?_
      rintro e V2 ⟨rfl, hB2, hb2, hk2⟩
      have HT := Lib.hid (text_k w6.heap.size _ V2 hB2 (by have := hb2.size; omega))
      have HK2 := Lib.hid (hk2 _ _ HKD.out (fun e => by have := Option.some.inj e; omega) (fun c fz e => by cases e))
      have HB2 := Lib.hid hb2
      clear hB2 hb2 hk2 HW
      gi_wp2
      refine ⟨trivial, ?_⟩
      gi_at_call 31
      refine (callsIn_wide.2 HT.out).mono ?_
      rintro e V3 ⟨rfl, hb3, hk3⟩
      have HK3 := Lib.hid (hk3 _ _ HK2.out (fun e => by have := Option.some.inj e; omega) (fun c fz e => by cases e))
      have HB3 := Lib.hid hb3
      clear hb3 hk3 HT
      gi_wp2
      have hK4 : V3.heap[w6.heap.size + 1 + 1]? = some (.deferred (some [])) := by
        have h := HK3.out
        rwa [hs8] at h
      refine ⟨by simp, .inl ⟨_, _, rfl, run_takeDeferred hK4, ?_⟩⟩
      have hfin : Below w.heap.size w V3 := hb7.trans (((HBV.out.trans HB2.out).trans HB3.out).mono (by omega))
      exact ⟨_, results_tmp2 rfl _ _ _, .inr ⟨h0, by rw [HTL.out]; rfl⟩, hfin.trans (belowK_b (w := w8) (by omega) V3 (w6.heap.size + 1 + 1) _ _ (by omega) hK4 rfl rfl)⟩

end Go.Proofs.YtbogiigdadljpaaDoor
