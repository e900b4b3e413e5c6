/-
  Print of package pattern. Nothing is assumed.
-/
import Derived.Test.YtaipaddfehpmgaaDoorPaProp
import Derived.Test.YtaipaddfehpmgaaDoorPaClass
namespace Go.Proofs.YtaipaddfehpmgaaDoor
open Go.RowKit Go.Shelf

theorem len_any (B : Nat) (l : List UInt8) (w : World) (h : IsB B l w) :
    Calls Tryd.prog 63 #[.pointer (some ⟨B, 0, none⟩)] w fun e w' => e = .returned (.int .i64 (l.length : Int)) ∧ w' = w := by
  have := Tryd.Builder_Len_f B B _ w h
  rw [Lib.byteCells_length] at this
  exact this
/-- What is written: the text, or as much of it as is too long. -/
def WrR (B : Nat) (l x : List UInt8) (d : Nat) (w : World) (e : Ending) (w' : World) : Prop :=
  e = .returned (.tuple #[]) ∧ (∃ y, IsB B (l ++ y) w' ∧ (y = x ∨ (40 < (l ++ y).length ∧ 40 < (l ++ x).length)) ∧ (l ++ y).length ≤ 530 + d) ∧ Below B w w' ∧ Lib.OthersKept 5 (some B) w w'
/-- The contract of writeTree at a tree. -/
def WrOk (v : PT) : Prop := ∀ (B : Nat) (l : List UInt8) (w : World) (N : Nat) (oe : Option Addr) (ce : Nat), v.prop = true → v.dep ≤ 65536 → IsB B l w → l.length ≤ 41 → AL w → (0 : Nat) < B → HT w (· < N) (.slice oe v.l.length ce) v.l → N ≤ B → B < w.heap.size →
    Calls Tryd.prog 39 #[.pointer (some ⟨B, 0, none⟩), v.val (.slice oe v.l.length ce)] w (WrR B l v.txt (4 * v.dep) w)

set_option maxRecDepth 100000 in
set_option maxHeartbeats 3200000 in
theorem writeSub_of (v : PT) (hv : WrOk v) (above : Int) (B : Nat) (l : List UInt8) (w : World) (N : Nat) (oe : Option Addr) (ce : Nat) (hp : v.prop = true) (hd : v.dep ≤ 65536) (hI : IsB B l w) (hl : l.length ≤ 41) (hA : AL w) (hgB : (0 : Nat) < B) (hT : HT w (· < N) (.slice oe v.l.length ce) v.l) (hN : N ≤ B) (hB : B < w.heap.size) :
    Calls Tryd.prog 61 #[.pointer (some ⟨B, 0, none⟩), v.val (.slice oe v.l.length ce), .int .i64 above] w (WrR B l (wrapQ (parQ v.k above) v.txt) (4 * v.dep + 2) w) := by
  obtain ⟨w1, hw1⟩ : ∃ w1, w1 = w.alloc (.cells #[.int .i64 v.k, .int .u64 v.s.a, .int .u64 v.s.b, .int .u64 v.s.c, .int .u64 v.s.d, .slice oe v.l.length ce] 36) := ⟨_, rfl⟩
  have HW1 := Lib.hid hw1
  have hb1 : Below w.heap.size w w1 := by rw [hw1]; exact below1 _ _
  have hs1 : w1.heap.size = w.heap.size + 1 := by rw [hw1]; simp
  have hX1 : Box6 w1 w.heap.size (.int .i64 v.k) (.int .u64 v.s.a) (.int .u64 v.s.b) (.int .u64 v.s.c) (.int .u64 v.s.d) (.slice oe v.l.length ce) := by rw [hw1]; exact Box6.new _ _ _ _ _ _ _ rfl
  have HI1 := Lib.hid (isB_later hI hb1)
  have HA1 := Lib.hid (hA.later hb1)
  have HT1 : Hid (HT w1 (· < N) (.slice oe v.l.length ce) v.l) := Lib.hid (hT.later (fun _ h => h) fun b hb o => hb1.cell (p := ⟨b, o, none⟩) (by show b < w.heap.size; omega))
  have HB1 := Lib.hid (hb1.mono (Nat.le_of_lt hB))
  have HK1 : Hid (Lib.OthersKept 5 (some B) w w1) := Lib.hid (below_others hb1)
  have HL := Lib.hid (len_any B l w1 HI1.out)
  have HX1 := Lib.hid hX1
  obtain ⟨q0, q1, q2, q3, q4, q5, -⟩ := hX1
  have hlI : (l.length : Int) ≤ 41 := by omega
  have HV := Lib.hid hv
  have HVP := Lib.hid hp
  have HVD := Lib.hid hd
  have HGB := Lib.hid hgB
  generalize hx : v.txt = x at *
  generalize hk : v.k = kk at *
  obtain ⟨x2, hx2⟩ : ∃ x2, x2 = wrapQ (parQ kk above) x := ⟨_, rfl⟩
  have HX2 := Lib.hid hx2
  have HXX := Lib.hid hx
  have HKK := Lib.hid hk
  rw [← hx2]
  unfold PT.val
  rw [hk]
  by_cases h40 : 40 < l.length
  · have hI40 : (l.length : Int) > 40 := by omega
    clear hb1 hI hA hT hw1 hv hp hd hgB hx hx2 hk
    go_enter Tryd.func61, Tryd.ntmps61
    go_wp2_with fail
    rw [← HW1.out]
    refine HL.out.mono ?_
    rintro e w2 ⟨rfl, h9⟩; subst w2
    go_wp2_with fail
    go_end0
    refine ⟨rfl, ⟨[], by rw [List.append_nil]; exact HI1.out, .inr ⟨by rw [List.append_nil]; exact h40, by rw [List.length_append]; omega⟩, by rw [List.append_nil]; omega⟩, HB1.out, HK1.out⟩
  · have hI40 : ¬ (l.length : Int) > 40 := by omega
    have hk5 : kk = 5 ∨ ¬ kk = 5 := Classical.em _
    have hpq : parQ kk above = (kk == 5 || (kk == 4 && above != 5) || (kk == 6 && above == 6)) := rfl
    have HPQ := Lib.hid hpq
    clear hb1 hI hA hT hw1 hv hp hd hgB hx hx2 hk hpq
    cases hpar : parQ kk above
    · have HE : Hid (x2 = x) := Lib.hid (by rw [HX2.out, hpar]; rfl)
      have HC := HV.out B l w1 N oe ce HVP.out HVD.out HI1.out hl HA1.out HGB.out HT1.out hN (by omega)
      rw [HXX.out] at HC
      unfold PT.val at HC
      rw [HKK.out] at HC
      have HC := Lib.hid HC
      rw [HPQ.out] at hpar
      have h1 : ¬ kk = 5 := fun h => by rw [h] at hpar; cases hpar
      have h2 : (kk = 4 ∧ above = 5) ∨ ¬ kk = 4 := by
        by_cases h : kk = 4
        · refine .inl ⟨h, ?_⟩
          subst h
          simpa using hpar
        · exact .inr h
      have h3 : (kk = 6 ∧ ¬ above = 6) ∨ ¬ kk = 6 := by
        by_cases h : kk = 6
        · refine .inl ⟨h, ?_⟩
          subst h
          simpa using hpar
        · exact .inr h
      have HFin : Hid (∀ e w', WrR B l x (4 * v.dep) w1 e w' → WrR B l x2 (4 * v.dep + 2) w e w') := Lib.hid (fun e w' ⟨r1, ⟨y, r2, r3, r4⟩, r5, r6⟩ => ⟨r1, ⟨y, r2, by rw [HE.out]; exact r3, by omega⟩, HB1.out.trans r5, HK1.out.trans r6⟩)
      clear hpar hk5
      rcases h2 with ⟨rfl, rfl⟩ | h2
      · clear h3
        go_enter Tryd.func61, Tryd.ntmps61
        go_wp2_with fail
        rw [← HW1.out]
        refine HL.out.mono ?_
        rintro e w2 ⟨rfl, h9⟩; subst w2
        go_wp2_with fail
        refine HC.out.mono ?_
        intro e w2 hr
        obtain ⟨rfl, hr2⟩ := id hr
        have HR := Lib.hid (HFin.out _ _ hr)
        clear hr hr2
        go_wp2_with fail
        go_end0
        exact HR.out
      · rcases h3 with ⟨rfl, h3⟩ | h3
        · go_enter Tryd.func61, Tryd.ntmps61
          go_wp2_with fail
          rw [← HW1.out]
          refine HL.out.mono ?_
          rintro e w2 ⟨rfl, h9⟩; subst w2
          go_wp2_with fail
          refine HC.out.mono ?_
          intro e w2 hr
          obtain ⟨rfl, hr2⟩ := id hr
          have HR := Lib.hid (HFin.out _ _ hr)
          clear hr hr2
          go_wp2_with fail
          go_end0
          exact HR.out
        · go_enter Tryd.func61, Tryd.ntmps61
          go_wp2_with fail
          rw [← HW1.out]
          refine HL.out.mono ?_
          rintro e w2 ⟨rfl, h9⟩; subst w2
          go_wp2_with fail
          refine HC.out.mono ?_
          intro e w2 hr
          obtain ⟨rfl, hr2⟩ := id hr
          have HR := Lib.hid (HFin.out _ _ hr)
          clear hr hr2
          go_wp2_with fail
          go_end0
          exact HR.out
    · have HE : Hid (x2 = 40 :: (x ++ [41])) := Lib.hid (by rw [HX2.out, hpar]; rfl)
      have HO := Lib.hid (byte_any B l 40 w1 HI1.out (by omega) (by omega))
      have HXB : Hid (w1.heap[w.heap.size]? = some (.cells #[.int .i64 kk, .int .u64 v.s.a, .int .u64 v.s.b, .int .u64 v.s.c, .int .u64 v.s.d, .slice oe v.l.length ce] 36 (0, 0))) := Lib.hid (by rw [HW1.out]; exact new_at w _)
      have HFin : Hid (∀ (y : List UInt8) (w' : World), (y = x ∨ (40 < (l ++ [40] ++ y).length ∧ 40 < (l ++ [40] ++ x).length)) → (l ++ [40] ++ y).length ≤ 530 + 4 * v.dep → IsB B (l ++ [40] ++ y ++ [41]) w' → Below B w w' → Lib.OthersKept 5 (some B) w w' → WrR B l x2 (4 * v.dep + 2) w (.returned (.tuple #[])) w') := Lib.hid (fun y w' h1 h2 h3 h4 h4k => by
        refine ⟨rfl, ⟨40 :: (y ++ [41]), ?_, ?_, ?_⟩, h4, h4k⟩
        · have e : l ++ 40 :: (y ++ [41]) = l ++ [40] ++ y ++ [41] := by simp
          rw [e]; exact h3
        · rw [HE.out]
          rcases h1 with rfl | ⟨h5, h6⟩
          · exact .inl rfl
          · refine .inr ?_
            simp only [List.length_append, List.length_cons, List.length_nil] at *
            omega
        · simp only [List.length_append, List.length_cons, List.length_nil] at *
          omega)
      rw [HPQ.out] at hpar
      have h1 : kk = 5 ∨ (kk = 4 ∧ ¬ above = 5) ∨ (kk = 6 ∧ above = 6) := by
        rcases hk5 with h | h5
        · exact .inl h
        · by_cases h4 : kk = 4
          · refine .inr (.inl ⟨h4, ?_⟩)
            subst h4
            simpa using hpar
          · refine .inr (.inr ?_)
            simpa [h5, h4] using hpar
      clear hpar hk5
      rcases h1 with rfl | ⟨rfl, h1⟩ | ⟨rfl, rfl⟩
      · skip
        go_enter Tryd.func61, Tryd.ntmps61
        go_wp2_with fail
        rw [← HW1.out]
        refine HL.out.mono ?_
        rintro e w2 ⟨rfl, h9⟩; subst w2
        go_wp2_with fail
        refine HO.out.mono ?_
        rintro e w2 ⟨rfl, hI2, hb2, hk2⟩
        have hxb : w2.heap[w.heap.size]? = w1.heap[w.heap.size]? := (hk2 _ _ HXB.out (by simp; omega) (fun c fz e => by cases e)).trans HXB.out.symm
        obtain ⟨r0, r1, r2, r3, r4, r5, -⟩ := HX1.out.of_block hxb
        have hs2 := hb2.size
        have HA2 : Hid (AL w2) := Lib.hid (HA1.out.of (hb2.block _ HGB.out))
        have HT2 : Hid (HT w2 (· < N) (.slice oe v.l.length ce) v.l) := Lib.hid (HT1.out.later (fun _ h => h) fun b hb o => hb2.cell (p := ⟨b, o, none⟩) (by show b < B; omega))
        have HC := HV.out B (l ++ [40]) w2 N oe ce HVP.out HVD.out hI2 (by rw [List.length_append]; show l.length + 1 ≤ 41; omega) HA2.out HGB.out HT2.out hN (by omega)
        rw [HXX.out] at HC
        unfold PT.val at HC
        rw [HKK.out] at HC
        have HC := Lib.hid HC
        have HB2 := Lib.hid (HB1.out.trans hb2)
        have HK2 := Lib.hid (HK1.out.trans hk2)
        clear hI2 hb2 hk2 hxb HO
        go_wp2_with fail
        refine HC.out.mono ?_
        rintro e w3 ⟨rfl, ⟨y, hI3, hy, hyl⟩, hb3, hk3⟩
        have hs3 := hb3.size
        have HO3 := Lib.hid (byte_any B (l ++ [40] ++ y) 41 w3 hI3 (by have := HVD.out; omega) (by omega))
        have HY := Lib.hid hy
        have HB3 := Lib.hid (HB2.out.trans hb3)
        have HK3 := Lib.hid (HK2.out.trans hk3)
        clear hI3 hb3 hk3 HC hy r0 r1 r2 r3 r4 r5
        go_wp2_with fail
        refine HO3.out.mono ?_
        rintro e w4 ⟨rfl, hI4, hb4, hk4⟩
        have HI4 := Lib.hid hI4
        have HB4 := Lib.hid (HB3.out.trans hb4)
        have HK4 := Lib.hid (HK3.out.trans hk4)
        clear hI4 hb4 hk4 HO3
        go_wp2_with fail
        go_end0
        exact HFin.out y _ HY.out hyl HI4.out HB4.out HK4.out
      · skip
        go_enter Tryd.func61, Tryd.ntmps61
        go_wp2_with fail
        rw [← HW1.out]
        refine HL.out.mono ?_
        rintro e w2 ⟨rfl, h9⟩; subst w2
        go_wp2_with fail
        refine HO.out.mono ?_
        rintro e w2 ⟨rfl, hI2, hb2, hk2⟩
        have hxb : w2.heap[w.heap.size]? = w1.heap[w.heap.size]? := (hk2 _ _ HXB.out (by simp; omega) (fun c fz e => by cases e)).trans HXB.out.symm
        obtain ⟨r0, r1, r2, r3, r4, r5, -⟩ := HX1.out.of_block hxb
        have hs2 := hb2.size
        have HA2 : Hid (AL w2) := Lib.hid (HA1.out.of (hb2.block _ HGB.out))
        have HT2 : Hid (HT w2 (· < N) (.slice oe v.l.length ce) v.l) := Lib.hid (HT1.out.later (fun _ h => h) fun b hb o => hb2.cell (p := ⟨b, o, none⟩) (by show b < B; omega))
        have HC := HV.out B (l ++ [40]) w2 N oe ce HVP.out HVD.out hI2 (by rw [List.length_append]; show l.length + 1 ≤ 41; omega) HA2.out HGB.out HT2.out hN (by omega)
        rw [HXX.out] at HC
        unfold PT.val at HC
        rw [HKK.out] at HC
        have HC := Lib.hid HC
        have HB2 := Lib.hid (HB1.out.trans hb2)
        have HK2 := Lib.hid (HK1.out.trans hk2)
        clear hI2 hb2 hk2 hxb HO
        go_wp2_with fail
        refine HC.out.mono ?_
        rintro e w3 ⟨rfl, ⟨y, hI3, hy, hyl⟩, hb3, hk3⟩
        have hs3 := hb3.size
        have HO3 := Lib.hid (byte_any B (l ++ [40] ++ y) 41 w3 hI3 (by have := HVD.out; omega) (by omega))
        have HY := Lib.hid hy
        have HB3 := Lib.hid (HB2.out.trans hb3)
        have HK3 := Lib.hid (HK2.out.trans hk3)
        clear hI3 hb3 hk3 HC hy r0 r1 r2 r3 r4 r5
        go_wp2_with fail
        refine HO3.out.mono ?_
        rintro e w4 ⟨rfl, hI4, hb4, hk4⟩
        have HI4 := Lib.hid hI4
        have HB4 := Lib.hid (HB3.out.trans hb4)
        have HK4 := Lib.hid (HK3.out.trans hk4)
        clear hI4 hb4 hk4 HO3
        go_wp2_with fail
        go_end0
        exact HFin.out y _ HY.out hyl HI4.out HB4.out HK4.out
      · skip
        go_enter Tryd.func61, Tryd.ntmps61
        go_wp2_with fail
        rw [← HW1.out]
        refine HL.out.mono ?_
        rintro e w2 ⟨rfl, h9⟩; subst w2
        go_wp2_with fail
        refine HO.out.mono ?_
        rintro e w2 ⟨rfl, hI2, hb2, hk2⟩
        have hxb : w2.heap[w.heap.size]? = w1.heap[w.heap.size]? := (hk2 _ _ HXB.out (by simp; omega) (fun c fz e => by cases e)).trans HXB.out.symm
        obtain ⟨r0, r1, r2, r3, r4, r5, -⟩ := HX1.out.of_block hxb
        have hs2 := hb2.size
        have HA2 : Hid (AL w2) := Lib.hid (HA1.out.of (hb2.block _ HGB.out))
        have HT2 : Hid (HT w2 (· < N) (.slice oe v.l.length ce) v.l) := Lib.hid (HT1.out.later (fun _ h => h) fun b hb o => hb2.cell (p := ⟨b, o, none⟩) (by show b < B; omega))
        have HC := HV.out B (l ++ [40]) w2 N oe ce HVP.out HVD.out hI2 (by rw [List.length_append]; show l.length + 1 ≤ 41; omega) HA2.out HGB.out HT2.out hN (by omega)
        rw [HXX.out] at HC
        unfold PT.val at HC
        rw [HKK.out] at HC
        have HC := Lib.hid HC
        have HB2 := Lib.hid (HB1.out.trans hb2)
        have HK2 := Lib.hid (HK1.out.trans hk2)
        clear hI2 hb2 hk2 hxb HO
        go_wp2_with fail
        refine HC.out.mono ?_
        rintro e w3 ⟨rfl, ⟨y, hI3, hy, hyl⟩, hb3, hk3⟩
        have hs3 := hb3.size
        have HO3 := Lib.hid (byte_any B (l ++ [40] ++ y) 41 w3 hI3 (by have := HVD.out; omega) (by omega))
        have HY := Lib.hid hy
        have HB3 := Lib.hid (HB2.out.trans hb3)
        have HK3 := Lib.hid (HK2.out.trans hk3)
        clear hI3 hb3 hk3 HC hy r0 r1 r2 r3 r4 r5
        go_wp2_with fail
        refine HO3.out.mono ?_
        rintro e w4 ⟨rfl, hI4, hb4, hk4⟩
        have HI4 := Lib.hid hI4
        have HB4 := Lib.hid (HB3.out.trans hb4)
        have HK4 := Lib.hid (HK3.out.trans hk4)
        clear hI4 hb4 hk4 HO3
        go_wp2_with fail
        go_end0
        exact HFin.out y _ HY.out hyl HI4.out HB4.out HK4.out

set_option maxRecDepth 100000 in
set_option maxHeartbeats 6400000 in
theorem write_step (v : PT) (ih : ∀ x, x ∈ v.l → WrOk x) : WrOk v := by
  intro B l w N oe ce hp hd hI hl hA hgB hT hN hB
  obtain ⟨w1, hw1⟩ : ∃ w1, w1 = w.alloc (.cells #[.int .i64 v.k, .int .u64 v.s.a, .int .u64 v.s.b, .int .u64 v.s.c, .int .u64 v.s.d, .slice oe v.l.length ce] 36) := ⟨_, rfl⟩
  have HW1 := Lib.hid hw1
  have hb1 : Below w.heap.size w w1 := by rw [hw1]; exact below1 _ _
  have hs1 : w1.heap.size = w.heap.size + 1 := by rw [hw1]; simp
  have HS1 := Lib.hid hs1
  have HXB : Hid (w1.heap[w.heap.size]? = some (.cells #[.int .i64 v.k, .int .u64 v.s.a, .int .u64 v.s.b, .int .u64 v.s.c, .int .u64 v.s.d, .slice oe v.l.length ce] 36 (0, 0))) := Lib.hid (by rw [hw1]; exact new_at w _)
  have hX1 : Box6 w1 w.heap.size (.int .i64 v.k) (.int .u64 v.s.a) (.int .u64 v.s.b) (.int .u64 v.s.c) (.int .u64 v.s.d) (.slice oe v.l.length ce) := by rw [hw1]; exact Box6.new _ _ _ _ _ _ _ rfl
  have HI1 := Lib.hid (isB_later hI hb1)
  have HA1 := Lib.hid (hA.later hb1)
  have HT1 : Hid (HT w1 (· < N) (.slice oe v.l.length ce) v.l) := Lib.hid (hT.later (fun _ h => h) fun b hb o => hb1.cell (p := ⟨b, o, none⟩) (by show b < w.heap.size; omega))
  have HB1 := Lib.hid (hb1.mono (Nat.le_of_lt hB))
  have HK1 : Hid (Lib.OthersKept 5 (some B) w w1) := Lib.hid (below_others hb1)
  obtain ⟨q0, q1, q2, q3, q4, q5, -⟩ := hX1
  obtain ⟨-, hlm⟩ := HT.len hT
  have HIH := Lib.hid ih
  have HGB := Lib.hid hgB
  have HPr : Hid (∀ x, x ∈ v.l → x.prop = true ∧ x.dep + 1 ≤ v.dep) := Lib.hid (fun x hx => by
    rw [PT.prop_eq, PT.props_eq, Bool.and_eq_true] at hp
    have := PT.deps_mem hx
    rw [← PT.dep_eq] at this
    exact ⟨List.all_eq_true.1 hp.2 x hx, this⟩)
  have hmay : mayH v.k v.l.length = true := by
    rw [PT.prop_eq, Bool.and_eq_true] at hp
    have := hp.1
    unfold PT.okH at this
    rw [Bool.and_eq_true] at this
    exact this.2
  obtain ⟨RES, hRES⟩ : ∃ RES, RES = v.txt := ⟨_, rfl⟩
  have HRES : Hid (RES = if v.k = 1 then [91, 93] else if v.k = 2 then [40, 41] else if v.k = 3 then classE v.s else if v.k = 6 then PT.txt1 v.l else PT.txts v.k v.l) := Lib.hid (by rw [hRES, PT.txt_eq])
  rw [← hRES]
  unfold PT.val
  have hw1b : w1.heap.size = w.heap.size + 1 := hs1
  clear hRES hp ih hgB hb1 hI hA hT hw1 hs1
  generalize hk : v.k = kk at *
  have hcase : kk = 1 ∨ kk = 2 ∨ kk = 3 ∨ kk = 6 ∨ kk = 4 ∨ kk = 5 := by
    unfold mayH at hmay
    by_cases h1 : kk = 1 ∨ kk = 2 ∨ kk = 3
    · omega
    · rw [if_neg h1] at hmay
      by_cases h2 : kk = 6
      · omega
      · rw [if_neg h2] at hmay
        by_cases h3 : kk = 4 ∨ kk = 5
        · omega
        · rw [if_neg h3] at hmay; cases hmay
  clear hk
  rcases hcase with rfl | rfl | rfl | rfl | rfl | rfl
  · skip
    have HO := Lib.hid (write_any B l ⟨#[91, 93]⟩ w1 HI1.out (by show l.length + 2 ≤ _; omega) (by omega))
    have HE : Hid (RES = [91, 93]) := Lib.hid HRES.out
    clear hmay HRES
    go_enter Tryd.func39, Tryd.ntmps39
    go_wp2_with fail
    rw [← HW1.out]
    refine HO.out.mono ?_
    rintro e w2 ⟨rfl, hI2, hb2, hk2⟩
    have HFin : Hid (WrR B l RES (4 * v.dep) w (.returned (.tuple #[])) w2) := Lib.hid ⟨rfl, ⟨[91, 93], hI2, .inl HE.out.symm, by rw [List.length_append]; show l.length + 2 ≤ _; omega⟩, HB1.out.trans hb2, HK1.out.trans hk2⟩
    clear hI2 hb2 hk2
    go_wp2_with fail
    go_end0
    exact HFin.out
  · skip
    have HO := Lib.hid (write_any B l ⟨#[40, 41]⟩ w1 HI1.out (by show l.length + 2 ≤ _; omega) (by omega))
    have HE : Hid (RES = [40, 41]) := Lib.hid HRES.out
    clear hmay HRES
    go_enter Tryd.func39, Tryd.ntmps39
    go_wp2_with fail
    rw [← HW1.out]
    refine HO.out.mono ?_
    rintro e w2 ⟨rfl, hI2, hb2, hk2⟩
    have HFin : Hid (WrR B l RES (4 * v.dep) w (.returned (.tuple #[])) w2) := Lib.hid ⟨rfl, ⟨[40, 41], hI2, .inl HE.out.symm, by rw [List.length_append]; show l.length + 2 ≤ _; omega⟩, HB1.out.trans hb2, HK1.out.trans hk2⟩
    clear hI2 hb2 hk2
    go_wp2_with fail
    go_end0
    exact HFin.out
  · skip
    have HO := Lib.hid (writeClass_any B l v.s w1 HI1.out HA1.out (by omega) (by omega))
    have hcl := classE_len v.s
    have HE : Hid (RES = classE v.s) := Lib.hid HRES.out
    unfold S4.val at HO
    clear hmay HRES
    go_enter Tryd.func39, Tryd.ntmps39
    go_wp2_with fail
    rw [← HW1.out]
    refine HO.out.mono ?_
    rintro e w2 ⟨rfl, hI2, hb2, hk2⟩
    have HFin : Hid (WrR B l RES (4 * v.dep) w (.returned (.tuple #[])) w2) := Lib.hid ⟨rfl, ⟨classE v.s, hI2, .inl HE.out.symm, by rw [List.length_append]; omega⟩, HB1.out.trans hb2, HK1.out.trans hk2⟩
    clear hI2 hb2 hk2
    go_wp2_with fail
    go_end0
    exact HFin.out
  · skip
    have hl1 : v.l.length = 1 := by simpa [mayH] using hmay
    obtain ⟨x, hx⟩ : ∃ x, v.l[0]? = some x := ⟨_, List.getElem?_eq_getElem (by omega)⟩
    have hxm := List.mem_of_getElem? hx
    obtain ⟨hxp, hxd1⟩ := HPr.out x hxm
    have hxd : x.dep ≤ 65536 := by omega
    obtain ⟨b, off, ox, cx, rfl, hb, hTx, p0, p1, p2, p3, p4, p5⟩ := HT.at_ HT1.out hx
    simp only [Nat.zero_mul, Nat.add_zero] at p0 p1 p2 p3 p4 p5
    have HE : Hid (RES = wrapQ (parQ x.k 6) x.txt ++ [42]) := Lib.hid (by
      rw [HRES.out]
      show PT.txt1 v.l = _
      obtain ⟨z, hz⟩ := List.length_eq_one_iff.1 hl1
      rw [hz] at hx
      cases hx
      rw [hz, PT.txt1])
    have HSb := writeSub_of x (HIH.out x hxm) 6 B l w1 N ox cx hxp hxd HI1.out hl HA1.out HGB.out hTx hN (by omega)
    unfold PT.val at HSb
    have HSb := Lib.hid HSb
    rw [hl1] at q5 HW1 ⊢
    have hl0 : (0 : Int) < 1 := by decide
    rw [HW1.out] at p0 p1 p2 p3 p4 p5
    clear hmay HRES hx hxm hxp hb hTx hl1
    go_enter Tryd.func39, Tryd.ntmps39
    go_wp2_with fail
    rw [← HW1.out]
    refine HSb.out.mono ?_
    rintro e w5 ⟨rfl, ⟨y1, hI5, hy5, hyl5⟩, hb5, hk5⟩
    have hs5 := hb5.size
    have HO := Lib.hid (byte_any B (l ++ y1) 42 w5 hI5 (by omega) (by omega))
    have HY5 := Lib.hid hy5
    have HB5 := Lib.hid (HB1.out.trans hb5)
    have HK5 := Lib.hid (HK1.out.trans hk5)
    clear hI5 hy5 hb5 hk5 HSb
    go_wp2_with fail
    refine HO.out.mono ?_
    rintro e w6 ⟨rfl, hI6, hb6, hk6⟩
    have HFin : Hid (WrR B l RES (4 * v.dep) w (.returned (.tuple #[])) w6) := Lib.hid ⟨rfl, ⟨y1 ++ [42], by rw [← List.append_assoc]; exact hI6, by
      rw [HE.out]
      rcases HY5.out with rfl | ⟨h5, h6⟩
      · exact .inl rfl
      · refine .inr ?_
        simp only [List.length_append, List.length_cons, List.length_nil] at *
        omega, by
      simp only [List.length_append, List.length_cons, List.length_nil] at *
      omega⟩, HB5.out.trans hb6, HK5.out.trans hk6⟩
    clear hI6 hb6 hk6
    go_wp2_with fail
    go_end0
    exact HFin.out
  · skip
    have HE : Hid (RES = PT.txts 4 v.l) := Lib.hid HRES.out
    have hl2 : 2 ≤ v.l.length := by simpa [mayH] using hmay
    clear hmay HRES
    go_enter Tryd.func39, Tryd.ntmps39
    go_wp2_with fail
    rw [← HW1.out]
    clear q0 q1 q2 q3 q4 q5
    have HY1 : Hid (∃ y, IsB B (l ++ y) w1 ∧ (y = PT.upto 4 v.l 0 ∨ (40 < (l ++ y).length ∧ 40 < (l ++ RES).length)) ∧ (l ++ y).length ≤ 530 + 4 * v.dep) := Lib.hid ⟨[], by rw [List.append_nil]; exact HI1.out, .inl (PT.upto_zero _ _).symm, by rw [List.append_nil]; omega⟩
    go_loopw [38] (fun u wr => ∃ i : Nat, u = .int .i64 (i : Int) ∧ i ≤ v.l.length ∧ Hid (∃ y, IsB B (l ++ y) wr ∧ (y = PT.upto 4 v.l i ∨ (40 < (l ++ y).length ∧ 40 < (l ++ RES).length)) ∧ (l ++ y).length ≤ 530 + 4 * v.dep) ∧ Hid (wr.heap[w.heap.size]? = some (.cells #[.int .i64 4, .int .u64 v.s.a, .int .u64 v.s.b, .int .u64 v.s.c, .int .u64 v.s.d, .slice oe v.l.length ce] 36 (0, 0))) ∧ Hid (HT wr (· < N) (.slice oe v.l.length ce) v.l) ∧ Hid (AL wr) ∧ Hid (Below B w wr) ∧ Hid (Lib.OthersKept 5 (some B) w wr) ∧ w1.heap.size ≤ wr.heap.size) (fun u _ => v.l.length - (intOf u).toNat)
    case atStart => exact ⟨0, rfl, Nat.zero_le _, HY1, HXB, HT1, HA1, HB1, HK1, Nat.le_refl _⟩
    case round =>
      obtain ⟨i, rfl, hi, HYr, HXr, HTr, HAr, HBr, HKr, hsr⟩ := hrel
      clear HY1 HXB HT1 HA1 HB1 HK1
      obtain ⟨y, hIy, hyy, hyl⟩ := HYr.out
      by_cases hlt : i < v.l.length
      · have hltI : (i : Int) < (v.l.length : Int) := by omega
        have hi0 : (0 : Int) ≤ (i : Int) := by omega
        have hwi : IntKind.i64.wrap ((i : Int) + 1) = ((i + 1 : Nat) : Int) := by rw [IntWalk.i64_in _ (by omega)]; omega
        obtain ⟨x, hx⟩ : ∃ x, v.l[i]? = some x := ⟨_, List.getElem?_eq_getElem hlt⟩
        have hxm := List.mem_of_getElem? hx
        obtain ⟨hxp, hxd1⟩ := HPr.out x hxm
        have hxd : x.dep ≤ 65536 := by omega
        obtain ⟨b, off, ox, cx, rfl, hb, hTx, p0, p1, p2, p3, p4, p5⟩ := HT.at_ HTr.out hx
        have hup := PT.upto_succ 4 v.l i x hx
        have HUp := Lib.hid hup
        have hb2 := below1 wr (.cells #[.int .i64 x.k, .int .u64 x.s.a, .int .u64 x.s.b, .int .u64 x.s.c, .int .u64 x.s.d, .slice ox x.l.length cx] 36)
        obtain ⟨w2, hw2⟩ : ∃ w2, w2 = wr.alloc (.cells #[.int .i64 x.k, .int .u64 x.s.a, .int .u64 x.s.b, .int .u64 x.s.c, .int .u64 x.s.d, .slice ox x.l.length cx] 36) := ⟨_, rfl⟩
        have HW2 := Lib.hid hw2
        rw [← hw2] at hb2
        have hs2 : w2.heap.size = wr.heap.size + 1 := by rw [hw2]; simp
        have HS2 := Lib.hid hs2
        have HSX : Hid (w2.heap[wr.heap.size]? = some (.cells #[.int .i64 x.k, .int .u64 x.s.a, .int .u64 x.s.b, .int .u64 x.s.c, .int .u64 x.s.d, .slice ox x.l.length cx] 36 (0, 0))) := Lib.hid (by rw [hw2]; exact new_at wr _)
        have HX2 : Hid (w2.heap[w.heap.size]? = some (.cells #[.int .i64 4, .int .u64 v.s.a, .int .u64 v.s.b, .int .u64 v.s.c, .int .u64 v.s.d, .slice (some ⟨b, off, none⟩) v.l.length ce] 36 (0, 0))) := Lib.hid ((hb2.block _ (by omega)).trans HXr.out)
        have HI2 := Lib.hid (isB_later hIy hb2)
        have HT2 : Hid (HT w2 (· < N) (.slice (some ⟨b, off, none⟩) v.l.length ce) v.l) := Lib.hid (HTr.out.later (fun _ h => h) fun q hq o => hb2.cell (p := ⟨q, o, none⟩) (by show q < wr.heap.size; omega))
        have HTx2 : Hid (HT w2 (· < N) (.slice ox x.l.length cx) x.l) := Lib.hid (hTx.later (fun _ h => h) fun q hq o => hb2.cell (p := ⟨q, o, none⟩) (by show q < wr.heap.size; omega))
        have HA2 := Lib.hid (HAr.out.later hb2)
        have HB2 : Hid (Below B w w2) := Lib.hid (HBr.out.trans (hb2.mono (by omega)))
        have HK2 : Hid (Lib.OthersKept 5 (some B) w w2) := Lib.hid (HKr.out.trans (below_others hb2))
        have HL := Lib.hid (len_any B (l ++ y) w2 HI2.out)
        have HYY := Lib.hid hyy
        have HXM := Lib.hid hxm
        have HXP := Lib.hid hxp
        clear hx hb hTx hup hw2 hb2 hIy hyy HYr HXr HTr HAr HBr HKr hs2 hxm hxp
        by_cases h40 : 40 < (l ++ y).length
        · have hI40 : (l.length : Int) + (y.length : Int) > 40 := by rw [List.length_append] at h40; omega
          have HFin : Hid (WrR B l RES (4 * v.dep) w (.returned (.tuple #[])) w2) := Lib.hid ⟨rfl, ⟨y, HI2.out, .inr ⟨h40, by
            rcases HYY.out with rfl | h
            · obtain ⟨r, hr⟩ := PT.upto_le 4 v.l i
              rw [HE.out, hr]
              rw [List.length_append] at h40
              rw [List.length_append, List.length_append]
              omega
            · exact h.2⟩, hyl⟩, HB2.out, HK2.out⟩
          clear h40
          go_wp2_with fail
          rw [← HW2.out]
          refine HL.out.mono ?_
          rintro e w3 ⟨rfl, h9⟩; subst w3
          go_wp2_with fail
          go_end0
          exact HFin.out
        · have hI40 : ¬ ((l.length : Int) + (y.length : Int) > 40) := by rw [List.length_append] at h40; omega
          obtain rfl : y = PT.upto 4 v.l i := by
            rcases HYY.out with h | h
            · exact h
            · omega
          have HLen : Hid ((l ++ PT.upto 4 v.l i).length ≤ 40) := Lib.hid (by omega)
          have HEnd : Hid (∀ (sep y1 : List UInt8) (w5 : World), sep = (if 0 < i ∧ (4 : Int) = 5 then [124] else []) → IsB B (l ++ PT.upto 4 v.l i ++ sep ++ y1) w5 → (y1 = wrapQ (parQ x.k 4) x.txt ∨ (40 < (l ++ PT.upto 4 v.l i ++ sep ++ y1).length ∧ 40 < (l ++ PT.upto 4 v.l i ++ sep ++ wrapQ (parQ x.k 4) x.txt).length)) → (l ++ PT.upto 4 v.l i ++ sep ++ y1).length ≤ 530 + (4 * x.dep + 2) → ∃ y, IsB B (l ++ y) w5 ∧ (y = PT.upto 4 v.l (i + 1) ∨ (40 < (l ++ y).length ∧ 40 < (l ++ RES).length)) ∧ (l ++ y).length ≤ 530 + 4 * v.dep) := Lib.hid (fun sep y1 w5 h0 h1 h2 h3 => by
            refine ⟨PT.upto 4 v.l i ++ (sep ++ y1), ?_, ?_, ?_⟩
            · rw [← List.append_assoc, ← List.append_assoc]; exact h1
            · rcases h2 with rfl | ⟨h4, h5⟩
              · exact .inl (by rw [HUp.out, h0])
              · refine .inr ⟨by rw [← List.append_assoc, ← List.append_assoc]; exact h4, ?_⟩
                obtain ⟨r, hr⟩ := PT.upto_le 4 v.l (i + 1)
                rw [HE.out, hr, HUp.out, ← h0]
                simp only [List.length_append] at *
                omega
            · rw [← List.append_assoc, ← List.append_assoc]; omega)
          have hsz2 := HS2.out
          have HSW := Lib.hid hsz2
          clear hyl h40 HYY hsz2
          have hx2c : w2.cell? ⟨w.heap.size, 0, none⟩ = some (.int .i64 4) := by unfold World.cell?; rw [HX2.out]; rfl
          by_cases h0 : 0 < i
          · have h0I : (i : Int) > 0 := by omega
            have hsw : wr.heap.size + 1 ≤ w2.heap.size := by have := HSW.out; omega
            have HSb := writeSub_of x (HIH.out x HXM.out) (4) B (l ++ PT.upto 4 v.l i ++ []) w2 N ox cx HXP.out hxd (by simpa using HI2.out) (by rw [List.length_append]; have := HLen.out; simp only [List.length_nil]; omega) HA2.out HGB.out HTx2.out hN (by omega)
            unfold PT.val at HSb
            have HSb := Lib.hid HSb
            have s0 : w2.cell? ⟨wr.heap.size, 0, none⟩ = some (.int .i64 x.k) := by unfold World.cell?; rw [HSX.out]; rfl
            have s1 : w2.cell? ⟨wr.heap.size, 1, none⟩ = some (.int .u64 x.s.a) := by unfold World.cell?; rw [HSX.out]; rfl
            have s2 : w2.cell? ⟨wr.heap.size, 2, none⟩ = some (.int .u64 x.s.b) := by unfold World.cell?; rw [HSX.out]; rfl
            have s3 : w2.cell? ⟨wr.heap.size, 3, none⟩ = some (.int .u64 x.s.c) := by unfold World.cell?; rw [HSX.out]; rfl
            have s4 : w2.cell? ⟨wr.heap.size, 4, none⟩ = some (.int .u64 x.s.d) := by unfold World.cell?; rw [HSX.out]; rfl
            have s5 : w2.cell? ⟨wr.heap.size, 5, none⟩ = some (.slice ox x.l.length cx) := by unfold World.cell?; rw [HSX.out]; rfl
            have s6 : w2.cell? ⟨w.heap.size, 0, none⟩ = some (.int .i64 4) := by unfold World.cell?; rw [HX2.out]; rfl
            go_wp2_with fail
            rw [← HW2.out]
            refine HL.out.mono ?_
            rintro e w3 ⟨rfl, h9⟩; subst w3
            go_wp2_with fail
            refine HSb.out.mono ?_
            rintro e w5 ⟨rfl, ⟨y1, hI5, hy5, hyl5⟩, hb5, hk5⟩
            have HY5 := Lib.hid (HEnd.out ([]) y1 w5 (by simp ) hI5 hy5 hyl5)
            have HX5 : Hid (w5.heap[w.heap.size]? = some (.cells #[.int .i64 4, .int .u64 v.s.a, .int .u64 v.s.b, .int .u64 v.s.c, .int .u64 v.s.d, .slice (some ⟨b, off, none⟩) v.l.length ce] 36 (0, 0))) := Lib.hid (hk5 _ _ HX2.out (by simp; omega) (fun c fz e => by cases e))
            have HT5 : Hid (HT w5 (· < N) (.slice (some ⟨b, off, none⟩) v.l.length ce) v.l) := Lib.hid (HT2.out.later (fun _ h => h) fun q hq o => hb5.cell (p := ⟨q, o, none⟩) (by show q < B; omega))
            have HA5 : Hid (AL w5) := Lib.hid (HA2.out.of (hb5.block _ HGB.out))
            have HB5 := Lib.hid (HB2.out.trans hb5)
            have HK5 := Lib.hid (HK2.out.trans hk5)
            have hs5 : w1.heap.size ≤ w5.heap.size := by have := hb5.size; omega
            clear hI5 hy5 hyl5 hb5 hk5 HSb s0 s1 s2 s3 s4 s5 s6 HEnd HUp hx2c
            go_wp2_with fail
            go_roundw
            case rel => exact ⟨i + 1, by first | rfl | go_num, hlt, HY5, HX5, HT5, HA5, HB5, HK5, hs5⟩
            case measure => simp [intOf]; omega
          · have h0I : ¬ (i : Int) > 0 := by omega
            have hsw : wr.heap.size + 1 ≤ w2.heap.size := by have := HSW.out; omega
            have HSb := writeSub_of x (HIH.out x HXM.out) (4) B (l ++ PT.upto 4 v.l i ++ []) w2 N ox cx HXP.out hxd (by simpa using HI2.out) (by rw [List.length_append]; have := HLen.out; simp only [List.length_nil]; omega) HA2.out HGB.out HTx2.out hN (by omega)
            unfold PT.val at HSb
            have HSb := Lib.hid HSb
            have s0 : w2.cell? ⟨wr.heap.size, 0, none⟩ = some (.int .i64 x.k) := by unfold World.cell?; rw [HSX.out]; rfl
            have s1 : w2.cell? ⟨wr.heap.size, 1, none⟩ = some (.int .u64 x.s.a) := by unfold World.cell?; rw [HSX.out]; rfl
            have s2 : w2.cell? ⟨wr.heap.size, 2, none⟩ = some (.int .u64 x.s.b) := by unfold World.cell?; rw [HSX.out]; rfl
            have s3 : w2.cell? ⟨wr.heap.size, 3, none⟩ = some (.int .u64 x.s.c) := by unfold World.cell?; rw [HSX.out]; rfl
            have s4 : w2.cell? ⟨wr.heap.size, 4, none⟩ = some (.int .u64 x.s.d) := by unfold World.cell?; rw [HSX.out]; rfl
            have s5 : w2.cell? ⟨wr.heap.size, 5, none⟩ = some (.slice ox x.l.length cx) := by unfold World.cell?; rw [HSX.out]; rfl
            have s6 : w2.cell? ⟨w.heap.size, 0, none⟩ = some (.int .i64 4) := by unfold World.cell?; rw [HX2.out]; rfl
            go_wp2_with fail
            rw [← HW2.out]
            refine HL.out.mono ?_
            rintro e w3 ⟨rfl, h9⟩; subst w3
            go_wp2_with fail
            refine HSb.out.mono ?_
            rintro e w5 ⟨rfl, ⟨y1, hI5, hy5, hyl5⟩, hb5, hk5⟩
            have HY5 := Lib.hid (HEnd.out ([]) y1 w5 (by simp ) hI5 hy5 hyl5)
            have HX5 : Hid (w5.heap[w.heap.size]? = some (.cells #[.int .i64 4, .int .u64 v.s.a, .int .u64 v.s.b, .int .u64 v.s.c, .int .u64 v.s.d, .slice (some ⟨b, off, none⟩) v.l.length ce] 36 (0, 0))) := Lib.hid (hk5 _ _ HX2.out (by simp; omega) (fun c fz e => by cases e))
            have HT5 : Hid (HT w5 (· < N) (.slice (some ⟨b, off, none⟩) v.l.length ce) v.l) := Lib.hid (HT2.out.later (fun _ h => h) fun q hq o => hb5.cell (p := ⟨q, o, none⟩) (by show q < B; omega))
            have HA5 : Hid (AL w5) := Lib.hid (HA2.out.of (hb5.block _ HGB.out))
            have HB5 := Lib.hid (HB2.out.trans hb5)
            have HK5 := Lib.hid (HK2.out.trans hk5)
            have hs5 : w1.heap.size ≤ w5.heap.size := by have := hb5.size; omega
            clear hI5 hy5 hyl5 hb5 hk5 HSb s0 s1 s2 s3 s4 s5 s6 HEnd HUp hx2c
            go_wp2_with fail
            go_roundw
            case rel => exact ⟨i + 1, by first | rfl | go_num, hlt, HY5, HX5, HT5, HA5, HB5, HK5, hs5⟩
            case measure => simp [intOf]; omega
      · have hltI : ¬ ((i : Int) < (v.l.length : Int)) := by omega
        obtain rfl : i = v.l.length := by omega
        have HFin : Hid (WrR B l RES (4 * v.dep) w (.returned (.tuple #[])) wr) := Lib.hid ⟨rfl, ⟨y, hIy, by
          rw [PT.upto_all, ← HE.out] at hyy
          exact hyy, hyl⟩, HBr.out, HKr.out⟩
        clear hIy hyy hyl HYr
        go_wp2_with fail
        go_end0
        exact HFin.out
  · skip
    have HE : Hid (RES = PT.txts 5 v.l) := Lib.hid HRES.out
    have hl2 : 2 ≤ v.l.length := by simpa [mayH] using hmay
    clear hmay HRES
    go_enter Tryd.func39, Tryd.ntmps39
    go_wp2_with fail
    rw [← HW1.out]
    clear q0 q1 q2 q3 q4 q5
    have HY1 : Hid (∃ y, IsB B (l ++ y) w1 ∧ (y = PT.upto 5 v.l 0 ∨ (40 < (l ++ y).length ∧ 40 < (l ++ RES).length)) ∧ (l ++ y).length ≤ 530 + 4 * v.dep) := Lib.hid ⟨[], by rw [List.append_nil]; exact HI1.out, .inl (PT.upto_zero _ _).symm, by rw [List.append_nil]; omega⟩
    go_loopw [38] (fun u wr => ∃ i : Nat, u = .int .i64 (i : Int) ∧ i ≤ v.l.length ∧ Hid (∃ y, IsB B (l ++ y) wr ∧ (y = PT.upto 5 v.l i ∨ (40 < (l ++ y).length ∧ 40 < (l ++ RES).length)) ∧ (l ++ y).length ≤ 530 + 4 * v.dep) ∧ Hid (wr.heap[w.heap.size]? = some (.cells #[.int .i64 5, .int .u64 v.s.a, .int .u64 v.s.b, .int .u64 v.s.c, .int .u64 v.s.d, .slice oe v.l.length ce] 36 (0, 0))) ∧ Hid (HT wr (· < N) (.slice oe v.l.length ce) v.l) ∧ Hid (AL wr) ∧ Hid (Below B w wr) ∧ Hid (Lib.OthersKept 5 (some B) w wr) ∧ w1.heap.size ≤ wr.heap.size) (fun u _ => v.l.length - (intOf u).toNat)
    case atStart => exact ⟨0, rfl, Nat.zero_le _, HY1, HXB, HT1, HA1, HB1, HK1, Nat.le_refl _⟩
    case round =>
      obtain ⟨i, rfl, hi, HYr, HXr, HTr, HAr, HBr, HKr, hsr⟩ := hrel
      clear HY1 HXB HT1 HA1 HB1 HK1
      obtain ⟨y, hIy, hyy, hyl⟩ := HYr.out
      by_cases hlt : i < v.l.length
      · have hltI : (i : Int) < (v.l.length : Int) := by omega
        have hi0 : (0 : Int) ≤ (i : Int) := by omega
        have hwi : IntKind.i64.wrap ((i : Int) + 1) = ((i + 1 : Nat) : Int) := by rw [IntWalk.i64_in _ (by omega)]; omega
        obtain ⟨x, hx⟩ : ∃ x, v.l[i]? = some x := ⟨_, List.getElem?_eq_getElem hlt⟩
        have hxm := List.mem_of_getElem? hx
        obtain ⟨hxp, hxd1⟩ := HPr.out x hxm
        have hxd : x.dep ≤ 65536 := by omega
        obtain ⟨b, off, ox, cx, rfl, hb, hTx, p0, p1, p2, p3, p4, p5⟩ := HT.at_ HTr.out hx
        have hup := PT.upto_succ 5 v.l i x hx
        have HUp := Lib.hid hup
        have hb2 := below1 wr (.cells #[.int .i64 x.k, .int .u64 x.s.a, .int .u64 x.s.b, .int .u64 x.s.c, .int .u64 x.s.d, .slice ox x.l.length cx] 36)
        obtain ⟨w2, hw2⟩ : ∃ w2, w2 = wr.alloc (.cells #[.int .i64 x.k, .int .u64 x.s.a, .int .u64 x.s.b, .int .u64 x.s.c, .int .u64 x.s.d, .slice ox x.l.length cx] 36) := ⟨_, rfl⟩
        have HW2 := Lib.hid hw2
        rw [← hw2] at hb2
        have hs2 : w2.heap.size = wr.heap.size + 1 := by rw [hw2]; simp
        have HS2 := Lib.hid hs2
        have HSX : Hid (w2.heap[wr.heap.size]? = some (.cells #[.int .i64 x.k, .int .u64 x.s.a, .int .u64 x.s.b, .int .u64 x.s.c, .int .u64 x.s.d, .slice ox x.l.length cx] 36 (0, 0))) := Lib.hid (by rw [hw2]; exact new_at wr _)
        have HX2 : Hid (w2.heap[w.heap.size]? = some (.cells #[.int .i64 5, .int .u64 v.s.a, .int .u64 v.s.b, .int .u64 v.s.c, .int .u64 v.s.d, .slice (some ⟨b, off, none⟩) v.l.length ce] 36 (0, 0))) := Lib.hid ((hb2.block _ (by omega)).trans HXr.out)
        have HI2 := Lib.hid (isB_later hIy hb2)
        have HT2 : Hid (HT w2 (· < N) (.slice (some ⟨b, off, none⟩) v.l.length ce) v.l) := Lib.hid (HTr.out.later (fun _ h => h) fun q hq o => hb2.cell (p := ⟨q, o, none⟩) (by show q < wr.heap.size; omega))
        have HTx2 : Hid (HT w2 (· < N) (.slice ox x.l.length cx) x.l) := Lib.hid (hTx.later (fun _ h => h) fun q hq o => hb2.cell (p := ⟨q, o, none⟩) (by show q < wr.heap.size; omega))
        have HA2 := Lib.hid (HAr.out.later hb2)
        have HB2 : Hid (Below B w w2) := Lib.hid (HBr.out.trans (hb2.mono (by omega)))
        have HK2 : Hid (Lib.OthersKept 5 (some B) w w2) := Lib.hid (HKr.out.trans (below_others hb2))
        have HL := Lib.hid (len_any B (l ++ y) w2 HI2.out)
        have HYY := Lib.hid hyy
        have HXM := Lib.hid hxm
        have HXP := Lib.hid hxp
        clear hx hb hTx hup hw2 hb2 hIy hyy HYr HXr HTr HAr HBr HKr hs2 hxm hxp
        by_cases h40 : 40 < (l ++ y).length
        · have hI40 : (l.length : Int) + (y.length : Int) > 40 := by rw [List.length_append] at h40; omega
          have HFin : Hid (WrR B l RES (4 * v.dep) w (.returned (.tuple #[])) w2) := Lib.hid ⟨rfl, ⟨y, HI2.out, .inr ⟨h40, by
            rcases HYY.out with rfl | h
            · obtain ⟨r, hr⟩ := PT.upto_le 5 v.l i
              rw [HE.out, hr]
              rw [List.length_append] at h40
              rw [List.length_append, List.length_append]
              omega
            · exact h.2⟩, hyl⟩, HB2.out, HK2.out⟩
          clear h40
          go_wp2_with fail
          rw [← HW2.out]
          refine HL.out.mono ?_
          rintro e w3 ⟨rfl, h9⟩; subst w3
          go_wp2_with fail
          go_end0
          exact HFin.out
        · have hI40 : ¬ ((l.length : Int) + (y.length : Int) > 40) := by rw [List.length_append] at h40; omega
          obtain rfl : y = PT.upto 5 v.l i := by
            rcases HYY.out with h | h
            · exact h
            · omega
          have HLen : Hid ((l ++ PT.upto 5 v.l i).length ≤ 40) := Lib.hid (by omega)
          have HEnd : Hid (∀ (sep y1 : List UInt8) (w5 : World), sep = (if 0 < i ∧ (5 : Int) = 5 then [124] else []) → IsB B (l ++ PT.upto 5 v.l i ++ sep ++ y1) w5 → (y1 = wrapQ (parQ x.k 5) x.txt ∨ (40 < (l ++ PT.upto 5 v.l i ++ sep ++ y1).length ∧ 40 < (l ++ PT.upto 5 v.l i ++ sep ++ wrapQ (parQ x.k 5) x.txt).length)) → (l ++ PT.upto 5 v.l i ++ sep ++ y1).length ≤ 530 + (4 * x.dep + 2) → ∃ y, IsB B (l ++ y) w5 ∧ (y = PT.upto 5 v.l (i + 1) ∨ (40 < (l ++ y).length ∧ 40 < (l ++ RES).length)) ∧ (l ++ y).length ≤ 530 + 4 * v.dep) := Lib.hid (fun sep y1 w5 h0 h1 h2 h3 => by
            refine ⟨PT.upto 5 v.l i ++ (sep ++ y1), ?_, ?_, ?_⟩
            · rw [← List.append_assoc, ← List.append_assoc]; exact h1
            · rcases h2 with rfl | ⟨h4, h5⟩
              · exact .inl (by rw [HUp.out, h0])
              · refine .inr ⟨by rw [← List.append_assoc, ← List.append_assoc]; exact h4, ?_⟩
                obtain ⟨r, hr⟩ := PT.upto_le 5 v.l (i + 1)
                rw [HE.out, hr, HUp.out, ← h0]
                simp only [List.length_append] at *
                omega
            · rw [← List.append_assoc, ← List.append_assoc]; omega)
          have hsz2 := HS2.out
          have HSW := Lib.hid hsz2
          clear hyl h40 HYY hsz2
          have hx2c : w2.cell? ⟨w.heap.size, 0, none⟩ = some (.int .i64 5) := by unfold World.cell?; rw [HX2.out]; rfl
          by_cases h0 : 0 < i
          · have h0I : (i : Int) > 0 := by omega
            have HBar := Lib.hid (byte_any B (l ++ PT.upto 5 v.l i) 124 w2 HI2.out (by have := HLen.out; omega) (by have := HSW.out; omega))
            go_wp2_with fail
            rw [← HW2.out]
            refine HL.out.mono ?_
            rintro e w3 ⟨rfl, h9⟩; subst w3
            go_wp2_with fail
            refine HBar.out.mono ?_
            rintro e w4 ⟨rfl, hI4, hb4, hk4⟩
            have HI4 : Hid (IsB B (l ++ PT.upto 5 v.l i ++ [124]) w4) := Lib.hid hI4
            have HSX4 : Hid (w4.heap[wr.heap.size]? = some (.cells #[.int .i64 x.k, .int .u64 x.s.a, .int .u64 x.s.b, .int .u64 x.s.c, .int .u64 x.s.d, .slice ox x.l.length cx] 36 (0, 0))) := Lib.hid (hk4 _ _ HSX.out (by simp; omega) (fun c fz e => by cases e))
            have HX4 : Hid (w4.heap[w.heap.size]? = some (.cells #[.int .i64 5, .int .u64 v.s.a, .int .u64 v.s.b, .int .u64 v.s.c, .int .u64 v.s.d, .slice (some ⟨b, off, none⟩) v.l.length ce] 36 (0, 0))) := Lib.hid (hk4 _ _ HX2.out (by simp; omega) (fun c fz e => by cases e))
            have HT4 : Hid (HT w4 (· < N) (.slice (some ⟨b, off, none⟩) v.l.length ce) v.l) := Lib.hid (HT2.out.later (fun _ h => h) fun q hq o => hb4.cell (p := ⟨q, o, none⟩) (by show q < B; omega))
            have HTx4 : Hid (HT w4 (· < N) (.slice ox x.l.length cx) x.l) := Lib.hid (HTx2.out.later (fun _ h => h) fun q hq o => hb4.cell (p := ⟨q, o, none⟩) (by show q < B; omega))
            have HA4 : Hid (AL w4) := Lib.hid (HA2.out.of (hb4.block _ HGB.out))
            have HB4 := Lib.hid (HB2.out.trans hb4)
            have HK4 := Lib.hid (HK2.out.trans hk4)
            have hs24 := hb4.size
            clear hI4 hb4 hk4 HBar
            have hsw : wr.heap.size + 1 ≤ w4.heap.size := by have := HSW.out; omega
            have HSb := writeSub_of x (HIH.out x HXM.out) (5) B (l ++ PT.upto 5 v.l i ++ [124]) w4 N ox cx HXP.out hxd (by simpa using HI4.out) (by rw [List.length_append]; have := HLen.out; simp only [List.length_cons, List.length_nil]; omega) HA4.out HGB.out HTx4.out hN (by omega)
            unfold PT.val at HSb
            have HSb := Lib.hid HSb
            have s0 : w4.cell? ⟨wr.heap.size, 0, none⟩ = some (.int .i64 x.k) := by unfold World.cell?; rw [HSX4.out]; rfl
            have s1 : w4.cell? ⟨wr.heap.size, 1, none⟩ = some (.int .u64 x.s.a) := by unfold World.cell?; rw [HSX4.out]; rfl
            have s2 : w4.cell? ⟨wr.heap.size, 2, none⟩ = some (.int .u64 x.s.b) := by unfold World.cell?; rw [HSX4.out]; rfl
            have s3 : w4.cell? ⟨wr.heap.size, 3, none⟩ = some (.int .u64 x.s.c) := by unfold World.cell?; rw [HSX4.out]; rfl
            have s4 : w4.cell? ⟨wr.heap.size, 4, none⟩ = some (.int .u64 x.s.d) := by unfold World.cell?; rw [HSX4.out]; rfl
            have s5 : w4.cell? ⟨wr.heap.size, 5, none⟩ = some (.slice ox x.l.length cx) := by unfold World.cell?; rw [HSX4.out]; rfl
            have s6 : w4.cell? ⟨w.heap.size, 0, none⟩ = some (.int .i64 5) := by unfold World.cell?; rw [HX4.out]; rfl
            go_wp2_with fail
            refine HSb.out.mono ?_
            rintro e w5 ⟨rfl, ⟨y1, hI5, hy5, hyl5⟩, hb5, hk5⟩
            have HY5 := Lib.hid (HEnd.out ([124]) y1 w5 (by simp [h0]) hI5 hy5 hyl5)
            have HX5 : Hid (w5.heap[w.heap.size]? = some (.cells #[.int .i64 5, .int .u64 v.s.a, .int .u64 v.s.b, .int .u64 v.s.c, .int .u64 v.s.d, .slice (some ⟨b, off, none⟩) v.l.length ce] 36 (0, 0))) := Lib.hid (hk5 _ _ HX4.out (by simp; omega) (fun c fz e => by cases e))
            have HT5 : Hid (HT w5 (· < N) (.slice (some ⟨b, off, none⟩) v.l.length ce) v.l) := Lib.hid (HT4.out.later (fun _ h => h) fun q hq o => hb5.cell (p := ⟨q, o, none⟩) (by show q < B; omega))
            have HA5 : Hid (AL w5) := Lib.hid (HA4.out.of (hb5.block _ HGB.out))
            have HB5 := Lib.hid (HB4.out.trans hb5)
            have HK5 := Lib.hid (HK4.out.trans hk5)
            have hs5 : w1.heap.size ≤ w5.heap.size := by have := hb5.size; omega
            clear hI5 hy5 hyl5 hb5 hk5 HSb s0 s1 s2 s3 s4 s5 s6 HEnd HUp hx2c
            go_wp2_with fail
            go_roundw
            case rel => exact ⟨i + 1, by first | rfl | go_num, hlt, HY5, HX5, HT5, HA5, HB5, HK5, hs5⟩
            case measure => simp [intOf]; omega
          · have h0I : ¬ (i : Int) > 0 := by omega
            have hsw : wr.heap.size + 1 ≤ w2.heap.size := by have := HSW.out; omega
            have HSb := writeSub_of x (HIH.out x HXM.out) (5) B (l ++ PT.upto 5 v.l i ++ []) w2 N ox cx HXP.out hxd (by simpa using HI2.out) (by rw [List.length_append]; have := HLen.out; simp only [List.length_nil]; omega) HA2.out HGB.out HTx2.out hN (by omega)
            unfold PT.val at HSb
            have HSb := Lib.hid HSb
            have s0 : w2.cell? ⟨wr.heap.size, 0, none⟩ = some (.int .i64 x.k) := by unfold World.cell?; rw [HSX.out]; rfl
            have s1 : w2.cell? ⟨wr.heap.size, 1, none⟩ = some (.int .u64 x.s.a) := by unfold World.cell?; rw [HSX.out]; rfl
            have s2 : w2.cell? ⟨wr.heap.size, 2, none⟩ = some (.int .u64 x.s.b) := by unfold World.cell?; rw [HSX.out]; rfl
            have s3 : w2.cell? ⟨wr.heap.size, 3, none⟩ = some (.int .u64 x.s.c) := by unfold World.cell?; rw [HSX.out]; rfl
            have s4 : w2.cell? ⟨wr.heap.size, 4, none⟩ = some (.int .u64 x.s.d) := by unfold World.cell?; rw [HSX.out]; rfl
            have s5 : w2.cell? ⟨wr.heap.size, 5, none⟩ = some (.slice ox x.l.length cx) := by unfold World.cell?; rw [HSX.out]; rfl
            have s6 : w2.cell? ⟨w.heap.size, 0, none⟩ = some (.int .i64 5) := by unfold World.cell?; rw [HX2.out]; rfl
            go_wp2_with fail
            rw [← HW2.out]
            refine HL.out.mono ?_
            rintro e w3 ⟨rfl, h9⟩; subst w3
            go_wp2_with fail
            refine HSb.out.mono ?_
            rintro e w5 ⟨rfl, ⟨y1, hI5, hy5, hyl5⟩, hb5, hk5⟩
            have HY5 := Lib.hid (HEnd.out ([]) y1 w5 (by simp [h0]) hI5 hy5 hyl5)
            have HX5 : Hid (w5.heap[w.heap.size]? = some (.cells #[.int .i64 5, .int .u64 v.s.a, .int .u64 v.s.b, .int .u64 v.s.c, .int .u64 v.s.d, .slice (some ⟨b, off, none⟩) v.l.length ce] 36 (0, 0))) := Lib.hid (hk5 _ _ HX2.out (by simp; omega) (fun c fz e => by cases e))
            have HT5 : Hid (HT w5 (· < N) (.slice (some ⟨b, off, none⟩) v.l.length ce) v.l) := Lib.hid (HT2.out.later (fun _ h => h) fun q hq o => hb5.cell (p := ⟨q, o, none⟩) (by show q < B; omega))
            have HA5 : Hid (AL w5) := Lib.hid (HA2.out.of (hb5.block _ HGB.out))
            have HB5 := Lib.hid (HB2.out.trans hb5)
            have HK5 := Lib.hid (HK2.out.trans hk5)
            have hs5 : w1.heap.size ≤ w5.heap.size := by have := hb5.size; omega
            clear hI5 hy5 hyl5 hb5 hk5 HSb s0 s1 s2 s3 s4 s5 s6 HEnd HUp hx2c
            go_wp2_with fail
            go_roundw
            case rel => exact ⟨i + 1, by first | rfl | go_num, hlt, HY5, HX5, HT5, HA5, HB5, HK5, hs5⟩
            case measure => simp [intOf]; omega
      · have hltI : ¬ ((i : Int) < (v.l.length : Int)) := by omega
        obtain rfl : i = v.l.length := by omega
        have HFin : Hid (WrR B l RES (4 * v.dep) w (.returned (.tuple #[])) wr) := Lib.hid ⟨rfl, ⟨y, hIy, by
          rw [PT.upto_all, ← HE.out] at hyy
          exact hyy, hyl⟩, HBr.out, HKr.out⟩
        clear hIy hyy hyl HYr
        go_wp2_with fail
        go_end0
        exact HFin.out
theorem write_any_tree (v : PT) : WrOk v := by
  induction v using PT.ind with
  | h v ih => exact write_step v ih
theorem proper_any (v : PT) : PropOk v := by
  induction v using PT.ind with
  | h v ih => exact proper_step v ih
/-- What Print returns. -/
def printT (v : PT) : Value := if v.prop = true then (if 40 < v.txt.length then .tuple #[.string ⟨#[]⟩, .int .i64 2] else .tuple #[.string (str v.txt), .int .i64 0]) else .tuple #[.string ⟨#[]⟩, .int .i64 4]
set_option maxRecDepth 100000 in
set_option maxHeartbeats 3200000 in
theorem print_any (v : PT) (w : World) (oe : Option Addr) (ce : Nat) (hd : v.dep ≤ 65536) (hA : AL w) (hT : HT w (· < w.heap.size) (.slice oe v.l.length ce) v.l) :
    Calls Tryd.prog 13 #[v.val (.slice oe v.l.length ce)] w fun e w' => e = .returned (printT v) ∧ Below w.heap.size w w' := by
  obtain ⟨w1, hw1⟩ : ∃ w1, w1 = w.alloc (.cells #[.int .i64 v.k, .int .u64 v.s.a, .int .u64 v.s.b, .int .u64 v.s.c, .int .u64 v.s.d, .slice oe v.l.length ce] 36) := ⟨_, rfl⟩
  have HW1 := Lib.hid hw1
  have hb1 : Below w.heap.size w w1 := by rw [hw1]; exact below1 _ _
  have hs1 : w1.heap.size = w.heap.size + 1 := by rw [hw1]; simp
  have HXB : Hid (w1.heap[w.heap.size]? = some (.cells #[.int .i64 v.k, .int .u64 v.s.a, .int .u64 v.s.b, .int .u64 v.s.c, .int .u64 v.s.d, .slice oe v.l.length ce] 36 (0, 0))) := Lib.hid (by rw [hw1]; exact new_at w _)
  have hT1 : HT w1 (· < w.heap.size) (.slice oe v.l.length ce) v.l := hT.later (fun _ h => h) fun b hb o => hb1.cell (p := ⟨b, o, none⟩) hb
  have HT1 := Lib.hid hT1
  have HA1 := Lib.hid (hA.later hb1)
  have hgl := hA.lt
  have HGL := Lib.hid hgl
  have HP := proper_any v 65536 w1 w.heap.size oe ce hd (Nat.le_refl _) HA1.out hT1 (by omega)
  unfold PT.val at HP ⊢
  have HP := Lib.hid HP
  have HB1 := Lib.hid hb1
  have HD := Lib.hid hd
  have HX1 : Hid (∀ V : World, V.heap[w.heap.size]? = w1.heap[w.heap.size]? → V.cell? ⟨w.heap.size, 0, none⟩ = some (.int .i64 v.k) ∧ V.cell? ⟨w.heap.size, 1, none⟩ = some (.int .u64 v.s.a) ∧ V.cell? ⟨w.heap.size, 2, none⟩ = some (.int .u64 v.s.b) ∧ V.cell? ⟨w.heap.size, 3, none⟩ = some (.int .u64 v.s.c) ∧ V.cell? ⟨w.heap.size, 4, none⟩ = some (.int .u64 v.s.d) ∧ V.cell? ⟨w.heap.size, 5, none⟩ = some (.slice oe v.l.length ce)) := Lib.hid (fun V hV => by
    have h : V.heap[w.heap.size]? = some (.cells #[.int .i64 v.k, .int .u64 v.s.a, .int .u64 v.s.b, .int .u64 v.s.c, .int .u64 v.s.d, .slice oe v.l.length ce] 36 (0, 0)) := hV.trans HXB.out
    unfold World.cell?
    rw [h]
    exact ⟨rfl, rfl, rfl, rfl, rfl, rfl⟩)
  obtain ⟨q0, q1, q2, q3, q4, q5⟩ := HX1.out w1 rfl
  obtain ⟨RES, hRES⟩ : ∃ RES, RES = printT v := ⟨_, rfl⟩
  have HRES : Hid (RES = if v.prop = true then (if 40 < v.txt.length then .tuple #[.string ⟨#[]⟩, .int .i64 2] else .tuple #[.string (str v.txt), .int .i64 0]) else .tuple #[.string ⟨#[]⟩, .int .i64 4]) := Lib.hid hRES
  rw [← hRES]
  clear hRES hb1 hw1 hT1 hT hA hd hgl
  cases hpp : v.prop
  · rw [hpp] at HP
    have HE : Hid (RES = .tuple #[.string ⟨#[]⟩, .int .i64 4]) := Lib.hid (by rw [HRES.out, hpp]; rfl)
    clear hpp
    go_enter Tryd.func13, Tryd.ntmps13
    go_wp2_with fail
    rw [← HW1.out]
    refine HP.out.mono ?_
    rintro e w2 ⟨rfl, hb2⟩
    have HB2 := Lib.hid (HB1.out.trans (hb2.mono (by omega)))
    clear hb2
    go_wp2_with fail
    go_ret2
    exact ⟨by rw [HE.out]; rfl, HB2.out⟩
  · rw [hpp] at HP
    have HE : Hid (RES = if 40 < v.txt.length then .tuple #[.string ⟨#[]⟩, .int .i64 2] else .tuple #[.string (str v.txt), .int .i64 0]) := Lib.hid (by rw [HRES.out, if_pos hpp])
    have HPP := Lib.hid hpp
    clear hpp
    go_enter Tryd.func13, Tryd.ntmps13
    go_wp2_with fail
    rw [← HW1.out]
    refine HP.out.mono ?_
    rintro e w2 ⟨rfl, hb2⟩
    have hs2 := hb2.size
    have HB2 := Lib.hid (HB1.out.trans (hb2.mono (by omega)))
    have HA2 := Lib.hid (HA1.out.later hb2)
    obtain ⟨w3, hw3⟩ : ∃ w3, w3 = w2.alloc (.cells #[.pointer none, .slice none 0 0] 101) := ⟨_, rfl⟩
    have HW3 := Lib.hid hw3
    have hb3 : Below w2.heap.size w2 w3 := by rw [hw3]; exact below1 _ _
    have hs3 : w3.heap.size = w2.heap.size + 1 := by rw [hw3]; simp
    have HI3 : Hid (IsB w2.heap.size [] w3) := Lib.hid (by rw [hw3]; exact isB_fresh w2)
    have HT3 : Hid (HT w3 (· < w.heap.size) (.slice oe v.l.length ce) v.l) := Lib.hid (HT1.out.later (fun _ h => h) fun b hb o => (hb2.trans (hb3.mono hs2)).cell (p := ⟨b, o, none⟩) (by show b < w1.heap.size; omega))
    have HB3 := Lib.hid (HB2.out.trans (hb3.mono (by omega)))
    have HC := write_any_tree v w2.heap.size [] w3 w.heap.size oe ce HPP.out HD.out HI3.out (by decide) (HA2.out.later hb3) (by have := HGL.out; omega) HT3.out (by omega) (by omega)
    unfold PT.val at HC
    have HC := Lib.hid HC
    have r := HX1.out w3 (((hb3.block _ (by omega)).trans (hb2.block _ (by omega))))
    obtain ⟨r0, r1, r2, r3, r4, r5⟩ := r
    rw [HW3.out] at r0 r1 r2 r3 r4 r5
    clear hb2 hb3 hw3 q0 q1 q2 q3 q4 q5 HP
    go_wp2_with fail
    rw [← HW3.out]
    refine HC.out.mono ?_
    rintro e w4 ⟨rfl, ⟨y, hI4, hy4, hyl4⟩, hb4, _⟩
    have hs4 := hb4.size
    rw [List.nil_append] at hI4 hy4 hyl4
    rw [List.nil_append] at hy4
    have HT4 := Lib.hid (text_any w2.heap.size y w4 hI4 (by omega))
    have HB4 := Lib.hid (HB3.out.trans (hb4.mono (by omega)))
    have hsz : (str y).size = y.length := by show y.toArray.size = _; simp
    have HWS := Lib.hid (withinSize_any (str y))
    rw [hsz] at HWS
    have HY := Lib.hid hy4
    clear hI4 hb4 HC hy4 hyl4 hsz r0 r1 r2 r3 r4 r5
    go_wp2_with fail
    refine HT4.out.mono ?_
    rintro e w5 ⟨rfl, hb5⟩
    have HB5 := Lib.hid (HB4.out.trans (hb5.mono (by omega)))
    clear hb5
    by_cases hbig : 40 < y.length
    · rw [if_pos hbig] at HWS
      have HE2 : Hid (RES = .tuple #[.string ⟨#[]⟩, .int .i64 2]) := Lib.hid (by
        rw [HE.out, if_pos]
        rcases HY.out with h | h
        · rw [← h]; exact hbig
        · exact h.2)
      clear hbig
      go_wp2_with fail
      refine (HWS.out w5).mono ?_
      rintro e w6 ⟨rfl, h9⟩; subst w6
      go_wp2_with fail
      go_ret2
      exact ⟨by rw [HE2.out]; rfl, HB5.out⟩
    · rw [if_neg hbig] at HWS
      have HE2 : Hid (RES = .tuple #[.string (str y), .int .i64 0]) := Lib.hid (by
        rcases HY.out with h | h
        · rw [HE.out, ← h, if_neg hbig]
        · exact absurd h.1 hbig)
      clear hbig
      go_wp2_with fail
      refine (HWS.out w5).mono ?_
      rintro e w6 ⟨rfl, h9⟩; subst w6
      go_wp2_with fail
      go_ret2
      exact ⟨by rw [HE2.out]; rfl, HB5.out⟩
end Go.Proofs.YtaipaddfehpmgaaDoor
