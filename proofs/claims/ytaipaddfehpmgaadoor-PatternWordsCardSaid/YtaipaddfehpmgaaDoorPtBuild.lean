/-
  Build of the automata. Nothing is assumed.
-/
import Derived.Test.YtaipaddfehpmgaaDoorPtAddT
namespace Go.Proofs.YtaipaddfehpmgaaDoor
open Go.RowKit

/-- What Build returns. -/
def BuiR (t : PT) (w' : World) (e : Ending) : Prop := ∃ (g cap : Nat), e = .returned (.agg #[.slice (some ⟨g, 0, none⟩) (buildT t).1.length cap, .int .u64 (buildT t).2]) ∧ HQ w' (· < w'.heap.size) (.slice (some ⟨g, 0, none⟩) (buildT t).1.length cap) (buildT t).1
set_option maxRecDepth 100000 in
set_option maxHeartbeats 3200000 in
theorem build_any (lf : Nat) (hlf : LK lf) (t : PT) (hfit : t.fit = true) (hcl : t.cls ≤ 900) (w : World) (B : Nat) (oe : Option Addr) (ce : Nat) (hT : HT w (· < B) (.slice oe t.l.length ce) t.l) (hB : B ≤ w.heap.size) :
    Calls Tryd.prog 45 #[t.val (.slice oe t.l.length ce), .func (.func lf) #[] #[]] w fun e w' => BuiR t w' e ∧ Below w.heap.size w w' := by
  obtain ⟨i0, hi, hz0, hz1, hz2⟩ := info_parts infoPos
  obtain ⟨w1, hw1⟩ : ∃ w1, w1 = (w.alloc (.cells #[.int .i64 t.k, .int .u64 t.s.a, .int .u64 t.s.b, .int .u64 t.s.c, .int .u64 t.s.d, (.slice oe t.l.length ce)] 36)).alloc (.cells #[.slice none 0 0, .int .u64 0] 44) := ⟨_, rfl⟩
  have HW1 := Lib.hid hw1
  have hs1 : w1.heap.size = w.heap.size + 2 := by rw [hw1]; simp
  have hb1 : Below w.heap.size w w1 := by rw [hw1]; exact below2 _ _ _
  have hTX1 : Box6 w1 w.heap.size (.int .i64 t.k) (.int .u64 t.s.a) (.int .u64 t.s.b) (.int .u64 t.s.c) (.int .u64 t.s.d) (.slice oe t.l.length ce) := by
    rw [hw1]
    exact (Box6.new _ _ _ _ _ _ _ rfl).later (below1 _ _) (by simp)
  have hR1 : MB w1 (w.heap.size + 1) (.slice none 0 0) 0 := by
    rw [hw1]
    show ((w.heap.push _).push _)[w.heap.size + 1]? = some _
    rw [Array.getElem?_push, if_pos (by simp)]
  have HTX1 := Lib.hid hTX1
  have HR1 := Lib.hid hR1
  have HB1 := Lib.hid hb1
  have HT0 := Lib.hid hT
  have HFIT := Lib.hid hfit
  clear hw1 hb1 hTX1 hR1 hT hfit
  unfold PT.val
  go_enter Tryd.func45, Tryd.ntmps45
  go_wp2_with (at_make; refine wpList_make_full _ rfl _ _ 41 rfl w.heap.size 117 i0 _ 5 Tryd.underlying41 hi hz0 hz1 _ _ _ _ 1 rfl rfl rfl rfl ?b2 ?b3 (by simp; omega) ?_)
  case b2 => rw [hz2]; omega
  case b3 => unfold maxLen; omega
  intro w2 hown2 hgrow2
  rw [← HW1.out] at hgrow2
  have hb2 : Below w1.heap.size w1 w2 := (Below.refl _ _).grown hgrow2 (Nat.le_refl _) (fun k h => by cases h)
  have hs2 : w.heap.size + 3 ≤ w2.heap.size := by
    have := (World.ownsRow.lt hown2 (w.heap.size + 1 + 1) rfl).2
    omega
  obtain ⟨w3, hw3⟩ : ∃ w3, w3 = w2.alloc (.cells #[.slice (some ⟨w.heap.size + 1 + 1, 0, none⟩) 1 1, .int .u64 0] 44) := ⟨_, rfl⟩
  have HW3 := Lib.hid hw3
  have hs3 : w3.heap.size = w2.heap.size + 1 := by rw [hw3]; simp
  have hb3 : Below w2.heap.size w2 w3 := by rw [hw3]; exact below1 _ _
  have hM3 : MB w3 w2.heap.size (.slice (some ⟨w.heap.size + 1 + 1, 0, none⟩) 1 1) 0 := by
    rw [hw3]
    show (w2.heap.push _)[w2.heap.size]? = some _
    rw [Array.getElem?_push, if_pos rfl]
  have hQ2 : OwnQ w2 w.heap.size (.slice (some ⟨w.heap.size + 1 + 1, 0, none⟩) 1 1) [⟨.zero, 0⟩] := by
    have e : (madeCells #[Value.int .u64 0, .int .u64 0, .int .u64 0, .int .u64 0, .int .u64 0] 5).toList = flatQ [⟨.zero, 0⟩] := by kernel_rfl
    unfold OwnQ
    rw [← e]
    exact hown2
  have hQ3 : OwnQ w3 w.heap.size (.slice (some ⟨w.heap.size + 1 + 1, 0, none⟩) 1 1) [⟨.zero, 0⟩] := hQ2.kp (X := fun _ => False) (.of hb3 (Nat.le_refl _)) (Nat.le_refl _) (fun _ _ h => h)
  have hT2 := HTX1.out.later hb2 (by omega)
  have HB3 : Hid (Below w.heap.size w w3) := Lib.hid ((HB1.out.trans (hb2.mono (by omega))).trans (hb3.mono (by omega)))
  have hR3 : MB w3 (w.heap.size + 1) (.slice none 0 0) 0 := (hb3.block _ (by omega)).trans ((hb2.block _ (by omega)).trans HR1.out)
  have HR3 := Lib.hid hR3
  have hT3 : HT w3 (· < w.heap.size) (.slice oe t.l.length ce) t.l := HT0.out.later (fun _ h => Nat.lt_of_lt_of_le h hB) fun b hb o => HB3.out.cell (p := ⟨b, o, none⟩) (Nat.lt_of_lt_of_le hb hB)
  have HC := Lib.hid (add_any' lf hlf t HFIT.out w3 w2.heap.size w.heap.size _ 0 [⟨.zero, 0⟩] oe ce hT3 (by omega) hM3 hQ3 (by simp) (by simp; omega))
  have HBT : Hid (buildT t = ((addT [⟨.zero, 0⟩] t).1.set 0 ⟨(((addT [⟨.zero, 0⟩] t).1[0]?).getD (Ps.mk S4.zero 0)).s, (addT [⟨.zero, 0⟩] t).2.f⟩, if (addT [⟨.zero, 0⟩] t).2.e = true then orS (addT [⟨.zero, 0⟩] t).2.t 1 else (addT [⟨.zero, 0⟩] t).2.t)) := Lib.hid rfl
  have hlen := addT_len t [⟨.zero, 0⟩]
  obtain ⟨t0, t1, t2, t3, t4, t5, -⟩ := hT2
  have hTa : ∀ X, Box6 (w2.alloc X) w.heap.size (.int .i64 t.k) (.int .u64 t.s.a) (.int .u64 t.s.b) (.int .u64 t.s.c) (.int .u64 t.s.d) (.slice oe t.l.length ce) := fun X => (HTX1.out.later hb2 (by omega)).later (below1 w2 X) (by omega)
  have a0 := fun X => (hTa X).1
  have a1 := fun X => (hTa X).2.1
  have a2 := fun X => (hTa X).2.2.1
  have a3 := fun X => (hTa X).2.2.2.1
  have a4 := fun X => (hTa X).2.2.2.2.1
  have a5 := fun X => (hTa X).2.2.2.2.2.1
  generalize addT [⟨.zero, 0⟩] t = r4 at *
  obtain ⟨ps4, q4⟩ := r4
  unfold PT.val at HC
  have HLEN : Hid (1 ≤ ps4.length ∧ ps4.length ≤ 1000) := Lib.hid ⟨hlen.1, by have := hlen.2; simp at this; omega⟩
  clear hown2 hgrow2 hb2 hw3 hb3 hM3 hQ2 hQ3 hR3 hT3 hTa hlen
  go_wp2_with fail
  rw [← HW3.out]
  refine HC.out.mono ?_
  rintro e w4 ⟨rfl, sl4, hM4, hQ4, hF4, hK4⟩
  have hps : 0 < ps4.length := HLEN.out.1
  obtain ⟨g, cap, rfl⟩ := OwnQ.form hQ4 hps
  have hne : g ≠ w2.heap.size := fun e => OwnQ.ne hQ4 hM4 (by rw [e]; rfl)
  have hg : w.heap.size + 2 ≤ g := by
    rcases hF4 g rfl with h | h
    · have : w.heap.size + 1 + 1 = g := by simpa [Value.ownBlock] using h
      omega
    · omega
  have hs4 := hK4.size
  have hR4 : MB w4 (w.heap.size + 1) (.slice none 0 0) 0 := (hK4.block _ (by omega) (fun e => by
    rcases e with e | e
    · omega
    · simp [Value.ownBlock] at e)).trans HR3.out
  have HK4 : Hid (Below w.heap.size w w4) := Lib.hid (HB3.out.trans (hK4.below (by omega) (fun k hk e => by
    rcases e with e | e
    · omega
    · have : w.heap.size + 1 + 1 = k := by simpa [Value.ownBlock] using e
      omega)))
  have hgl : g < w4.heap.size := (OwnQ.lt hQ4 g rfl).2
  have HM4 := Lib.hid hM4
  have HQ4 := Lib.hid hQ4
  have HR4 := Lib.hid hR4
  have hml2 : w2.heap.size < w4.heap.size := by omega
  have hrl : w.heap.size + 1 < w4.heap.size := by omega
  have m0 := hM4.cells.1
  have m1 := hM4.cells.2
  have mf := hM4.free 1
  have r0 := hR4.cells.1
  have r1 := hR4.cells.2
  have f0 := hR4.free 0
  have f1 := hR4.free 1
  have hp0 : ps4[0]? = some ps4[0] := List.getElem?_eq_getElem hps
  have c4 : w4.cell? ⟨g, 4, none⟩ = some (.int .u64 ps4[0].n) := by
    have := OwnQ.at_ hQ4 rfl hp0 4 _ rfl
    simpa using this
  have g4 : w4.frozen? ⟨g, 4, none⟩ = false := OwnQ.free hQ4 rfl 4
  have hpI : (0 : Int) < (ps4.length : Int) := by omega
  have n1 : w2.heap.size ≠ g := Ne.symm hne
  have n2 : w.heap.size + 1 ≠ g := by omega
  have n3 : w.heap.size + 1 ≠ w2.heap.size := by omega
  have n6 : g ≠ w.heap.size + 1 := by omega
  have n8 : w4.heap.size ≠ g := by omega
  have n9 : w4.heap.size ≠ w2.heap.size := by omega
  have n7 : w2.heap.size ≠ w.heap.size + 1 := by omega
  have ee : ∀ u a b X, ((((w4.setCell ⟨g, 4, none⟩ u).setCell ⟨w2.heap.size, 1, none⟩ (.int .u64 a)).setCell ⟨w2.heap.size, 1, none⟩ (.int .u64 b)).alloc X).cell? ⟨w2.heap.size, 1, none⟩ = some (.int .u64 b) := fun u a b X => by
    have h1 : MB (w4.setCell ⟨g, 4, none⟩ u) w2.heap.size (.slice (some ⟨g, 0, none⟩) ps4.length cap) 0 := (Below.heap_setCell _ _ _ _ (by show w2.heap.size ≠ g; omega)).trans hM4
    have h2 := (h1.set1 a).set1 b
    have h3 : MB ((((w4.setCell ⟨g, 4, none⟩ u).setCell ⟨w2.heap.size, 1, none⟩ (.int .u64 a)).setCell ⟨w2.heap.size, 1, none⟩ (.int .u64 b)).alloc X) w2.heap.size (.slice (some ⟨g, 0, none⟩) ps4.length cap) b := ((below1 _ X).block _ h2.lt).trans h2
    exact h3.cells.2
  clear hM4 hQ4 hF4 hK4 hR4 HC a0 a1 a2 a3 a4 a5 t0 t1 t2 t3 t4 t5
  have HP0 := Lib.hid hp0
  clear hp0
  unfold Pa.val
  obtain ⟨qe, qf, qt⟩ := q4
  cases qe
  · go_wp2_with fail
    refine bodyPost_ret (v := .agg #[.slice (some ⟨g, 0, none⟩) ps4.length cap, .int .u64 qt]) (by simp [results, Tryd.results45, go_sem, *]) rfl ⟨⟨g, cap, ?_, ?_⟩, ?_⟩
    · rw [HBT.out, List.length_set]
      rfl
    · have hq5 : OwnQ (w4.setCell ⟨g, 4, none⟩ (.int .u64 qf)) w.heap.size (.slice (some ⟨g, 0, none⟩) ps4.length cap) (ps4.set 0 ⟨ps4[0].s, qf⟩) := by
        have := HQ4.out.set rfl HP0.out qf
        simpa using this
      rw [HBT.out, HP0.out]
      show HQ _ _ (.slice _ (ps4.set 0 _).length cap) (ps4.set 0 _)
      rw [List.length_set]
      refine OwnQ.holds (OwnQ.kp (X := fun _ => False) (OwnQ.kp (X := fun k => k = w2.heap.size ∨ k = w.heap.size + 1) hq5 ?_ (Nat.le_refl _) (fun k hk e => by
        have : g = k := by simpa [Value.ownBlock] using hk
        omega)) (.of (below1 _ _) (Nat.le_refl _)) (Nat.le_refl _) (fun _ _ h => h)) (by rw [List.length_set]; have := HLEN.out; omega)
      exact (((Kp.refl _ _ (w4.setCell ⟨g, 4, none⟩ (.int .u64 qf))).set ⟨w2.heap.size, 1, none⟩ (.inl rfl) _).set ⟨w.heap.size + 1, 0, none⟩ (.inr rfl) _).set ⟨w.heap.size + 1, 1, none⟩ (.inr rfl) _
    · exact ((((HK4.out.setCell (p := ⟨g, 4, none⟩) (by show w.heap.size ≤ g; omega) _).setCell (p := ⟨w2.heap.size, 1, none⟩) (by show w.heap.size ≤ w2.heap.size; omega) _).setCell (p := ⟨w.heap.size + 1, 0, none⟩) (by show w.heap.size ≤ w.heap.size + 1; omega) _).setCell (p := ⟨w.heap.size + 1, 1, none⟩) (by show w.heap.size ≤ w.heap.size + 1; omega) _).alloc (by simp [World.setCell]; omega) _
  · go_wp2_with fail
    refine bodyPost_ret (v := .agg #[.slice (some ⟨g, 0, none⟩) ps4.length cap, .int .u64 (bits BinOp.or IntKind.u64 qt 1)]) (by simp [results, Tryd.results45, go_sem, *]) rfl ⟨⟨g, cap, ?_, ?_⟩, ?_⟩
    · rw [HBT.out, List.length_set]
      rfl
    · have hq5 : OwnQ (w4.setCell ⟨g, 4, none⟩ (.int .u64 qf)) w.heap.size (.slice (some ⟨g, 0, none⟩) ps4.length cap) (ps4.set 0 ⟨ps4[0].s, qf⟩) := by
        have := HQ4.out.set rfl HP0.out qf
        simpa using this
      rw [HBT.out, HP0.out]
      show HQ _ _ (.slice _ (ps4.set 0 _).length cap) (ps4.set 0 _)
      rw [List.length_set]
      refine OwnQ.holds (OwnQ.kp (X := fun _ => False) (OwnQ.kp (X := fun k => k = w2.heap.size ∨ k = w.heap.size + 1) hq5 ?_ (Nat.le_refl _) (fun k hk e => by
        have : g = k := by simpa [Value.ownBlock] using hk
        omega)) (.of (below1 _ _) (Nat.le_refl _)) (Nat.le_refl _) (fun _ _ h => h)) (by rw [List.length_set]; have := HLEN.out; omega)
      exact ((((Kp.refl _ _ (w4.setCell ⟨g, 4, none⟩ (.int .u64 qf))).set ⟨w2.heap.size, 1, none⟩ (.inl rfl) _).set ⟨w2.heap.size, 1, none⟩ (.inl rfl) _).set ⟨w.heap.size + 1, 0, none⟩ (.inr rfl) _).set ⟨w.heap.size + 1, 1, none⟩ (.inr rfl) _
    · exact (((((HK4.out.setCell (p := ⟨g, 4, none⟩) (by show w.heap.size ≤ g; omega) _).setCell (p := ⟨w2.heap.size, 1, none⟩) (by show w.heap.size ≤ w2.heap.size; omega) _).setCell (p := ⟨w2.heap.size, 1, none⟩) (by show w.heap.size ≤ w2.heap.size; omega) _).setCell (p := ⟨w.heap.size + 1, 0, none⟩) (by show w.heap.size ≤ w.heap.size + 1; omega) _).setCell (p := ⟨w.heap.size + 1, 1, none⟩) (by show w.heap.size ≤ w.heap.size + 1; omega) _).alloc (by simp [World.setCell]; omega) _
theorem errP_ok {p : ByteArray} {t : PT} {m : Nat} (h1 : ¬ (p.size < 1 ∨ 40 < p.size)) (h : parseT p.data.toList = .ok t m) (s : ByteArray) : errP p = 0 ∧ matS p s = matT t s.data.toList ∧ t.fit = true ∧ t.cls ≤ 900 := by
  refine ⟨by unfold errP; rw [if_neg h1, h], by unfold matS; rw [if_neg h1, h], ?_⟩
  have hg := pat_good p.data.toList (p.data.toList.length + 1) 0 (Nat.zero_le _)
  unfold parseT at h
  cases hq : patL p.data.toList (p.data.toList.length + 1) 0 with
  | bad m => rw [hq] at h; cases h
  | ok t' m' =>
    rw [hq] at h hg
    obtain ⟨h2, h3⟩ := hg.2 t' m' rfl
    have h4 := hg.1.2
    rw [lt_len] at h4
    have : t = t' := by
      have h5 : (if m' = p.data.toList.length then PR.ok t' m' else .bad m') = .ok t m := h
      split at h5
      · cases h5; rfl
      · cases h5
    subst this
    exact ⟨h2, by omega⟩
end Go.Proofs.YtaipaddfehpmgaaDoor
