/-
  pattern.Match: what a pattern accepts. Nothing is assumed.
-/
import Derived.Test.YtaipaddfehpmgaaDoorPtBuild
import Derived.Test.YtaipaddfehpmgaaDoorEnP
namespace Go.Proofs.YtaipaddfehpmgaaDoor
open Go.RowKit

set_option maxRecDepth 100000 in
set_option maxHeartbeats 800000 in
theorem compile1_lk : LK 44 := by
  refine ⟨enters_of Tryd.func44 (by kernel_rfl) rfl, fun t oe n ce w => ?_⟩
  unfold PT.val S4.val
  go_enter Tryd.func44, Tryd.ntmps44
  go_wp2_with fail
  go_region
  go_wp2_with fail
  refine bodyPost_ret (v := .tuple #[.int .i64 t.k, .agg #[.int .u64 t.s.a, .int .u64 t.s.b, .int .u64 t.s.c, .int .u64 t.s.d], .slice oe n ce]) (by simp [results, Tryd.results44, go_sem]) rfl ⟨rfl, ?_⟩
  exact (below2 w _ _).drew

theorem MB.new (w : World) (sl : Value) (last : Int) : MB (w.alloc (.cells #[sl, .int .u64 last] 44)) w.heap.size sl last := by
  show (w.heap.push _)[w.heap.size]? = some _
  rw [Array.getElem?_push, if_pos rfl]
theorem MB.below {w w' : World} {mb : Nat} {sl : Value} {last : Int} (h : MB w mb sl last) (hb : Below w.heap.size w w') : MB w' mb sl last := (hb.block _ h.lt).trans h

theorem HQ.other {w : World} {S : Nat → Prop} {g n cap mb : Nat} {last : Int} {ps : List Ps} (h : HQ w S (.slice (some ⟨g, 0, none⟩) n cap) ps) (hM : MB w mb (.slice none 0 0) last) (v u : Value) :
    HQ ((w.setCell ⟨mb, 0, none⟩ v).setCell ⟨mb, 1, none⟩ u) S (.slice (some ⟨g, 0, none⟩) n cap) ps := by
  obtain ⟨oa, cap', e, hm, hel⟩ := h
  cases e
  refine ⟨_, _, rfl, hm, fun i p hp => ?_⟩
  obtain ⟨b, off, h1, h2, h3⟩ := hel i p hp
  refine ⟨b, off, h1, h2, fun j q hq => ?_⟩
  have hne : mb ≠ b := by
    rintro rfl
    obtain ⟨p0, hp0⟩ : ∃ p0, ps[0]? = some p0 := ⟨_, List.getElem?_eq_getElem (by have := (List.getElem?_eq_some_iff.1 hp).1; omega)⟩
    obtain ⟨b', off', h1', _, h3'⟩ := hel 0 p0 hp0
    cases h1
    cases h1'
    have h4 := h3' 0 _ rfl
    have h5 := hM.cells.1
    rw [show (0 + 0 * 5 + 0 : Nat) = 0 from rfl, h5] at h4
    cases h4
  rw [World.cell?_setCell_other, World.cell?_setCell_other]
  · exact h3 j q hq
  · intro e; exact hne (congrArg (·.block) e)
  · intro e; exact hne (congrArg (·.block) e)

/-- What compile returns. -/
def CmpR (p : ByteArray) (w' : World) (e : Ending) : Prop :=
  (errP p ≠ 0 ∧ e = .returned (.tuple #[.agg #[.slice none 0 0, .int .u64 0], .int .i64 (errP p)])) ∨
  ∃ (t : PT) (m g cap : Nat), errP p = 0 ∧ parseT p.data.toList = .ok t m ∧ e = .returned (.tuple #[.agg #[.slice (some ⟨g, 0, none⟩) (buildT t).1.length cap, .int .u64 (buildT t).2], .int .i64 0]) ∧ HQ w' (· < w'.heap.size) (.slice (some ⟨g, 0, none⟩) (buildT t).1.length cap) (buildT t).1
set_option maxRecDepth 100000 in
set_option maxHeartbeats 1600000 in
theorem compile_any (p : ByteArray) (w : World) (hA : AL w) :
    Calls Tryd.prog 16 #[.string p] w fun e w' => CmpR p w' e ∧ Below w.heap.size w w' := by
  obtain ⟨w0, hw0⟩ : ∃ w0, w0 = w.alloc (.cells #[.slice none 0 0, .int .u64 0] 44) := ⟨_, rfl⟩
  have HW0 := Lib.hid hw0
  have hb0 : Below w.heap.size w w0 := by rw [hw0]; exact below1 _ _
  have hs0 : w0.heap.size = w.heap.size + 1 := by rw [hw0]; simp
  have hM0 : MB w0 w.heap.size (.slice none 0 0) 0 := by rw [hw0]; exact MB.new _ _ _
  have HP := Lib.hid (parse_any p w0 (hA.later hb0))
  have HM0 := Lib.hid hM0
  have HB0 := Lib.hid hb0
  clear hw0 hb0 hM0
  by_cases hsz : p.size < 1 ∨ 40 < p.size
  · have HN : Hid (∀ e w', ParE p w0 w' e → e = .returned (.tuple #[zeroT, .int .i64 0, .int .i64 2])) := Lib.hid (fun e w' h => by unfold ParE at h; rwa [if_pos hsz] at h)
    have HE : Hid (errP p = 2) := Lib.hid (by unfold errP; rw [if_pos hsz])
    clear hsz
    go_enter Tryd.func16, Tryd.ntmps16
    go_wp2_with fail
    rw [← HW0.out]
    refine HP.out.mono ?_
    rintro e w1 ⟨hq, hb1⟩
    obtain rfl := HN.out e w1 hq
    have hs1 := hb1.size
    have hM1 : ∀ X, MB (w1.alloc X) w.heap.size (.slice none 0 0) 0 := fun X => (HM0.out.below hb1).below (below1 _ X)
    have a0 := fun X => (hM1 X).cells.1
    have a1 := fun X => (hM1 X).cells.2
    have f0 := fun X => (hM1 X).free 0
    have f1 := fun X => (hM1 X).free 1
    have HB1 := Lib.hid hb1
    clear hq HP hM1 hb1
    unfold zeroT
    go_wp2_with fail
    refine bodyPost_ret (v := .tuple #[.agg #[.slice none 0 0, .int .u64 0], .int .i64 2]) (by simp [results, Tryd.results16, go_sem, *]) rfl ⟨.inl ⟨by rw [HE.out]; decide, by rw [HE.out]⟩, ?_⟩
    have h1 : Below w.heap.size w w1 := HB0.out.trans (HB1.out.mono (by omega))
    exact (((h1.trans ((below1 w1 _).mono h1.size)).setCell (p := ⟨w.heap.size, 0, none⟩) (Nat.le_refl _) _).setCell (p := ⟨w.heap.size, 1, none⟩) (Nat.le_refl _) _)
  cases hq : parseT p.data.toList with
  | bad m =>
    have HN : Hid (∀ e w', ParE p w0 w' e → e = .returned (.tuple #[zeroT, .int .i64 (m : Int), .int .i64 8])) := Lib.hid (fun e w' h => by unfold ParE at h; rw [if_neg hsz, hq] at h; exact h)
    have HE : Hid (errP p = 8) := Lib.hid (by unfold errP; rw [if_neg hsz, hq])
    clear hsz hq
    go_enter Tryd.func16, Tryd.ntmps16
    go_wp2_with fail
    rw [← HW0.out]
    refine HP.out.mono ?_
    rintro e w1 ⟨hq, hb1⟩
    obtain rfl := HN.out e w1 hq
    have hs1 := hb1.size
    have hM1 : ∀ X, MB (w1.alloc X) w.heap.size (.slice none 0 0) 0 := fun X => (HM0.out.below hb1).below (below1 _ X)
    have a0 := fun X => (hM1 X).cells.1
    have a1 := fun X => (hM1 X).cells.2
    have f0 := fun X => (hM1 X).free 0
    have f1 := fun X => (hM1 X).free 1
    have HB1 := Lib.hid hb1
    clear hq HP hM1 hb1
    unfold zeroT
    go_wp2_with fail
    refine bodyPost_ret (v := .tuple #[.agg #[.slice none 0 0, .int .u64 0], .int .i64 8]) (by simp [results, Tryd.results16, go_sem, *]) rfl ⟨.inl ⟨by rw [HE.out]; decide, by rw [HE.out]⟩, ?_⟩
    have h1 : Below w.heap.size w w1 := HB0.out.trans (HB1.out.mono (by omega))
    exact (((h1.trans ((below1 w1 _).mono h1.size)).setCell (p := ⟨w.heap.size, 0, none⟩) (Nat.le_refl _) _).setCell (p := ⟨w.heap.size, 1, none⟩) (Nat.le_refl _) _)
  | ok t m =>
    have HN : Hid (∀ e w', ParE p w0 w' e → ∃ oe ce, e = .returned (.tuple #[t.val (.slice oe t.l.length ce), .int .i64 0, .int .i64 0]) ∧ HT w' (Btw w0.heap.size w'.heap.size) (.slice oe t.l.length ce) t.l) := Lib.hid (fun e w' h => by unfold ParE at h; rw [if_neg hsz, hq] at h; exact h)
    have HE := Lib.hid (errP_ok hsz hq p)
    have HQ0 := Lib.hid hq
    clear hsz hq
    go_enter Tryd.func16, Tryd.ntmps16
    go_wp2_with fail
    rw [← HW0.out]
    refine HP.out.mono ?_
    rintro e w1 ⟨hq, hb1⟩
    obtain ⟨oe, ce, rfl, hT⟩ := HN.out e w1 hq
    have hs1 := hb1.size
    have HM1 : Hid (MB w1 w.heap.size (.slice none 0 0) 0) := Lib.hid (HM0.out.below hb1)
    have HT1 : Hid (HT (w1.alloc (.cells #[.int .i64 t.k, .int .u64 t.s.a, .int .u64 t.s.b, .int .u64 t.s.c, .int .u64 t.s.d, (.slice oe t.l.length ce)] 36)) (· < w1.heap.size) (.slice oe t.l.length ce) t.l) := Lib.hid (hT.later (fun _ h => h.2) (fun b hb o => (below1 w1 _).cell (p := ⟨b, o, none⟩) hb.2))
    have HB1 : Hid (Below w.heap.size w w1) := Lib.hid (HB0.out.trans (hb1.mono (by omega)))
    have HBu := Lib.hid (build_any _ compile1_lk t HE.out.2.2.1 HE.out.2.2.2 (w1.alloc (.cells #[.int .i64 t.k, .int .u64 t.s.a, .int .u64 t.s.b, .int .u64 t.s.c, .int .u64 t.s.d, (.slice oe t.l.length ce)] 36)) w1.heap.size oe ce HT1.out (by simp))
    clear hq hT hb1 HP
    unfold PT.val at HBu ⊢
    go_wp2_with fail
    refine HBu.out.mono ?_
    rintro e w2 ⟨⟨g, cap, rfl, hQ⟩, hb2⟩
    have hs2 := hb2.size
    rw [World.size_alloc] at hs2
    have hM2 : MB w2 w.heap.size (.slice none 0 0) 0 := (HM1.out.below (below1 _ _)).below hb2
    have HB2 : Hid (Below w.heap.size w w2) := Lib.hid ((HB1.out.trans ((below1 w1 _).mono (by omega))).trans (hb2.mono (by simp; omega)))
    have a0 := hM2.cells.1
    have a1 := hM2.cells.2
    have f0 := hM2.free 0
    have f1 := hM2.free 1
    have HM2 := Lib.hid hM2
    have HQ2 := Lib.hid hQ
    clear hb2 HBu hM2 hQ
    go_wp2_with fail
    refine bodyPost_ret (v := .tuple #[.agg #[.slice (some ⟨g, 0, none⟩) (buildT t).1.length cap, .int .u64 (buildT t).2], .int .i64 0]) (by simp [results, Tryd.results16, go_sem, *]) rfl ⟨.inr ⟨t, m, g, cap, HE.out.1, HQ0.out, rfl, ?_⟩, ?_⟩
    · have := HQ2.out.other HM2.out (.slice (some ⟨g, 0, none⟩) (buildT t).1.length cap) (.int .u64 (buildT t).2)
      simpa [World.setCell] using this
    · exact (HB2.out.setCell (p := ⟨w.heap.size, 0, none⟩) (Nat.le_refl _) _).setCell (p := ⟨w.heap.size, 1, none⟩) (Nat.le_refl _) _

theorem fwd_zero (ps : List Ps) (last : Int) (L : List UInt8) : bits BinOp.and IntKind.u64 (fwdL ps L 0) last = 0 := by
  apply Classical.byContradiction
  intro h
  obtain ⟨j, h1, _⟩ := (and_ne _ _).1 ((fwd_back ps last L 0 ⟨by decide, by decide⟩).1 h)
  rw [bt_zero] at h1
  cases h1
theorem and_nil (x : Int) : bits BinOp.and IntKind.u64 0 x = 0 := by
  apply Classical.byContradiction
  intro h
  obtain ⟨j, h1, _⟩ := (and_ne _ _).1 h
  rw [bt_zero] at h1
  cases h1
theorem bne_dec (a : Int) : decide (a ≠ 0) = (a != 0) := by by_cases h : a = 0 <;> simp [h]
set_option maxRecDepth 100000 in
theorem accepts_any (w : World) (oa : Option Addr) (n cap : Nat) (last x : Int) :
    Calls Tryd.prog 20 #[.agg #[.slice oa n cap, .int .u64 last], .int .u64 x] w fun e w' => e = .returned (.bool (decide (bits BinOp.and IntKind.u64 x last ≠ 0))) ∧ Below w.heap.size w w' := by
  rw [bne_dec]
  go_enter Tryd.func20, Tryd.ntmps20
  go_wp2_with fail
  go_ret
  exact ⟨rfl, below1 _ _⟩

set_option maxRecDepth 100000 in
set_option maxHeartbeats 3200000 in
theorem match_any (p s : ByteArray) (w : World) (hA : AL w) (h0 : errP p = 0) (hs : s.size ≤ 1000) :
    Calls Tryd.prog 14 #[.string p, .string s] w fun e w' => e = .returned (.tuple #[.bool (accS p s), .int .i64 0]) ∧ Below w.heap.size w w' := by
  have HC := Lib.hid (compile_any p w hA)
  have H0 := Lib.hid h0
  clear hA h0
  go_enter Tryd.func14, Tryd.ntmps14
  go_wp2_with fail
  refine HC.out.mono ?_
  rintro e w1 ⟨⟨hne, _⟩ | ⟨t, m, g, cap, _, hq, rfl, hQ⟩, hb1⟩
  · exact absurd H0.out hne
  have HACC : Hid (accS p s = accT (buildT t).1 (buildT t).2 s.data.toList) := Lib.hid (by unfold accS; rw [hq])
  have HQ1 := Lib.hid hQ
  have HB1 := Lib.hid hb1
  obtain ⟨n, hn⟩ : ∃ n, n = (buildT t).1.length := ⟨_, rfl⟩
  rw [← hn] at HQ1 ⊢
  generalize (buildT t).1 = ps at *
  generalize (buildT t).2 = last at *
  have HN := Lib.hid hn
  clear hq hQ hb1 HC hn
  obtain ⟨w2, hw2⟩ : ∃ w2, w2 = w1.alloc (.cells #[.slice (some ⟨g, 0, none⟩) n cap, .int .u64 last] 44) := ⟨_, rfl⟩
  have HW2 := Lib.hid hw2
  have hb2 : Below w1.heap.size w1 w2 := by rw [hw2]; exact below1 _ _
  have hs2 : w2.heap.size = w1.heap.size + 1 := by rw [hw2]; simp
  have HM2 : Hid (MB w2 w1.heap.size (.slice (some ⟨g, 0, none⟩) n cap) last) := Lib.hid (by rw [hw2]; exact MB.new _ _ _)
  have HB2 := Lib.hid hb2
  clear hw2 hb2
  go_wp2_with fail
  rw [← HW2.out]
  go_loopw [8, 9] (fun v8 v wr => ∃ (i : Nat) (x : Int), v8 = .int .u64 x ∧ v = .int .i64 (i : Int) ∧ i ≤ s.size ∧ Hid (accS p s = decide (bits BinOp.and IntKind.u64 (fwdL ps (s.data.toList.drop i) x) last ≠ 0)) ∧ Hid (Below w2.heap.size w2 wr)) (fun _ v _ => s.size - (intOf v).toNat)
  case atStart => exact ⟨0, 1, rfl, rfl, Nat.zero_le _, Lib.hid HACC.out, Lib.hid (Below.refl _ _)⟩
  case round =>
    obtain ⟨i, x, rfl, rfl, hi, HX, HBR⟩ := hrel
    have hsr := HBR.out.size
    have HS : Hid (∀ w', Below wr.heap.size wr w' → w'.cell? ⟨w1.heap.size, 0, none⟩ = some (.slice (some ⟨g, 0, none⟩) n cap) ∧ w'.cell? ⟨w1.heap.size, 1, none⟩ = some (.int .u64 last)) := Lib.hid (fun w' hb => ((HM2.out.below HBR.out).below hb).cells)
    obtain ⟨ka, kb⟩ := HS.out wr (Below.refl _ _)
    by_cases hlt : i < s.size
    · have hltI : (i : Int) < (s.size : Int) := by omega
      have hi0 : (0 : Int) ≤ (i : Int) := by omega
      by_cases hx : x = 0
      · subst hx
        have HE : Hid (accS p s = decide (bits BinOp.and IntKind.u64 0 last ≠ 0)) := Lib.hid (by rw [HX.out, fwd_zero, and_nil])
        have HAc := Lib.hid (accepts_any wr (some ⟨g, 0, none⟩) n cap last 0)
        clear HX
        go_wp2_with fail
        refine HAc.out.mono ?_
        rintro e w5 ⟨rfl, hb5⟩
        rw [← HE.out]
        have hb6 := HB1.out.trans ((HB2.out.trans ((HBR.out.trans (hb5.mono hsr)).mono HB2.out.size)).mono HB1.out.size)
        clear hb5
        go_wp2_with fail
        go_ret2
        exact ⟨rfl, hb6⟩
      · have hwr : w1.heap.size ≤ wr.heap.size := by omega
        have HQr : Hid (∀ w', Below wr.heap.size wr w' → HQ w' (· < w1.heap.size) (.slice (some ⟨g, 0, none⟩) n cap) ps) := Lib.hid (fun w' hb => HQ1.out.below (HB2.out.trans ((HBR.out.trans (hb.mono hsr)).mono HB2.out.size)) (Nat.le_refl _))
        have HR1 := Lib.hid (after_any wr.drew w1.heap.size _ ps last x (HQr.out _ (Below.refl _ _).drew) (by show w1.heap.size ≤ wr.heap.size; omega))
        have k0 := HS.out wr.drew (Below.refl _ _).drew
        obtain ⟨kc, kd⟩ := k0
        have hjl : i < s.data.toList.length := by rw [lt_len]; exact hlt
        have hsj : s.data.toList[i]'hjl = s[i]'hlt := by
          have := lt_at s i hlt
          rw [List.getElem?_eq_getElem hjl] at this
          exact Option.some.inj this
        have HX2 : Hid (accS p s = decide (bits BinOp.and IntKind.u64 (fwdL ps (s.data.toList.drop (i + 1)) (bits BinOp.and IntKind.u64 (afterL x 0 ps 0) (readsL (s[i]'hlt).toNat 0 ps 0))) last ≠ 0)) := Lib.hid (by
          rw [HX.out, List.drop_eq_getElem_cons hjl, fwdL, hsj])
        clear hsj hjl HX
        go_wp2_with fail
        go_region_held_law (fun w' => w'.cell? ⟨w1.heap.size, 0, none⟩ = some (.slice (some ⟨g, 0, none⟩) n cap) ∧ w'.cell? ⟨w1.heap.size, 1, none⟩ = some (.int .u64 last)) (first | exact ⟨kc, kd⟩ | exact k5 | exact k6) (first
          | (go_simp; go_at_call 31; refine HR1.out.mono ?_; rintro e w5 ⟨rfl, hb5⟩
             have hq5 : Below wr.heap.size wr w5 := (Below.refl _ _).drew.trans hb5
             have k5 := HS.out w5 hq5
             have HB5 := Lib.hid hq5
             have HR2 := Lib.hid (reads_any w5 w1.heap.size _ ps last (s[i]'hlt).toNat (UInt8.toNat_lt _) (HQr.out w5 hq5) (Nat.le_trans hwr hq5.size))
             clear hb5 hq5
             dsimp only)
          | (go_simp; go_at_call 33; refine HR2.out.mono ?_; rintro e w6 ⟨rfl, hb6⟩
             have hq6 : Below wr.heap.size wr w6 := HB5.out.trans (hb6.mono HB5.out.size)
             have k6 := HS.out w6 hq6
             have HB6 := Lib.hid hq6
             clear hb6 hq6
             dsimp only))
        all_goals
          have HB7 : Hid (Below w2.heap.size w2 w6) := Lib.hid (HBR.out.trans (HB6.out.mono hsr))
          have hwi : IntKind.i64.wrap ((i : Int) + 1) = ((i + 1 : Nat) : Int) := by rw [IntWalk.i64_in _ (by omega)]; omega
          clear k5 k6 ka kb kc kd
          go_wp2_with fail
          go_roundw
          case rel => exact ⟨i + 1, _, rfl, by first | rfl | go_num, hlt, HX2, HB7⟩
          case measure => simp [intOf]; omega
    · obtain rfl : i = s.size := by omega
      have HE : Hid (accS p s = decide (bits BinOp.and IntKind.u64 x last ≠ 0)) := Lib.hid (by
        have h := HX.out
        rw [List.drop_eq_nil_of_le (by rw [lt_len]; exact Nat.le_refl _)] at h
        exact h)
      have HAc := Lib.hid (accepts_any wr (some ⟨g, 0, none⟩) n cap last x)
      clear HX
      go_wp2_with fail
      refine HAc.out.mono ?_
      rintro e w5 ⟨rfl, hb5⟩
      rw [← HE.out]
      have hb6 := HB1.out.trans ((HB2.out.trans ((HBR.out.trans (hb5.mono hsr)).mono HB2.out.size)).mono HB1.out.size)
      clear hb5
      go_wp2_with fail
      go_ret2
      exact ⟨rfl, hb6⟩
end Go.Proofs.YtaipaddfehpmgaaDoor
