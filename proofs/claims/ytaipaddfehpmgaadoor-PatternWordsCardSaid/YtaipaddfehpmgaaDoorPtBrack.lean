/-
  single and brackets of the reader of patterns. Nothing is assumed.
-/
import Derived.Test.YtaipaddfehpmgaaDoorPtItem
namespace Go.Proofs.YtaipaddfehpmgaaDoor
open Go.RowKit

/-- What a reading of a tree leaves. -/
def OutE (w w' : World) (r : PR PT) (e : Ending) : Prop := match r with
  | .bad _ => ∃ (t : PT) (oe : Option Addr) (n ce : Nat), e = .returned (.tuple #[PT.val t (.slice oe n ce), .bool false])
  | .ok t _ => ∃ oe ce, e = .returned (.tuple #[t.val (.slice oe t.l.length ce), .bool true]) ∧ HT w' (Btw w.heap.size w'.heap.size) (.slice oe t.l.length ce) t.l
def OutT (b : Nat) (s : ByteArray) (w : World) (r : PR PT) (e : Ending) (w' : World) : Prop := OutE w w' r e ∧ RD w' b s r.fin ∧ Kp w.heap.size (Is b) w w'
theorem Z6.kp {N : Nat} {X : Nat → Prop} {w w1 : World} {n : Nat} (h : Z6 w n) (hk : Kp N X w w1) (hn : n < N) (hX : ¬ X n) : Z6 w1 n := Box6.kp h hk hn hX
theorem Z6.later {B : Nat} {w w1 : World} {n : Nat} (h : Z6 w n) (hk : Below B w w1) (hn : n < B) : Z6 w1 n := Box6.later h hk hn
theorem Z6.lt {w : World} {n : Nat} (h : Z6 w n) : n < w.heap.size := World.block_lt_of_cell? _ _ h.1
theorem classT_l (s : S4) : (classT s).l = [] := by unfold classT; split <;> rfl
theorem Kp.shrink {N M : Nat} {X Y : Nat → Prop} {a b : World} (h : Kp M Y a b) (hN : N ≤ M) (hX : ∀ k, k < N → Y k → X k) : Kp N X a b := h.mono hN hX
/-- single: one byte makes a class. -/
theorem single_any (w : World) (b : Nat) (s : ByteArray) (i : Nat) (h : RD w b s i) (hi : i < s.size) (hs : s.size ≤ 1000000) :
    Calls Tryd.prog 96 #[.pointer (some ⟨b, 0, none⟩)] w fun e w' => e = .returned ((oneT (pk s.data.toList i)).val (.slice none 0 0)) ∧ RD w' b s (i + 1) ∧ Kp w.heap.size (Is b) w w' := by
  have hblt := h.lt
  obtain ⟨w0, hw0⟩ : ∃ w0, w0 = w.alloc (.cells #[.int .i64 0, .int .u64 0, .int .u64 0, .int .u64 0, .int .u64 0, .slice none 0 0] 36) := ⟨_, rfl⟩
  obtain ⟨w1, hw1⟩ : ∃ w1, w1 = w0.alloc (.cells #[.int .u64 0, .int .u64 0, .int .u64 0, .int .u64 0] 121) := ⟨_, rfl⟩
  have hs0 : w0.heap.size = w.heap.size + 1 := by rw [hw0]; simp
  have hs1 : w1.heap.size = w.heap.size + 2 := by rw [hw1]; simp; omega
  have hb1 : Below w.heap.size w w1 := by rw [hw1, hw0]; exact below2 _ _ _
  have HZ1 : Hid (Z6 w1 w.heap.size) := Lib.hid (by
    have : Z6 w0 w.heap.size := by rw [hw0]; exact Z6.new _
    rw [hw1]
    exact this.later (below1 _ _) (by omega))
  have HS1 : Hid (SB w1 (w.heap.size + 1) .zero) := Lib.hid (by rw [hw1, ← hs0]; exact SB.new _)
  have HR1 := Lib.hid (h.bel hb1)
  have HP := Lib.hid (peek_any w1 b s i HR1.out (by omega))
  have HAd := Lib.hid (fun m => add_any .zero (w.heap.size + 1) (pk s.data.toList i) (pk_lt _ _) (w1.drewN m) HS1.out)
  have HCl := Lib.hid (classOf_any (S4.zero.add (pk s.data.toList i)))
  have HL := Lib.hid (classT_l (S4.zero.add (pk s.data.toList i)))
  unfold oneT
  generalize S4.zero.add (pk s.data.toList i) = S at *
  unfold S4.val PT.val at HCl
  unfold PT.val
  generalize pk s.data.toList i = p at *
  have HB1 := Lib.hid hb1
  have HW := Lib.hid (hw1.trans (by rw [hw0]))
  clear h hb1 hw0 hw1 hs0
  go_enter Tryd.func96, Tryd.ntmps96
  go_wp2_with fail
  rw [← HW.out]
  refine HP.out.mono ?_
  rintro e w2 ⟨rfl, m, rfl⟩
  clear HP
  go_wp2_with fail
  refine (HAd.out m).mono ?_
  rintro e w3 ⟨rfl, hS3, hK3⟩
  have hK3' : Kp w1.heap.size (Is (w.heap.size + 1)) w1 w3 := ((Kp.refl _ _ w1).drewN m).trans hK3
  have HR3 := Lib.hid (HR1.out.later hK3' (by omega) (show ¬ Is (w.heap.size + 1) b by unfold Is; omega))
  have HZ3 := Lib.hid (HZ1.out.kp hK3' (by omega) (show ¬ Is (w.heap.size + 1) w.heap.size by unfold Is; omega))
  have HS3 := Lib.hid hS3
  have HB3 : Hid (Below w.heap.size w w3) := Lib.hid (HB1.out.trans (hK3'.below (by omega) (fun k hk e => by unfold Is at e; omega)))
  have h1 := HR3.out.at
  have h2 := HR3.out.free 1
  have hs3 : w.heap.size + 2 ≤ w3.heap.size := by have := hK3'.size; omega
  obtain ⟨s0, s1, s2, s3⟩ := HS3.out.cells
  clear hS3 hK3 hK3' HAd HB1
  go_wp2_with fail
  have HR4 : Hid (RD (w3.setCell ⟨b, 1, none⟩ (.int .i64 ((i : Int) + 1))) b s (i + 1)) := Lib.hid HR3.out.step
  have HZ4 : Hid (Z6 (w3.setCell ⟨b, 1, none⟩ (.int .i64 ((i : Int) + 1))) w.heap.size) := Lib.hid (HZ3.out.of_block (Below.heap_setCell _ _ _ _ (by show w.heap.size ≠ b; omega)))
  have HK4 : Hid (Kp w.heap.size (Is b) w (w3.setCell ⟨b, 1, none⟩ (.int .i64 ((i : Int) + 1)))) := Lib.hid ((Kp.of HB3.out (Nat.le_refl _)).set ⟨b, 1, none⟩ (Is.self b) _)
  refine (HCl.out _).mono ?_
  rintro e w5 ⟨rfl, hb5⟩
  obtain ⟨z0, z1, z2, z3, z4, z5, zf⟩ := HZ4.out.later hb5 (by simp [World.setCell]; omega)
  have HR5 := Lib.hid (HR4.out.bel hb5)
  have HK5 := Lib.hid (HK4.out.bel hb5 HK4.out.size)
  clear hb5
  go_wp2_with fail
  refine bodyPost_ret (v := .agg #[.int .i64 (classT S).k, .int .u64 (classT S).s.a, .int .u64 (classT S).s.b, .int .u64 (classT S).s.c, .int .u64 (classT S).s.d, .slice none 0 0]) (by simp [results, Tryd.results96, go_sem, *]) rfl ⟨rfl, ?_, kp6 HK5.out (Nat.le_refl _) _ _ _ _ _ _⟩
  exact (at6 (by omega) _ _ _ _ _ _).trans HR5.out

theorem OutE.leaf (w w' : World) (t : PT) (i : Nat) (h : t.l = []) : OutE w w' (.ok t i) (.returned (.tuple #[t.val (.slice none 0 0), .bool true])) := ⟨none, 0, by rw [h]; rfl, by rw [h]; exact .empty _ _⟩
theorem at4 {n b : Nat} {w1 : World} (hb : b ≠ n) (a1 b1 c1 d1 : Value) : ((((w1.setCell ⟨n, 0, none⟩ a1).setCell ⟨n, 1, none⟩ b1).setCell ⟨n, 2, none⟩ c1).setCell ⟨n, 3, none⟩ d1).heap[b]? = w1.heap[b]? := by
  rw [Below.heap_setCell _ _ _ _ hb, Below.heap_setCell _ _ _ _ hb, Below.heap_setCell _ _ _ _ hb, Below.heap_setCell _ _ _ _ hb]
theorem kp4 {N n : Nat} {X : Nat → Prop} {w w1 : World} (h : Kp N X w w1) (hn : N ≤ n) (a b c d : Value) : Kp N X w ((((w1.setCell ⟨n, 0, none⟩ a).setCell ⟨n, 1, none⟩ b).setCell ⟨n, 2, none⟩ c).setCell ⟨n, 3, none⟩ d) :=
  h.trans (.of ((((Below.refl N w1).setCell (p := ⟨n, 0, none⟩) hn a).setCell (p := ⟨n, 1, none⟩) hn b).setCell (p := ⟨n, 2, none⟩) hn c |>.setCell (p := ⟨n, 3, none⟩) hn d) (Nat.le_refl _))
set_option maxRecDepth 100000 in
set_option maxHeartbeats 3200000 in
theorem brackets_any (w : World) (b : Nat) (s : ByteArray) (i : Nat) (h : RD w b s i) (hA : AL w) (hi : i < s.size) (hs : s.size ≤ 1000000) :
    Calls Tryd.prog 94 #[.pointer (some ⟨b, 0, none⟩)] w (OutT b s w (brackL s.data.toList i)) := by
  have hblt := h.lt
  have HA := Lib.hid hA
  have HGB := Lib.hid (hA.rd h)
  obtain ⟨w1, hw1⟩ : ∃ w1, w1 = (w.setCell ⟨b, 1, none⟩ (.int .i64 ((i : Int) + 1))).alloc (.cells #[.int .i64 0, .int .u64 0, .int .u64 0, .int .u64 0, .int .u64 0, .slice none 0 0] 36) := ⟨_, rfl⟩
  have HW1 := Lib.hid hw1
  have hs1 : w1.heap.size = w.heap.size + 1 := by rw [hw1]; simp [World.setCell]
  have HR1 : Hid (RD w1 b s (i + 1)) := Lib.hid (by rw [hw1]; exact h.step.alloc _)
  have HZ1 : Hid (Z6 w1 w.heap.size) := Lib.hid (by
    have := Z6.new (w.setCell ⟨b, 1, none⟩ (.int .i64 ((i : Int) + 1)))
    rw [show (w.setCell ⟨b, 1, none⟩ (.int .i64 ((i : Int) + 1))).heap.size = w.heap.size by simp [World.setCell]] at this
    rw [hw1]; exact this)
  have HK1 : Hid (Kp w.heap.size (Is b) w w1) := Lib.hid (by rw [hw1]; exact ((Kp.refl _ _ w).set ⟨b, 1, none⟩ (Is.self b) _).alloc (by simp [World.setCell]) _)
  have h1 := h.at
  have h2 := h.free 1
  have HT := Lib.hid (take_any w1 b s (i + 1) 93 HR1.out (by omega) hs (by decide))
  have HE : Hid (brackL s.data.toList i = if pk s.data.toList (i + 1) = 93 then .ok (.mk 1 .zero []) (i + 2) else (setL s.data.toList (s.data.toList.length + 1) .zero (negL s.data.toList (i + 1))).bind fun S m => .ok (setT (decide (pk s.data.toList (i + 1) = 94)) S) m) := Lib.hid rfl
  generalize brackL s.data.toList i = RES at *
  clear hw1 h hA
  by_cases h93 : pk s.data.toList (i + 1) = 93
  · have HN : Hid (RES = .ok (.mk 1 .zero []) (i + 2)) := Lib.hid (by rw [HE.out, if_pos h93])
    rw [decide_eq_true h93, if_pos h93] at HT
    clear HE h93
    go_enter Tryd.func94, Tryd.ntmps94
    go_wp2_with fail
    rw [← HW1.out]
    refine HT.out.mono ?_
    rintro e w2 ⟨rfl, hR2, hK2⟩
    have HR2 := Lib.hid hR2
    obtain ⟨z0, z1, z2, z3, z4, z5, zf⟩ := HZ1.out.kp hK2 (by omega) (show ¬ Is b w.heap.size by unfold Is; omega)
    have HK2 := Lib.hid (HK1.out.trans (hK2.less HK1.out.size))
    clear hR2 hK2 HT h1 h2
    go_wp2_with fail
    refine bodyPost_ret (v := .tuple #[.agg #[.int .i64 1, .int .u64 0, .int .u64 0, .int .u64 0, .int .u64 0, .slice none 0 0], .bool true]) (by simp [results, Tryd.results94, go_sem, *]) rfl ?_
    rw [HN.out]
    exact ⟨OutE.leaf _ _ (.mk 1 .zero []) _ rfl, (at6 (by omega) _ _ _ _ _ _).trans HR2.out, kp6 HK2.out (Nat.le_refl _) _ _ _ _ _ _⟩
  · rw [if_neg h93] at HE
    rw [decide_eq_false h93, if_neg h93] at HT
    clear h93
    go_enter Tryd.func94, Tryd.ntmps94
    go_wp2_with fail
    rw [← HW1.out]
    refine HT.out.mono ?_
    rintro e w2 ⟨rfl, hR2, hK2⟩
    have HT2 := Lib.hid (take_any w2 b s (i + 1) 94 hR2 (by omega) hs (by decide))
    have HZ2 := Lib.hid (HZ1.out.kp hK2 (by omega) (show ¬ Is b w.heap.size by unfold Is; omega))
    have HK2 := Lib.hid (HK1.out.trans (hK2.less HK1.out.size))
    have hs2 := hK2.size
    clear hR2 hK2 HT h1 h2
    go_wp2_with fail
    refine HT2.out.mono ?_
    rintro e w3 ⟨rfl, hR3, hK3⟩
    have hj : negL s.data.toList (i + 1) ≤ s.size := by
      unfold negL
      split
      · rename_i h
        have := pk_is h (by decide)
        rw [lt_len] at this
        omega
      · omega
    have hR3' : RD w3 b s (negL s.data.toList (i + 1)) := hR3
    have hs3 := hK3.size
    obtain ⟨G, hG⟩ : ∃ G, G = w3.heap.size := ⟨_, rfl⟩
    have HRa : Hid (RD (w3.alloc (.cells #[.int .u64 0, .int .u64 0, .int .u64 0, .int .u64 0] 121)) b s (negL s.data.toList (i + 1))) := Lib.hid (hR3'.alloc _)
    have HSa : Hid (SB (w3.alloc (.cells #[.int .u64 0, .int .u64 0, .int .u64 0, .int .u64 0] 121)) G .zero) := Lib.hid (by rw [hG]; exact SB.new _)
    have HZ3 := HZ2.out.kp hK3 (by omega) (show ¬ Is b w.heap.size by unfold Is; omega)
    have HZa : Hid (Z6 (w3.alloc (.cells #[.int .u64 0, .int .u64 0, .int .u64 0, .int .u64 0] 121)) w.heap.size) := Lib.hid (HZ3.later (below1 _ _) HZ3.lt)
    have HKa : Hid (Kp w.heap.size (Is b) w (w3.alloc (.cells #[.int .u64 0, .int .u64 0, .int .u64 0, .int .u64 0] 121))) := Lib.hid ((HK2.out.trans (hK3.less HK2.out.size)).bel (below1 _ _) (by omega))
    have hsa : (w3.alloc (.cells #[.int .u64 0, .int .u64 0, .int .u64 0, .int .u64 0] 121)).heap.size = G + 1 := by rw [hG]; simp
    have hGw : w.heap.size < G := by omega
    obtain ⟨neg, hneg⟩ : ∃ neg, neg = decide (pk s.data.toList (i + 1) = 94) := ⟨_, rfl⟩
    have HE0 : Hid (RES = (setL s.data.toList (s.size + 1) .zero (negL s.data.toList (i + 1))).bind fun S m => .ok (setT neg S) m) := Lib.hid (by rw [HE.out, hneg, lt_len])
    rw [← hneg]
    generalize negL s.data.toList (i + 1) = j at *
    have HGe := Lib.hid hG
    clear hR3 hR3' hK3 HT2 HE hneg HZ3 hG
    go_wp2_with fail
    rw [← HGe.out]
    go_loopg [24] (s.size + 1) (fun gf v wr => ∃ (t : S4) (ii : Nat), ii ≤ s.size ∧ s.size < ii + gf ∧ Hid (RD wr b s ii) ∧ Hid (SB wr G t) ∧ Hid (Z6 wr w.heap.size) ∧ Hid (Kp w.heap.size (Is b) w wr) ∧ G < wr.heap.size ∧ Hid (RES = (setL s.data.toList gf t ii).bind fun S m => .ok (setT neg S) m))
    case atStart => exact ⟨.zero, j, hj, by omega, HRa, HSa, HZa, HKa, by omega, HE0⟩
    case round =>
      obtain ⟨t, ii, hii, hfu, HR, HS, HZ, HK, hGr, HEr⟩ := hrel
      obtain ⟨gf, rfl⟩ : ∃ gf, gk = gf + 1 := ⟨gk - 1, by omega⟩
      clear HRa HSa HZa HKa HE0
      have HIE := Lib.hid (isEmpty_any t wr)
      unfold S4.val at HIE
      obtain ⟨s0, s1, s2, s3⟩ := HS.out.cells
      cases hz : t.isZ
      · rw [hz] at HIE
        go_wp2_with fail
        refine HIE.out.mono ?_
        rintro e w5 ⟨rfl, hb5⟩
        have HT5 := Lib.hid (take_any w5 b s ii 93 (HR.out.bel hb5) hii hs (by decide))
        have HS5 : Hid (SB w5 G t) := Lib.hid ((hb5.block G hGr).trans HS.out)
        have HZ5 := Lib.hid (HZ.out.later hb5 (by omega))
        have HK5 := Lib.hid (HK.out.bel hb5 HK.out.size)
        have hs5 := hb5.size
        clear hb5 HIE HR HS HZ HK s0 s1 s2 s3
        by_cases h93 : pk s.data.toList ii = 93
        · have HE2 : Hid (RES = .ok (setT neg t) (ii + 1)) := Lib.hid (by rw [HEr.out, setL, if_pos ⟨hz, h93⟩]; rfl)
          rw [decide_eq_true h93, if_pos h93] at HT5
          clear HEr hz h93
          go_wp2_with fail
          refine HT5.out.mono ?_
          rintro e W3 ⟨rfl, hR3, hK3⟩
          have HR3 := Lib.hid hR3
          have HS3 := Lib.hid (HS5.out.kp hK3 (by omega) (show ¬ Is b G by unfold Is; omega))
          have HZ3 := Lib.hid (HZ5.out.kp hK3 (by omega) (show ¬ Is b w.heap.size by unfold Is; omega))
          have HK3 := Lib.hid (HK5.out.trans (hK3.less HK5.out.size))
          have hs3' := hK3.size
          clear hR3 hK3 HT5 HS5 HZ5 HK5
          cases hneg : neg
          · have HN : Hid (RES = .ok (classT t) (ii + 1)) := Lib.hid (by rw [HE2.out, hneg]; rfl)
            have HC := Lib.hid (classOf_any t W3)
            unfold S4.val PT.val at HC
            obtain ⟨s0, s1, s2, s3⟩ := HS3.out.cells
            clear HE2
            go_wp2_with fail
            refine HC.out.mono ?_
            rintro e w5 ⟨rfl, hb5⟩
            obtain ⟨z0, z1, z2, z3, z4, z5, zf⟩ := HZ3.out.later hb5 (by omega)
            have HR5 := Lib.hid (HR3.out.bel hb5)
            have HK5 := Lib.hid (HK3.out.bel hb5 HK3.out.size)
            clear hb5 HC s0 s1 s2 s3
            go_wp2_with fail
            refine bodyPost_ret (v := .tuple #[.agg #[.int .i64 (classT t).k, .int .u64 (classT t).s.a, .int .u64 (classT t).s.b, .int .u64 (classT t).s.c, .int .u64 (classT t).s.d, .slice none 0 0], .bool true]) (by simp [results, Tryd.results94, go_sem, *]) rfl ?_
            rw [HN.out]
            exact ⟨OutE.leaf _ _ _ _ (classT_l _), (at6 (by omega) _ _ _ _ _ _).trans HR5.out, kp6 HK5.out (Nat.le_refl _) _ _ _ _ _ _⟩
          · have HN : Hid (RES = .ok (classT (S4.alpha.without t)) (ii + 1)) := Lib.hid (by rw [HE2.out, hneg]; rfl)
            have HA3 : Hid (AL W3) := Lib.hid (HA.out.kp HK3.out (Nat.le_refl _) HGB.out)
            have HW := Lib.hid (without_any S4.alpha t W3)
            have HC := Lib.hid (classOf_any (S4.alpha.without t))
            obtain ⟨a0, a1, a2, a3⟩ := HA3.out
            unfold S4.val PT.val at HC
            unfold S4.val at HW
            generalize S4.alpha.without t = U at *
            generalize S4.alpha.a = xa at *
            generalize S4.alpha.b = xb at *
            generalize S4.alpha.c = xc at *
            generalize S4.alpha.d = xd at *
            obtain ⟨s0, s1, s2, s3⟩ := HS3.out.cells
            clear HE2
            go_wp2_with fail
            refine HW.out.mono ?_
            rintro e w4 ⟨rfl, hb4⟩
            have hS4 : SB w4 G t := (hb4.block G (by omega)).trans HS3.out
            obtain ⟨r0, r1, r2, r3⟩ := hS4.cells
            have rf := hS4.free
            have rf0 := rf 0
            have rf1 := rf 1
            have rf2 := rf 2
            have rf3 := rf 3
            have HZ4 := Lib.hid (HZ3.out.later hb4 (by omega))
            have HR4 := Lib.hid (HR3.out.bel hb4)
            have HK4 := Lib.hid (HK3.out.bel hb4 HK3.out.size)
            have hs4 := hb4.size
            clear hb4 HW s0 s1 s2 s3 hS4 rf a0 a1 a2 a3
            go_wp2_with fail
            have HR4' : Hid (RD ((((w4.setCell ⟨G, 0, none⟩ (.int .u64 U.a)).setCell ⟨G, 1, none⟩ (.int .u64 U.b)).setCell ⟨G, 2, none⟩ (.int .u64 U.c)).setCell ⟨G, 3, none⟩ (.int .u64 U.d)) b s (ii + 1)) := Lib.hid ((at4 (by omega) _ _ _ _).trans HR4.out)
            have HZ4' : Hid (Z6 ((((w4.setCell ⟨G, 0, none⟩ (.int .u64 U.a)).setCell ⟨G, 1, none⟩ (.int .u64 U.b)).setCell ⟨G, 2, none⟩ (.int .u64 U.c)).setCell ⟨G, 3, none⟩ (.int .u64 U.d)) w.heap.size) := Lib.hid (Box6.of_block HZ4.out (at4 (by omega) _ _ _ _))
            have HK4' : Hid (Kp w.heap.size (Is b) w ((((w4.setCell ⟨G, 0, none⟩ (.int .u64 U.a)).setCell ⟨G, 1, none⟩ (.int .u64 U.b)).setCell ⟨G, 2, none⟩ (.int .u64 U.c)).setCell ⟨G, 3, none⟩ (.int .u64 U.d))) := Lib.hid (kp4 HK4.out (by omega) _ _ _ _)
            refine (HC.out _).mono ?_
            rintro e w5 ⟨rfl, hb5⟩
            obtain ⟨z0, z1, z2, z3, z4, z5, zf⟩ := HZ4'.out.later hb5 HZ4'.out.lt
            have HR5 := Lib.hid (HR4'.out.bel hb5)
            have HK5 := Lib.hid (HK4'.out.bel hb5 HK4'.out.size)
            clear hb5 HC r0 r1 r2 r3 rf0 rf1 rf2 rf3
            go_wp2_with fail
            refine bodyPost_ret (v := .tuple #[.agg #[.int .i64 (classT U).k, .int .u64 (classT U).s.a, .int .u64 (classT U).s.b, .int .u64 (classT U).s.c, .int .u64 (classT U).s.d, .slice none 0 0], .bool true]) (by simp [results, Tryd.results94, go_sem, *]) rfl ?_
            rw [HN.out]
            exact ⟨OutE.leaf _ _ _ _ (classT_l _), (at6 (by omega) _ _ _ _ _ _).trans HR5.out, kp6 HK5.out (Nat.le_refl _) _ _ _ _ _ _⟩
        · have HE : Hid (RES = ((itemL s.data.toList t ii).bind fun S m => setL s.data.toList gf S m).bind fun S q => .ok (setT neg S) q) := Lib.hid (by rw [HEr.out, setL, if_neg (fun h => h93 h.2)])
          rw [decide_eq_false h93, if_neg h93] at HT5
          clear HEr hz h93
          go_wp2_with fail
          refine HT5.out.mono ?_
          rintro e W3 ⟨rfl, hR3, hK3⟩
          have HR3 := Lib.hid hR3
          have HS3 := Lib.hid (HS5.out.kp hK3 (by omega) (show ¬ Is b G by unfold Is; omega))
          have HZ3 := Lib.hid (HZ5.out.kp hK3 (by omega) (show ¬ Is b w.heap.size by unfold Is; omega))
          have HK3 := Lib.hid (HK5.out.trans (hK3.less HK5.out.size))
          have hs3' := hK3.size
          clear hR3 hK3 HT5 HS5 HZ5 HK5

          have HA3 : Hid (AL W3) := Lib.hid (HA.out.kp HK3.out (Nat.le_refl _) HGB.out)
          have HI := Lib.hid (item_any W3 b G s ii t HR3.out HA3.out HS3.out hii hs)
          have hi4 := itemL_fwd s.data.toList t ii (by rw [lt_len]; exact hii)
          cases hq : itemL s.data.toList t ii with
          | bad m =>
            rw [hq] at HI HE
            have HN : Hid (RES = .bad m) := Lib.hid HE.out
            clear HE hi4 hq HS3 HA3
            go_wp2_with fail
            refine HI.out.mono ?_
            rintro e w4 ⟨rfl, hR4, hK4⟩
            have HR4 : Hid (RD w4 b s m) := Lib.hid hR4
            obtain ⟨z0, z1, z2, z3, z4, z5, zf⟩ := HZ3.out.kp hK4 (by omega) (show ¬ Or b G w.heap.size from fun e => by unfold Or at e; omega)
            have HK4 : Hid (Kp w.heap.size (Is b) w w4) := Lib.hid (HK3.out.trans (hK4.mono (by omega) (fun k hk h => by unfold Or at h; unfold Is; omega)))
            clear hR4 hK4 HI HR3 HZ3 HK3
            go_wp2_with fail
            refine bodyPost_ret (v := .tuple #[.agg #[.int .i64 0, .int .u64 0, .int .u64 0, .int .u64 0, .int .u64 0, .slice none 0 0], .bool false]) (by simp [results, Tryd.results94, go_sem, *]) rfl ?_
            rw [HN.out]
            exact ⟨⟨.mk 0 .zero [], none, 0, 0, rfl⟩, (at6 (by omega) _ _ _ _ _ _).trans HR4.out, kp6 HK4.out (Nat.le_refl _) _ _ _ _ _ _⟩
          | ok t' m =>
            rw [hq] at HI HE hi4
            have him : ii < m ∧ m ≤ s.data.toList.length := hi4
            rw [lt_len] at him
            have HE' : Hid (RES = (setL s.data.toList gf t' m).bind fun S q => .ok (setT neg S) q) := Lib.hid HE.out
            clear HE hi4 hq HA3
            go_wp2_with fail
            refine HI.out.mono ?_
            rintro e w4 ⟨⟨rfl, hS4⟩, hR4, hK4⟩
            have HR4 : Hid (RD w4 b s m) := Lib.hid hR4
            have HS4 := Lib.hid hS4
            have HZ4 := Lib.hid (HZ3.out.kp hK4 (by omega) (show ¬ Or b G w.heap.size from fun e => by unfold Or at e; omega))
            have HK4 : Hid (Kp w.heap.size (Is b) w w4) := Lib.hid (HK3.out.trans (hK4.mono (by omega) (fun k hk h => by unfold Or at h; unfold Is; omega)))
            have hs4 := hK4.size
            clear hR4 hS4 hK4 HI HR3 HS3 HZ3 HK3
            go_wp2_with fail
            go_roundg gf
            case measure => omega
            case rel => exact ⟨t', m, by omega, by omega, HR4, HS4, HZ4, HK4, by omega, HE'⟩
      · rw [hz] at HIE
        have HE : Hid (RES = ((itemL s.data.toList t ii).bind fun S m => setL s.data.toList gf S m).bind fun S q => .ok (setT neg S) q) := Lib.hid (by rw [HEr.out, setL, if_neg (fun h => by rw [hz] at h; cases h.1)])
        clear HEr hz
        go_wp2_with fail
        refine HIE.out.mono ?_
        rintro e W3 ⟨rfl, hb5⟩
        have HR3 := Lib.hid (HR.out.bel hb5)
        have HS3 : Hid (SB W3 G t) := Lib.hid ((hb5.block G hGr).trans HS.out)
        have HZ3 := Lib.hid (HZ.out.later hb5 (by omega))
        have HK3 := Lib.hid (HK.out.bel hb5 HK.out.size)
        have hs5 := hb5.size
        clear hb5 HIE HR HS HZ HK s0 s1 s2 s3

        have HA3 : Hid (AL W3) := Lib.hid (HA.out.kp HK3.out (Nat.le_refl _) HGB.out)
        have HI := Lib.hid (item_any W3 b G s ii t HR3.out HA3.out HS3.out hii hs)
        have hi4 := itemL_fwd s.data.toList t ii (by rw [lt_len]; exact hii)
        cases hq : itemL s.data.toList t ii with
        | bad m =>
          rw [hq] at HI HE
          have HN : Hid (RES = .bad m) := Lib.hid HE.out
          clear HE hi4 hq HS3 HA3
          go_wp2_with fail
          refine HI.out.mono ?_
          rintro e w4 ⟨rfl, hR4, hK4⟩
          have HR4 : Hid (RD w4 b s m) := Lib.hid hR4
          obtain ⟨z0, z1, z2, z3, z4, z5, zf⟩ := HZ3.out.kp hK4 (by omega) (show ¬ Or b G w.heap.size from fun e => by unfold Or at e; omega)
          have HK4 : Hid (Kp w.heap.size (Is b) w w4) := Lib.hid (HK3.out.trans (hK4.mono (by omega) (fun k hk h => by unfold Or at h; unfold Is; omega)))
          clear hR4 hK4 HI HR3 HZ3 HK3
          go_wp2_with fail
          refine bodyPost_ret (v := .tuple #[.agg #[.int .i64 0, .int .u64 0, .int .u64 0, .int .u64 0, .int .u64 0, .slice none 0 0], .bool false]) (by simp [results, Tryd.results94, go_sem, *]) rfl ?_
          rw [HN.out]
          exact ⟨⟨.mk 0 .zero [], none, 0, 0, rfl⟩, (at6 (by omega) _ _ _ _ _ _).trans HR4.out, kp6 HK4.out (Nat.le_refl _) _ _ _ _ _ _⟩
        | ok t' m =>
          rw [hq] at HI HE hi4
          have him : ii < m ∧ m ≤ s.data.toList.length := hi4
          rw [lt_len] at him
          have HE' : Hid (RES = (setL s.data.toList gf t' m).bind fun S q => .ok (setT neg S) q) := Lib.hid HE.out
          clear HE hi4 hq HA3
          go_wp2_with fail
          refine HI.out.mono ?_
          rintro e w4 ⟨⟨rfl, hS4⟩, hR4, hK4⟩
          have HR4 : Hid (RD w4 b s m) := Lib.hid hR4
          have HS4 := Lib.hid hS4
          have HZ4 := Lib.hid (HZ3.out.kp hK4 (by omega) (show ¬ Or b G w.heap.size from fun e => by unfold Or at e; omega))
          have HK4 : Hid (Kp w.heap.size (Is b) w w4) := Lib.hid (HK3.out.trans (hK4.mono (by omega) (fun k hk h => by unfold Or at h; unfold Is; omega)))
          have hs4 := hK4.size
          clear hR4 hS4 hK4 HI HR3 HS3 HZ3 HK3
          go_wp2_with fail
          go_roundg gf
          case measure => omega
          case rel => exact ⟨t', m, by omega, by omega, HR4, HS4, HZ4, HK4, by omega, HE'⟩
end Go.Proofs.YtaipaddfehpmgaaDoor
