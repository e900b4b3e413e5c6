/-
  quotedText and quotedPattern of the package. Nothing is assumed.
-/
import Derived.Test.YtmbmlcnipncgnaaGreatDoorLtRead
namespace Go.Proofs.YtmbmlcnipncgnaaGreatDoor
open Go.RowKit

theorem size_set' (w : World) (a : Addr) (v : Value) : (w.setCell a v).heap.size = w.heap.size := by simp [World.setCell]
theorem zero4_new (w : World) : Zero4 (w.alloc (.cells #[.int .i64 0, .int .i64 0, .string ⟨#[]⟩, .slice none 0 0] 34)) w.heap.size := Box4.new _ _ _ _ _ rfl
theorem outE_text (w w' : World) (f : List UInt8 → V) (r : PR (List UInt8)) (e : Ending) (hf : ∀ C, ∃ t n S, f C = .mk t n S []) (h : match r with
    | .bad _ => ∃ (t n : Int) (S : ByteArray), e = .returned (.tuple #[.agg #[.int .i64 t, .int .i64 n, .string S, .slice none 0 0], .bool false])
    | .ok C _ => e = .returned (.tuple #[.agg #[.int .i64 (f C).t, .int .i64 (f C).n, .string (f C).s, .slice none 0 0], .bool true])) : OutE w w' (r.bind fun C j => .ok (f C) j) e := by
  cases r with
  | bad i => exact h
  | ok C i =>
    obtain ⟨t, n, S, hC⟩ := hf C
    simp only [hC] at h
    show OutE w w' (.ok (f C) i) e
    rw [hC, h]
    exact .plain _ _ _ _ _ _
set_option maxRecDepth 100000 in
set_option maxHeartbeats 1600000 in
theorem quotedText_any (w : World) (b : Nat) (s : ByteArray) (i : Nat) (h : RD w b s i) (hi : i ≤ s.size) (hs : s.size ≤ 1000000) :
    Calls Tryz.prog 53 #[.pointer (some ⟨b, 0, none⟩)] w (OutV (Is b) b s w (textL s.data.toList i)) := by
  have hblt : b < w.heap.size := h.lt
  have HQ : Hid (Calls Tryz.prog 28 #[.pointer (some ⟨b, 0, none⟩), .agg #[.int .i64 0, .int .i64 64, .bool false, .slice none 0 0, .int .i64 0, .int .u8 0]] (w.alloc (.cells #[.int .i64 0, .int .i64 0, .string ⟨#[]⟩, .slice none 0 0] 34)) fun e w' => QuE (qL 0 64 false s.data.toList i) e ∧ RD w' b s (qL 0 64 false s.data.toList i).fin ∧ Kp (w.alloc (.cells #[.int .i64 0, .int .i64 0, .string ⟨#[]⟩, .slice none 0 0] 34)).heap.size (Is b) (w.alloc (.cells #[.int .i64 0, .int .i64 0, .string ⟨#[]⟩, .slice none 0 0] 34)) w') :=
    Lib.hid (quoted_any _ b 0 64 false s i (h.alloc _) hi hs (by decide) (by decide) (by decide))
  have HZ := Lib.hid (zero4_new w)
  have HK : Hid (Kp w.heap.size (Is b) w (w.alloc (.cells #[.int .i64 0, .int .i64 0, .string ⟨#[]⟩, .slice none 0 0] 34))) := Lib.hid ((Kp.refl _ _ w).alloc (Nat.le_refl _) _)
  have hw0 : w.heap.size < (w.alloc (.cells #[.int .i64 0, .int .i64 0, .string ⟨#[]⟩, .slice none 0 0] 34)).heap.size := by simp
  unfold textL
  generalize qL 0 64 false s.data.toList i = r at *
  clear h
  cases r with
  | bad k =>
    go_enter Tryz.func53, Tryz.ntmps53
    go_wp2_with fail
    refine HQ.out.mono ?_
    rintro e w1 ⟨he, hR1, hk1⟩
    obtain rfl : e = .returned (.tuple #[.string ⟨#[]⟩, .bool false]) := he
    have HR1 : Hid (RD w1 b s k) := Lib.hid hR1
    have HZ1 : Hid (Zero4 w1 w.heap.size) := Lib.hid (Box4.kp HZ.out hk1 hw0 (by unfold Is; omega))
    have HK1 : Hid (Kp w.heap.size (Is b) w w1) := Lib.hid (HK.out.trans (hk1.less (by simp)))
    have hw1 : w.heap.size < w1.heap.size := Nat.lt_of_lt_of_le hw0 hk1.size
    clear hR1 hk1 HQ HZ HK hw0
    go_wp2_with fail
    refine (ofText_any _ w1).mono ?_
    rintro e w2 ⟨rfl, hb2⟩
    have HR2 : Hid (RD w2 b s k) := Lib.hid ((hb2.block b HR1.out.lt).trans HR1.out)
    have HZ2 : Hid (Zero4 w2 w.heap.size) := Lib.hid (Box4.of_block HZ1.out (hb2.block _ hw1))
    obtain ⟨c0, c1, c2, c3, cz⟩ := HZ2.out
    have f0 := cz 0
    have f1 := cz 1
    have f2 := cz 2
    have f3 := cz 3
    have HK2 : Hid (Kp w.heap.size (Is b) w w2) := Lib.hid (HK1.out.trans (.of hb2 (Nat.le_of_lt hw1)))
    clear hb2 cz HR1 HZ1 HK1
    go_wp2_with fail
    refine bodyPost_ret (v := .tuple #[.agg #[.int .i64 3, .int .i64 0, .string ⟨#[]⟩, .slice none 0 0], .bool false]) (by simp [results, Tryz.results53, go_sem, *]) rfl ?_
    refine ⟨.none _ _ _ _ _ _, ?_, ?_⟩
    · exact (((HR2.out.far (by omega) _).far (by omega) _).far (by omega) _).far (by omega) _
    · exact (((HK2.out.own (Nat.le_refl _) _).own (Nat.le_refl _) _).own (Nat.le_refl _) _).own (Nat.le_refl _) _
  | ok C k =>
    go_enter Tryz.func53, Tryz.ntmps53
    go_wp2_with fail
    refine HQ.out.mono ?_
    rintro e w1 ⟨he, hR1, hk1⟩
    obtain rfl : e = .returned (.tuple #[.string (str C), .bool true]) := he
    have HR1 : Hid (RD w1 b s k) := Lib.hid hR1
    have HZ1 : Hid (Zero4 w1 w.heap.size) := Lib.hid (Box4.kp HZ.out hk1 hw0 (by unfold Is; omega))
    have HK1 : Hid (Kp w.heap.size (Is b) w w1) := Lib.hid (HK.out.trans (hk1.less (by simp)))
    have hw1 : w.heap.size < w1.heap.size := Nat.lt_of_lt_of_le hw0 hk1.size
    clear hR1 hk1 HQ HZ HK hw0
    go_wp2_with fail
    refine (ofText_any _ w1).mono ?_
    rintro e w2 ⟨rfl, hb2⟩
    have HR2 : Hid (RD w2 b s k) := Lib.hid ((hb2.block b HR1.out.lt).trans HR1.out)
    have HZ2 : Hid (Zero4 w2 w.heap.size) := Lib.hid (Box4.of_block HZ1.out (hb2.block _ hw1))
    obtain ⟨c0, c1, c2, c3, cz⟩ := HZ2.out
    have f0 := cz 0
    have f1 := cz 1
    have f2 := cz 2
    have f3 := cz 3
    have HK2 : Hid (Kp w.heap.size (Is b) w w2) := Lib.hid (HK1.out.trans (.of hb2 (Nat.le_of_lt hw1)))
    clear hb2 cz HR1 HZ1 HK1
    go_wp2_with fail
    refine bodyPost_ret (v := .tuple #[.agg #[.int .i64 3, .int .i64 0, .string (str C), .slice none 0 0], .bool true]) (by simp [results, Tryz.results53, go_sem, *]) rfl ?_
    refine ⟨.plain _ _ _ _ _ _, ?_, ?_⟩
    · exact (((HR2.out.far (by omega) _).far (by omega) _).far (by omega) _).far (by omega) _
    · exact (((HK2.out.own (Nat.le_refl _) _).own (Nat.le_refl _) _).own (Nat.le_refl _) _).own (Nat.le_refl _) _
set_option maxRecDepth 100000 in
set_option maxHeartbeats 1600000 in
theorem quotedPattern_any (w : World) (b : Nat) (s : ByteArray) (i : Nat) (h : RD w b s i) (hi : i < s.size) (hs : s.size ≤ 1000000) :
    Calls Tryz.prog 54 #[.pointer (some ⟨b, 0, none⟩)] w (OutV (Is b) b s w (patL s.data.toList (i + 1))) := by
  have hblt : b < w.heap.size := h.lt
  have hr0 : RD (w.alloc (.cells #[.int .i64 0, .int .i64 0, .string ⟨#[]⟩, .slice none 0 0] 34)) b s i := h.alloc _
  have h1 := hr0.at
  have f1 := hr0.free 1
  have hR0 : RD ((w.setCell ⟨b, 1, none⟩ (.int .i64 ((i : Int) + 1))).alloc (.cells #[.int .i64 0, .int .i64 0, .string ⟨#[]⟩, .slice none 0 0] 34)) b s (i + 1) := RD.alloc (h.move (i + 1)) _
  have HQ : Hid (Calls Tryz.prog 28 #[.pointer (some ⟨b, 0, none⟩), .agg #[.int .i64 1, .int .i64 40, .bool false, .slice none 0 0, .int .i64 0, .int .u8 0]] ((w.setCell ⟨b, 1, none⟩ (.int .i64 ((i : Int) + 1))).alloc (.cells #[.int .i64 0, .int .i64 0, .string ⟨#[]⟩, .slice none 0 0] 34)) fun e w' => QuE (qL 1 40 false s.data.toList (i + 1)) e ∧ RD w' b s (qL 1 40 false s.data.toList (i + 1)).fin ∧ Kp ((w.setCell ⟨b, 1, none⟩ (.int .i64 ((i : Int) + 1))).alloc (.cells #[.int .i64 0, .int .i64 0, .string ⟨#[]⟩, .slice none 0 0] 34)).heap.size (Is b) ((w.setCell ⟨b, 1, none⟩ (.int .i64 ((i : Int) + 1))).alloc (.cells #[.int .i64 0, .int .i64 0, .string ⟨#[]⟩, .slice none 0 0] 34)) w') :=
    Lib.hid (quoted_any _ b 1 40 false s (i + 1) hR0 hi hs (by decide) (by decide) (by decide))
  have HZ : Hid (Zero4 ((w.setCell ⟨b, 1, none⟩ (.int .i64 ((i : Int) + 1))).alloc (.cells #[.int .i64 0, .int .i64 0, .string ⟨#[]⟩, .slice none 0 0] 34)) w.heap.size) := Lib.hid (by
    have := zero4_new (w.setCell ⟨b, 1, none⟩ (.int .i64 ((i : Int) + 1)))
    rwa [size_set'] at this)
  have HK : Hid (Kp w.heap.size (Is b) w ((w.setCell ⟨b, 1, none⟩ (.int .i64 ((i : Int) + 1))).alloc (.cells #[.int .i64 0, .int .i64 0, .string ⟨#[]⟩, .slice none 0 0] 34))) := Lib.hid (((Kp.refl _ _ w).set ⟨b, 1, none⟩ (Is.self b) _).alloc (by rw [size_set']; exact Nat.le_refl _) _)
  have hw0 : w.heap.size < ((w.setCell ⟨b, 1, none⟩ (.int .i64 ((i : Int) + 1))).alloc (.cells #[.int .i64 0, .int .i64 0, .string ⟨#[]⟩, .slice none 0 0] 34)).heap.size := by simp [World.setCell]
  clear hr0 hR0
  unfold patL
  generalize qL 1 40 false s.data.toList (i + 1) = r at *
  clear h
  cases r with
  | bad k =>
    go_enter Tryz.func54, Tryz.ntmps54
    go_wp2_with fail
    refine HQ.out.mono ?_
    rintro e w1 ⟨he, hR1, hk1⟩
    obtain rfl : e = .returned (.tuple #[.string ⟨#[]⟩, .bool false]) := he
    have HR1 : Hid (RD w1 b s k) := Lib.hid hR1
    have HZ1 : Hid (Zero4 w1 w.heap.size) := Lib.hid (Box4.kp HZ.out hk1 hw0 (by unfold Is; omega))
    have HK1 : Hid (Kp w.heap.size (Is b) w w1) := Lib.hid (HK.out.trans (hk1.less (by simp [World.setCell])))
    have hw1 : w.heap.size < w1.heap.size := Nat.lt_of_lt_of_le hw0 hk1.size
    clear hR1 hk1 HQ HZ HK hw0
    go_wp2_with fail
    refine (ofPattern_any _ w1).mono ?_
    rintro e w2 ⟨rfl, hb2⟩
    have HR2 : Hid (RD w2 b s k) := Lib.hid ((hb2.block b HR1.out.lt).trans HR1.out)
    have HZ2 : Hid (Zero4 w2 w.heap.size) := Lib.hid (Box4.of_block HZ1.out (hb2.block _ hw1))
    obtain ⟨c0, c1, c2, c3, cz⟩ := HZ2.out
    have f0 := cz 0
    have f1 := cz 1
    have f2 := cz 2
    have f3 := cz 3
    have HK2 : Hid (Kp w.heap.size (Is b) w w2) := Lib.hid (HK1.out.trans (.of hb2 (Nat.le_of_lt hw1)))
    clear hb2 cz HR1 HZ1 HK1
    go_wp2_with fail
    refine bodyPost_ret (v := .tuple #[.agg #[.int .i64 8, .int .i64 0, .string ⟨#[]⟩, .slice none 0 0], .bool false]) (by simp [results, Tryz.results54, go_sem, *]) rfl ?_
    refine ⟨.none _ _ _ _ _ _, ?_, ?_⟩
    · exact (((HR2.out.far (by omega) _).far (by omega) _).far (by omega) _).far (by omega) _
    · exact (((HK2.out.own (Nat.le_refl _) _).own (Nat.le_refl _) _).own (Nat.le_refl _) _).own (Nat.le_refl _) _
  | ok C k =>
    go_enter Tryz.func54, Tryz.ntmps54
    go_wp2_with fail
    refine HQ.out.mono ?_
    rintro e w1 ⟨he, hR1, hk1⟩
    obtain rfl : e = .returned (.tuple #[.string (str C), .bool true]) := he
    have HR1 : Hid (RD w1 b s k) := Lib.hid hR1
    have HZ1 : Hid (Zero4 w1 w.heap.size) := Lib.hid (Box4.kp HZ.out hk1 hw0 (by unfold Is; omega))
    have HK1 : Hid (Kp w.heap.size (Is b) w w1) := Lib.hid (HK.out.trans (hk1.less (by simp [World.setCell])))
    have hw1 : w.heap.size < w1.heap.size := Nat.lt_of_lt_of_le hw0 hk1.size
    clear hR1 hk1 HQ HZ HK hw0
    go_wp2_with fail
    refine (ofPattern_any _ w1).mono ?_
    rintro e w2 ⟨rfl, hb2⟩
    have HR2 : Hid (RD w2 b s k) := Lib.hid ((hb2.block b HR1.out.lt).trans HR1.out)
    have HZ2 : Hid (Zero4 w2 w.heap.size) := Lib.hid (Box4.of_block HZ1.out (hb2.block _ hw1))
    obtain ⟨c0, c1, c2, c3, cz⟩ := HZ2.out
    have f0 := cz 0
    have f1 := cz 1
    have f2 := cz 2
    have f3 := cz 3
    have HK2 : Hid (Kp w.heap.size (Is b) w w2) := Lib.hid (HK1.out.trans (.of hb2 (Nat.le_of_lt hw1)))
    clear hb2 cz HR1 HZ1 HK1
    go_wp2_with fail
    refine bodyPost_ret (v := .tuple #[.agg #[.int .i64 8, .int .i64 0, .string (str C), .slice none 0 0], .bool true]) (by simp [results, Tryz.results54, go_sem, *]) rfl ?_
    refine ⟨.plain _ _ _ _ _ _, ?_, ?_⟩
    · exact (((HR2.out.far (by omega) _).far (by omega) _).far (by omega) _).far (by omega) _
    · exact (((HK2.out.own (Nat.le_refl _) _).own (Nat.le_refl _) _).own (Nat.le_refl _) _).own (Nat.le_refl _) _
end Go.Proofs.YtmbmlcnipncgnaaGreatDoor
