/-
  element of the reference. Nothing is assumed.
-/
import Derived.Test.YtmbmlcnipncgnaaGreatDoorLtRefL2
import Derived.Test.YtmbmlcnipncgnaaGreatDoorLtRefL3
import Derived.Test.YtmbmlcnipncgnaaGreatDoorLtRefT
import Derived.Test.YtmbmlcnipncgnaaGreatDoorLtTable2
namespace Go.Proofs.YtmbmlcnipncgnaaGreatDoor
open Go.RowKit

theorem ROutE.shape {w w1 : World} {r : PR V} {e : Ending} (h : ROutE w w1 r e) : ∃ (t n : Int) (S : ByteArray) (oe : Option Addr) (m ce : Nat), e = .returned (.tuple #[.agg #[.int .i64 t, .int .i64 n, .string S, .slice oe m ce], .int .i64 (r.fin : Int), .bool r.good]) := by
  cases r with
  | bad i =>
    obtain ⟨t, n, S, he⟩ := h
    exact ⟨t, n, S, Option.none, 0, 0, he⟩
  | ok v i =>
    obtain ⟨oe, ce, he, hr⟩ := h
    exact ⟨_, _, _, oe, _, ce, he⟩
theorem ROutE.kp {w w1 w2 : World} {r : PR V} {e : Ending} (h : ROutE w w1 r e) (hk : Kp w1.heap.size (fun k => k < w.heap.size) w1 w2) : ROutE w w2 r e := by
  cases r with
  | bad i => exact h
  | ok v i =>
    obtain ⟨oe, ce, he, hr⟩ := h
    exact ⟨oe, ce, he, hk.rep hr (Nat.le_refl _) (fun k h1 _ h2 => by omega) (Nat.le_refl _) hk.size⟩
theorem ROutE.lower {w w0 w1 : World} {r : PR V} {e : Ending} (h : ROutE w0 w1 r e) (hw : w.heap.size ≤ w0.heap.size) : ROutE w w1 r e := by
  cases r with
  | bad i => exact h
  | ok v i =>
    obtain ⟨oe, ce, he, hr⟩ := h
    exact ⟨oe, ce, he, hr.later (fun b hb => ⟨Nat.le_trans hw hb.1, hb.2⟩) fun _ _ _ => rfl⟩
theorem set4_kp' {w1 : World} {n : Nat} (x0 x1 x2 x3 : Value) : Kp w1.heap.size (Is n) w1 ((((w1.setCell ⟨n, 0, none⟩ x0).setCell ⟨n, 1, none⟩ x1).setCell ⟨n, 2, none⟩ x2).setCell ⟨n, 3, none⟩ x3) :=
  ((((Kp.refl w1.heap.size (Is n) w1).set ⟨n, 0, none⟩ (Is.self n) x0).set ⟨n, 1, none⟩ (Is.self n) x1).set ⟨n, 2, none⟩ (Is.self n) x2).set ⟨n, 3, none⟩ (Is.self n) x3
theorem rout_end {w w0 w1 : World} {r : PR V} {e : Ending} (h : ROutE w0 w1 r e) (hw : w.heap.size < w0.heap.size) (hB : Below w.heap.size w w1) (x0 x1 x2 x3 : Value) :
    ROutE w ((((w1.setCell ⟨w.heap.size, 0, none⟩ x0).setCell ⟨w.heap.size, 1, none⟩ x1).setCell ⟨w.heap.size, 2, none⟩ x2).setCell ⟨w.heap.size, 3, none⟩ x3) r e ∧ Below w.heap.size w ((((w1.setCell ⟨w.heap.size, 0, none⟩ x0).setCell ⟨w.heap.size, 1, none⟩ x1).setCell ⟨w.heap.size, 2, none⟩ x2).setCell ⟨w.heap.size, 3, none⟩ x3) :=
  ⟨(h.kp ((set4_kp' x0 x1 x2 x3).mono (Nat.le_refl _) (fun k _ hk => by unfold Is at hk; omega))).lower (Nat.le_of_lt hw), below_set4 (o := 0) hB (Nat.le_refl _) _ _ _ _⟩

set_option maxRecDepth 100000 in
set_option maxHeartbeats 1600000 in
theorem relem2_any (s : ByteArray) (i : Nat) (c : Int) (w : World) (hi : i ≤ s.size) (hs : s.size ≤ 1000000) :
    Calls Tryz.prog 45 #[.string s, .int .i64 (i : Int), .int .i64 2, .int .i64 c] w fun e w' => ROutE w w' (intL s.data.toList i) e ∧ Below w.heap.size w w' := by
  have HZ := Lib.hid (zero4_new w)
  have hb0 : Below w.heap.size w (w.alloc (.cells #[.int .i64 0, .int .i64 0, .string ⟨#[]⟩, .slice none 0 0] 34)) := below1 w _
  have hw0 : w.heap.size < (w.alloc (.cells #[.int .i64 0, .int .i64 0, .string ⟨#[]⟩, .slice none 0 0] 34)).heap.size := by simp
  have HC := Lib.hid (rinteger_any s i (w.alloc (.cells #[.int .i64 0, .int .i64 0, .string ⟨#[]⟩, .slice none 0 0] 34)) hi hs)
  go_enter Tryz.func45, Tryz.ntmps45
  go_wp2_with fail
  refine (HC.out).mono ?_
  rintro e w1 ⟨he, hbc⟩
  have hb1 : Below w.heap.size w w1 := hb0.trans (hbc.mono (by simp))
  obtain ⟨c0, c1, c2, c3, cz⟩ := Box4.later HZ.out hbc hw0
  have f0 := cz 0
  have f1 := cz 1
  have f2 := cz 2
  have f3 := cz 3
  have HE := Lib.hid he
  have HB1 := Lib.hid hb1
  obtain ⟨t1, n1, S1, oe, ml, ce, rfl⟩ := he.shape
  clear hbc HC HZ he cz hb0 hb1
  go_wp2_with fail
  refine bodyPost_ret (v := .tuple #[.agg #[.int .i64 t1, .int .i64 n1, .string S1, .slice oe ml ce], .int .i64 ((intL s.data.toList i).fin : Int), .bool (intL s.data.toList i).good]) (by simp [results, Tryz.results45, go_sem, *]) rfl ?_
  exact rout_end HE.out hw0 HB1.out _ _ _ _

set_option maxRecDepth 100000 in
set_option maxHeartbeats 1600000 in
theorem relem3_any (s : ByteArray) (jj : Nat) (c : Int) (w : World) (hi : jj ≤ s.size) (hs : s.size ≤ 1000000) :
    Calls Tryz.prog 45 #[.string s, .int .i64 (jj : Int), .int .i64 3, .int .i64 c] w fun e w' => ROutE w w' (textL s.data.toList jj) e ∧ Below w.heap.size w w' := by
  have HZ := Lib.hid (zero4_new w)
  have hb0 : Below w.heap.size w (w.alloc (.cells #[.int .i64 0, .int .i64 0, .string ⟨#[]⟩, .slice none 0 0] 34)) := below1 w _
  have hw0 : w.heap.size < (w.alloc (.cells #[.int .i64 0, .int .i64 0, .string ⟨#[]⟩, .slice none 0 0] 34)).heap.size := by simp
  have HC : Hid (Calls Tryz.prog 46 #[.string s, .int .i64 (jj : Int), .int .i64 0, .int .i64 64, .bool false] (w.alloc (.cells #[.int .i64 0, .int .i64 0, .string ⟨#[]⟩, .slice none 0 0] 34)) fun e w' => RQuE (qL 0 64 false s.data.toList jj) e ∧ Below (w.alloc (.cells #[.int .i64 0, .int .i64 0, .string ⟨#[]⟩, .slice none 0 0] 34)).heap.size (w.alloc (.cells #[.int .i64 0, .int .i64 0, .string ⟨#[]⟩, .slice none 0 0] 34)) w') := Lib.hid (rquoted_any s jj 0 64 false (w.alloc (.cells #[.int .i64 0, .int .i64 0, .string ⟨#[]⟩, .slice none 0 0] 34)) hi hs (by decide) (by decide))
  unfold textL
  generalize qL 0 64 false s.data.toList jj = r at *
  cases r with
  | bad k =>
    go_enter Tryz.func45, Tryz.ntmps45
    go_wp2_with fail
    refine HC.out.mono ?_
    rintro e w1 ⟨he, hbc⟩
    obtain rfl : e = .returned (.tuple #[.string ⟨#[]⟩, .int .i64 (k : Int), .bool false]) := he
    have hb1 : Below w.heap.size w w1 := hb0.trans (hbc.mono (by simp))
    obtain ⟨c0, c1, c2, c3, cz⟩ := Box4.later HZ.out hbc hw0
    have f0 := cz 0
    have f1 := cz 1
    have f2 := cz 2
    have f3 := cz 3
    have HB1 := Lib.hid hb1
    clear hbc HC HZ cz hb0 hb1
    go_wp2_with fail
    refine bodyPost_ret (v := .tuple #[.agg #[.int .i64 3, .int .i64 0, .string ⟨#[]⟩, .slice none 0 0], .int .i64 (k : Int), .bool false]) (by simp [results, Tryz.results45, go_sem, *]) rfl ?_
    exact ⟨.bad _ _ _ _ _ _, below_set4 (o := 0) HB1.out (Nat.le_refl _) _ _ _ _⟩
  | ok C k =>
    go_enter Tryz.func45, Tryz.ntmps45
    go_wp2_with fail
    refine HC.out.mono ?_
    rintro e w1 ⟨he, hbc⟩
    obtain rfl : e = .returned (.tuple #[.string (str C), .int .i64 (k : Int), .bool true]) := he
    have hb1 : Below w.heap.size w w1 := hb0.trans (hbc.mono (by simp))
    obtain ⟨c0, c1, c2, c3, cz⟩ := Box4.later HZ.out hbc hw0
    have f0 := cz 0
    have f1 := cz 1
    have f2 := cz 2
    have f3 := cz 3
    have HB1 := Lib.hid hb1
    clear hbc HC HZ cz hb0 hb1
    go_wp2_with fail
    refine bodyPost_ret (v := .tuple #[.agg #[.int .i64 3, .int .i64 0, .string (str C), .slice none 0 0], .int .i64 (k : Int), .bool true]) (by simp [results, Tryz.results45, go_sem, *]) rfl ?_
    exact ⟨.plain _ _ _ _ _ _, below_set4 (o := 0) HB1.out (Nat.le_refl _) _ _ _ _⟩

set_option maxRecDepth 100000 in
set_option maxHeartbeats 1600000 in
theorem relem6_any (s : ByteArray) (jj : Nat) (w : World) (_hi : jj ≤ s.size) (hs : s.size ≤ 1000000) :
    Calls Tryz.prog 45 #[.string s, .int .i64 (jj : Int), .int .i64 6, .int .i64 (-1)] w fun e w' => ROutE w w' (textsL (0) (16) s.data.toList jj) e ∧ Below w.heap.size w w' := by
  rw [textsL_at]
  have HPK := Lib.hid (fun w => rat_any s jj w)
  by_cases h123 : pk s.data.toList jj = 123
  · have q123 : ((pk s.data.toList jj : Int) != 123) = false := by rw [h123]; rfl
    have hjl := pos_of_pk h123 (by decide)
    rw [lt_len] at hjl
    rw [if_pos h123]
    have HZ := Lib.hid (zero4_new w)
    have hb0 : Below w.heap.size w (w.alloc (.cells #[.int .i64 0, .int .i64 0, .string ⟨#[]⟩, .slice none 0 0] 34)) := below1 w _
    have hw0 : w.heap.size < (w.alloc (.cells #[.int .i64 0, .int .i64 0, .string ⟨#[]⟩, .slice none 0 0] 34)).heap.size := by simp
    have HC : Hid (Calls Tryz.prog 47 #[.string s, .int .i64 ((jj : Int) + 1), .int .i64 3, .int .i64 (0), .int .i64 (16), .int .u8 125] (w.alloc (.cells #[.int .i64 0, .int .i64 0, .string ⟨#[]⟩, .slice none 0 0] 34)) fun e w' => RLsE (w.alloc (.cells #[.int .i64 0, .int .i64 0, .string ⟨#[]⟩, .slice none 0 0] 34)) w' (itemsL (fun _ j => textL s.data.toList j) 125 (0) s.data.toList (16) [] (jj + 1)) e ∧ Below (w.alloc (.cells #[.int .i64 0, .int .i64 0, .string ⟨#[]⟩, .slice none 0 0] 34)).heap.size (w.alloc (.cells #[.int .i64 0, .int .i64 0, .string ⟨#[]⟩, .slice none 0 0] 34)) w') :=
      Lib.hid (rlist_3 s (jj + 1) (0) (16) (w.alloc (.cells #[.int .i64 0, .int .i64 0, .string ⟨#[]⟩, .slice none 0 0] 34)) hjl hs (by omega) (fun _ j => textL s.data.toList j) (fun _ => True) (fun acc j w' _ hj => relem3_any s j (headC acc : Int) w' hj hs) trivial (fun _ _ _ _ _ _ => trivial) (fun _ j hj => by
        have := textL_bd s.data.toList j (by rw [lt_len]; exact hj)
        rwa [lt_len] at this))
    generalize itemsL (fun _ j => textL s.data.toList j) 125 (0) s.data.toList (16) [] (jj + 1) = r at *
    clear h123
    cases r with
    | bad k =>
      go_enter Tryz.func45, Tryz.ntmps45
      go_wp2_with fail
      refine (HPK.out _).mono ?_
      rintro e w' ⟨rfl, hw'⟩; obtain rfl := hw'.symm
      go_wp2_with fail
      refine HC.out.mono ?_
      rintro e w1 ⟨he, hbc⟩
      obtain rfl : e = .returned (.tuple #[.slice none 0 0, .int .i64 (k : Int), .bool false]) := he
      have hb1 : Below w.heap.size w w1 := hb0.trans (hbc.mono (by simp))
      obtain ⟨c0, c1, c2, c3, cz⟩ := Box4.later HZ.out hbc hw0
      have f0 := cz 0
      have f1 := cz 1
      have f2 := cz 2
      have f3 := cz 3
      have HB1 := Lib.hid hb1
      clear hbc HC HZ cz hb0 hb1
      go_wp2_with fail
      refine bodyPost_ret (v := .tuple #[.agg #[.int .i64 6, .int .i64 0, .string ⟨#[]⟩, .slice none 0 0], .int .i64 (k : Int), .bool false]) (by simp [results, Tryz.results45, go_sem, *]) rfl ?_
      exact ⟨.bad _ _ _ _ _ _, below_set4 (o := 0) HB1.out (Nat.le_refl _) _ _ _ _⟩
    | ok l k =>
      go_enter Tryz.func45, Tryz.ntmps45
      go_wp2_with fail
      refine (HPK.out _).mono ?_
      rintro e w' ⟨rfl, hw'⟩; obtain rfl := hw'.symm
      go_wp2_with fail
      refine HC.out.mono ?_
      rintro e w1 ⟨⟨oe, ce, rfl, hrep⟩, hbc⟩
      have hb1 : Below w.heap.size w w1 := hb0.trans (hbc.mono (by simp))
      obtain ⟨c0, c1, c2, c3, cz⟩ := Box4.later HZ.out hbc hw0
      have f0 := cz 0
      have f1 := cz 1
      have f2 := cz 2
      have f3 := cz 3
      have HB1 := Lib.hid hb1
      have HP2 := Lib.hid hrep
      clear hbc HC HZ cz hb0 hb1 hrep
      go_wp2_with fail
      refine bodyPost_ret (v := .tuple #[.agg #[.int .i64 6, .int .i64 0, .string ⟨#[]⟩, .slice oe l.length ce], .int .i64 (k : Int), .bool true]) (by simp [results, Tryz.results45, go_sem, *]) rfl ?_
      exact ⟨⟨oe, ce, rfl, rep4 HP2.out (by simp) _ (by simp) _ _ _ _⟩, below_set4 (o := 0) HB1.out (Nat.le_refl _) _ _ _ _⟩
  · have q123 : ((pk s.data.toList jj : Int) != 123) = true := by rw [bne_iff_ne]; omega
    rw [if_neg h123]
    clear h123
    go_enter Tryz.func45, Tryz.ntmps45
    go_wp2_with fail
    refine (HPK.out _).mono ?_
    rintro e w' ⟨rfl, hw'⟩; obtain rfl := hw'.symm
    go_wp2_with fail
    refine bodyPost_ret (v := .tuple #[.agg #[.int .i64 0, .int .i64 0, .string ⟨#[]⟩, .slice none 0 0], .int .i64 (jj : Int), .bool false]) (by simp [results, Tryz.results45, go_sem, *]) rfl ?_
    exact ⟨.bad _ _ _ _ _ _, below1 _ _⟩

set_option maxRecDepth 100000 in
set_option maxHeartbeats 1600000 in
theorem relem6_none (s : ByteArray) (jj : Nat) (w : World) (_hi : jj ≤ s.size) (hs : s.size ≤ 1000000) :
    Calls Tryz.prog 45 #[.string s, .int .i64 (jj : Int), .int .i64 6, .int .i64 0] w fun e w' => ROutE w w' (textsL (1) (8) s.data.toList jj) e ∧ Below w.heap.size w w' := by
  rw [textsL_at]
  have HPK := Lib.hid (fun w => rat_any s jj w)
  by_cases h123 : pk s.data.toList jj = 123
  · have q123 : ((pk s.data.toList jj : Int) != 123) = false := by rw [h123]; rfl
    have hjl := pos_of_pk h123 (by decide)
    rw [lt_len] at hjl
    rw [if_pos h123]
    have HZ := Lib.hid (zero4_new w)
    have hb0 : Below w.heap.size w (w.alloc (.cells #[.int .i64 0, .int .i64 0, .string ⟨#[]⟩, .slice none 0 0] 34)) := below1 w _
    have hw0 : w.heap.size < (w.alloc (.cells #[.int .i64 0, .int .i64 0, .string ⟨#[]⟩, .slice none 0 0] 34)).heap.size := by simp
    have HC : Hid (Calls Tryz.prog 47 #[.string s, .int .i64 ((jj : Int) + 1), .int .i64 3, .int .i64 (1), .int .i64 (8), .int .u8 125] (w.alloc (.cells #[.int .i64 0, .int .i64 0, .string ⟨#[]⟩, .slice none 0 0] 34)) fun e w' => RLsE (w.alloc (.cells #[.int .i64 0, .int .i64 0, .string ⟨#[]⟩, .slice none 0 0] 34)) w' (itemsL (fun _ j => textL s.data.toList j) 125 (1) s.data.toList (8) [] (jj + 1)) e ∧ Below (w.alloc (.cells #[.int .i64 0, .int .i64 0, .string ⟨#[]⟩, .slice none 0 0] 34)).heap.size (w.alloc (.cells #[.int .i64 0, .int .i64 0, .string ⟨#[]⟩, .slice none 0 0] 34)) w') :=
      Lib.hid (rlist_3 s (jj + 1) (1) (8) (w.alloc (.cells #[.int .i64 0, .int .i64 0, .string ⟨#[]⟩, .slice none 0 0] 34)) hjl hs (by omega) (fun _ j => textL s.data.toList j) (fun _ => True) (fun acc j w' _ hj => relem3_any s j (headC acc : Int) w' hj hs) trivial (fun _ _ _ _ _ _ => trivial) (fun _ j hj => by
        have := textL_bd s.data.toList j (by rw [lt_len]; exact hj)
        rwa [lt_len] at this))
    generalize itemsL (fun _ j => textL s.data.toList j) 125 (1) s.data.toList (8) [] (jj + 1) = r at *
    clear h123
    cases r with
    | bad k =>
      go_enter Tryz.func45, Tryz.ntmps45
      go_wp2_with fail
      refine (HPK.out _).mono ?_
      rintro e w' ⟨rfl, hw'⟩; obtain rfl := hw'.symm
      go_wp2_with fail
      refine HC.out.mono ?_
      rintro e w1 ⟨he, hbc⟩
      obtain rfl : e = .returned (.tuple #[.slice none 0 0, .int .i64 (k : Int), .bool false]) := he
      have hb1 : Below w.heap.size w w1 := hb0.trans (hbc.mono (by simp))
      obtain ⟨c0, c1, c2, c3, cz⟩ := Box4.later HZ.out hbc hw0
      have f0 := cz 0
      have f1 := cz 1
      have f2 := cz 2
      have f3 := cz 3
      have HB1 := Lib.hid hb1
      clear hbc HC HZ cz hb0 hb1
      go_wp2_with fail
      refine bodyPost_ret (v := .tuple #[.agg #[.int .i64 6, .int .i64 0, .string ⟨#[]⟩, .slice none 0 0], .int .i64 (k : Int), .bool false]) (by simp [results, Tryz.results45, go_sem, *]) rfl ?_
      exact ⟨.bad _ _ _ _ _ _, below_set4 (o := 0) HB1.out (Nat.le_refl _) _ _ _ _⟩
    | ok l k =>
      go_enter Tryz.func45, Tryz.ntmps45
      go_wp2_with fail
      refine (HPK.out _).mono ?_
      rintro e w' ⟨rfl, hw'⟩; obtain rfl := hw'.symm
      go_wp2_with fail
      refine HC.out.mono ?_
      rintro e w1 ⟨⟨oe, ce, rfl, hrep⟩, hbc⟩
      have hb1 : Below w.heap.size w w1 := hb0.trans (hbc.mono (by simp))
      obtain ⟨c0, c1, c2, c3, cz⟩ := Box4.later HZ.out hbc hw0
      have f0 := cz 0
      have f1 := cz 1
      have f2 := cz 2
      have f3 := cz 3
      have HB1 := Lib.hid hb1
      have HP2 := Lib.hid hrep
      clear hbc HC HZ cz hb0 hb1 hrep
      go_wp2_with fail
      refine bodyPost_ret (v := .tuple #[.agg #[.int .i64 6, .int .i64 0, .string ⟨#[]⟩, .slice oe l.length ce], .int .i64 (k : Int), .bool true]) (by simp [results, Tryz.results45, go_sem, *]) rfl ?_
      exact ⟨⟨oe, ce, rfl, rep4 HP2.out (by simp) _ (by simp) _ _ _ _⟩, below_set4 (o := 0) HB1.out (Nat.le_refl _) _ _ _ _⟩
  · have q123 : ((pk s.data.toList jj : Int) != 123) = true := by rw [bne_iff_ne]; omega
    rw [if_neg h123]
    clear h123
    go_enter Tryz.func45, Tryz.ntmps45
    go_wp2_with fail
    refine (HPK.out _).mono ?_
    rintro e w' ⟨rfl, hw'⟩; obtain rfl := hw'.symm
    go_wp2_with fail
    refine bodyPost_ret (v := .tuple #[.agg #[.int .i64 0, .int .i64 0, .string ⟨#[]⟩, .slice none 0 0], .int .i64 (jj : Int), .bool false]) (by simp [results, Tryz.results45, go_sem, *]) rfl ?_
    exact ⟨.bad _ _ _ _ _ _, below1 _ _⟩

set_option maxRecDepth 100000 in
set_option maxHeartbeats 1600000 in
theorem relem6_some (s : ByteArray) (jj : Nat) (c : Nat) (hc : 0 < c) (hc2 : c ≤ 8) (w : World) (_hi : jj ≤ s.size) (hs : s.size ≤ 1000000) :
    Calls Tryz.prog 45 #[.string s, .int .i64 (jj : Int), .int .i64 6, .int .i64 (c : Int)] w fun e w' => ROutE w w' (textsL (c) (c) s.data.toList jj) e ∧ Below w.heap.size w w' := by
  rw [textsL_at]
  have HPK := Lib.hid (fun w => rat_any s jj w)
  by_cases h123 : pk s.data.toList jj = 123
  · have q123 : ((pk s.data.toList jj : Int) != 123) = false := by rw [h123]; rfl
    have hjl := pos_of_pk h123 (by decide)
    rw [lt_len] at hjl
    rw [if_pos h123]
    have hc0 : ((c : Int) == 0) = false := by rw [beq_eq_false_iff_ne]; omega
    have hc1 : (0 : Int) < (c : Int) := by omega
    have HZ := Lib.hid (zero4_new w)
    have hb0 : Below w.heap.size w (w.alloc (.cells #[.int .i64 0, .int .i64 0, .string ⟨#[]⟩, .slice none 0 0] 34)) := below1 w _
    have hw0 : w.heap.size < (w.alloc (.cells #[.int .i64 0, .int .i64 0, .string ⟨#[]⟩, .slice none 0 0] 34)).heap.size := by simp
    have HC : Hid (Calls Tryz.prog 47 #[.string s, .int .i64 ((jj : Int) + 1), .int .i64 3, .int .i64 ((c : Int)), .int .i64 ((c : Int)), .int .u8 125] (w.alloc (.cells #[.int .i64 0, .int .i64 0, .string ⟨#[]⟩, .slice none 0 0] 34)) fun e w' => RLsE (w.alloc (.cells #[.int .i64 0, .int .i64 0, .string ⟨#[]⟩, .slice none 0 0] 34)) w' (itemsL (fun _ j => textL s.data.toList j) 125 (c) s.data.toList (c) [] (jj + 1)) e ∧ Below (w.alloc (.cells #[.int .i64 0, .int .i64 0, .string ⟨#[]⟩, .slice none 0 0] 34)).heap.size (w.alloc (.cells #[.int .i64 0, .int .i64 0, .string ⟨#[]⟩, .slice none 0 0] 34)) w') :=
      Lib.hid (rlist_3 s (jj + 1) (c) (c) (w.alloc (.cells #[.int .i64 0, .int .i64 0, .string ⟨#[]⟩, .slice none 0 0] 34)) hjl hs (by omega) (fun _ j => textL s.data.toList j) (fun _ => True) (fun acc j w' _ hj => relem3_any s j (headC acc : Int) w' hj hs) trivial (fun _ _ _ _ _ _ => trivial) (fun _ j hj => by
        have := textL_bd s.data.toList j (by rw [lt_len]; exact hj)
        rwa [lt_len] at this))
    generalize itemsL (fun _ j => textL s.data.toList j) 125 (c) s.data.toList (c) [] (jj + 1) = r at *
    clear h123
    cases r with
    | bad k =>
      go_enter Tryz.func45, Tryz.ntmps45
      go_wp2_with fail
      refine (HPK.out _).mono ?_
      rintro e w' ⟨rfl, hw'⟩; obtain rfl := hw'.symm
      go_wp2_with fail
      refine HC.out.mono ?_
      rintro e w1 ⟨he, hbc⟩
      obtain rfl : e = .returned (.tuple #[.slice none 0 0, .int .i64 (k : Int), .bool false]) := he
      have hb1 : Below w.heap.size w w1 := hb0.trans (hbc.mono (by simp))
      obtain ⟨c0, c1, c2, c3, cz⟩ := Box4.later HZ.out hbc hw0
      have f0 := cz 0
      have f1 := cz 1
      have f2 := cz 2
      have f3 := cz 3
      have HB1 := Lib.hid hb1
      clear hbc HC HZ cz hb0 hb1
      go_wp2_with fail
      refine bodyPost_ret (v := .tuple #[.agg #[.int .i64 6, .int .i64 0, .string ⟨#[]⟩, .slice none 0 0], .int .i64 (k : Int), .bool false]) (by simp [results, Tryz.results45, go_sem, *]) rfl ?_
      exact ⟨.bad _ _ _ _ _ _, below_set4 (o := 0) HB1.out (Nat.le_refl _) _ _ _ _⟩
    | ok l k =>
      go_enter Tryz.func45, Tryz.ntmps45
      go_wp2_with fail
      refine (HPK.out _).mono ?_
      rintro e w' ⟨rfl, hw'⟩; obtain rfl := hw'.symm
      go_wp2_with fail
      refine HC.out.mono ?_
      rintro e w1 ⟨⟨oe, ce, rfl, hrep⟩, hbc⟩
      have hb1 : Below w.heap.size w w1 := hb0.trans (hbc.mono (by simp))
      obtain ⟨c0, c1, c2, c3, cz⟩ := Box4.later HZ.out hbc hw0
      have f0 := cz 0
      have f1 := cz 1
      have f2 := cz 2
      have f3 := cz 3
      have HB1 := Lib.hid hb1
      have HP2 := Lib.hid hrep
      clear hbc HC HZ cz hb0 hb1 hrep
      go_wp2_with fail
      refine bodyPost_ret (v := .tuple #[.agg #[.int .i64 6, .int .i64 0, .string ⟨#[]⟩, .slice oe l.length ce], .int .i64 (k : Int), .bool true]) (by simp [results, Tryz.results45, go_sem, *]) rfl ?_
      exact ⟨⟨oe, ce, rfl, rep4 HP2.out (by simp) _ (by simp) _ _ _ _⟩, below_set4 (o := 0) HB1.out (Nat.le_refl _) _ _ _ _⟩
  · have q123 : ((pk s.data.toList jj : Int) != 123) = true := by rw [bne_iff_ne]; omega
    rw [if_neg h123]
    clear h123
    go_enter Tryz.func45, Tryz.ntmps45
    go_wp2_with fail
    refine (HPK.out _).mono ?_
    rintro e w' ⟨rfl, hw'⟩; obtain rfl := hw'.symm
    go_wp2_with fail
    refine bodyPost_ret (v := .tuple #[.agg #[.int .i64 0, .int .i64 0, .string ⟨#[]⟩, .slice none 0 0], .int .i64 (jj : Int), .bool false]) (by simp [results, Tryz.results45, go_sem, *]) rfl ?_
    exact ⟨.bad _ _ _ _ _ _, below1 _ _⟩

end Go.Proofs.YtmbmlcnipncgnaaGreatDoor
