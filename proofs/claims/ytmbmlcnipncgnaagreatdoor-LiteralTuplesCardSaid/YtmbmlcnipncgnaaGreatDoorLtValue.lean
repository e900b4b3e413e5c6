/-
  value of the package. Nothing is assumed.
-/
import Derived.Test.YtmbmlcnipncgnaaGreatDoorLtTable2
import Derived.Test.YtmbmlcnipncgnaaGreatDoorLtBits
namespace Go.Proofs.YtmbmlcnipncgnaaGreatDoor
open Go.RowKit

theorem OutE.kp {w w1 w2 : World} {r : PR V} {e : Ending} (h : OutE w w1 r e) (hk : Kp w1.heap.size (fun k => k < w.heap.size) w1 w2) : OutE w w2 r e := by
  cases r with
  | bad i => exact h
  | ok v i =>
    obtain ⟨oe, ce, he, hr⟩ := h
    exact ⟨oe, ce, he, hk.rep hr (Nat.le_refl _) (fun k h1 _ h2 => by omega) (Nat.le_refl _) hk.size⟩
theorem OutE.shape {w w1 : World} {r : PR V} {e : Ending} (h : OutE w w1 r e) : ∃ (t n : Int) (S : ByteArray) (oe : Option Addr) (m ce : Nat), e = .returned (.tuple #[.agg #[.int .i64 t, .int .i64 n, .string S, .slice oe m ce], .bool r.good]) := by
  cases r with
  | bad i =>
    obtain ⟨t, n, S, he⟩ := h
    exact ⟨t, n, S, Option.none, 0, 0, he⟩
  | ok v i =>
    obtain ⟨oe, ce, he, hr⟩ := h
    exact ⟨_, _, _, oe, _, ce, he⟩
theorem OutE.lower {w w0 w1 : World} {r : PR V} {e : Ending} (h : OutE w0 w1 r e) (hw : w.heap.size ≤ w0.heap.size) : OutE w w1 r e := by
  cases r with
  | bad i => exact h
  | ok v i =>
    obtain ⟨oe, ce, he, hr⟩ := h
    exact ⟨oe, ce, he, hr.later (fun b hb => ⟨Nat.le_trans hw hb.1, hb.2⟩) fun _ _ _ => rfl⟩
theorem set4_kp {w1 : World} {n : Nat} (x0 x1 x2 x3 : Value) : Kp w1.heap.size (Is n) w1 ((((w1.setCell ⟨n, 0, none⟩ x0).setCell ⟨n, 1, none⟩ x1).setCell ⟨n, 2, none⟩ x2).setCell ⟨n, 3, none⟩ x3) :=
  ((((Kp.refl w1.heap.size (Is n) w1).set ⟨n, 0, none⟩ (Is.self n) x0).set ⟨n, 1, none⟩ (Is.self n) x1).set ⟨n, 2, none⟩ (Is.self n) x2).set ⟨n, 3, none⟩ (Is.self n) x3
/-- The end of value behind a reading of a kind. -/
theorem outV_end {w w0 w1 : World} {b : Nat} {s : ByteArray} {r : PR V} {e : Ending} (h : OutE w0 w1 r e) (hw : w.heap.size < w0.heap.size) (hb : b < w.heap.size) (hR : RD w1 b s r.fin) (hK : Kp w.heap.size (Is b) w w1) (x0 x1 x2 x3 : Value) :
    OutV (Is b) b s w r e ((((w1.setCell ⟨w.heap.size, 0, none⟩ x0).setCell ⟨w.heap.size, 1, none⟩ x1).setCell ⟨w.heap.size, 2, none⟩ x2).setCell ⟨w.heap.size, 3, none⟩ x3) :=
  ⟨(h.kp ((set4_kp x0 x1 x2 x3).mono (Nat.le_refl _) (fun k _ hk => by unfold Is at hk; omega))).lower (Nat.le_of_lt hw), hR.far4 (by omega) _ _ _ _, hK.own4 (Nat.le_refl _) _ _ _ _⟩
theorem eq_byte {c k : Nat} (h : c = k) : ((c : Int) == (k : Int)) = true := by rw [h]; simp
theorem ne_byte {c k : Nat} (h : c ≠ k) : ((c : Int) == (k : Int)) = false := by rw [beq_eq_false_iff_ne]; omega


set_option maxRecDepth 100000 in
set_option maxHeartbeats 1600000 in
theorem value_text (w : World) (b : Nat) (s : ByteArray) (i : Nat) (h : RD w b s i) (hi : i ≤ s.size) (hs : s.size ≤ 1000000) (hn116 : pk s.data.toList i ≠ 116) (hn102 : pk s.data.toList i ≠ 102) (hc : pk s.data.toList i = 34) :
    Calls Tryz.prog 26 #[.pointer (some ⟨b, 0, none⟩)] w (OutV (Is b) b s w (textL s.data.toList i)) := by
  have hblt : b < w.heap.size := h.lt
  have hr0 : RD (w.alloc (.cells #[.int .i64 0, .int .i64 0, .string ⟨#[]⟩, .slice none 0 0] 34)) b s i := h.alloc _
  have HP := Lib.hid (peekAt _ b s i hr0 hi)
  have HR := Lib.hid hr0
  have HZ := Lib.hid (zero4_new w)
  have HK : Hid (Kp w.heap.size (Is b) w (w.alloc (.cells #[.int .i64 0, .int .i64 0, .string ⟨#[]⟩, .slice none 0 0] 34))) := Lib.hid ((Kp.refl _ _ w).alloc (Nat.le_refl _) _)
  have hw0 : w.heap.size < (w.alloc (.cells #[.int .i64 0, .int .i64 0, .string ⟨#[]⟩, .slice none 0 0] 34)).heap.size := by simp
  have q116 : ((pk s.data.toList i : Int) == 116) = false := ne_byte hn116
  have q102 : ((pk s.data.toList i : Int) == 102) = false := ne_byte hn102
  have q34 : ((pk s.data.toList i : Int) == 34) = true := eq_byte hc
  have HC : Hid (∀ m, Calls Tryz.prog 53 #[.pointer (some ⟨b, 0, none⟩)] ((w.alloc (.cells #[.int .i64 0, .int .i64 0, .string ⟨#[]⟩, .slice none 0 0] 34)).drewN m) (OutV (Is b) b s ((w.alloc (.cells #[.int .i64 0, .int .i64 0, .string ⟨#[]⟩, .slice none 0 0] 34)).drewN m) (textL s.data.toList i))) := Lib.hid (fun m => quotedText_any ((w.alloc (.cells #[.int .i64 0, .int .i64 0, .string ⟨#[]⟩, .slice none 0 0] 34)).drewN m) b s i HR.out hi hs)
  clear h hr0 hn116 hn102 hc
  go_enter Tryz.func26, Tryz.ntmps26
  go_wp2_with fail
  refine (HP.out 0).mono ?_
  rintro e w3 ⟨rfl, m1, rfl⟩
  clear HP
  go_wp2_with fail
  refine (HC.out m1).mono ?_
  rintro e w1 ⟨he, hR1, hk1⟩
  have HZ1 : Hid (Zero4 w1 w.heap.size) := Lib.hid (Zero4.kpd HZ.out hk1 hw0 (by unfold Is; omega))
  have HK1 : Hid (Kp w.heap.size (Is b) w w1) := Lib.hid ((HK.out.drewN m1).trans (hk1.less (by simp)))
  have HR1 := Lib.hid hR1
  have HE := Lib.hid he
  obtain ⟨c0, c1, c2, c3, cz⟩ := HZ1.out
  have f0 := cz 0
  have f1 := cz 1
  have f2 := cz 2
  have f3 := cz 3
  obtain ⟨t1, n1, S1, oe, ml, ce, rfl⟩ := he.shape
  clear hR1 hk1 HC HZ HK HR he cz
  go_wp2_with fail
  refine bodyPost_ret (v := .tuple #[.agg #[.int .i64 t1, .int .i64 n1, .string S1, .slice oe ml ce], .bool (textL s.data.toList i).good]) (by simp [results, Tryz.results26, go_sem, *]) rfl ?_
  exact outV_end HE.out hw0 hblt HR1.out HK1.out _ _ _ _

set_option maxRecDepth 100000 in
set_option maxHeartbeats 1600000 in
theorem value_pat (w : World) (b : Nat) (s : ByteArray) (i : Nat) (h : RD w b s i) (hi : i ≤ s.size) (hs : s.size ≤ 1000000) (hn116 : pk s.data.toList i ≠ 116) (hn102 : pk s.data.toList i ≠ 102) (hn34 : pk s.data.toList i ≠ 34) (hc : pk s.data.toList i = 114) :
    Calls Tryz.prog 26 #[.pointer (some ⟨b, 0, none⟩)] w (OutV (Is b) b s w (patL s.data.toList (i + 1))) := by
  have hblt : b < w.heap.size := h.lt
  have hr0 : RD (w.alloc (.cells #[.int .i64 0, .int .i64 0, .string ⟨#[]⟩, .slice none 0 0] 34)) b s i := h.alloc _
  have HP := Lib.hid (peekAt _ b s i hr0 hi)
  have HR := Lib.hid hr0
  have HZ := Lib.hid (zero4_new w)
  have HK : Hid (Kp w.heap.size (Is b) w (w.alloc (.cells #[.int .i64 0, .int .i64 0, .string ⟨#[]⟩, .slice none 0 0] 34))) := Lib.hid ((Kp.refl _ _ w).alloc (Nat.le_refl _) _)
  have hil : i < s.size := by have := pos_of_pk hc (by decide); rwa [lt_len] at this
  have hw0 : w.heap.size < (w.alloc (.cells #[.int .i64 0, .int .i64 0, .string ⟨#[]⟩, .slice none 0 0] 34)).heap.size := by simp
  have q116 : ((pk s.data.toList i : Int) == 116) = false := ne_byte hn116
  have q102 : ((pk s.data.toList i : Int) == 102) = false := ne_byte hn102
  have q34 : ((pk s.data.toList i : Int) == 34) = false := ne_byte hn34
  have q114 : ((pk s.data.toList i : Int) == 114) = true := eq_byte hc
  have HC : Hid (∀ m, Calls Tryz.prog 54 #[.pointer (some ⟨b, 0, none⟩)] ((w.alloc (.cells #[.int .i64 0, .int .i64 0, .string ⟨#[]⟩, .slice none 0 0] 34)).drewN m) (OutV (Is b) b s ((w.alloc (.cells #[.int .i64 0, .int .i64 0, .string ⟨#[]⟩, .slice none 0 0] 34)).drewN m) (patL s.data.toList (i + 1)))) := Lib.hid (fun m => quotedPattern_any ((w.alloc (.cells #[.int .i64 0, .int .i64 0, .string ⟨#[]⟩, .slice none 0 0] 34)).drewN m) b s i HR.out hil hs)
  clear h hr0 hn116 hn102 hn34 hc
  go_enter Tryz.func26, Tryz.ntmps26
  go_wp2_with fail
  refine (HP.out 0).mono ?_
  rintro e w3 ⟨rfl, m1, rfl⟩
  clear HP
  go_wp2_with fail
  refine (HC.out m1).mono ?_
  rintro e w1 ⟨he, hR1, hk1⟩
  have HZ1 : Hid (Zero4 w1 w.heap.size) := Lib.hid (Zero4.kpd HZ.out hk1 hw0 (by unfold Is; omega))
  have HK1 : Hid (Kp w.heap.size (Is b) w w1) := Lib.hid ((HK.out.drewN m1).trans (hk1.less (by simp)))
  have HR1 := Lib.hid hR1
  have HE := Lib.hid he
  obtain ⟨c0, c1, c2, c3, cz⟩ := HZ1.out
  have f0 := cz 0
  have f1 := cz 1
  have f2 := cz 2
  have f3 := cz 3
  obtain ⟨t1, n1, S1, oe, ml, ce, rfl⟩ := he.shape
  clear hR1 hk1 HC HZ HK HR he cz
  go_wp2_with fail
  refine bodyPost_ret (v := .tuple #[.agg #[.int .i64 t1, .int .i64 n1, .string S1, .slice oe ml ce], .bool (patL s.data.toList (i + 1)).good]) (by simp [results, Tryz.results26, go_sem, *]) rfl ?_
  exact outV_end HE.out hw0 hblt HR1.out HK1.out _ _ _ _

set_option maxRecDepth 100000 in
set_option maxHeartbeats 1600000 in
theorem value_texts (w : World) (b : Nat) (s : ByteArray) (i : Nat) (h : RD w b s i) (hi : i ≤ s.size) (hs : s.size ≤ 1000000) (hn116 : pk s.data.toList i ≠ 116) (hn102 : pk s.data.toList i ≠ 102) (hn34 : pk s.data.toList i ≠ 34) (hn114 : pk s.data.toList i ≠ 114) (hn91 : pk s.data.toList i ≠ 91) (hc : pk s.data.toList i = 123) :
    Calls Tryz.prog 26 #[.pointer (some ⟨b, 0, none⟩)] w (OutV (Is b) b s w (textsL 0 16 s.data.toList i)) := by
  have hblt : b < w.heap.size := h.lt
  have hr0 : RD (w.alloc (.cells #[.int .i64 0, .int .i64 0, .string ⟨#[]⟩, .slice none 0 0] 34)) b s i := h.alloc _
  have HP := Lib.hid (peekAt _ b s i hr0 hi)
  have HR := Lib.hid hr0
  have HZ := Lib.hid (zero4_new w)
  have HK : Hid (Kp w.heap.size (Is b) w (w.alloc (.cells #[.int .i64 0, .int .i64 0, .string ⟨#[]⟩, .slice none 0 0] 34))) := Lib.hid ((Kp.refl _ _ w).alloc (Nat.le_refl _) _)
  have hw0 : w.heap.size < (w.alloc (.cells #[.int .i64 0, .int .i64 0, .string ⟨#[]⟩, .slice none 0 0] 34)).heap.size := by simp
  have q116 : ((pk s.data.toList i : Int) == 116) = false := ne_byte hn116
  have q102 : ((pk s.data.toList i : Int) == 102) = false := ne_byte hn102
  have q34 : ((pk s.data.toList i : Int) == 34) = false := ne_byte hn34
  have q114 : ((pk s.data.toList i : Int) == 114) = false := ne_byte hn114
  have q91 : ((pk s.data.toList i : Int) == 91) = false := ne_byte hn91
  have q123 : ((pk s.data.toList i : Int) == 123) = true := eq_byte hc
  have HC : Hid (∀ m, Calls Tryz.prog 57 #[.pointer (some ⟨b, 0, none⟩), .int .i64 0, .int .i64 16] ((w.alloc (.cells #[.int .i64 0, .int .i64 0, .string ⟨#[]⟩, .slice none 0 0] 34)).drewN m) (OutV (Is b) b s ((w.alloc (.cells #[.int .i64 0, .int .i64 0, .string ⟨#[]⟩, .slice none 0 0] 34)).drewN m) (textsL 0 16 s.data.toList i))) := Lib.hid (fun m => texts_any ((w.alloc (.cells #[.int .i64 0, .int .i64 0, .string ⟨#[]⟩, .slice none 0 0] 34)).drewN m) b s i 0 16 HR.out hi hs (by decide))
  clear h hr0 hn116 hn102 hn34 hn114 hn91 hc
  go_enter Tryz.func26, Tryz.ntmps26
  go_wp2_with fail
  refine (HP.out 0).mono ?_
  rintro e w3 ⟨rfl, m1, rfl⟩
  clear HP
  go_wp2_with fail
  refine (HC.out m1).mono ?_
  rintro e w1 ⟨he, hR1, hk1⟩
  have HZ1 : Hid (Zero4 w1 w.heap.size) := Lib.hid (Zero4.kpd HZ.out hk1 hw0 (by unfold Is; omega))
  have HK1 : Hid (Kp w.heap.size (Is b) w w1) := Lib.hid ((HK.out.drewN m1).trans (hk1.less (by simp)))
  have HR1 := Lib.hid hR1
  have HE := Lib.hid he
  obtain ⟨c0, c1, c2, c3, cz⟩ := HZ1.out
  have f0 := cz 0
  have f1 := cz 1
  have f2 := cz 2
  have f3 := cz 3
  obtain ⟨t1, n1, S1, oe, ml, ce, rfl⟩ := he.shape
  clear hR1 hk1 HC HZ HK HR he cz
  go_wp2_with fail
  refine bodyPost_ret (v := .tuple #[.agg #[.int .i64 t1, .int .i64 n1, .string S1, .slice oe ml ce], .bool (textsL 0 16 s.data.toList i).good]) (by simp [results, Tryz.results26, go_sem, *]) rfl ?_
  exact outV_end HE.out hw0 hblt HR1.out HK1.out _ _ _ _

set_option maxRecDepth 100000 in
set_option maxHeartbeats 1600000 in
theorem value_table (w : World) (b : Nat) (s : ByteArray) (i : Nat) (h : RD w b s i) (hi : i ≤ s.size) (hs : s.size ≤ 1000000) (hn116 : pk s.data.toList i ≠ 116) (hn102 : pk s.data.toList i ≠ 102) (hn34 : pk s.data.toList i ≠ 34) (hn114 : pk s.data.toList i ≠ 114) (hn91 : pk s.data.toList i ≠ 91) (hn123 : pk s.data.toList i ≠ 123) (hc : pk s.data.toList i = 60) :
    Calls Tryz.prog 26 #[.pointer (some ⟨b, 0, none⟩)] w (OutV (Is b) b s w (tableL s.data.toList i)) := by
  have hblt : b < w.heap.size := h.lt
  have hr0 : RD (w.alloc (.cells #[.int .i64 0, .int .i64 0, .string ⟨#[]⟩, .slice none 0 0] 34)) b s i := h.alloc _
  have HP := Lib.hid (peekAt _ b s i hr0 hi)
  have HR := Lib.hid hr0
  have HZ := Lib.hid (zero4_new w)
  have HK : Hid (Kp w.heap.size (Is b) w (w.alloc (.cells #[.int .i64 0, .int .i64 0, .string ⟨#[]⟩, .slice none 0 0] 34))) := Lib.hid ((Kp.refl _ _ w).alloc (Nat.le_refl _) _)
  have hw0 : w.heap.size < (w.alloc (.cells #[.int .i64 0, .int .i64 0, .string ⟨#[]⟩, .slice none 0 0] 34)).heap.size := by simp
  have q116 : ((pk s.data.toList i : Int) == 116) = false := ne_byte hn116
  have q102 : ((pk s.data.toList i : Int) == 102) = false := ne_byte hn102
  have q34 : ((pk s.data.toList i : Int) == 34) = false := ne_byte hn34
  have q114 : ((pk s.data.toList i : Int) == 114) = false := ne_byte hn114
  have q91 : ((pk s.data.toList i : Int) == 91) = false := ne_byte hn91
  have q123 : ((pk s.data.toList i : Int) == 123) = false := ne_byte hn123
  have q60 : ((pk s.data.toList i : Int) == 60) = true := eq_byte hc
  have HC : Hid (∀ m, Calls Tryz.prog 58 #[.pointer (some ⟨b, 0, none⟩)] ((w.alloc (.cells #[.int .i64 0, .int .i64 0, .string ⟨#[]⟩, .slice none 0 0] 34)).drewN m) (OutV (Is b) b s ((w.alloc (.cells #[.int .i64 0, .int .i64 0, .string ⟨#[]⟩, .slice none 0 0] 34)).drewN m) (tableL s.data.toList i))) := Lib.hid (fun m => table_any ((w.alloc (.cells #[.int .i64 0, .int .i64 0, .string ⟨#[]⟩, .slice none 0 0] 34)).drewN m) b s i HR.out hi hs hc)
  clear h hr0 hn116 hn102 hn34 hn114 hn91 hn123 hc
  go_enter Tryz.func26, Tryz.ntmps26
  go_wp2_with fail
  refine (HP.out 0).mono ?_
  rintro e w3 ⟨rfl, m1, rfl⟩
  clear HP
  go_wp2_with fail
  refine (HC.out m1).mono ?_
  rintro e w1 ⟨he, hR1, hk1⟩
  have HZ1 : Hid (Zero4 w1 w.heap.size) := Lib.hid (Zero4.kpd HZ.out hk1 hw0 (by unfold Is; omega))
  have HK1 : Hid (Kp w.heap.size (Is b) w w1) := Lib.hid ((HK.out.drewN m1).trans (hk1.less (by simp)))
  have HR1 := Lib.hid hR1
  have HE := Lib.hid he
  obtain ⟨c0, c1, c2, c3, cz⟩ := HZ1.out
  have f0 := cz 0
  have f1 := cz 1
  have f2 := cz 2
  have f3 := cz 3
  obtain ⟨t1, n1, S1, oe, ml, ce, rfl⟩ := he.shape
  clear hR1 hk1 HC HZ HK HR he cz
  go_wp2_with fail
  refine bodyPost_ret (v := .tuple #[.agg #[.int .i64 t1, .int .i64 n1, .string S1, .slice oe ml ce], .bool (tableL s.data.toList i).good]) (by simp [results, Tryz.results26, go_sem, *]) rfl ?_
  exact outV_end HE.out hw0 hblt HR1.out HK1.out _ _ _ _
theorem intsL_at (L : List UInt8) (i : Nat) (h : pk L i = 91) : intsL L i = (if pk L i = 91 then itemsL (fun _ j => intL L j) 93 0 L 16 [] (i + 1) else .bad i).bind fun l j => .ok (.mk 5 0 ⟨#[]⟩ l) j := by
  unfold intsL
  rw [if_pos h]

set_option maxRecDepth 100000 in
set_option maxHeartbeats 1600000 in
theorem value_ints (w : World) (b : Nat) (s : ByteArray) (i : Nat) (h : RD w b s i) (hi : i ≤ s.size) (hs : s.size ≤ 1000000) (hn116 : pk s.data.toList i ≠ 116) (hn102 : pk s.data.toList i ≠ 102) (hn34 : pk s.data.toList i ≠ 34) (hn114 : pk s.data.toList i ≠ 114) (hc : pk s.data.toList i = 91) :
    Calls Tryz.prog 26 #[.pointer (some ⟨b, 0, none⟩)] w (OutV (Is b) b s w (intsL s.data.toList i)) := by
  have hblt : b < w.heap.size := h.lt
  have hr0 : RD (w.alloc (.cells #[.int .i64 0, .int .i64 0, .string ⟨#[]⟩, .slice none 0 0] 34)) b s i := h.alloc _
  have HP := Lib.hid (peekAt _ b s i hr0 hi)
  have HR := Lib.hid hr0
  have HZ := Lib.hid (zero4_new w)
  have HK : Hid (Kp w.heap.size (Is b) w (w.alloc (.cells #[.int .i64 0, .int .i64 0, .string ⟨#[]⟩, .slice none 0 0] 34))) := Lib.hid ((Kp.refl _ _ w).alloc (Nat.le_refl _) _)
  have hw0 : w.heap.size < (w.alloc (.cells #[.int .i64 0, .int .i64 0, .string ⟨#[]⟩, .slice none 0 0] 34)).heap.size := by simp
  have q116 : ((pk s.data.toList i : Int) == 116) = false := ne_byte hn116
  have q102 : ((pk s.data.toList i : Int) == 102) = false := ne_byte hn102
  have q34 : ((pk s.data.toList i : Int) == 34) = false := ne_byte hn34
  have q114 : ((pk s.data.toList i : Int) == 114) = false := ne_byte hn114
  have q91 : ((pk s.data.toList i : Int) == 91) = true := eq_byte hc
  have HC : Hid (∀ m, Calls Tryz.prog 55 #[.pointer (some ⟨b, 0, none⟩), .string ⟨#[91, 93]⟩, .int .i64 0, .int .i64 16, .func (.func 56) #[.pointer (some ⟨b, 0, none⟩)] #[]] ((w.alloc (.cells #[.int .i64 0, .int .i64 0, .string ⟨#[]⟩, .slice none 0 0] 34)).drewN m) fun e w' => LsE ((w.alloc (.cells #[.int .i64 0, .int .i64 0, .string ⟨#[]⟩, .slice none 0 0] 34)).drewN m) w' (if pk s.data.toList i = 91 then itemsL (fun _ j => intL s.data.toList j) 93 0 s.data.toList 16 [] (i + 1) else .bad i) e ∧ RD w' b s (if pk s.data.toList i = 91 then itemsL (fun _ j => intL s.data.toList j) 93 0 s.data.toList 16 [] (i + 1) else .bad i).fin ∧ Kp ((w.alloc (.cells #[.int .i64 0, .int .i64 0, .string ⟨#[]⟩, .slice none 0 0] 34)).drewN m).heap.size (Is b) ((w.alloc (.cells #[.int .i64 0, .int .i64 0, .string ⟨#[]⟩, .slice none 0 0] 34)).drewN m) w') :=
    Lib.hid (fun m => items_int ((w.alloc (.cells #[.int .i64 0, .int .i64 0, .string ⟨#[]⟩, .slice none 0 0] 34)).drewN m) b s i HR.out hi hs 0 16 (by decide) (fun _ j => intL s.data.toList j) (fun _ _ => True) (Is b) (fun _ j w' _ hr hj _ => (number_any w' b s j hr hj hs).mono fun _ _ h => ⟨h, fun _ _ _ => trivial⟩)
      (fun k hk => by unfold Is at hk; subst hk; simp; omega) (Is.self b) trivial (fun _ _ _ _ _ _ => trivial) (fun _ _ _ _ _ _ => trivial) (fun _ j hj => by
        have := intL_bd s.data.toList j (by rw [lt_len]; exact hj)
        rwa [lt_len] at this))
  rw [intsL_at _ _ hc]
  generalize (if pk s.data.toList i = 91 then itemsL (fun _ j => intL s.data.toList j) 93 0 s.data.toList 16 [] (i + 1) else .bad i) = r at *
  clear h hr0 hn116 hn102 hn34 hn114 hc
  go_enter Tryz.func26, Tryz.ntmps26
  go_wp2_with fail
  refine (HP.out 0).mono ?_
  rintro e w3 ⟨rfl, m1, rfl⟩
  clear HP
  go_wp2_with fail
  refine (HC.out m1).mono ?_
  rintro e w1 ⟨he, hR1, hk1⟩
  have HZ1 : Hid (Zero4 w1 w.heap.size) := Lib.hid (Zero4.kpd HZ.out hk1 hw0 (by unfold Is; omega))
  have HK1 : Hid (Kp w.heap.size (Is b) w w1) := Lib.hid ((HK.out.drewN m1).trans (hk1.less (by simp)))
  have HR1 := Lib.hid hR1
  obtain ⟨c0, c1, c2, c3, cz⟩ := HZ1.out
  have f0 := cz 0
  have f1 := cz 1
  have f2 := cz 2
  have f3 := cz 3
  clear hR1 hk1 HC HZ HK HR cz
  cases r with
  | bad k =>
    obtain rfl : e = .returned (.tuple #[.slice none 0 0, .bool false]) := he
    go_wp2_with fail
    refine bodyPost_ret (v := .tuple #[.agg #[.int .i64 5, .int .i64 0, .string ⟨#[]⟩, .slice none 0 0], .bool false]) (by simp [results, Tryz.results26, go_sem, *]) rfl ?_
    exact ⟨.none _ _ _ _ _ _, HR1.out.far4 (by omega) _ _ _ _, HK1.out.own4 (Nat.le_refl _) _ _ _ _⟩
  | ok l k =>
    obtain ⟨oe, ce, rfl, hrep⟩ := he
    have HP2 := Lib.hid hrep
    clear hrep
    go_wp2_with fail
    refine bodyPost_ret (v := .tuple #[.agg #[.int .i64 5, .int .i64 0, .string ⟨#[]⟩, .slice oe l.length ce], .bool true]) (by simp [results, Tryz.results26, go_sem, *]) rfl ?_
    refine ⟨⟨oe, ce, rfl, ?_⟩, HR1.out.far4 (by omega) _ _ _ _, HK1.out.own4 (Nat.le_refl _) _ _ _ _⟩
    exact rep4 HP2.out (by simp) _ (by simp) _ _ _ _

set_option maxRecDepth 100000 in
set_option maxHeartbeats 1600000 in
theorem value_true (w : World) (b : Nat) (s : ByteArray) (i : Nat) (h : RD w b s i) (hi : i ≤ s.size) (hs : s.size ≤ 1000000) (hc : pk s.data.toList i = 116) :
    Calls Tryz.prog 26 #[.pointer (some ⟨b, 0, none⟩)] w (OutV (Is b) b s w (boolL wTrue 1 s.data.toList i)) := by
  have hblt : b < w.heap.size := h.lt
  have hr0 : RD (w.alloc (.cells #[.int .i64 0, .int .i64 0, .string ⟨#[]⟩, .slice none 0 0] 34)) b s i := h.alloc _
  have HP := Lib.hid (peekAt _ b s i hr0 hi)
  have HR := Lib.hid hr0
  have HZ := Lib.hid (zero4_new w)
  have HK : Hid (Kp w.heap.size (Is b) w (w.alloc (.cells #[.int .i64 0, .int .i64 0, .string ⟨#[]⟩, .slice none 0 0] 34))) := Lib.hid ((Kp.refl _ _ w).alloc (Nat.le_refl _) _)
  have hw0 : w.heap.size < (w.alloc (.cells #[.int .i64 0, .int .i64 0, .string ⟨#[]⟩, .slice none 0 0] 34)).heap.size := by simp
  have q116 : ((pk s.data.toList i : Int) == 116) = true := eq_byte hc
  have HWW : Hid (∀ (w' : World), RD w' b s i → Calls Tryz.prog 43 #[.pointer (some ⟨b, 0, none⟩), .string ⟨#[116, 114, 117, 101]⟩] w' fun e w'' => e = .returned (.bool (wordL wTrue s.data.toList i).good) ∧ RD w'' b s (wordL wTrue s.data.toList i).fin ∧ Kp w'.heap.size (Is b) w' w'') := Lib.hid (fun w' hr => word_any ⟨#[116, 114, 117, 101]⟩ w' b s i hr hi hs (by decide) (by decide))
  unfold boolL
  generalize wordL wTrue s.data.toList i = r at *
  have hbt : b < (w.alloc (.cells #[.int .i64 0, .int .i64 0, .string ⟨#[]⟩, .slice none 0 0] 34)).heap.size := by simp; omega
  clear h hr0  hc
  go_enter Tryz.func26, Tryz.ntmps26
  go_wp2_with fail
  refine (HP.out 0).mono ?_
  rintro e w3 ⟨rfl, m1, rfl⟩
  clear HP
  go_wp2_with fail
  refine (ofBool_any true _).mono ?_
  rintro e w1 ⟨rfl, hb1⟩
  have HRa : Hid (RD w1 b s i) := Lib.hid ((hb1.block b hbt).trans HR.out)
  have HZa : Hid (Zero4 w1 w.heap.size) := Lib.hid (Box4.of_block (w := (w.alloc (.cells #[.int .i64 0, .int .i64 0, .string ⟨#[]⟩, .slice none 0 0] 34))) HZ.out (hb1.block _ hw0))
  have HKa : Hid (Kp w.heap.size (Is b) w w1) := Lib.hid ((HK.out.drewN m1).trans (.of hb1 (by simp)))
  have hwa : w.heap.size < w1.heap.size := Nat.lt_of_lt_of_le hw0 hb1.size
  have HW := Lib.hid (HWW.out w1 HRa.out)
  clear hb1 HWW HRa HZ HK HR
  go_wp2_with fail
  refine HW.out.mono ?_
  rintro e w2 ⟨rfl, hR2, hk2⟩
  have HZ2 : Hid (Zero4 w2 w.heap.size) := Lib.hid (Box4.kp HZa.out hk2 hwa (by unfold Is; omega))
  have HK2 : Hid (Kp w.heap.size (Is b) w w2) := Lib.hid (HKa.out.trans (hk2.less (Nat.le_of_lt hwa)))
  have HR2 := Lib.hid hR2
  obtain ⟨c0, c1, c2, c3, cz⟩ := HZ2.out
  have f0 := cz 0
  have f1 := cz 1
  have f2 := cz 2
  have f3 := cz 3
  clear hR2 hk2 HW HZa HKa cz
  go_wp2_with fail
  refine bodyPost_ret (v := .tuple #[.agg #[.int .i64 1, .int .i64 1, .string ⟨#[]⟩, .slice none 0 0], .bool r.good]) (by simp [results, Tryz.results26, go_sem, *]) rfl ?_
  cases r with
  | bad k => exact ⟨.none _ _ _ _ _ _, HR2.out.far4 (by omega) _ _ _ _, HK2.out.own4 (Nat.le_refl _) _ _ _ _⟩
  | ok u k => exact ⟨.plain _ _ _ _ _ _, HR2.out.far4 (by omega) _ _ _ _, HK2.out.own4 (Nat.le_refl _) _ _ _ _⟩

set_option maxRecDepth 100000 in
set_option maxHeartbeats 1600000 in
theorem value_false (w : World) (b : Nat) (s : ByteArray) (i : Nat) (h : RD w b s i) (hi : i ≤ s.size) (hs : s.size ≤ 1000000) (hn116 : pk s.data.toList i ≠ 116) (hc : pk s.data.toList i = 102) :
    Calls Tryz.prog 26 #[.pointer (some ⟨b, 0, none⟩)] w (OutV (Is b) b s w (boolL wFalse 0 s.data.toList i)) := by
  have hblt : b < w.heap.size := h.lt
  have hr0 : RD (w.alloc (.cells #[.int .i64 0, .int .i64 0, .string ⟨#[]⟩, .slice none 0 0] 34)) b s i := h.alloc _
  have HP := Lib.hid (peekAt _ b s i hr0 hi)
  have HR := Lib.hid hr0
  have HZ := Lib.hid (zero4_new w)
  have HK : Hid (Kp w.heap.size (Is b) w (w.alloc (.cells #[.int .i64 0, .int .i64 0, .string ⟨#[]⟩, .slice none 0 0] 34))) := Lib.hid ((Kp.refl _ _ w).alloc (Nat.le_refl _) _)
  have hw0 : w.heap.size < (w.alloc (.cells #[.int .i64 0, .int .i64 0, .string ⟨#[]⟩, .slice none 0 0] 34)).heap.size := by simp
  have q116 : ((pk s.data.toList i : Int) == 116) = false := ne_byte hn116
  have q102 : ((pk s.data.toList i : Int) == 102) = true := eq_byte hc
  have HWW : Hid (∀ (w' : World), RD w' b s i → Calls Tryz.prog 43 #[.pointer (some ⟨b, 0, none⟩), .string ⟨#[102, 97, 108, 115, 101]⟩] w' fun e w'' => e = .returned (.bool (wordL wFalse s.data.toList i).good) ∧ RD w'' b s (wordL wFalse s.data.toList i).fin ∧ Kp w'.heap.size (Is b) w' w'') := Lib.hid (fun w' hr => word_any ⟨#[102, 97, 108, 115, 101]⟩ w' b s i hr hi hs (by decide) (by decide))
  unfold boolL
  generalize wordL wFalse s.data.toList i = r at *
  have hbt : b < (w.alloc (.cells #[.int .i64 0, .int .i64 0, .string ⟨#[]⟩, .slice none 0 0] 34)).heap.size := by simp; omega
  clear h hr0 hn116 hc
  go_enter Tryz.func26, Tryz.ntmps26
  go_wp2_with fail
  refine (HP.out 0).mono ?_
  rintro e w3 ⟨rfl, m1, rfl⟩
  clear HP
  go_wp2_with fail
  refine (ofBool_any false _).mono ?_
  rintro e w1 ⟨rfl, hb1⟩
  have HRa : Hid (RD w1 b s i) := Lib.hid ((hb1.block b hbt).trans HR.out)
  have HZa : Hid (Zero4 w1 w.heap.size) := Lib.hid (Box4.of_block (w := (w.alloc (.cells #[.int .i64 0, .int .i64 0, .string ⟨#[]⟩, .slice none 0 0] 34))) HZ.out (hb1.block _ hw0))
  have HKa : Hid (Kp w.heap.size (Is b) w w1) := Lib.hid ((HK.out.drewN m1).trans (.of hb1 (by simp)))
  have hwa : w.heap.size < w1.heap.size := Nat.lt_of_lt_of_le hw0 hb1.size
  have HW := Lib.hid (HWW.out w1 HRa.out)
  clear hb1 HWW HRa HZ HK HR
  go_wp2_with fail
  refine HW.out.mono ?_
  rintro e w2 ⟨rfl, hR2, hk2⟩
  have HZ2 : Hid (Zero4 w2 w.heap.size) := Lib.hid (Box4.kp HZa.out hk2 hwa (by unfold Is; omega))
  have HK2 : Hid (Kp w.heap.size (Is b) w w2) := Lib.hid (HKa.out.trans (hk2.less (Nat.le_of_lt hwa)))
  have HR2 := Lib.hid hR2
  obtain ⟨c0, c1, c2, c3, cz⟩ := HZ2.out
  have f0 := cz 0
  have f1 := cz 1
  have f2 := cz 2
  have f3 := cz 3
  clear hR2 hk2 HW HZa HKa cz
  go_wp2_with fail
  refine bodyPost_ret (v := .tuple #[.agg #[.int .i64 1, .int .i64 0, .string ⟨#[]⟩, .slice none 0 0], .bool r.good]) (by simp [results, Tryz.results26, go_sem, *]) rfl ?_
  cases r with
  | bad k => exact ⟨.none _ _ _ _ _ _, HR2.out.far4 (by omega) _ _ _ _, HK2.out.own4 (Nat.le_refl _) _ _ _ _⟩
  | ok u k => exact ⟨.plain _ _ _ _ _ _, HR2.out.far4 (by omega) _ _ _ _, HK2.out.own4 (Nat.le_refl _) _ _ _ _⟩
theorem prefix_0x (L : List UInt8) (i : Nat) : Lib.hasPrefix (L.drop i) [48, 120] = (decide (pk L i = 48) && decide (pk L (i + 1) = 120)) := by
  rcases Nat.lt_or_ge i L.length with h | h
  · obtain ⟨c, h1, h2⟩ := pk_drop L i h
    rcases Nat.lt_or_ge (i + 1) L.length with h' | h'
    · obtain ⟨d, k1, k2⟩ := pk_drop L (i + 1) h'
      rw [h1, k1, ← h2, ← k2]
      show (48 == c && (120 == d && true)) = _
      rw [Bool.and_true, Bool.eq_iff_iff]
      simp only [Bool.and_eq_true, beq_iff_eq, decide_eq_true_eq]
      constructor
      · rintro ⟨rfl, rfl⟩
        exact ⟨rfl, rfl⟩
      · rintro ⟨e1, e2⟩
        exact ⟨(UInt8.toNat_inj.1 e1).symm, (UInt8.toNat_inj.1 e2).symm⟩
    · rw [h1, List.drop_eq_nil_of_le h', pk_out L (i + 1) h']
      show (48 == c && false) = _
      simp
  · rw [List.drop_eq_nil_of_le h, pk_out L i h]
    simp [Lib.hasPrefix]
theorem drop_str (s : ByteArray) (i : Nat) (_h : i ≤ s.size) : (s.extract i s.size).data.toList = s.data.toList.drop i := by
  rw [ByteArray.data_extract, Array.toList_extract, List.extract_eq_take_drop, List.take_of_length_le (by rw [List.length_drop, lt_len]; omega)]

set_option maxRecDepth 100000 in
set_option maxHeartbeats 1600000 in
theorem value_bits (w : World) (b : Nat) (s : ByteArray) (i : Nat) (h : RD w b s i) (hi : i ≤ s.size) (hs : s.size ≤ 1000000) (hn116 : pk s.data.toList i ≠ 116) (hn102 : pk s.data.toList i ≠ 102) (hn34 : pk s.data.toList i ≠ 34) (hn114 : pk s.data.toList i ≠ 114) (hn91 : pk s.data.toList i ≠ 91) (hn123 : pk s.data.toList i ≠ 123) (hn60 : pk s.data.toList i ≠ 60) (hx : pk s.data.toList i = 48 ∧ pk s.data.toList (i + 1) = 120) :
    Calls Tryz.prog 26 #[.pointer (some ⟨b, 0, none⟩)] w (OutV (Is b) b s w (bitsL s.data.toList i)) := by
  have hblt : b < w.heap.size := h.lt
  have hr0 : RD (w.alloc (.cells #[.int .i64 0, .int .i64 0, .string ⟨#[]⟩, .slice none 0 0] 34)) b s i := h.alloc _
  have HP := Lib.hid (peekAt _ b s i hr0 hi)
  have HR := Lib.hid hr0
  have HZ := Lib.hid (zero4_new w)
  have HK : Hid (Kp w.heap.size (Is b) w (w.alloc (.cells #[.int .i64 0, .int .i64 0, .string ⟨#[]⟩, .slice none 0 0] 34))) := Lib.hid ((Kp.refl _ _ w).alloc (Nat.le_refl _) _)
  have hw0 : w.heap.size < (w.alloc (.cells #[.int .i64 0, .int .i64 0, .string ⟨#[]⟩, .slice none 0 0] 34)).heap.size := by simp
  have q116 : ((pk s.data.toList i : Int) == 116) = false := ne_byte hn116
  have q102 : ((pk s.data.toList i : Int) == 102) = false := ne_byte hn102
  have q34 : ((pk s.data.toList i : Int) == 34) = false := ne_byte hn34
  have q114 : ((pk s.data.toList i : Int) == 114) = false := ne_byte hn114
  have q91 : ((pk s.data.toList i : Int) == 91) = false := ne_byte hn91
  have q123 : ((pk s.data.toList i : Int) == 123) = false := ne_byte hn123
  have q60 : ((pk s.data.toList i : Int) == 60) = false := ne_byte hn60
  have HX : Hid (∀ w', Calls Tryz.prog 59 #[.string (s.extract i s.size), .string ⟨#[48, 120]⟩] w' fun e w'' => e = .returned (.bool true) ∧ w'' = w') := Lib.hid (fun w' => by
    have := Tryz.strings_HasPrefix (s.extract i s.size) ⟨#[48, 120]⟩ w'
    rw [drop_str s i hi, show (⟨#[48, 120]⟩ : ByteArray).data.toList = [48, 120] from rfl, prefix_0x, decide_eq_true hx.1, decide_eq_true hx.2] at this
    exact this)
  have hx2 : i + 1 < s.size := by have := pos_of_pk hx.2 (by decide); rwa [lt_len] at this
  have hii : (i : Int) ≤ (s.size : Int) := by omega
  clear h hr0 hn116 hn102 hn34 hn114 hn91 hn123 hn60 hx
  go_enter Tryz.func26, Tryz.ntmps26
  go_wp2_with fail
  refine (HP.out 0).mono ?_
  rintro e w3 ⟨rfl, m1, hw3⟩
  have HR3 : Hid (RD w3 b s i) := Lib.hid (by rw [hw3]; exact HR.out)
  have HZ3 : Hid (Zero4 w3 w.heap.size) := Lib.hid (by rw [hw3]; exact HZ.out)
  have HK3 : Hid (Kp w.heap.size (Is b) w w3) := Lib.hid (by rw [hw3]; exact HK.out.drewN m1)
  have hw3s : w.heap.size < w3.heap.size := by rw [hw3]; exact hw0
  have HC : Hid (∀ m, Calls Tryz.prog 60 #[.pointer (some ⟨b, 0, none⟩)] (w3.drewN m) (OutV (Is b) b s (w3.drewN m) (bitsL s.data.toList i))) := Lib.hid (fun m => bits_any (w3.drewN m) b s i HR3.out hx2 hs)
  have t0 := HR3.out.text
  have t1' := HR3.out.at
  clear HP hw3 HR HZ HK hw0
  go_wp2_with fail
  go_quiet (first | (go_at_call 59; exact Calls.quiet_of_same (HX.out _)))
  clear HX t0 t1'
  go_wp2_with fail
  refine (HC.out nq).mono ?_
  rintro e w1 ⟨he, hR1, hk1⟩
  have HZ1 : Hid (Zero4 w1 w.heap.size) := Lib.hid (Zero4.kpd HZ3.out hk1 hw3s (by unfold Is; omega))
  have HK1 : Hid (Kp w.heap.size (Is b) w w1) := Lib.hid ((HK3.out.drewN nq).trans (hk1.less (Nat.le_of_lt hw3s)))
  have HR1 := Lib.hid hR1
  have HE := Lib.hid he
  obtain ⟨c0, c1, c2, c3, cz⟩ := HZ1.out
  have f0 := cz 0
  have f1 := cz 1
  have f2 := cz 2
  have f3 := cz 3
  obtain ⟨t1, n1, S1, oe, ml, ce, rfl⟩ := he.shape
  clear hR1 hk1 HC HZ3 HK3 HR3 he cz
  go_wp2_with fail
  refine bodyPost_ret (v := .tuple #[.agg #[.int .i64 t1, .int .i64 n1, .string S1, .slice oe ml ce], .bool (bitsL s.data.toList i).good]) (by simp [results, Tryz.results26, go_sem, *]) rfl ?_
  exact outV_end HE.out hw3s hblt HR1.out HK1.out _ _ _ _

set_option maxRecDepth 100000 in
set_option maxHeartbeats 1600000 in
theorem value_num (w : World) (b : Nat) (s : ByteArray) (i : Nat) (h : RD w b s i) (hi : i ≤ s.size) (hs : s.size ≤ 1000000) (hn116 : pk s.data.toList i ≠ 116) (hn102 : pk s.data.toList i ≠ 102) (hn34 : pk s.data.toList i ≠ 34) (hn114 : pk s.data.toList i ≠ 114) (hn91 : pk s.data.toList i ≠ 91) (hn123 : pk s.data.toList i ≠ 123) (hn60 : pk s.data.toList i ≠ 60) (hx : ¬ (pk s.data.toList i = 48 ∧ pk s.data.toList (i + 1) = 120)) :
    Calls Tryz.prog 26 #[.pointer (some ⟨b, 0, none⟩)] w (OutV (Is b) b s w (intL s.data.toList i)) := by
  have hblt : b < w.heap.size := h.lt
  have hr0 : RD (w.alloc (.cells #[.int .i64 0, .int .i64 0, .string ⟨#[]⟩, .slice none 0 0] 34)) b s i := h.alloc _
  have HP := Lib.hid (peekAt _ b s i hr0 hi)
  have HR := Lib.hid hr0
  have HZ := Lib.hid (zero4_new w)
  have HK : Hid (Kp w.heap.size (Is b) w (w.alloc (.cells #[.int .i64 0, .int .i64 0, .string ⟨#[]⟩, .slice none 0 0] 34))) := Lib.hid ((Kp.refl _ _ w).alloc (Nat.le_refl _) _)
  have hw0 : w.heap.size < (w.alloc (.cells #[.int .i64 0, .int .i64 0, .string ⟨#[]⟩, .slice none 0 0] 34)).heap.size := by simp
  have q116 : ((pk s.data.toList i : Int) == 116) = false := ne_byte hn116
  have q102 : ((pk s.data.toList i : Int) == 102) = false := ne_byte hn102
  have q34 : ((pk s.data.toList i : Int) == 34) = false := ne_byte hn34
  have q114 : ((pk s.data.toList i : Int) == 114) = false := ne_byte hn114
  have q91 : ((pk s.data.toList i : Int) == 91) = false := ne_byte hn91
  have q123 : ((pk s.data.toList i : Int) == 123) = false := ne_byte hn123
  have q60 : ((pk s.data.toList i : Int) == 60) = false := ne_byte hn60
  have HX : Hid (∀ w', Calls Tryz.prog 59 #[.string (s.extract i s.size), .string ⟨#[48, 120]⟩] w' fun e w'' => e = .returned (.bool false) ∧ w'' = w') := Lib.hid (fun w' => by
    have := Tryz.strings_HasPrefix (s.extract i s.size) ⟨#[48, 120]⟩ w'
    rw [drop_str s i hi, show (⟨#[48, 120]⟩ : ByteArray).data.toList = [48, 120] from rfl, prefix_0x, show (decide (pk s.data.toList i = 48) && decide (pk s.data.toList (i + 1) = 120)) = false by rw [Bool.and_eq_false_iff, decide_eq_false_iff_not, decide_eq_false_iff_not]; omega] at this
    exact this)
  have hii : (i : Int) ≤ (s.size : Int) := by omega
  clear h hr0 hn116 hn102 hn34 hn114 hn91 hn123 hn60 hx
  go_enter Tryz.func26, Tryz.ntmps26
  go_wp2_with fail
  refine (HP.out 0).mono ?_
  rintro e w3 ⟨rfl, m1, hw3⟩
  have HR3 : Hid (RD w3 b s i) := Lib.hid (by rw [hw3]; exact HR.out)
  have HZ3 : Hid (Zero4 w3 w.heap.size) := Lib.hid (by rw [hw3]; exact HZ.out)
  have HK3 : Hid (Kp w.heap.size (Is b) w w3) := Lib.hid (by rw [hw3]; exact HK.out.drewN m1)
  have hw3s : w.heap.size < w3.heap.size := by rw [hw3]; exact hw0
  have HC : Hid (∀ m, Calls Tryz.prog 56 #[.pointer (some ⟨b, 0, none⟩)] (w3.drewN m) (OutV (Is b) b s (w3.drewN m) (intL s.data.toList i))) := Lib.hid (fun m => number_any (w3.drewN m) b s i HR3.out hi hs)
  have t0 := HR3.out.text
  have t1' := HR3.out.at
  clear HP hw3 HR HZ HK hw0
  go_wp2_with fail
  go_quiet (first | (go_at_call 59; exact Calls.quiet_of_same (HX.out _)))
  clear HX t0 t1'
  go_wp2_with fail
  refine (HC.out nq).mono ?_
  rintro e w1 ⟨he, hR1, hk1⟩
  have HZ1 : Hid (Zero4 w1 w.heap.size) := Lib.hid (Zero4.kpd HZ3.out hk1 hw3s (by unfold Is; omega))
  have HK1 : Hid (Kp w.heap.size (Is b) w w1) := Lib.hid ((HK3.out.drewN nq).trans (hk1.less (Nat.le_of_lt hw3s)))
  have HR1 := Lib.hid hR1
  have HE := Lib.hid he
  obtain ⟨c0, c1, c2, c3, cz⟩ := HZ1.out
  have f0 := cz 0
  have f1 := cz 1
  have f2 := cz 2
  have f3 := cz 3
  obtain ⟨t1, n1, S1, oe, ml, ce, rfl⟩ := he.shape
  clear hR1 hk1 HC HZ3 HK3 HR3 he cz
  go_wp2_with fail
  refine bodyPost_ret (v := .tuple #[.agg #[.int .i64 t1, .int .i64 n1, .string S1, .slice oe ml ce], .bool (intL s.data.toList i).good]) (by simp [results, Tryz.results26, go_sem, *]) rfl ?_
  exact outV_end HE.out hw3s hblt HR1.out HK1.out _ _ _ _

theorem value_any (w : World) (b : Nat) (s : ByteArray) (i : Nat) (h : RD w b s i) (hi : i ≤ s.size) (hs : s.size ≤ 1000000) :
    Calls Tryz.prog 26 #[.pointer (some ⟨b, 0, none⟩)] w (OutV (Is b) b s w (oneL s.data.toList i)) := by
  unfold oneL
  split
  · rename_i hc; exact value_true w b s i h hi hs hc
  rename_i h1
  split
  · rename_i hc; exact value_false w b s i h hi hs h1 hc
  rename_i h2
  split
  · rename_i hc; exact value_text w b s i h hi hs h1 h2 hc
  rename_i h3
  split
  · rename_i hc; exact value_pat w b s i h hi hs h1 h2 h3 hc
  rename_i h4
  split
  · rename_i hc; exact value_ints w b s i h hi hs h1 h2 h3 h4 hc
  rename_i h5
  split
  · rename_i hc; exact value_texts w b s i h hi hs h1 h2 h3 h4 h5 hc
  rename_i h6
  split
  · rename_i hc; exact value_table w b s i h hi hs h1 h2 h3 h4 h5 h6 hc
  rename_i h7
  split
  · rename_i hc; exact value_bits w b s i h hi hs h1 h2 h3 h4 h5 h6 h7 hc
  · rename_i hc; exact value_num w b s i h hi hs h1 h2 h3 h4 h5 h6 h7 hc

end Go.Proofs.YtmbmlcnipncgnaaGreatDoor
