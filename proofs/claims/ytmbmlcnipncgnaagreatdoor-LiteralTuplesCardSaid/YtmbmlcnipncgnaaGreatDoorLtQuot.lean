/-
  The quotation of the package: mayEnd, add, begin, escape, accept. Nothing is assumed.
-/
import Derived.Test.YtmbmlcnipncgnaaGreatDoorLtOwn
import Derived.Test.YtmbmlcnipncgnaaGreatDoorLtNumber
import Derived.Test.YtmbmlcnipncgnaaGreatDoorLtShelf
namespace Go.Proofs.YtmbmlcnipncgnaaGreatDoor
open Go.RowKit

def QSt.num : QSt → Int
  | .whole => 0
  | .esc => 1
  | .hex1 => 2
  | .hex2 _ => 3
def QSt.hi (h : Nat) : QSt → Prop
  | .hex2 d => h = d ∧ d < 16
  | _ => True
def QSt.more : QSt → Nat
  | .whole => 0
  | _ => 1
/-- The six cells of a quotation. -/
def Q6 (w : World) (q : Nat) (a b c d e f : Value) : Prop := w.heap[q]? = some (.cells #[a, b, c, d, e, f] 64 (0, 0))
theorem Q6.cells {w : World} {q : Nat} {a b c d e f : Value} (h : Q6 w q a b c d e f) : w.cell? ⟨q, 0, none⟩ = some a ∧ w.cell? ⟨q, 1, none⟩ = some b ∧ w.cell? ⟨q, 2, none⟩ = some c ∧ w.cell? ⟨q, 3, none⟩ = some d ∧ w.cell? ⟨q, 4, none⟩ = some e ∧ w.cell? ⟨q, 5, none⟩ = some f := by
  unfold World.cell?
  rw [h]
  exact ⟨rfl, rfl, rfl, rfl, rfl, rfl⟩
theorem Q6.free {w : World} {q : Nat} {a b c d e f : Value} (h : Q6 w q a b c d e f) (k : Nat) : w.frozen? ⟨q, k, none⟩ = false := by unfold World.frozen?; rw [h]; simp
theorem Q6.set3 {w : World} {q : Nat} {a b c d e f : Value} (h : Q6 w q a b c d e f) (x : Value) : Q6 (w.setCell ⟨q, 3, none⟩ x) q a b c x e f := by
  unfold Q6 at *
  simp [World.setCell, Array.getElem?_modify, h]
theorem Q6.set4 {w : World} {q : Nat} {a b c d e f : Value} (h : Q6 w q a b c d e f) (x : Value) : Q6 (w.setCell ⟨q, 4, none⟩ x) q a b c d x f := by
  unfold Q6 at *
  simp [World.setCell, Array.getElem?_modify, h]
theorem Q6.set5 {w : World} {q : Nat} {a b c d e f : Value} (h : Q6 w q a b c d e f) (x : Value) : Q6 (w.setCell ⟨q, 5, none⟩ x) q a b c d e x := by
  unfold Q6 at *
  simp [World.setCell, Array.getElem?_modify, h]
theorem Q6.lt {w : World} {q : Nat} {a b c d e f : Value} (h : Q6 w q a b c d e f) : q < w.heap.size := (Array.getElem?_eq_some_iff.1 h).1
/-- A quotation in block q. -/
def QD (w : World) (base q least most : Nat) (any : Bool) (C : List UInt8) (st : QSt) : Prop :=
  ∃ (ao : Option Addr) (cap h : Nat), Q6 w q (.int .i64 least) (.int .i64 most) (.bool any) (.slice ao C.length cap) (.int .i64 st.num) (.int .u8 (h : Int)) ∧ OwnB w base (.slice ao C.length cap) C ∧ q < base ∧ st.hi h ∧ C.length + st.more ≤ most
/-- What accepting a character leaves. -/
def QOut (base q least most : Nat) (any : Bool) (w : World) (r : Option (QSt × List UInt8)) (e : Ending) (w' : World) : Prop :=
  Kp base (Is q) w w' ∧ match r with
    | none => e = .returned (.bool false)
    | some p => e = .returned (.bool true) ∧ QD w' base q least most any p.2 p.1

set_option maxRecDepth 100000 in
theorem mayEnd_any (w : World) (base q least most : Nat) (any : Bool) (C : List UInt8) (st : QSt) (h : QD w base q least most any C st) (hm : most ≤ 9223372036854775807) (_hl : least ≤ 100) :
    Calls Tryz.prog 61 #[.pointer (some ⟨q, 0, none⟩)] w fun e w' => e = .returned (.bool (st.isWhole && decide (least ≤ C.length))) ∧ ∃ m, w' = w.drewN m := by
  obtain ⟨ao, cap, hh, h6, -, -, -, hc⟩ := h
  obtain ⟨c0, c1, c2, c3, c4, c5⟩ := h6.cells
  clear h6
  have hcm : (C.length : Int) ≤ 9223372036854775807 := by omega
  cases hw : st.isWhole
  · have hn : (st.num == 0) = false := by cases st <;> first | rfl | cases hw
    have hq : (false && decide (least ≤ C.length)) = false := rfl
    rw [hq]
    generalize st.num = sn at *
    clear hq hw
    go_enter Tryz.func61, Tryz.ntmps61
    go_wp2_with fail
    go_quiet (fail)
    go_wp2_with fail
    go_ret
    exact ⟨rfl, _, rfl⟩
  · have hn : st.num = 0 := by cases st <;> first | rfl | cases hw
    rw [hn] at c4
    rw [Bool.true_and]
    clear hw hn
    go_enter Tryz.func61, Tryz.ntmps61
    go_wp2_with fail
    go_quiet (fail)
    go_wp2_with fail
    go_ret
    exact ⟨rfl, _, rfl⟩

set_option maxRecDepth 100000 in
set_option maxHeartbeats 1600000 in
theorem add_any (w : World) (base q least most : Nat) (any : Bool) (C : List UInt8) (st : QSt) (c : UInt8) (h : QD w base q least most any C st) (_hm : most ≤ 9223372036854775807) (hb : base ≤ w.heap.size) (hC : C.length ≤ 10000000) :
    Calls Tryz.prog 88 #[.pointer (some ⟨q, 0, none⟩), .int .u8 (c.toNat : Int)] w (QOut base q least most any w (if C.length < most then some (.whole, C ++ [c]) else none)) := by
  obtain ⟨i0, hi, hz0, hz1, hz2⟩ := info_parts infoByte
  obtain ⟨ao, cap, hh, h6, ho, hqb, -, hc⟩ := h
  obtain ⟨c0, c1, c2, c3, c4, c5⟩ := h6.cells
  have f3 := h6.free 3
  have f4 := h6.free 4
  have H6 := Lib.hid h6
  have HO := Lib.hid ho
  clear h6 ho
  by_cases hlt : C.length < most
  · have hne : ((C.length : Int) == (most : Int)) = false := by rw [beq_eq_false_iff_ne]; omega
    rw [if_pos hlt]
    go_enter Tryz.func88, Tryz.ntmps88
    go_wp2_with fail
    go_quiet (fail)
    go_wp2_with (first | (at_builtin; refine wpList_append_own _ rfl _ _ 43 rfl base 5 i0 (.int .u8 0) 1 1 Tryz.underlying43 hi hz0 hz1 hz2 rfl (by decide) _ _ _ rfl (World.ownsRow.alloc (w := w.drewN nq) HO.out _) ⟨w.heap.size, 0, none⟩ 1 1 [.int .u8 (c.toNat : Int)] rfl rfl (byte_news _ _ _) (byte_cells _) (by unfold maxLen; omega) (by omega) (by simp; omega) ?_))
    intro v' w2 hown' hgrow _
    have hq : q < w.heap.size := H6.out.lt
    have H62 : Hid (Q6 w2 q (.int .i64 least) (.int .i64 most) (.bool any) (.slice ao C.length cap) (.int .i64 st.num) (.int .u8 (hh : Int))) := Lib.hid (by
      unfold Q6
      rw [hgrow.block q (by simp; omega) (fun e => ownB_far HO.out hqb e.symm), Below.heap_alloc (w.drewN nq) _ _ hq]
      exact H6.out)
    have HK : Hid (Kp base (Is q) w w2) := Lib.hid (by
      have h1 : Kp base (Is q) w ((w.drewN nq).alloc (.cells #[.int .u8 (c.toNat : Int)] 5)) := ((Kp.refl base (Is q) w).drewN nq).alloc hb _
      exact h1.trans ⟨hgrow.os, hgrow.tape, hgrow.output, hgrow.size, fun k hk _ => hgrow.block k (by simp; omega) (fun e => ownB_far HO.out hk e.symm)⟩)
    have HO2 := Lib.hid (own_byte hown')
    obtain ⟨ao2, cap2, rfl⟩ := own_form hown'
    obtain ⟨d0, d1, d2, d3, d4, d5⟩ := H62.out.cells
    have g3 := H62.out.free 3
    have g4 := H62.out.free 4
    clear hown' hgrow
    go_wp2_with fail
    go_ret
    refine ⟨(HK.out.set ⟨q, 3, none⟩ (Is.self q) _).set ⟨q, 4, none⟩ (Is.self q) _, rfl, ao2, cap2, hh, ?_, ?_, hqb, trivial, by simp [QSt.more]; omega⟩
    · have := (H62.out.set3 (.slice ao2 (C.length + 1) cap2)).set4 (.int .i64 0)
      simpa [QSt.num] using this
    · have := ownsRow_setCell_below (a := ⟨q, 4, none⟩) (ownsRow_setCell_below (a := ⟨q, 3, none⟩) HO2.out hqb (.slice ao2 (C.length + 1) cap2)) hqb (.int .i64 0)
      simpa [OwnB] using this
  · have hne : ((C.length : Int) == (most : Int)) = true := by rw [beq_iff_eq]; omega
    rw [if_neg hlt]
    go_enter Tryz.func88, Tryz.ntmps88
    go_wp2_with fail
    go_quiet (fail)
    go_wp2_with fail
    go_ret
    exact ⟨(Kp.refl base (Is q) w).drewN _, rfl⟩

theorem qd_len {w : World} {base q least most : Nat} {any : Bool} {C : List UInt8} {st : QSt} (h : QD w base q least most any C st) : C.length + st.more ≤ most := by
  obtain ⟨_, _, _, _, _, _, _, h⟩ := h
  exact h
set_option maxRecDepth 100000 in
set_option maxHeartbeats 1600000 in
theorem begin_any (w : World) (base q least most : Nat) (any : Bool) (C : List UInt8) (c : Nat) (h : QD w base q least most any C .whole) (hm : most ≤ 9223372036854775807) (hb : base ≤ w.heap.size) (hC : C.length ≤ 10000000) :
    Calls Tryz.prog 85 #[.pointer (some ⟨q, 0, none⟩), .int .i32 (c : Int)] w (QOut base q least most any w (qstep most any C c .whole)) := by
  by_cases h92 : c = 92
  · have hne : ((c : Int) != 92) = false := by rw [h92]; rfl
    obtain ⟨ao, cap, hh, h6, ho, hqb, -, hcl⟩ := h
    have h61 := h6.set4 (.int .i64 1)
    obtain ⟨d0, d1, d2, d3, d4, d5⟩ := h61.cells
    obtain ⟨c0, c1, c2, c3, c4, c5⟩ := h6.cells
    have f4 := h6.free 4
    have H6 := Lib.hid h61
    have HO := Lib.hid ho
    have HS : Hid (qstep most any C c .whole = if C.length < most then some (.esc, C) else none) := Lib.hid (by simp only [qstep]; rw [if_pos h92])
    have hcm : (C.length : Int) ≤ 9223372036854775807 := by omega
    clear h6 h61 ho h92
    go_enter Tryz.func85, Tryz.ntmps85
    go_wp2_with fail
    go_quiet (fail)
    go_wp2_with fail
    go_ret
    rw [HS.out]
    refine ⟨((Kp.refl base (Is q) w).set ⟨q, 4, none⟩ (Is.self q) _).drewN _, ?_⟩
    by_cases hl : C.length < most
    · rw [if_pos hl]
      exact ⟨ret_bool (by simpa using hl), ao, cap, hh, H6.out, ownsRow_setCell_below (a := ⟨q, 4, none⟩) HO.out hqb (.int .i64 1), hqb, trivial, by simp [QSt.more]; omega⟩
    · rw [if_neg hl]
      exact ret_bool (by simpa using hl)
  · have hne : ((c : Int) != 92) = true := by rw [bne_iff_ne]; omega
    have HA := Lib.hid (fun u => add_any w base q least most any C .whole u h hm hb hC)
    have HP := Lib.hid (fun w => print_any (c : Int) w)
    by_cases h34 : c = 34
    · have hne4 : ((c : Int) != 34) = false := by rw [h34]; rfl
      have HS : Hid (qstep most any C c .whole = none) := Lib.hid (by simp only [qstep]; rw [if_neg h92, if_neg (by omega)])
      clear h h92 h34 HA HP
      go_enter Tryz.func85, Tryz.ntmps85
      go_wp2_with fail
      go_ret
      rw [HS.out]
      exact ⟨Kp.refl base (Is q) w, rfl⟩
    · have hne4 : ((c : Int) != 34) = true := by rw [bne_iff_ne]; omega
      by_cases hp : 32 ≤ c ∧ c ≤ 126
      · have hpb : (decide (32 ≤ (c : Int)) && decide ((c : Int) ≤ 126)) = true := by rw [Bool.and_eq_true, decide_eq_true_eq, decide_eq_true_eq]; omega
        have HS : Hid (qstep most any C c .whole = if C.length < most then some (.whole, C ++ [UInt8.ofNat c]) else none) := Lib.hid (by
          simp only [qstep]
          rw [if_neg h92]
          by_cases hl : C.length < most
          · rw [if_pos ⟨h34, hp.1, hp.2, hl⟩, if_pos hl]
          · rw [if_neg (fun h => hl h.2.2.2), if_neg hl])
        have HA1 := HA.out (UInt8.ofNat c)
        have hcb : ((UInt8.ofNat c).toNat : Int) = (c : Int) := by simp; omega
        rw [hcb, ← HS.out] at HA1
        have HA1 := Lib.hid HA1
        have HP1 := HP.out
        rw [hpb] at HP1
        have HP1 := Lib.hid HP1
        have hc1 : (32 : Int) ≤ (c : Int) := by omega
        have hc2 : (c : Int) ≤ 126 := by omega
        clear h h92 h34 HA HP hcb hp hpb
        go_enter Tryz.func85, Tryz.ntmps85
        go_wp2_with fail
        refine (HP1.out _).mono ?_
        rintro e w' ⟨rfl, hw'⟩; obtain rfl := hw'.symm
        go_wp2_with fail
        refine HA1.out.mono ?_
        rintro e w1 hq
        have HQ := Lib.hid hq
        obtain ⟨bq, rfl⟩ : ∃ bq, e = .returned (.bool bq) := by
          have := hq.2
          split at this
          · exact ⟨_, this⟩
          · exact ⟨_, this.1⟩
        clear hq
        go_wp2_with fail
        go_ret
        exact HQ.out
      · have hpb : (decide (32 ≤ (c : Int)) && decide ((c : Int) ≤ 126)) = false := by rw [Bool.and_eq_false_iff, decide_eq_false_iff_not, decide_eq_false_iff_not]; omega
        have HS : Hid (qstep most any C c .whole = none) := Lib.hid (by simp only [qstep]; rw [if_neg h92, if_neg (by omega)])
        have HP1 := HP.out
        rw [hpb] at HP1
        have HP1 := Lib.hid HP1
        clear h h92 h34 HA HP hp hpb
        go_enter Tryz.func85, Tryz.ntmps85
        go_wp2_with fail
        refine (HP1.out _).mono ?_
        rintro e w' ⟨rfl, hw'⟩; obtain rfl := hw'.symm
        go_wp2_with fail
        go_ret
        rw [HS.out]
        exact ⟨Kp.refl base (Is q) w, rfl⟩

set_option maxRecDepth 100000 in
set_option maxHeartbeats 1600000 in
theorem escape_any (w : World) (base q least most : Nat) (any : Bool) (C : List UInt8) (c : Nat) (h : QD w base q least most any C .esc) (hm : most ≤ 9223372036854775807) (hb : base ≤ w.heap.size) (hC : C.length ≤ 10000000) :
    Calls Tryz.prog 86 #[.pointer (some ⟨q, 0, none⟩), .int .i32 (c : Int)] w (QOut base q least most any w (qstep most any C c .esc)) := by
  have hlm : C.length < most := by have := qd_len h; simp [QSt.more] at this; omega
  by_cases h34 : c = 34 ∨ c = 92
  · have HS : Hid (qstep most any C c .esc = some (.whole, C ++ [UInt8.ofNat c])) := Lib.hid (by simp only [qstep]; rw [if_pos h34])
    have HA1 := add_any w base q least most any C .esc (UInt8.ofNat c) h hm hb hC
    have hcb : ((UInt8.ofNat c).toNat : Int) = (c : Int) := by simp; omega
    rw [hcb, if_pos hlm, ← HS.out] at HA1
    have HA1 := Lib.hid HA1
    clear h hcb HS
    by_cases h3 : c = 34
    · have e3 : ((c : Int) == 34) = true := by rw [h3]; rfl
      have hc1 : (c : Int) ≤ 126 := by omega
      clear h34 h3
      go_enter Tryz.func86, Tryz.ntmps86
      go_wp2_with fail
      refine HA1.out.mono ?_
      rintro e w1 hq
      have HQ := Lib.hid hq
      obtain ⟨bq, rfl⟩ : ∃ bq, e = .returned (.bool bq) := by
        have := hq.2
        split at this
        · exact ⟨_, this⟩
        · exact ⟨_, this.1⟩
      clear hq
      go_wp2_with fail
      go_ret
      exact HQ.out
    · have e3 : ((c : Int) == 34) = false := by rw [beq_eq_false_iff_ne]; omega
      have e9 : ((c : Int) == 92) = true := by rw [show c = 92 by omega]; rfl
      have hc1 : (c : Int) ≤ 126 := by omega
      clear h34 h3
      go_enter Tryz.func86, Tryz.ntmps86
      go_wp2_with fail
      refine HA1.out.mono ?_
      rintro e w1 hq
      have HQ := Lib.hid hq
      obtain ⟨bq, rfl⟩ : ∃ bq, e = .returned (.bool bq) := by
        have := hq.2
        split at this
        · exact ⟨_, this⟩
        · exact ⟨_, this.1⟩
      clear hq
      go_wp2_with fail
      go_ret
      exact HQ.out
  · have e3 : ((c : Int) == 34) = false := by rw [beq_eq_false_iff_ne]; omega
    have e9 : ((c : Int) == 92) = false := by rw [beq_eq_false_iff_ne]; omega
    by_cases hx : c = 120
    · have ex : ((c : Int) == 120) = true := by rw [hx]; rfl
      obtain ⟨ao, cap, hh, h6, ho, hqb, -, hcl⟩ := h
      have h61 := h6.set4 (.int .i64 2)
      obtain ⟨d0, d1, d2, d3, d4, d5⟩ := h61.cells
      obtain ⟨c0, c1, c2, c3, c4, c5⟩ := h6.cells
      have f4 := h6.free 4
      have H6 := Lib.hid h61
      have HO := Lib.hid ho
      have HS : Hid (qstep most any C c .esc = if any = true then some (.hex1, C) else none) := Lib.hid (by simp only [qstep]; rw [if_neg h34]; simp [hx])
      clear h6 h61 ho h34 hx
      go_enter Tryz.func86, Tryz.ntmps86
      go_wp2_with fail
      go_ret
      rw [HS.out]
      refine ⟨(Kp.refl base (Is q) w).set ⟨q, 4, none⟩ (Is.self q) _, ?_⟩
      cases any
      · exact rfl
      · exact ⟨rfl, ao, cap, hh, H6.out, ownsRow_setCell_below (a := ⟨q, 4, none⟩) HO.out hqb (.int .i64 2), hqb, trivial, by simp [QSt.more]; omega⟩
    · have ex : ((c : Int) == 120) = false := by rw [beq_eq_false_iff_ne]; omega
      have HS : Hid (qstep most any C c .esc = none) := Lib.hid (by simp only [qstep]; rw [if_neg h34, if_neg (fun h => hx h.1)])
      clear h h34 hx
      go_enter Tryz.func86, Tryz.ntmps86
      go_wp2_with fail
      go_ret
      rw [HS.out]
      exact ⟨Kp.refl base (Is q) w, rfl⟩

end Go.Proofs.YtmbmlcnipncgnaaGreatDoor
