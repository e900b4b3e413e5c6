/-
  The reader of patterns: atEnd, peek, take; the classes of bytes. Nothing is assumed.
-/
import Derived.Test.YtaipaddfehpmgaaDoorPtSet
import Derived.Test.YtaipaddfehpmgaaDoorShelf
namespace Go.Proofs.YtaipaddfehpmgaaDoor
open Go.RowKit

set_option maxRecDepth 100000 in
theorem atEnd_any (w : World) (b : Nat) (s : ByteArray) (i : Nat) (h : RD w b s i) :
    Calls Tryd.prog 37 #[.pointer (some ⟨b, 0, none⟩)] w fun e w' => e = .returned (.bool (decide (i = s.size))) ∧ ∃ m, w' = w.drewN m := by
  have h0 := h.text
  have h1 := h.at
  have hd : (((i : Nat) : Int) == ((s.size : Nat) : Int)) = decide (i = s.size) := by
    rw [Bool.eq_iff_iff]
    simp
    omega
  go_enter Tryd.func37, Tryd.ntmps37
  go_wp2_with fail
  go_quiet (fail)
  go_wp2_with fail
  go_ret
  exact ⟨rfl, _, rfl⟩
set_option maxRecDepth 100000 in
theorem peek_any (w : World) (b : Nat) (s : ByteArray) (i : Nat) (h : RD w b s i) (hi : i ≤ s.size) :
    Calls Tryd.prog 70 #[.pointer (some ⟨b, 0, none⟩)] w fun e w' => e = .returned (.int .u8 (pk s.data.toList i : Int)) ∧ ∃ m, w' = w.drewN m := by
  have HA := atEnd_any w b s i h
  by_cases hlt : i < s.size
  · have hpk := pk_in s i hlt
    have h0 := h.text
    have h1 := h.at
    rw [decide_eq_false (show ¬ i = s.size by omega)] at HA
    rw [hpk]
    clear h hpk
    go_enter Tryd.func70, Tryd.ntmps70
    go_wp2_with fail
    refine HA.mono ?_
    rintro e w1 ⟨rfl, m, rfl⟩
    go_wp2_with fail
    go_quiet (fail)
    go_wp2_with fail
    go_ret
    exact ⟨rfl, _, World.drewN_drewN _ _ _⟩
  · rw [pk_out s.data.toList i (by rw [lt_len]; omega)]
    rw [decide_eq_true (show i = s.size by omega)] at HA
    clear h
    go_enter Tryd.func70, Tryd.ntmps70
    go_wp2_with fail
    refine HA.mono ?_
    rintro e w1 ⟨rfl, m, rfl⟩
    go_wp2_with fail
    go_ret
    exact ⟨rfl, _, rfl⟩


set_option maxRecDepth 100000 in
theorem take_any (w : World) (b : Nat) (s : ByteArray) (i c : Nat) (h : RD w b s i) (hi : i ≤ s.size) (hs : s.size ≤ 1000000) (hc : c ≠ 0) :
    Calls Tryd.prog 53 #[.pointer (some ⟨b, 0, none⟩), .int .u8 (c : Int)] w fun e w' => e = .returned (.bool (decide (pk s.data.toList i = c))) ∧ RD w' b s (if pk s.data.toList i = c then i + 1 else i) ∧ Kp w.heap.size (Is b) w w' := by
  have HP := Lib.hid (peek_any w b s i h hi)
  have HR := Lib.hid h
  by_cases hq : pk s.data.toList i = c
  · have hlt := pk_is hq hc
    rw [lt_len] at hlt
    have h1 := h.at
    have h2 := h.free 1
    have hb : ((pk s.data.toList i : Int) != (c : Int)) = false := by rw [hq]; simp
    rw [if_pos hq, decide_eq_true hq]
    generalize pk s.data.toList i = p at *
    clear h hq
    go_enter Tryd.func53, Tryd.ntmps53
    go_wp2_with fail
    refine HP.out.mono ?_
    rintro e w1 ⟨rfl, m, rfl⟩
    clear HP
    go_wp2_with fail
    go_ret
    refine ⟨rfl, ?_, ?_⟩
    · have := RD.move (w := w.drewN m) HR.out (i + 1)
      simpa using this
    · exact ((Kp.refl _ _ w).drewN m).set ⟨b, 1, none⟩ (Is.self b) _
  · have hb : ((pk s.data.toList i : Int) != (c : Int)) = true := by rw [bne_iff_ne]; omega
    rw [if_neg hq, decide_eq_false hq]
    generalize pk s.data.toList i = p at *
    clear h hq
    go_enter Tryd.func53, Tryd.ntmps53
    go_wp2_with fail
    refine HP.out.mono ?_
    rintro e w1 ⟨rfl, m, rfl⟩
    clear HP
    go_wp2_with fail
    go_ret
    exact ⟨rfl, HR.out, (Kp.refl _ _ w).drewN m⟩

theorem has_all : ∀ c < 256, S4.alpha.has c = inA c := by decide +kernel
theorem sp_all : ∀ c < 256, decide ((0 : Int) ≤ Lib.indexByte [40, 41, 91, 93, 46, 42, 124, 92] (UInt8.ofNat c)) = isSp c := by decide +kernel
theorem spm_all : ∀ c < 256, decide ((0 : Int) ≤ Lib.indexByte [93, 92, 94, 45] (UInt8.ofNat c)) = isSpM c := by decide +kernel
theorem beg_all : ∀ c < 256, decide ((0 : Int) ≤ Lib.indexByte [40, 91, 46, 92] (UInt8.ofNat c)) = [40, 91, 46, 92].contains c := by decide +kernel
set_option maxRecDepth 100000 in
theorem inAlphabet_any (c : Nat) (hc : c < 256) (w : World) (h : AL w) :
    Calls Tryd.prog 42 #[.int .u8 (c : Int)] w fun e w' => e = .returned (.bool (inA c)) ∧ Below w.heap.size w w' := by
  obtain ⟨h0, h1, h2, h3⟩ := h
  have HH := Lib.hid (has_any .alpha c hc)
  rw [has_all c hc] at HH
  generalize inA c = r at *
  unfold S4.val at HH
  generalize S4.alpha.a = xa at *
  generalize S4.alpha.b = xb at *
  generalize S4.alpha.c = xc at *
  generalize S4.alpha.d = xd at *
  go_enter Tryd.func42, Tryd.ntmps42
  go_wp2_with fail
  refine (HH.out _).mono ?_
  rintro e w1 ⟨rfl, hw⟩
  go_wp2_with fail
  go_ret
  exact ⟨rfl, hw⟩

set_option maxRecDepth 100000 in
theorem isSpecial_any (c : Nat) (hc : c < 256) (w : World) :
    Calls Tryd.prog 65 #[.int .u8 (c : Int)] w fun e w' => e = .returned (.bool (isSp c)) ∧ w' = w := by
  have HF := sp_all c hc
  have HI := Lib.hid (Tryd.strings_IndexByte ⟨#[40, 41, 91, 93, 46, 42, 124, 92]⟩ (c : Int) w)
  go_enter Tryd.func65, Tryd.ntmps65
  go_wp2_with fail
  refine HI.out.mono ?_
  rintro e w1 ⟨rfl, rfl⟩
  clear HI
  go_wp2_with fail
  go_ret
  exact ⟨rfl, rfl⟩

set_option maxRecDepth 100000 in
theorem isSpecialMember_any (c : Nat) (hc : c < 256) (w : World) :
    Calls Tryd.prog 97 #[.int .u8 (c : Int)] w fun e w' => e = .returned (.bool (isSpM c)) ∧ w' = w := by
  have HF := spm_all c hc
  have HI := Lib.hid (Tryd.strings_IndexByte ⟨#[93, 92, 94, 45]⟩ (c : Int) w)
  go_enter Tryd.func97, Tryd.ntmps97
  go_wp2_with fail
  refine HI.out.mono ?_
  rintro e w1 ⟨rfl, rfl⟩
  clear HI
  go_wp2_with fail
  go_ret
  exact ⟨rfl, rfl⟩

set_option maxRecDepth 100000 in
theorem isPlain_any (c : Nat) (hc : c < 256) (w : World) (h : AL w) :
    Calls Tryd.prog 83 #[.int .u8 (c : Int)] w fun e w' => e = .returned (.bool (isPl c)) ∧ Below w.heap.size w w' := by
  have HA := Lib.hid (inAlphabet_any c hc w h)
  have HS := Lib.hid (isSpecial_any c hc)
  clear h
  unfold isPl
  cases hA : inA c
  · rw [hA] at HA
    rw [Bool.false_and]
    go_enter Tryd.func83, Tryd.ntmps83
    go_wp2_with fail
    refine HA.out.mono ?_
    rintro e w1 ⟨rfl, hb⟩
    go_wp2_with fail
    go_ret
    exact ⟨rfl, hb⟩
  · rw [hA] at HA
    rw [Bool.true_and]
    go_enter Tryd.func83, Tryd.ntmps83
    go_wp2_with fail
    refine HA.out.mono ?_
    rintro e w1 ⟨rfl, hb⟩
    go_wp2_with fail
    refine (HS.out _).mono ?_
    rintro e w2 ⟨rfl, hw2⟩
    obtain rfl := hw2.symm
    go_wp2_with fail
    go_ret
    exact ⟨rfl, hb⟩
set_option maxRecDepth 100000 in
theorem beginsAtom_any (c : Nat) (hc : c < 256) (w : World) (h : AL w) :
    Calls Tryd.prog 72 #[.int .u8 (c : Int)] w fun e w' => e = .returned (.bool (begA c)) ∧ Below w.heap.size w w' := by
  have HA := Lib.hid (isPlain_any c hc w h)
  have HF := beg_all c hc
  have HI := Lib.hid (Tryd.strings_IndexByte ⟨#[40, 91, 46, 92]⟩ (c : Int))
  clear h
  unfold begA
  cases hA : isPl c
  · rw [hA] at HA
    rw [Bool.false_or]
    go_enter Tryd.func72, Tryd.ntmps72
    go_wp2_with fail
    refine HA.out.mono ?_
    rintro e w1 ⟨rfl, hb⟩
    go_wp2_with fail
    refine (HI.out _).mono ?_
    rintro e w2 ⟨rfl, hw2⟩
    obtain rfl := hw2.symm
    go_wp2_with fail
    go_ret
    exact ⟨ret_bool (by simp), hb⟩
  · rw [hA] at HA
    rw [Bool.true_or]
    go_enter Tryd.func72, Tryd.ntmps72
    go_wp2_with fail
    refine HA.out.mono ?_
    rintro e w1 ⟨rfl, hb⟩
    go_wp2_with fail
    go_ret
    exact ⟨rfl, hb⟩
end Go.Proofs.YtaipaddfehpmgaaDoor
