/-
  The decimal digits; text and join of the reference. Nothing is assumed.
-/
import Derived.Test.YtmbmlcnipncgnaaGreatDoorLtLit
import Derived.Test.YtmbmlcnipncgnaaGreatDoorLtRefQ
import Derived.Test.YtmbmlcnipncgnaaGreatDoorLtOwn
namespace Go.Proofs.YtmbmlcnipncgnaaGreatDoor

section
open Go.RowKit

theorem heap_newD (w : World) (o : Obj) : (w.alloc o).heap[w.heap.size]? = some o := by
  show (w.heap.push o)[w.heap.size]? = some o
  rw [Array.getElem?_push, if_pos rfl]
theorem one_strD (w : World) (x : UInt8) : (convert 43 9 (.slice (some ⟨w.heap.size, 0, none⟩) 1 1)).run Tryz.prog (w.alloc (.cells #[.int .u8 (x.toNat : Int)] 5)) = .ok (.string (str [x])) (w.alloc (.cells #[.int .u8 (x.toNat : Int)] 5)) := by
  have h : OwnB (w.alloc (.cells #[.int .u8 (x.toNat : Int)] 5)) 0 (.slice (some ⟨w.heap.size, 0, none⟩) 1 1) [x] := ⟨rfl, .inr ⟨w.heap.size, 1, #[.int .u8 (x.toNat : Int)], rfl, Nat.zero_le _, heap_newD w _, Nat.le_refl _, by decide, rfl, rfl⟩⟩
  exact h.string

set_option maxRecDepth 100000 in
set_option maxHeartbeats 1600000 in
theorem rdec_pos (A : Nat) (hA : A ≤ 1000000) (w : World) :
    Calls Tryz.prog 71 #[.int .i64 (A : Int)] w fun e w' => e = .returned (.string (str (Lib.decDigits A))) ∧ Below w.heap.size w w' := by
  have h0 : ¬ ((A : Int) < 0) := by omega
  have HL : Hid ((Lib.decDigits A).length ≤ 21) := Lib.hid (by
    have := Lib.itoa_length_le (A : Int) (by omega) (by omega)
    unfold Lib.itoa at this
    rw [if_neg h0, Int.toNat_natCast] at this
    exact this)
  have HA := Lib.hid hA
  clear hA
  go_enter Tryz.func71, Tryz.ntmps71
  go_wp2_with fail
  go_loopw [0, 3] (fun nv sv wr => ∃ (a : Nat) (S : List UInt8), nv = .int .i64 (a : Int) ∧ sv = .string (str S) ∧ a ≤ A ∧ Hid (Lib.decDigits A = Lib.decDigits a ++ S) ∧ Below w.heap.size w wr) (fun nv _ _ => (intOf nv).toNat)
  case atStart => exact ⟨A, [], rfl, rfl, Nat.le_refl _, Lib.hid (by rw [List.append_nil]), Below.refl _ _⟩
  case round =>
    obtain ⟨a, S, rfl, rfl, haA, HD, hbel⟩ := hrel
    have hsz := str_size S
    have hS : S.length ≤ 21 := by
      have h1 := congrArg List.length HD.out
      have h2 := HL.out
      rw [List.length_append] at h1
      omega
    have ha0 : (0 : Int) ≤ (a : Int) := by omega
    have hab : (a : Int) ≤ 1000000 := by have := HA.out; omega
    by_cases h10 : a < 10
    · have h10' : ¬ (10 : Int) ≤ (a : Int) := by omega
      have HE : Hid (Lib.decDigits A = UInt8.ofNat (48 + a) :: S) := Lib.hid (by rw [HD.out, dec_small h10]; rfl)
      have hx8 : ((UInt8.ofNat (48 + a)).toNat : Int) = 48 + (a : Int) := by simp; omega
      have ha9 : (a : Int) ≤ 9 := by omega
      have hcv : (convert 43 9 (.slice (some ⟨wr.heap.size, 0, none⟩) 1 1)).run Tryz.prog (wr.alloc (.cells #[.int .u8 (48 + (a : Int))] 5)) = .ok (.string (str [UInt8.ofNat (48 + a)])) (wr.alloc (.cells #[.int .u8 (48 + (a : Int))] 5)) := by
        rw [← hx8]
        exact one_strD wr _
      obtain ⟨X, hX⟩ : ∃ X, str [UInt8.ofNat (48 + a)] = X := ⟨_, rfl⟩
      rw [hX] at hcv
      have hX1 : X.size = 1 := by rw [← hX]; rfl
      have hadd : ∀ w, (Op.stringOp .add X (str S)).run Tryz.prog w = .ok (.string (X ++ str S)) w := fun w => run_string_add_sum w X (str S) (by rw [hsz, hX1]; omega)
      have HX : Hid (X ++ str S = str (Lib.decDigits A)) := Lib.hid (by rw [← hX, lt_app, HE.out]; rfl)
      have HB := Lib.hid (hbel.alloc hbel.size (.cells #[.int .u8 (48 + (a : Int))] 5))
      clear h10 hX hx8 HD
      go_wp2_with fail
      go_ret
      exact ⟨ret_string HX.out, HB.out⟩
    · have h10' : (10 : Int) ≤ (a : Int) := by omega
      have HE : Hid (Lib.decDigits A = Lib.decDigits (a / 10) ++ (UInt8.ofNat (48 + a % 10) :: S)) := Lib.hid (by rw [HD.out, dec_big h10, List.append_assoc]; rfl)
      have hx8 : ((UInt8.ofNat (48 + a % 10)).toNat : Int) = 48 + (a : Int) % 10 := by simp; omega
      have hm1 : (a : Int) % 10 ≤ 9 := by omega
      have hm0 : (0 : Int) ≤ (a : Int) % 10 := by omega
      have hcv : (convert 43 9 (.slice (some ⟨wr.heap.size, 0, none⟩) 1 1)).run Tryz.prog (wr.alloc (.cells #[.int .u8 (48 + (a : Int) % 10)] 5)) = .ok (.string (str [UInt8.ofNat (48 + a % 10)])) (wr.alloc (.cells #[.int .u8 (48 + (a : Int) % 10)] 5)) := by
        rw [← hx8]
        exact one_strD wr _
      obtain ⟨X, hX⟩ : ∃ X, str [UInt8.ofNat (48 + a % 10)] = X := ⟨_, rfl⟩
      rw [hX] at hcv
      have hX1 : X.size = 1 := by rw [← hX]; rfl
      have hadd : ∀ w, (Op.stringOp .add X (str S)).run Tryz.prog w = .ok (.string (X ++ str S)) w := fun w => run_string_add_sum w X (str S) (by rw [hsz, hX1]; omega)
      have HX : Hid (X ++ str S = str (UInt8.ofNat (48 + a % 10) :: S)) := Lib.hid (by rw [← hX, lt_app]; rfl)
      have HB := Lib.hid (hbel.alloc hbel.size (.cells #[.int .u8 (48 + (a : Int) % 10)] 5))
      have HQ : Hid (((a / 10 : Nat) : Int) = (a : Int) / 10) := Lib.hid (Int.natCast_ediv a 10)
      have HM : Hid (a / 10 < a) := Lib.hid (by omega)
      clear h10 hX hx8 HD
      go_wp2_with fail
      go_roundw
      case rel => exact ⟨a / 10, UInt8.ofNat (48 + a % 10) :: S, by rw [HQ.out], by rw [HX.out], by have := HM.out; omega, HE, HB.out⟩
      case measure => simp [intOf]; have := HM.out; omega

set_option maxRecDepth 100000 in
theorem rdec_any (n : Int) (h0 : -1000000 ≤ n) (h1 : n ≤ 1000000) (w : World) :
    Calls Tryz.prog 71 #[.int .i64 n] w fun e w' => e = .returned (.string (str (Lib.itoa n))) ∧ Below w.heap.size w w' := by
  by_cases h : n < 0
  · have HC := rdec_pos n.natAbs (by omega)
    have ha : ((n.natAbs : Nat) : Int) = -n := by omega
    rw [ha] at HC
    have HI : Hid (Lib.itoa n = 45 :: Lib.decDigits n.natAbs) := Lib.hid (by unfold Lib.itoa; rw [if_pos h])
    have hl : (Lib.decDigits n.natAbs).length ≤ 21 := by
      have := Lib.itoa_length_le n (by omega) (by omega)
      rw [HI.out, List.length_cons] at this
      omega
    have hadd : ∀ w, (Op.stringOp .add ⟨#[45]⟩ (str (Lib.decDigits n.natAbs))).run Tryz.prog w = .ok (.string (⟨#[45]⟩ ++ str (Lib.decDigits n.natAbs))) w := fun w => run_string_add_sum w _ _ (by rw [str_size]; show 1 + _ ≤ _; omega)
    have HX : Hid ((⟨#[45]⟩ : ByteArray) ++ str (Lib.decDigits n.natAbs) = str (Lib.itoa n)) := Lib.hid (by rw [HI.out]; exact lt_app [45] _)
    clear ha hl
    go_enter Tryz.func71, Tryz.ntmps71
    go_wp2_with fail
    refine (HC _).mono ?_
    rintro e w1 ⟨rfl, hb1⟩
    go_wp2_with fail
    go_ret
    exact ⟨ret_string HX.out, hb1⟩
  · have HC := rdec_pos n.toNat (by omega) w
    have ha : ((n.toNat : Nat) : Int) = n := by omega
    rw [ha] at HC
    have hi : Lib.itoa n = Lib.decDigits n.toNat := by unfold Lib.itoa; rw [if_neg h]
    rw [hi]
    exact HC
end

section
open Go.RowKit

theorem blw_drewT {B : Nat} {a w : World} (h : Below B a w) (n : Nat) : Below B a (w.drewN n) := ⟨h.os, h.tape, h.output, h.size, h.block⟩

def TextC (v : V) : Prop := ∀ (sl : Value) (w : World) (B : Nat), Rep w B sl v.l → B ≤ w.heap.size → v.chk = 0 →
  Calls Tryz.prog 42 #[.agg #[.int .i64 v.t, .int .i64 v.n, .string v.s, sl]] w fun e w' => e = .returned (.string (str v.lit)) ∧ Below w.heap.size w w'
theorem take_lits (l : List V) (k : Nat) (h : k < l.length) : V.lits (l.take (k + 1)) = if k = 0 then (l[k]'h).lit else V.lits (l.take k) ++ (44 :: 32 :: (l[k]'h).lit) := by
  rw [List.take_succ_eq_append_getElem h, V.lits_snoc]
  cases k with
  | zero => rfl
  | succ k =>
    cases l with
    | nil => simp at h
    | cons x l => rw [if_neg (by simp), if_neg (by omega)]
theorem lits_take_len (l : List V) (k : Nat) (hk : k ≤ 1000) (hc : ∀ x, x ∈ l → x.chk = 0) : (V.lits (l.take k)).length ≤ 40002000 := by
  have h1 := V.lits_len 40000 (l.take k) fun x hx => lit_len (hc x (List.mem_of_mem_take hx))
  have h2 : (l.take k).length ≤ 1000 := by rw [List.length_take]; omega
  have h3 : (l.take k).length * (40000 + 2) ≤ 1000 * 40002 := Nat.mul_le_mul_right 40002 h2
  omega

set_option maxRecDepth 100000 in
set_option maxHeartbeats 1600000 in
theorem rjoin_any (l : List V) (ih : ∀ x, x ∈ l → TextC x) (sl : Value) (w : World) (B : Nat) (hR : Rep w B sl l) (hB : B ≤ w.heap.size) (hc : ∀ x, x ∈ l → x.chk = 0) (hl : l.length ≤ 1000) :
    Calls Tryz.prog 20 #[sl] w fun e w' => e = .returned (.string (str (V.lits l))) ∧ Below w.heap.size w w' := by
  obtain ⟨oa, cap, rfl, hlc, hm, hel⟩ := hR.slice
  have HIH := Lib.hid ih
  have HC := Lib.hid hc
  clear ih hc hR
  go_enter Tryz.func20, Tryz.ntmps20
  go_wp2_with fail
  go_loopw [3, 4] (fun sv iv wr => ∃ (k : Nat), k ≤ l.length ∧ iv = .int .i64 (k : Int) ∧ sv = .string (str (V.lits (l.take k))) ∧ Below w.heap.size w wr) (fun _ iv _ => l.length - (intOf iv).toNat)
  case atStart => exact ⟨0, Nat.zero_le _, rfl, by rw [List.take_zero, V.lits_nil]; rfl, Below.refl _ _⟩
  case round =>
    obtain ⟨k, hk, rfl, rfl, hbel⟩ := hrel
    by_cases hlt : k < l.length
    · obtain ⟨b, off, oe, ce, rfl, hb, h0, h1, h2, h3, hr⟩ := hel k _ (List.getElem?_eq_getElem hlt)
      rw [← hbel.cell (p := ⟨b, _, none⟩) (Nat.lt_of_lt_of_le hb hB)] at h0 h1 h2 h3
      have hs := hbel.size
      have hT := HIH.out _ (List.getElem_mem hlt) _ wr B (hr.later (hbel.mono hB)) (by omega) (HC.out _ (List.getElem_mem hlt))
      have HT := Lib.hid hT
      have hlen := lits_take_len l k (by omega) HC.out
      have hlen2 := lit_len (HC.out _ (List.getElem_mem hlt))
      have HS := Lib.hid (take_lits l k hlt)
      clear hT hr
      obtain ⟨O, hO⟩ : ∃ O, V.lits (l.take k) = O := ⟨_, rfl⟩
      obtain ⟨T, hTT⟩ : ∃ T, (l[k]'hlt).lit = T := ⟨_, rfl⟩
      rw [hO] at HS hlen ⊢
      rw [hTT] at HS HT hlen2
      have hOs := str_size O
      have hTs := str_size T
      by_cases h0k : k = 0
      · have HX : Hid (str O ++ str T = str (V.lits (l.take (k + 1)))) := Lib.hid (by
          rw [HS.out, if_pos h0k]
          have : O = [] := by rw [← hO, h0k, List.take_zero, V.lits_nil]
          rw [this]
          rw [lt_app]
          rfl)
        have hk0 : ¬ (0 : Int) < (k : Int) := by omega
        have hadd : ∀ w, (Op.stringOp .add (str O) (str T)).run Tryz.prog w = .ok (.string (str O ++ str T)) w := fun w => run_string_add_sum w _ _ (by omega)
        clear h0k hO hTT
        go_wp2_with fail
        refine HT.out.mono ?_
        rintro e w1 ⟨rfl, hb1⟩
        go_wp2_with fail
        go_roundw
        case rel => exact ⟨k + 1, hlt, by go_num, by rw [HX.out], hbel.trans (hb1.mono hs)⟩
        case measure => simp [intOf]; omega
      · obtain ⟨O2, hO2⟩ : ∃ O2, str O ++ (⟨#[44, 32]⟩ : ByteArray) = O2 := ⟨_, rfl⟩
        have hO2s : O2.size = O.length + 2 := by rw [← hO2, ByteArray.size_append, hOs]; rfl
        have HX : Hid (O2 ++ str T = str (V.lits (l.take (k + 1)))) := Lib.hid (by
          rw [HS.out, if_neg h0k, ← hO2, app_lit, lt_app, List.append_assoc]
          rfl)
        have hk0 : (0 : Int) < (k : Int) := by omega
        have hadd1 : ∀ w, (Op.stringOp .add (str O) ⟨#[44, 32]⟩).run Tryz.prog w = .ok (.string O2) w := fun w => by rw [← hO2]; exact run_string_add_sum w _ _ (by show (str O).size + 2 ≤ _; omega)
        have hadd : ∀ w, (Op.stringOp .add O2 (str T)).run Tryz.prog w = .ok (.string (O2 ++ str T)) w := fun w => run_string_add_sum w _ _ (by omega)
        clear h0k hO hTT hO2
        go_wp2_with fail
        refine HT.out.mono ?_
        rintro e w1 ⟨rfl, hb1⟩
        go_wp2_with fail
        go_roundw
        case rel => exact ⟨k + 1, hlt, by go_num, by rw [HX.out], hbel.trans (hb1.mono hs)⟩
        case measure => simp [intOf]; omega
    · obtain rfl : k = l.length := by omega
      have HX : Hid (V.lits (l.take l.length) = V.lits l) := Lib.hid (by rw [List.take_length])
      go_wp2_with fail
      go_ret
      exact ⟨ret_string (by rw [HX.out]), hbel⟩

set_option maxRecDepth 100000 in
set_option maxHeartbeats 3200000 in
theorem rtext_any (v : V) : TextC v := by
  induction v using V.ind with
  | h v ih =>
  intro sl w B hR hB hchk
  obtain ⟨oa, cap, rfl, hlc, hm, -⟩ := hR.slice
  have hb1 : Below w.heap.size w (w.alloc (.cells #[.int .i64 v.t, .int .i64 v.n, .string v.s, .slice oa v.l.length cap] 34)) := below1 w _
  have hR1 : Rep (w.alloc (.cells #[.int .i64 v.t, .int .i64 v.n, .string v.s, .slice oa v.l.length cap] 34)) B (.slice oa v.l.length cap) v.l := hR.later (hb1.mono hB)
  have HB1 := Lib.hid hb1
  have HE := Lib.hid (V.lit_eq v)
  have hcs := chk_cases hchk
  have hll := lit_len hchk
  clear hb1 hchk
  rcases hcs with h | h | h | h | h | h | h | h
  · obtain ⟨ht, hn, -, -⟩ := h
    have q1 : (v.t == 1) = true := by rw [ht]; decide
    by_cases hn0 : v.n = 0
    · have hq : (v.n == 0) = true := by rw [hn0]; rfl
      have HX : Hid (v.lit = wFalse) := Lib.hid (by rw [HE.out, ht]; simp [hn0])
      clear ht hn hll hR1 HE hn0 hR ih
      go_enter Tryz.func42, Tryz.ntmps42
      go_wp2_with fail
      go_ret
      exact ⟨ret_string (by rw [HX.out]; rfl), HB1.out⟩
    · have hq : (v.n == 0) = false := by rw [beq_eq_false_iff_ne]; exact hn0
      have HX : Hid (v.lit = wTrue) := Lib.hid (by rw [HE.out, ht]; simp [hn0])
      clear ht hn hll hR1 HE hn0 hR ih
      go_enter Tryz.func42, Tryz.ntmps42
      go_wp2_with fail
      go_ret
      exact ⟨ret_string (by rw [HX.out]; rfl), HB1.out⟩
  · obtain ⟨ht, h1, h2, -, -⟩ := h
    have q1 : (v.t == 1) = false := by rw [ht]; decide
    have q2 : (v.t == 2) = true := by rw [ht]; decide
    have HX : Hid (v.lit = Lib.itoa v.n) := Lib.hid (by rw [HE.out, ht]; simp)
    have HD := Lib.hid (rdec_any v.n h1 h2 (w.alloc (.cells #[.int .i64 v.t, .int .i64 v.n, .string v.s, .slice oa v.l.length cap] 34)))
    clear ht h1 h2 hll hR1 HE hR ih
    go_enter Tryz.func42, Tryz.ntmps42
    go_wp2_with fail
    refine HD.out.mono ?_
    rintro e w1 ⟨rfl, hb2⟩
    go_wp2_with fail
    go_ret
    exact ⟨ret_string (by rw [HX.out]), HB1.out.trans (hb2.mono (by simp))⟩
  · obtain ⟨ht, h1, h2, -, -⟩ := h
    have q1 : (v.t == 1) = false := by rw [ht]; decide
    have q2 : (v.t == 2) = false := by rw [ht]; decide
    have q4 : (v.t == 4) = true := by rw [ht]; decide
    obtain ⟨m, hm4⟩ : ∃ m : Nat, v.n = (m : Int) := ⟨v.n.toNat, by omega⟩
    have HX : Hid (v.lit = [48, 120, hx (m / 16), hx (m % 16)]) := Lib.hid (by rw [HE.out, ht, hm4]; simp)
    have hmi : (m : Int) ≤ 255 := by omega
    have hmi0 : (0 : Int) ≤ (m : Int) := by omega
    have H1 := fun w => rhex_any (m / 16) w (by omega)
    have H2 := fun w => rhex_any (m % 16) w (by omega)
    rw [Int.natCast_ediv] at H1
    rw [Int.natCast_emod] at H2
    obtain ⟨A1, hA1⟩ : ∃ Y, str [hx (m / 16)] = Y := ⟨_, rfl⟩
    obtain ⟨A2, hA2⟩ : ∃ Y, str [hx (m % 16)] = Y := ⟨_, rfl⟩
    rw [hA1] at H1
    rw [hA2] at H2
    have hA1s : A1.size = 1 := by rw [← hA1]; rfl
    have hA2s : A2.size = 1 := by rw [← hA2]; rfl
    obtain ⟨Y1, hY1⟩ : ∃ Y, (⟨#[48, 120]⟩ : ByteArray) ++ A1 = Y := ⟨_, rfl⟩
    have hY1s : Y1.size = 3 := by rw [← hY1, ByteArray.size_append, hA1s]; rfl
    have hadd1 : ∀ w, (Op.stringOp .add ⟨#[48, 120]⟩ A1).run Tryz.prog w = .ok (.string Y1) w := fun w => by rw [← hY1]; exact run_string_add_sum w _ _ (by show 2 + A1.size ≤ _; omega)
    have hadd2 : ∀ w, (Op.stringOp .add Y1 A2).run Tryz.prog w = .ok (.string (Y1 ++ A2)) w := fun w => run_string_add_sum w _ _ (by omega)
    have HY : Hid (Y1 ++ A2 = str v.lit) := Lib.hid (by rw [HX.out, ← hY1, ← hA1, ← hA2, show (⟨#[48, 120]⟩ : ByteArray) = str [48, 120] from rfl, lt_app, lt_app]; rfl)
    have H1 := Lib.hid H1
    have H2 := Lib.hid H2
    clear ht h1 h2 hll hR1 HE hR ih hA1 hA2 hY1
    go_enter Tryz.func42, Tryz.ntmps42
    go_wp2_with fail
    go_quiet (first | (go_at_call 72; exact Calls.quiet_of_same (H1.out _)) | (go_at_call 72; exact Calls.quiet_of_same (H2.out _)))
    go_wp2_with fail
    go_ret
    exact ⟨ret_string HY.out, blw_drewT (below1 w _) _⟩
  · obtain ⟨ht, -, htx, -⟩ := h
    have q1 : (v.t == 1) = false := by rw [ht]; decide
    have q2 : (v.t == 2) = false := by rw [ht]; decide
    have q4 : (v.t == 4) = false := by rw [ht]; decide
    have q3 : (v.t == 3) = true := by rw [ht]; decide
    have HX : Hid (v.lit = quoteL v.s.data.toList) := Lib.hid (by rw [HE.out, ht]; simp)
    have hts := (chkText_ok htx).2.1
    have HD := Lib.hid (fun w => rquote_any v.s w (by omega))
    clear ht htx hll hR1 HE hR ih
    go_enter Tryz.func42, Tryz.ntmps42
    go_wp2_with fail
    refine (HD.out _).mono ?_
    rintro e w' ⟨rfl, hw'⟩; obtain rfl := hw'.symm
    go_wp2_with fail
    go_ret
    exact ⟨ret_string (by rw [HX.out]), HB1.out⟩
  · obtain ⟨ht, -, htx, -⟩ := h
    have q1 : (v.t == 1) = false := by rw [ht]; decide
    have q2 : (v.t == 2) = false := by rw [ht]; decide
    have q4 : (v.t == 4) = false := by rw [ht]; decide
    have q3 : (v.t == 3) = false := by rw [ht]; decide
    have q8 : (v.t == 8) = true := by rw [ht]; decide
    have HX : Hid (v.lit = 114 :: quoteL v.s.data.toList) := Lib.hid (by rw [HE.out, ht]; simp)
    have hts := (chkText_ok htx).2.1
    have HD := Lib.hid (fun w => rquote_any v.s w (by omega))
    have hql := quoteL_len v.s.data.toList
    rw [lt_len] at hql
    obtain ⟨T, hT⟩ : ∃ T, quoteL v.s.data.toList = T := ⟨_, rfl⟩
    rw [hT] at HX HD hql
    have hTs := str_size T
    have hadd1 : ∀ w, (Op.stringOp .add ⟨#[114]⟩ (str T)).run Tryz.prog w = .ok (.string (⟨#[114]⟩ ++ str T)) w := fun w => run_string_add_sum w _ _ (by show 1 + (str T).size ≤ _; omega)
    have HY : Hid ((⟨#[114]⟩ : ByteArray) ++ str T = str v.lit) := Lib.hid (by rw [HX.out]; exact lt_app [114] T)
    clear ht htx hll hR1 HE hR ih hT HX
    go_enter Tryz.func42, Tryz.ntmps42
    go_wp2_with fail
    refine (HD.out _).mono ?_
    rintro e w' ⟨rfl, hw'⟩; obtain rfl := hw'.symm
    go_wp2_with fail
    go_ret
    exact ⟨ret_string HY.out, HB1.out⟩
  · obtain ⟨ht, -, -, hl16, hcc⟩ := h
    have q1 : (v.t == 1) = false := by rw [ht]; decide
    have q2 : (v.t == 2) = false := by rw [ht]; decide
    have q4 : (v.t == 4) = false := by rw [ht]; decide
    have q3 : (v.t == 3) = false := by rw [ht]; decide
    have q8 : (v.t == 8) = false := by rw [ht]; decide
    have q5 : (v.t == 5) = true := by rw [ht]; decide
    have HX : Hid (v.lit = 91 :: (V.lits v.l ++ [93])) := Lib.hid (by rw [HE.out, ht]; simp)
    have hlen : (V.lits v.l).length ≤ 40000 := by
      have h1 := hll
      rw [HX.out] at h1
      simp at h1
      omega
    have HJ := Lib.hid (rjoin_any v.l (fun x hx => ih x hx) _ _ B hR1 (by simp; omega) (fun x hx => (chkL_mem 2 v.l hcc x hx).2) (by omega))
    obtain ⟨T, hT⟩ : ∃ T, V.lits v.l = T := ⟨_, rfl⟩
    rw [hT] at HX HJ hlen
    have hTs := str_size T
    obtain ⟨O2, hO2⟩ : ∃ O2, (⟨#[91]⟩ : ByteArray) ++ str T = O2 := ⟨_, rfl⟩
    have hO2s : O2.size = T.length + 1 := by rw [← hO2, ByteArray.size_append, hTs, Nat.add_comm]; rfl
    have HY : Hid (O2 ++ (⟨#[93]⟩ : ByteArray) = str v.lit) := Lib.hid (by rw [HX.out, ← hO2, show (⟨#[91]⟩ : ByteArray) = str [91] from rfl, lt_app, app_lit]; rfl)
    have hadd1 : ∀ w, (Op.stringOp .add ⟨#[91]⟩ (str T)).run Tryz.prog w = .ok (.string O2) w := fun w => by rw [← hO2]; exact run_string_add_sum w _ _ (by show 1 + (str T).size ≤ _; omega)
    have hadd2 : ∀ w, (Op.stringOp .add O2 ⟨#[93]⟩).run Tryz.prog w = .ok (.string (O2 ++ ⟨#[93]⟩)) w := fun w => run_string_add_sum w _ _ (by show O2.size + 1 ≤ _; omega)
    clear ht hll hR1 hT hO2 HX hR ih HE hcc
    go_enter Tryz.func42, Tryz.ntmps42
    go_wp2_with fail
    refine HJ.out.mono ?_
    rintro e w1 ⟨rfl, hb2⟩
    go_wp2_with fail
    go_ret
    exact ⟨ret_string HY.out, HB1.out.trans (hb2.mono (by simp))⟩
  · obtain ⟨ht, -, -, hl16, hcc⟩ := h
    have q1 : (v.t == 1) = false := by rw [ht]; decide
    have q2 : (v.t == 2) = false := by rw [ht]; decide
    have q4 : (v.t == 4) = false := by rw [ht]; decide
    have q3 : (v.t == 3) = false := by rw [ht]; decide
    have q8 : (v.t == 8) = false := by rw [ht]; decide
    have q5 : (v.t == 5) = false := by rw [ht]; decide
    have q6 : (v.t == 6) = true := by rw [ht]; decide
    have HX : Hid (v.lit = 123 :: (V.lits v.l ++ [125])) := Lib.hid (by rw [HE.out, ht]; simp)
    have hlen : (V.lits v.l).length ≤ 40000 := by
      have h1 := hll
      rw [HX.out] at h1
      simp at h1
      omega
    have HJ := Lib.hid (rjoin_any v.l (fun x hx => ih x hx) _ _ B hR1 (by simp; omega) (fun x hx => (chkL_mem 3 v.l hcc x hx).2) (by omega))
    obtain ⟨T, hT⟩ : ∃ T, V.lits v.l = T := ⟨_, rfl⟩
    rw [hT] at HX HJ hlen
    have hTs := str_size T
    obtain ⟨O2, hO2⟩ : ∃ O2, (⟨#[123]⟩ : ByteArray) ++ str T = O2 := ⟨_, rfl⟩
    have hO2s : O2.size = T.length + 1 := by rw [← hO2, ByteArray.size_append, hTs, Nat.add_comm]; rfl
    have HY : Hid (O2 ++ (⟨#[125]⟩ : ByteArray) = str v.lit) := Lib.hid (by rw [HX.out, ← hO2, show (⟨#[123]⟩ : ByteArray) = str [123] from rfl, lt_app, app_lit]; rfl)
    have hadd1 : ∀ w, (Op.stringOp .add ⟨#[123]⟩ (str T)).run Tryz.prog w = .ok (.string O2) w := fun w => by rw [← hO2]; exact run_string_add_sum w _ _ (by show 1 + (str T).size ≤ _; omega)
    have hadd2 : ∀ w, (Op.stringOp .add O2 ⟨#[125]⟩).run Tryz.prog w = .ok (.string (O2 ++ ⟨#[125]⟩)) w := fun w => run_string_add_sum w _ _ (by show O2.size + 1 ≤ _; omega)
    clear ht hll hR1 hT hO2 HX hR ih HE hcc
    go_enter Tryz.func42, Tryz.ntmps42
    go_wp2_with fail
    refine HJ.out.mono ?_
    rintro e w1 ⟨rfl, hb2⟩
    go_wp2_with fail
    go_ret
    exact ⟨ret_string HY.out, HB1.out.trans (hb2.mono (by simp))⟩
  · obtain ⟨ht, -, -, hl16, hcc⟩ := h
    have q1 : (v.t == 1) = false := by rw [ht]; decide
    have q2 : (v.t == 2) = false := by rw [ht]; decide
    have q4 : (v.t == 4) = false := by rw [ht]; decide
    have q3 : (v.t == 3) = false := by rw [ht]; decide
    have q8 : (v.t == 8) = false := by rw [ht]; decide
    have q5 : (v.t == 5) = false := by rw [ht]; decide
    have q6 : (v.t == 6) = false := by rw [ht]; decide
    have HX : Hid (v.lit = 60 :: (V.lits v.l ++ [62])) := Lib.hid (by rw [HE.out, ht]; simp)
    have hlen : (V.lits v.l).length ≤ 40000 := by
      have h1 := hll
      rw [HX.out] at h1
      simp at h1
      omega
    have HJ := Lib.hid (rjoin_any v.l (fun x hx => ih x hx) _ _ B hR1 (by simp; omega) (fun x hx => (chkR_mem _ v.l hcc x hx).2.2.2.2) (by omega))
    obtain ⟨T, hT⟩ : ∃ T, V.lits v.l = T := ⟨_, rfl⟩
    rw [hT] at HX HJ hlen
    have hTs := str_size T
    obtain ⟨O2, hO2⟩ : ∃ O2, (⟨#[60]⟩ : ByteArray) ++ str T = O2 := ⟨_, rfl⟩
    have hO2s : O2.size = T.length + 1 := by rw [← hO2, ByteArray.size_append, hTs, Nat.add_comm]; rfl
    have HY : Hid (O2 ++ (⟨#[62]⟩ : ByteArray) = str v.lit) := Lib.hid (by rw [HX.out, ← hO2, show (⟨#[60]⟩ : ByteArray) = str [60] from rfl, lt_app, app_lit]; rfl)
    have hadd1 : ∀ w, (Op.stringOp .add ⟨#[60]⟩ (str T)).run Tryz.prog w = .ok (.string O2) w := fun w => by rw [← hO2]; exact run_string_add_sum w _ _ (by show 1 + (str T).size ≤ _; omega)
    have hadd2 : ∀ w, (Op.stringOp .add O2 ⟨#[62]⟩).run Tryz.prog w = .ok (.string (O2 ++ ⟨#[62]⟩)) w := fun w => run_string_add_sum w _ _ (by show O2.size + 1 ≤ _; omega)
    clear ht hll hR1 hT hO2 HX hR ih HE hcc
    go_enter Tryz.func42, Tryz.ntmps42
    go_wp2_with fail
    refine HJ.out.mono ?_
    rintro e w1 ⟨rfl, hb2⟩
    go_wp2_with fail
    go_ret
    exact ⟨ret_string HY.out, HB1.out.trans (hb2.mono (by simp))⟩

set_option maxRecDepth 100000 in
theorem box_load (w : World) (v : V) (sl : Value) (B : Nat) (hR : Rep w B sl v.l) (hB : B ≤ w.heap.size) : Rep (w.alloc (.cells #[.int .i64 v.t, .int .i64 v.n, .string v.s, sl] 34)) B sl v.l := hR.later ((below1 w _).mono hB)
end

end Go.Proofs.YtmbmlcnipncgnaaGreatDoor
