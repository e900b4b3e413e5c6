/-
  Show of the reference at negative numbers, at 0, at every number. Nothing is assumed.
-/
import Derived.Test.YtlpmaeemegphiaaDoorStShow
namespace Go.Proofs.YtlpmaeemegphiaaDoor
open Go.RowKit

set_option maxRecDepth 100000 in
set_option maxHeartbeats 3200000 in
theorem rshow_neg (A : Nat) (hA : 0 < A) (hA2 : A ≤ 9223372036854775808) (w : World) :
    Calls Tryd.prog 32 #[.int .i64 (-(A : Int))] w fun e w' => e = .returned (.string (str (Lib.itoa (-(A : Int))))) ∧ Below w.heap.size w w' := by
  have hne : (-(A : Int) == 0) = false := by simp; omega
  have h0 : -(A : Int) < 0 := by omega
  have HIT : Hid (Lib.itoa (-(A : Int)) = 45 :: dd A) := Lib.hid (by
    unfold Lib.itoa dd
    rw [if_pos h0, if_neg (by omega), show (-(A : Int)).natAbs = A by omega])
  have HDL := Lib.hid (dd_len 19 A (Nat.lt_of_le_of_lt hA2 (by decide)))
  have HA2 := Lib.hid hA2; clear hA2
  obtain ⟨i0, hi, hz0, hz1, hz2⟩ := info_parts infoByte
  go_enter Tryd.func32, Tryd.ntmps32
  go_wp2_with fail
  go_loopw [3, 4] (fun v m wr => ∃ (a : Nat) (l : List UInt8), m = .int .i64 (-(a : Int)) ∧ a ≤ A ∧ Hid (dd A = dd a ++ l) ∧ Hid (OwnB wr w.heap.size v l) ∧ Below w.heap.size w wr) (fun _ m _ => (intOf m).natAbs)
  case atStart => exact ⟨A, [], rfl, Nat.le_refl _, by rw [List.append_nil]; exact Lib.hid rfl, OwnB.none _ _, Below.refl _ _⟩
  case round =>
    obtain ⟨a, l, rfl, haA, HD, HO, hbel⟩ := hrel
    have hsz := hbel.size
    have HL : Hid (l.length ≤ 19) := Lib.hid (by
      have h1 := congrArg List.length HD.out
      have h2 := HDL.out
      rw [List.length_append] at h1
      omega)
    by_cases ha : a = 0
    · subst ha
      have HE : Hid (dd A = l) := Lib.hid (by have := HD.out; rw [dd_zero, List.nil_append] at this; exact this)
      have hback := HO.out.string
      have hadd : ∀ w, (Op.stringOp .add ⟨#[45]⟩ (str l)).run Tryd.prog w = .ok (.string (⟨#[45]⟩ ++ str l)) w := fun w => run_string_add_sum w _ _ (by rw [str_size]; have := HL.out; show 1 + l.length ≤ _; omega)
      go_wp2_with fail
      go_ret
      exact ⟨ret_string (by rw [HIT.out, HE.out]; exact str_append [45] l), hbel⟩
    · have han : (-(a : Int) != 0) = true := by simp; omega
      have ha0 : (0 : Int) ≤ (a : Int) := by omega
      have hab : (a : Int) ≤ 9223372036854775808 := by have := HA2.out; omega
      have HD2 : Hid (dd A = dd (a / 10) ++ ([UInt8.ofNat (48 + a % 10)] ++ l)) := Lib.hid (by
        rw [HD.out, dd_step a (by omega), List.append_assoc])
      have hv : (u3 = .slice none 0 0 ∧ l = []) ∨ ∃ g cap, u3 = .slice (some ⟨g, 0, none⟩) l.length cap ∧ ∀ X, ∀ (j : Nat) u, (bcells l)[j]? = some u → (wr.alloc X).cell? ((⟨g, 0, none⟩ : Addr).add j) = some u := by
        rcases HO.out.2 with ⟨h1, h2⟩ | ⟨g, cap, cur, rfl, hg, hh, hcap, _, hszz, htk⟩
        · exact .inl ⟨h1, List.eq_nil_of_length_eq_zero h2⟩
        · refine .inr ⟨g, cap, rfl, fun X j u hj => ?_⟩
          have hlt : g < wr.heap.size := by
            rcases Nat.lt_or_ge g wr.heap.size with h | h
            · exact h
            · rw [Array.getElem?_eq_none h] at hh; cases hh
          have ea : (⟨g, 0, none⟩ : Addr).add j = ⟨g, j, none⟩ := by simp [Addr.add]; exact fun h => h.symm
          rw [ea, World.cell?_alloc_past _ _ _ hlt]
          have hjl : j < l.length := by
            have := (List.getElem?_eq_some_iff.1 hj).1
            rwa [bcells_len] at this
          rw [← htk, List.getElem?_take, if_pos (by omega)] at hj
          unfold World.cell?
          rw [hh]
          simpa using hj
      clear HO
      have hrem : Int.tmod (-(a : Int)) 10 = -((a : Int) % 10) := by rw [Int.neg_tmod, Int.tmod_eq_emod_of_nonneg ha0]
      have hquo : Int.tdiv (-(a : Int)) 10 = -((a : Int) / 10) := by rw [Int.neg_tdiv, Int.tdiv_eq_ediv_of_nonneg ha0]
      have hr0 : 0 ≤ (a : Int) % 10 := by omega
      have hr9 : (a : Int) % 10 ≤ 9 := by omega
      have hq0 : 0 ≤ (a : Int) / 10 := by omega
      have hq9 : (a : Int) / 10 ≤ 922337203685477580 := by omega
      by_cases hr : 0 < (a : Int) % 10
      · skip
        rcases hv with ⟨rfl, hl0⟩ | ⟨g, cap, rfl, hcells⟩
        · subst hl0
          go_wp2_with (first | (at_builtin; refine wpList_append_own_none rfl _ _ 51 rfl w.heap.size 5 i0 1 Tryd.underlying51 hi _ 1 [.int .u8 (48 + (a : Int) % 10)] rfl (own_lit wr w.heap.size _ hsz) rfl ?_))
          have HO2 : Hid (OwnB (wr.alloc (.cells #[.int .u8 (48 + (a : Int) % 10)] 5)) w.heap.size (.slice (some ⟨wr.heap.size, 0, none⟩) 1 1) [UInt8.ofNat (48 + a % 10)]) := Lib.hid (by
            unfold OwnB
            rw [← digit_cell]
            exact own_lit wr w.heap.size _ hsz)
          go_wp2_with fail
          go_roundw
          case rel => exact ⟨a / 10, _, by go_num, by omega, HD2, HO2, hbel.alloc hsz _⟩
          case measure => simp [intOf]; omega
        · go_wp2_with (first | (at_builtin; refine wpList_append_own _ rfl _ _ 51 rfl w.heap.size 5 i0 (.int .u8 0) 1 1 Tryd.underlying51 hi hz0 hz1 hz2 rfl (by decide) _ 1 [.int .u8 (48 + (a : Int) % 10)] rfl (own_lit wr w.heap.size _ hsz) ⟨g, 0, none⟩ _ cap (bcells l) rfl (by rw [bcells_len, Nat.mul_one]) (hcells _) (bcells_one l) (by have := HL.out; unfold maxLen; omega) (by have := HL.out; omega) (by simp; omega) ?_))
          intro v' w2 hown' hgrow _
          have hbw : Below w.heap.size w w2 := (hbel.alloc hsz _).grown hgrow (by simp; omega) (fun g hg => by
            rcases Nat.lt_or_ge g w.heap.size with h | h
            · exact absurd hg (own_far' (own_lit wr w.heap.size (.int .u8 (48 + (a : Int) % 10)) hsz) h)
            · exact h)
          have HO2 : Hid (OwnB w2 w.heap.size v' (UInt8.ofNat (48 + a % 10) :: l)) := Lib.hid (by
            unfold OwnB
            rw [List.length_cons, Nat.add_comm, ← digit_cons]
            exact hown')
          clear hown' hgrow
          go_wp2_with fail
          go_roundw
          case rel => exact ⟨a / 10, _, by go_num, by omega, HD2, HO2, hbw⟩
          case measure => simp [intOf]; omega
      · have hrz : (a : Int) % 10 = 0 := by omega
        rcases hv with ⟨rfl, hl0⟩ | ⟨g, cap, rfl, hcells⟩
        · subst hl0
          go_wp2_with (first | (at_builtin; refine wpList_append_own_none rfl _ _ 51 rfl w.heap.size 5 i0 1 Tryd.underlying51 hi _ 1 [.int .u8 (48)] rfl (own_lit wr w.heap.size _ hsz) rfl ?_))
          have HO2 : Hid (OwnB (wr.alloc (.cells #[.int .u8 (48)] 5)) w.heap.size (.slice (some ⟨wr.heap.size, 0, none⟩) 1 1) [UInt8.ofNat (48 + a % 10)]) := Lib.hid (by
            unfold OwnB
            rw [← digit_cell, hrz]
            exact own_lit wr w.heap.size _ hsz)
          go_wp2_with fail
          go_roundw
          case rel => exact ⟨a / 10, _, by go_num, by omega, HD2, HO2, hbel.alloc hsz _⟩
          case measure => simp [intOf]; omega
        · go_wp2_with (first | (at_builtin; refine wpList_append_own _ rfl _ _ 51 rfl w.heap.size 5 i0 (.int .u8 0) 1 1 Tryd.underlying51 hi hz0 hz1 hz2 rfl (by decide) _ 1 [.int .u8 (48)] rfl (own_lit wr w.heap.size _ hsz) ⟨g, 0, none⟩ _ cap (bcells l) rfl (by rw [bcells_len, Nat.mul_one]) (hcells _) (bcells_one l) (by have := HL.out; unfold maxLen; omega) (by have := HL.out; omega) (by simp; omega) ?_))
          intro v' w2 hown' hgrow _
          have hbw : Below w.heap.size w w2 := (hbel.alloc hsz _).grown hgrow (by simp; omega) (fun g hg => by
            rcases Nat.lt_or_ge g w.heap.size with h | h
            · exact absurd hg (own_far' (own_lit wr w.heap.size (.int .u8 (48)) hsz) h)
            · exact h)
          have HO2 : Hid (OwnB w2 w.heap.size v' (UInt8.ofNat (48 + a % 10) :: l)) := Lib.hid (by
            unfold OwnB
            rw [List.length_cons, Nat.add_comm, ← digit_cons, hrz]
            exact hown')
          clear hown' hgrow
          go_wp2_with fail
          go_roundw
          case rel => exact ⟨a / 10, _, by go_num, by omega, HD2, HO2, hbw⟩
          case measure => simp [intOf]; omega

end Go.Proofs.YtlpmaeemegphiaaDoor
