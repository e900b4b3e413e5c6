/-
  The contract of Show of the reference. Nothing is assumed.
-/
import Derived.Test.YtlpmaeemegphiaaDoorStRefC
import Derived.Test.YtlpmaeemegphiaaDoorStEnv
import Derived.Laws.AppendOwnNone
namespace Go.Proofs.YtlpmaeemegphiaaDoor
open Go.RowKit

theorem own_lit (w : World) (base : Nat) (v : Value) (h : base ≤ w.heap.size) : (w.alloc (.cells #[v] 5)).ownsRow base 5 1 (.slice (some ⟨w.heap.size, 0, none⟩) 1 1) 1 [v] := by
  refine ⟨rfl, .inr ⟨w.heap.size, 1, #[v], rfl, h, ?_, Nat.le_refl _, by unfold maxLen; omega, rfl, rfl⟩⟩
  show (w.heap.push _)[w.heap.size]? = _
  simp
theorem own_far' {w : World} {base e size n : Nat} {v : Value} {xs : List Value} (h : w.ownsRow base e size v n xs) {g : Nat} (hg : g < base) : v.ownBlock ≠ some g := by
  rcases h.2 with ⟨rfl, _⟩ | ⟨g', cap, cur, rfl, hb, _⟩
  · simp [Value.ownBlock]
  · simp [Value.ownBlock]; omega
theorem dd_len : ∀ (k a : Nat), a < 10 ^ k → (dd a).length ≤ k
  | 0, a, h => by
    have : a = 0 := by simpa using h
    subst this
    simp [dd]
  | k + 1, a, h => by
    by_cases h0 : a = 0
    · subst h0
      simp [dd]
    · rw [dd_step a (by omega), List.length_append]
      have := dd_len k (a / 10) (by rw [Nat.pow_succ] at h; omega)
      simp
      omega
theorem dd_zero : dd 0 = [] := rfl
theorem digit_cell (a : Nat) : [Value.int .u8 (48 + (a : Int) % 10)] = bcells [UInt8.ofNat (48 + a % 10)] := by
  unfold bcells
  rw [List.map_cons, List.map_nil, ofNat_toNat (a % 10) (by omega)]
  congr 2
theorem bcells_len (l : List UInt8) : (bcells l).length = l.length := by simp [bcells]
theorem bcells_one (l : List UInt8) : ∀ u, u ∈ bcells l → u.oneCell' = true := fun u hu => by
  unfold bcells at hu
  obtain ⟨c, _, rfl⟩ := List.mem_map.1 hu
  rfl
theorem str_append (a b : List UInt8) : str a ++ str b = str (a ++ b) := by
  apply ByteArray.ext
  simp [str]
theorem digit_cons (a : Nat) (l : List UInt8) : Value.int .u8 (48 + (a : Int) % 10) :: bcells l = bcells (UInt8.ofNat (48 + a % 10) :: l) := by
  have h := digit_cell a
  unfold bcells at *
  rw [List.map_cons]
  rw [List.map_cons, List.map_nil] at h
  rw [List.cons.inj h |>.1]

set_option maxRecDepth 100000 in
set_option maxHeartbeats 3200000 in
theorem rshow_pos (A : Nat) (hA : 0 < A) (hA2 : A ≤ 9223372036854775807) (w : World) :
    Calls Tryd.prog 32 #[.int .i64 ((A : Int))] w fun e w' => e = .returned (.string (str (Lib.itoa ((A : Int))))) ∧ Below w.heap.size w w' := by
  have hne : ((A : Int) == 0) = false := by simp; omega
  have h0 : ¬ ((A : Int) < 0) := by omega
  have HIT : Hid (Lib.itoa (A : Int) = dd A) := Lib.hid (by
    unfold Lib.itoa dd
    rw [if_neg h0, if_neg (by omega)]
    rfl)
  have HDL := Lib.hid (dd_len 19 A (Nat.lt_of_le_of_lt hA2 (by decide)))
  have HA2 := Lib.hid hA2; clear hA2
  obtain ⟨i0, hi, hz0, hz1, hz2⟩ := info_parts infoByte
  go_enter Tryd.func32, Tryd.ntmps32
  go_wp2_with fail
  go_loopw [3, 4] (fun v m wr => ∃ (a : Nat) (l : List UInt8), m = .int .i64 ((a : Int)) ∧ a ≤ A ∧ Hid (dd A = dd a ++ l) ∧ Hid (OwnB wr w.heap.size v l) ∧ Below w.heap.size w wr) (fun _ m _ => (intOf m).natAbs)
  case atStart => exact ⟨A, [], rfl, Nat.le_refl _, by rw [List.append_nil]; exact Lib.hid rfl, OwnB.none _ _, Below.refl _ _⟩
  case round =>
    obtain ⟨a, l, rfl, haA, HD, HO, hbel⟩ := hrel
    have hsz := hbel.size
    have HL : Hid (l.length ≤ 19) := Lib.hid (by
      have h1 := congrArg List.length HD.out
      have h2 := HDL.out
      rw [List.length_append] at h1
      omega)
    by_cases ha : a = 0
    · subst ha
      have HE : Hid (dd A = l) := Lib.hid (by have := HD.out; rw [dd_zero, List.nil_append] at this; exact this)
      have hback := HO.out.string
      go_wp2_with fail
      go_ret
      exact ⟨ret_string (by rw [HIT.out, HE.out]), hbel⟩
    · have han : ((a : Int) != 0) = true := by simp; omega
      have ha0 : (0 : Int) ≤ (a : Int) := by omega
      have hab : (a : Int) ≤ 9223372036854775807 := by have := HA2.out; omega
      have HD2 : Hid (dd A = dd (a / 10) ++ ([UInt8.ofNat (48 + a % 10)] ++ l)) := Lib.hid (by
        rw [HD.out, dd_step a (by omega), List.append_assoc])
      have hv : (u3 = .slice none 0 0 ∧ l = []) ∨ ∃ g cap, u3 = .slice (some ⟨g, 0, none⟩) l.length cap ∧ ∀ X, ∀ (j : Nat) u, (bcells l)[j]? = some u → (wr.alloc X).cell? ((⟨g, 0, none⟩ : Addr).add j) = some u := by
        rcases HO.out.2 with ⟨h1, h2⟩ | ⟨g, cap, cur, rfl, hg, hh, hcap, _, hszz, htk⟩
        · exact .inl ⟨h1, List.eq_nil_of_length_eq_zero h2⟩
        · refine .inr ⟨g, cap, rfl, fun X j u hj => ?_⟩
          have hlt : g < wr.heap.size := by
            rcases Nat.lt_or_ge g wr.heap.size with h | h
            · exact h
            · rw [Array.getElem?_eq_none h] at hh; cases hh
          have ea : (⟨g, 0, none⟩ : Addr).add j = ⟨g, j, none⟩ := by simp [Addr.add]; exact fun h => h.symm
          rw [ea, World.cell?_alloc_past _ _ _ hlt]
          have hjl : j < l.length := by
            have := (List.getElem?_eq_some_iff.1 hj).1
            rwa [bcells_len] at this
          rw [← htk, List.getElem?_take, if_pos (by omega)] at hj
          unfold World.cell?
          rw [hh]
          simpa using hj
      clear HO
      rcases hv with ⟨rfl, hl0⟩ | ⟨g, cap, rfl, hcells⟩
      · subst hl0
        go_wp2_with (first | (at_builtin; refine wpList_append_own_none rfl _ _ 51 rfl w.heap.size 5 i0 1 Tryd.underlying51 hi _ 1 [.int .u8 (48 + (a : Int) % 10)] rfl (own_lit wr w.heap.size _ hsz) rfl ?_))
        have HO2 : Hid (OwnB (wr.alloc (.cells #[.int .u8 (48 + (a : Int) % 10)] 5)) w.heap.size (.slice (some ⟨wr.heap.size, 0, none⟩) 1 1) [UInt8.ofNat (48 + a % 10)]) := Lib.hid (by
          unfold OwnB
          rw [← digit_cell]
          exact own_lit wr w.heap.size _ hsz)
        go_wp2_with fail
        go_roundw
        case rel => exact ⟨a / 10, _, by go_num, by omega, HD2, HO2, hbel.alloc hsz _⟩
        case measure => simp [intOf]; omega
      · go_wp2_with (first | (at_builtin; refine wpList_append_own _ rfl _ _ 51 rfl w.heap.size 5 i0 (.int .u8 0) 1 1 Tryd.underlying51 hi hz0 hz1 hz2 rfl (by decide) _ 1 [.int .u8 (48 + (a : Int) % 10)] rfl (own_lit wr w.heap.size _ hsz) ⟨g, 0, none⟩ _ cap (bcells l) rfl (by rw [bcells_len, Nat.mul_one]) (hcells _) (bcells_one l) (by have := HL.out; unfold maxLen; omega) (by have := HL.out; omega) (by simp; omega) ?_))
        intro v' w2 hown' hgrow _
        have hbw : Below w.heap.size w w2 := (hbel.alloc hsz _).grown hgrow (by simp; omega) (fun g hg => by
          rcases Nat.lt_or_ge g w.heap.size with h | h
          · exact absurd hg (own_far' (own_lit wr w.heap.size (.int .u8 (48 + (a : Int) % 10)) hsz) h)
          · exact h)
        have HO2 : Hid (OwnB w2 w.heap.size v' (UInt8.ofNat (48 + a % 10) :: l)) := Lib.hid (by
          unfold OwnB
          rw [List.length_cons, Nat.add_comm, ← digit_cons]
          exact hown')
        clear hown' hgrow
        go_wp2_with fail
        go_roundw
        case rel => exact ⟨a / 10, _, by go_num, by omega, HD2, HO2, hbw⟩
        case measure => simp [intOf]; omega

end Go.Proofs.YtlpmaeemegphiaaDoor
