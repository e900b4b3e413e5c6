/-
  The walk of PatternLimits. Nothing is assumed.
-/
import Derived.Test.YtedfcngadaalpaaDoorPaAwake
import Derived.Test.YtedfcngadaalpaaDoorPaLim
namespace Go.Proofs.YtedfcngadaalpaaDoor
open Go.RowKit

theorem pB_size : ∀ n, (pB n).size = n + 3
  | 0 => rfl
  | n + 1 => by
    rw [pB, ByteArray.size_append, pB_size n]
    show n + 3 + 1 = _
    omega

set_option maxRecDepth 100000 in
set_option maxHeartbeats 3200000 in
theorem law_plimits (z : Int) (w : World) (hA : AL w) : Calls Tryd.prog 5 #[.int .i64 z] w fun e w' => e = .returned (.bool true) ∧ Below w.heap.size w w' := by
  by_cases hout : z < 0 ∨ (¬ z < 0 ∧ z > 13)
  · have HA := Lib.hid (awake_any w hA)
    clear hA
    rcases hout with h1 | ⟨h1, h2⟩
    · go_enter Tryd.func5, Tryd.ntmps5
      go_wp2_with fail
      refine HA.out.mono ?_
      rintro e w1 ⟨rfl, hb⟩
      go_wp2_with fail
      go_ret
      exact ⟨rfl, hb⟩
    · go_enter Tryd.func5, Tryd.ntmps5
      go_wp2_with fail
      refine HA.out.mono ?_
      rintro e w1 ⟨rfl, hb⟩
      go_wp2_with fail
      go_ret
      exact ⟨rfl, hb⟩
  have hz0 : ¬ z < 0 := fun h => hout (.inl h)
  have hz1 : ¬ z > 13 := fun h => hout (.inr ⟨hz0, h⟩)
  obtain ⟨n, rfl⟩ : ∃ n : Nat, z = (n : Int) := ⟨z.toNat, by omega⟩
  have hn : n ≤ 13 := by omega
  have HAI := Lib.hid hA
  have HAW := Lib.hid (fun (V : World) (hV : AL V) => awake_any V hV)
  have HW := Lib.hid (fun (V : World) (hV : AL V) => words_any (pB n) (tN n) (tp_N hn) 1 V hV)
  have HS := Lib.hid (fun (V : World) (hV : AL V) => same_pat (pB n) (pB n) (tN n) (tN n) (tp_N hn) (tp_N hn) V hV)
  have HE : Hid ((n ≤ 10 ∧ (wordsR (tN n) 1).2 = 0 ∧ (sameT (tN n) (tN n)).2 = 0) ∨ (11 ≤ n ∧ (wordsR (tN n) 1).2 = 10 ∧ (sameT (tN n) (tN n)).2 = 10)) := Lib.hid (by
    rcases Nat.lt_or_ge n 11 with h | h
    · exact .inl ⟨by omega, lim_few (by omega)⟩
    · exact .inr ⟨h, lim_many h hn⟩)
  have HB0 := Lib.hid (Below.refl w.heap.size w)
  obtain ⟨⟨m, g⟩, hm⟩ : ∃ z, z = wordsR (tN n) 1 := ⟨_, rfl⟩
  obtain ⟨⟨k, i⟩, hk⟩ : ∃ z, z = sameT (tN n) (tN n) := ⟨_, rfl⟩
  rw [← hm] at HW HE
  rw [← hk] at HS HE
  clear hm hk hA hout
  dsimp only at HW HS HE
  go_enter Tryd.func5, Tryd.ntmps5
  go_wp2_with fail
  have hp0 : (⟨#[46, 42, 97]⟩ : ByteArray) = pB 0 := rfl
  go_loopw [3, 4] (fun a b wr => ∃ i : Nat, a = .string (pB i) ∧ b = .int .i64 (i : Int) ∧ i ≤ n ∧ wr = w) (fun _ b _ => n - (intOf b).toNat)
  case atStart => exact ⟨0, rfl, rfl, Nat.zero_le _, rfl⟩
  case round =>
    obtain ⟨j, rfl, rfl, hj, rfl⟩ := hrel
    by_cases hlt : j < n
    · have hltI : (j : Int) < (n : Int) := by omega
      have hwj : IntKind.i64.wrap ((j : Int) + 1) = ((j + 1 : Nat) : Int) := by rw [IntWalk.i64_in _ (by omega)]; omega
      have hsz := pB_size j
      have hns : ¬ 9223372036854775807 < (pB j).size + (⟨#[46]⟩ : ByteArray).size := by
        rw [hsz]
        show ¬ _ < j + 3 + 1
        omega
      have hns2 : ¬ 9223372036854775807 < (pB j).size + 1 := by omega
      have HJ : Hid (pB j ++ ⟨#[46]⟩ = pB (j + 1)) := Lib.hid rfl
      clear hsz hp0
      generalize pB j = pj at *
      go_wp2_with fail
      go_roundw
      case rel => exact ⟨j + 1, by rw [HJ.out], by first | rfl | go_num, hlt, by first | rfl | trivial⟩
      case measure => simp [intOf]; omega
    · have hltI : ¬ ((j : Int) < (n : Int)) := by omega
      obtain rfl : j = n := by omega
      clear hp0
      generalize pB j = pj at *
      go_wp2_with fail
      refine (HW.out wr (HAI.out.later HB0.out)).mono ?_
      rintro e w1 ⟨rfl, hb1⟩
      have HB1 := Lib.hid (HB0.out.trans (hb1.mono HB0.out.size))
      clear hb1 HW
      go_wp2_with fail
      refine (HS.out w1 (HAI.out.later HB1.out)).mono ?_
      rintro e w2 ⟨rfl, hb2⟩
      have HB2 := Lib.hid (HB1.out.trans (hb2.mono HB1.out.size))
      clear hb2 HS
      rcases HE.out with ⟨h10, rfl, rfl⟩ | ⟨h11, rfl, rfl⟩
      · have hlI : ¬ (j : Int) ≥ 11 := by omega
        go_wp2_with fail
        refine (HAW.out w2 (HAI.out.later HB2.out)).mono ?_
        rintro e w3 ⟨rfl, hb3⟩
        have HB3 := Lib.hid (HB2.out.trans (hb3.mono HB2.out.size))
        clear hb3 HAW
        go_wp2_with fail
        go_ret
        exact ⟨rfl, HB3.out⟩
      · have hlI : (j : Int) ≥ 11 := by omega
        go_wp2_with fail
        refine (HAW.out w2 (HAI.out.later HB2.out)).mono ?_
        rintro e w3 ⟨rfl, hb3⟩
        have HB3 := Lib.hid (HB2.out.trans (hb3.mono HB2.out.size))
        clear hb3 HAW
        go_wp2_with fail
        go_ret
        exact ⟨rfl, HB3.out⟩
end Go.Proofs.YtedfcngadaalpaaDoor
