/-
  cut of the reference. Nothing is assumed.
-/
import Derived.Test.YtampofpllijfhaaTbStep
import Derived.Test.YtampofpllijfhaaTbSplA
import Derived.Lib.TrimByte
import Derived.Lib.IndexMore
import Derived.Lib.IndexLaws
namespace Go.Proofs.Ytampofpllijfhaa
open Go.RowKit

def strT (l : List UInt8) : ByteArray := ⟨l.toArray⟩
theorem strT_of (s : ByteArray) : strT s.data.toList = s := by simp [strT]
theorem strT_extract (s : ByteArray) (a b : Nat) : s.extract a b = strT ((s.data.toList.drop a).take (b - a)) := by
  conv => lhs; rw [← strT_of s]
  exact Lib.extract_mk _ a b
theorem lenT (s : ByteArray) : s.data.toList.length = s.size := by rw [Array.length_toList]; rfl
theorem occT_len {l sub : List UInt8} {k : Nat} (h : Lib.occAt l sub k = true) (hk : k ≤ l.length) : k + sub.length ≤ l.length := by
  unfold Lib.occAt at h
  have := (List.isPrefixOf_iff_prefix.1 h).length_le
  rw [List.length_drop] at this
  omega
theorem occT_extract (s t : ByteArray) (i j : Nat) (hj : i + t.size = j) : ((s.extract i j).toList == t.toList) = Lib.occAt s.data.toList t.data.toList i := by
  rw [strT_extract, ByteArray.toList_eq, ByteArray.toList_eq]
  show (((s.data.toList.drop i).take (j - i)) == t.data.toList) = _
  unfold Lib.occAt
  have hl := lenT t
  rw [Bool.eq_iff_iff, beq_iff_eq, List.isPrefixOf_iff_prefix, List.prefix_iff_eq_take, hl, show j - i = t.size by omega]
  exact ⟨fun h => h.symm, fun h => h.symm⟩
theorem occT_out (s t : ByteArray) (i : Nat) (hi : i ≤ s.size) (h : s.size < i + t.size) : Lib.occAt s.data.toList t.data.toList i = false := by
  cases ho : Lib.occAt s.data.toList t.data.toList i
  · rfl
  · have := occT_len ho (by rw [lenT]; exact hi)
    rw [lenT, lenT] at this
    omega
theorem cut_hit (s t : ByteArray) (i j : Nat) (hj : i + t.size = j) (h : Lib.index s.data.toList t.data.toList = (i : Int)) : cutA s t = s.extract 0 i ∧ cutB s t = s.extract j s.size := by
  unfold cutA cutB Lib.cut
  rw [if_pos (by rw [h]; omega), h, strT_extract, strT_extract]
  have hl := lenT t
  have hs := lenT s
  refine ⟨by simp [strT], ?_⟩
  unfold strT
  dsimp only
  rw [Int.toNat_natCast, hl, hj, List.take_of_length_le (by rw [List.length_drop, hs]; omega)]
theorem cut_miss (s t : ByteArray) (h : Lib.index s.data.toList t.data.toList = -1) : cutA s t = s ∧ cutB s t = ⟨#[]⟩ := by
  unfold cutA cutB Lib.cut
  rw [if_neg (by rw [h]; decide)]
  exact ⟨strT_of s, rfl⟩
theorem ret_cut {a b c d : ByteArray} (h : a = c) (h' : b = d) : Ending.returned (.tuple #[.string a, .string b]) = .returned (.tuple #[.string c, .string d]) := by rw [h, h']

set_option maxRecDepth 100000 in
set_option maxHeartbeats 1600000 in
theorem rcut_any (s t : ByteArray) (w : World) (hs : s.size ≤ 1000) (ht : t.size ≤ 1000) :
    Calls Try.prog 73 #[.string s, .string t] w fun e w' => e = .returned (.tuple #[.string (cutA s t), .string (cutB s t)]) ∧ Below w.heap.size w w' := by
  go_enter Try.func73, Try.ntmps73
  go_wp2_with fail
  go_loop [6] (fun v => ∃ i : Nat, i ≤ s.size + 1 ∧ v = .int .i64 i ∧ Hid (∀ j, j < i → Lib.occAt s.data.toList t.data.toList j = false)) (fun v => s.size + 1 - (intOf v).toNat)
  case atStart => exact ⟨0, Nat.zero_le _, rfl, Lib.hid fun j hj => absurd hj (Nat.not_lt_zero j)⟩
  case round =>
    obtain ⟨i, hi, rfl, HN⟩ := hrel
    by_cases h : i + t.size ≤ s.size
    · obtain ⟨j, hj⟩ : ∃ j, i + t.size = j := ⟨_, rfl⟩
      have hji : (i : Int) + (t.size : Int) = (j : Int) := by omega
      have HO := occT_extract s t i j hj
      have h1 : (j : Int) ≤ (s.size : Int) := by omega
      have h2 : (i : Int) ≤ (j : Int) := by omega
      have h3 : (0 : Int) ≤ (i : Int) := by omega
      have h4 : (i : Int) ≤ (s.size : Int) := by omega
      have h5 : (0 : Int) ≤ (j : Int) := by omega
      have hwr : IntKind.i64.wrap (j : Int) = (j : Int) := IntWalk.i64_in _ (by omega)
      have HJ := Lib.hid hj
      cases ho : Lib.occAt s.data.toList t.data.toList i
      · rw [ho] at HO
        have HN2 : Hid (∀ j, j < i + 1 → Lib.occAt s.data.toList t.data.toList j = false) := Lib.hid fun j hj => by
          rcases Nat.lt_or_ge j i with h1 | h1
          · exact HN.out j h1
          · obtain rfl : j = i := by omega
            exact ho
        clear ho HN hj
        go_wp2_with fail
        go_round
        case rel => exact ⟨i + 1, by omega, by go_num, HN2⟩
        case measure => simp [intOf]; omega
      · rw [ho] at HO
        have HI := Lib.hid (cut_hit s t i j hj (Lib.index_first (by rw [lenT]; omega) ho HN.out))
        clear ho HN hj
        go_wp2_with fail
        go_quiet (fail)
        go_wp2_with fail
        go_ret2
        exact ⟨ret_cut HI.out.1.symm HI.out.2.symm, below_drewN _ _ _⟩
    · have HI := Lib.hid (cut_miss s t (Lib.index_none fun j hj => by
        rw [lenT] at hj
        rcases Nat.lt_or_ge j i with h1 | h1
        · exact HN.out j h1
        · exact occT_out s t j hj (by omega)))
      have hi2 : ¬ ((i : Int) + (t.size : Int) ≤ (s.size : Int)) := by omega
      clear HN
      go_wp2_with fail
      go_ret2
      exact ⟨ret_cut HI.out.1.symm HI.out.2.symm, Below.refl _ _⟩

end Go.Proofs.Ytampofpllijfhaa
