/-
  The contract of Splits. Nothing is assumed.
-/
import Derived.Test.YtlpmaeemegphiaaDoorStEnv
import Derived.OwnWalk
import Derived.Deep.AppendLies
import Derived.Deep.RegionLaw
namespace Go.Proofs.YtlpmaeemegphiaaDoor
open Go.RowKit

theorem infoPair : (Tryd.prog.info? 40).map (fun i => (i.zero, i.size, i.bytes)) = some (some (.agg #[.string ⟨#[]⟩, .string ⟨#[]⟩]), 2, 32) := by kernel_rfl

/-- The division at i. -/
def pairC (s : ByteArray) (i : Nat) : List Value := [.string (s.extract 0 i), .string (s.extract i s.size)]
def flatP (s : ByteArray) (k : Nat) : List Value := (List.range k).flatMap (pairC s)
theorem flatP_succ (s : ByteArray) (k : Nat) : flatP s (k + 1) = flatP s k ++ pairC s k := by simp [flatP, List.range_succ]
theorem flatP_len (s : ByteArray) (k : Nat) : (flatP s k).length = k * 2 := by
  induction k with
  | zero => rfl
  | succ k ih => rw [flatP_succ, List.length_append, ih]; simp [pairC]; omega
theorem flatP_at (s : ByteArray) (i : Nat) : ∀ k, i < k → (flatP s k)[i * 2]? = some (.string (s.extract 0 i)) ∧ (flatP s k)[i * 2 + 1]? = some (.string (s.extract i s.size))
  | 0, h => absurd h (by omega)
  | k + 1, h => by
    rw [flatP_succ]
    have hl := flatP_len s k
    by_cases e : i = k
    · subst e
      rw [List.getElem?_append_right (by omega), List.getElem?_append_right (by omega), hl]
      rw [show i * 2 - i * 2 = 0 by omega, show i * 2 + 1 - i * 2 = 1 by omega]
      exact ⟨rfl, rfl⟩
    · rw [List.getElem?_append_left (by omega), List.getElem?_append_left (by omega)]
      exact flatP_at s i k (by omega)

theorem one_new (w : World) (X : Obj) : (w.alloc X).drew.heap[w.heap.size]? = some X := by
  show (w.heap.push X)[w.heap.size]? = some X
  rw [Array.getElem?_push, if_pos (by simp)]

theorem own_ne {w : World} {base e size n : Nat} {v : Value} {xs : List Value} (h : w.ownsRow base e size v n xs) {g : Nat} (hg : g < base) : v.ownBlock ≠ some g := by
  rcases h.2 with ⟨rfl, _⟩ | ⟨g', cap, cur, rfl, hb, _⟩
  · simp [Value.ownBlock]
  · simp [Value.ownBlock]; omega

/-- The slice value holds the divisions of s. -/
def HoldsP (w : World) (x : Value) (s : ByteArray) : Prop :=
  ∃ (b cap : Nat), x = .slice (some ⟨b, 0, none⟩) (s.size + 1) cap ∧ b < w.heap.size ∧
    ∀ i, i ≤ s.size → w.cell? ⟨b, i * 2, none⟩ = some (.string (s.extract 0 i)) ∧ w.cell? ⟨b, i * 2 + 1, none⟩ = some (.string (s.extract i s.size))

set_option maxRecDepth 100000 in
set_option maxHeartbeats 1600000 in
theorem splits_any (s : ByteArray) (w : World) (hs : s.size ≤ 1000) :
    Calls Tryd.prog 35 #[.string s] w fun e w' => ∃ v, e = .returned v ∧ HoldsP w' v s ∧ Below w.heap.size w w' := by
  obtain ⟨i0, hi, hz0, hz1, hz2⟩ := info_parts infoPair
  obtain ⟨n, hn⟩ : ∃ n : Nat, (s.size : Int) + 1 = (n : Int) := ⟨s.size + 1, by omega⟩
  have hn2 : n = s.size + 1 := by omega
  have HN2 := Lib.hid hn2; clear hn2
  have hn3 : n ≤ 1001 := by omega
  have HN := Lib.hid hn
  go_enter Tryd.func35, Tryd.ntmps35
  go_wp2_with (at_make; refine wpList_make_own _ rfl _ _ 38 rfl w.heap.size 40 i0 _ 2 Tryd.underlying38 hi hz0 hz1 _ _ _ n rfl rfl rfl ?b2 ?b3 (Nat.le_refl _) ?_)
  case b2 => rw [hz2]; omega
  case b3 => unfold maxLen; omega
  intro w1 hown hgrow
  have hbw1 : Below w.heap.size w w1 := (Below.refl _ _).grown hgrow (Nat.le_refl _) (fun k h => by cases h)
  clear hgrow
  go_wp2_with fail
  go_loopw [3, 12] (fun v j wr => ∃ (k : Nat) (oc : Option Addr) (cc : Nat), k ≤ n ∧ j = .int .i64 k ∧ v = .slice oc k cc ∧ Hid (wr.ownsRow w.heap.size 40 2 (.slice oc k cc) k (flatP s k)) ∧ Below w.heap.size w wr) (fun _ j _ => n - (intOf j).toNat)
  case atStart => exact ⟨0, _, _, Nat.zero_le _, rfl, rfl, hown, hbw1⟩
  case round =>
    obtain ⟨k, oc, cc, hk, rfl, rfl, HO, hbel⟩ := hrel
    clear hown hbw1
    have hsz := hbel.size
    by_cases hlt : k < n
    · have hks : k ≤ s.size := by have := HN2.out; omega
      have hk0 : (0 : Int) ≤ (k : Int) := by omega
      have hk1 : (k : Int) ≤ (s.size : Int) := by omega
      have hn1 : k + 1 ≤ maxLen := by unfold maxLen; omega
      have hby : (k + 1) * 32 ≤ 140737488355328 := by omega
      have hblk : ∀ X : Obj, (wr.alloc X).drew.heap[wr.heap.size]? = some X := fun X => one_new wr X
      have HNX := Lib.hid (flatP_succ s k)
      clear hn
      go_wp2_with fail
      go_region_law (
        (refine step_append_lies _ (by rfl) _ _ _ (by rfl) w.heap.size 40 i0 _ 2 32 Tryd.underlying38 hi hz0 hz1 hz2 rfl (by omega) (.slice oc k cc) k (flatP s k) (by rfl) (HO.out.alloc _).drew
            ⟨wr.heap.size, 0, none⟩ 1 1 [.string (s.extract 0 k), .string (s.extract k s.size)] (by rfl) (by rfl) (World.news_of_block (cs := #[.string (s.extract 0 k), .string (s.extract k s.size)]) (t := 40) (fr := (0, 0)) (hblk _)) (by simp [Value.oneCell'])
            (by omega) hn1 hby (by simp; omega) (wr.heap.size + 1) (by simp) ?_
         intro gg cap2 w2 hown1 hgrow hat hlt1))
      all_goals
        have hbw : Below w.heap.size w w2 := ((hbel.alloc hsz _).drew).grown hgrow (by simp; omega) (fun q hq => by
          rcases Nat.lt_or_ge q w.heap.size with h | h
          · exact absurd hq (own_ne HO.out h)
          · exact h)
        have HO2 : Hid (w2.ownsRow w.heap.size 40 2 (.slice (some ⟨gg, 0, none⟩) (k + 1) cap2) (k + 1) (flatP s (k + 1))) := Lib.hid (by rw [HNX.out]; exact hown1)
        clear hown1 hgrow hat hlt1 hblk
        go_wp2_with fail
        go_roundw
        case rel => exact ⟨k + 1, _, _, hlt, by go_num, rfl, HO2, hbw⟩
        case measure => simp [intOf]; omega
    · obtain rfl : k = n := by omega
      go_wp2_with fail
      go_ret
      have e := HN2.out
      have hh := HO.out
      rw [e] at hh
      have hlen := flatP_len s (s.size + 1)
      refine ⟨_, rfl, ?_, hbel⟩
      rw [e]
      rcases hh.2 with ⟨_, h0⟩ | ⟨g, cap, cur, hv, hg, hhp, hcap, _, hszz, htk⟩
      · omega
      · cases hv
        refine ⟨g, cc, rfl, ?_, fun i hi => ?_⟩
        · rcases Nat.lt_or_ge g wr.heap.size with h | h
          · exact h
          · rw [Array.getElem?_eq_none h] at hhp; cases hhp
        · obtain ⟨f0, f1⟩ := flatP_at s i (s.size + 1) (by omega)
          rw [← htk, List.getElem?_take, if_pos (by omega)] at f0 f1
          unfold World.cell?
          rw [hhp]
          exact ⟨by simpa using f0, by simpa using f1⟩
end Go.Proofs.YtlpmaeemegphiaaDoor
