/-
  The walks of Size.
-/
import Derived.Test.YtohecojckghedaaDoorProg
import Derived.Test.YtohecojckghedaaDoorRep
import Derived.WalkSpells
import Derived.WalkLawsBesides
import Derived.Lib.Hide
namespace Go.Proofs.YtohecojckghedaaDoor
open Go.RowKit

set_option maxHeartbeats 400000 in
theorem size_any (v : V) : ∀ (sl : Value) (w : World) (B : Nat), Rep w B sl v.l → B ≤ w.heap.size →
    Calls Tryd.prog 25 #[.agg #[.int .i64 v.t, .int .i64 v.n, .string v.s, sl]] w fun e w' => e = .returned (.int .i64 v.size) ∧ Below w.heap.size w w' := by
  induction v using V.ind with
  | h v ih =>
  intro sl w B hrep hB
  obtain ⟨oa, cap, rfl, hlc, hm, hel⟩ := hrep.slice
  go_enter Tryd.func25, Tryd.ntmps25
  go_wp2_with fail
  go_loopw [3, 9] (fun s i wr => ∃ k : Nat, k ≤ v.l.length ∧ i = .int .i64 k ∧ s = .int .i64 (V.sizes 1 (v.l.take k)) ∧ Below w.heap.size w wr) (fun _ i _ => v.l.length - (intOf i).toNat)
  case atStart => exact ⟨0, Nat.zero_le _, rfl, rfl, (Below.refl _ _).alloc (Nat.le_refl _) _⟩
  case round =>
    obtain ⟨k, hk, rfl, rfl, hbel⟩ := hrel
    by_cases hlt : k < v.l.length
    · obtain ⟨b, off, oe, ce, rfl, hb, h0, h1, h2, h3, hr⟩ := hel k _ (List.getElem?_eq_getElem hlt)
      rw [← hbel.cell (p := ⟨b, _, none⟩) (Nat.lt_of_lt_of_le hb hB)] at h0 h1 h2 h3
      go_wp2_with fail
      have hs := hbel.size
      refine (ih _ (List.getElem_mem hlt) _ _ B (hr.later ((hbel.mono hB).alloc (by omega) _)) (by simp; omega) |>.mono ?_)
      rintro e w1 ⟨rfl, hb1⟩
      go_wp2_with fail
      go_roundw
      case rel =>
        refine ⟨k + 1, hlt, by go_num, ?_, (hbel.alloc hs _).trans (hb1.mono (by simp; omega))⟩
        rw [List.take_succ_eq_append_getElem hlt, V.sizes_snoc]
      case measure => simp [intOf]; omega
    · go_wp2_with fail
      go_ret
      obtain rfl : k = v.l.length := by omega
      exact ⟨ret_int (by rw [List.take_length, ← V.size_eq]), hbel⟩

end Go.Proofs.YtohecojckghedaaDoor
