/-
  The law's own helpers small and smalls: they return, whatever they say. Nothing is assumed.
-/
import Derived.Test.YtmbmlcnipncgnaaDoorLtCheck2
namespace Go.Proofs.YtmbmlcnipncgnaaDoor
open Go.RowKit

set_option maxHeartbeats 400000 in
theorem rsize_some (v : V) : ∀ (sl : Value) (w : World) (B : Nat), Rep w B sl v.l → B ≤ w.heap.size →
    Calls Tryd.prog 17 #[.agg #[.int .i64 v.t, .int .i64 v.n, .string v.s, sl]] w fun e w' => (∃ z, e = .returned (.int .i64 z)) ∧ Below w.heap.size w w' := by
  induction v using V.ind with
  | h v ih =>
  intro sl w B hrep hB
  obtain ⟨oa, cap, rfl, hlc, hm, hel⟩ := hrep.slice
  go_enter Tryd.func17, Tryd.ntmps17
  go_wp2_with fail
  go_loopw [3, 4] (fun s i wr => ∃ (k : Nat) (z : Int), k ≤ v.l.length ∧ i = .int .i64 k ∧ s = .int .i64 z ∧ Below (w.heap.size + 1) (w.alloc (.cells #[.int .i64 v.t, .int .i64 v.n, .string v.s, .slice oa v.l.length cap] 24)) wr) (fun _ i _ => v.l.length - (intOf i).toNat)
  case atStart => exact ⟨0, 1, Nat.zero_le _, rfl, rfl, Below.refl _ _⟩
  case round =>
    obtain ⟨k, z, hk, rfl, rfl, hbel'⟩ := hrel
    have hbel : Below w.heap.size w wr := (below1 _ _).trans (hbel'.mono (by omega))
    have hown : wr.cell? ⟨w.heap.size, 3, none⟩ = some (.slice oa v.l.length cap) := by
      rw [hbel'.cell (p := ⟨w.heap.size, 3, none⟩) (Nat.lt_succ_self _)]
      rw [World.cell?_alloc_at _ _ _ _ rfl]; rfl
    by_cases hlt : k < v.l.length
    · obtain ⟨b, off, oe, ce, rfl, hb, h0, h1, h2, h3, hr⟩ := hel k _ (List.getElem?_eq_getElem hlt)
      rw [← hbel.cell (p := ⟨b, _, none⟩) (Nat.lt_of_lt_of_le hb hB)] at h0 h1 h2 h3
      have hs := hbel.size
      go_wp2_with fail
      refine (ih _ (List.getElem_mem hlt) _ _ B (hr.later (hbel.mono hB)) (by omega)).mono ?_
      rintro e w1 ⟨⟨y, rfl⟩, hb1⟩
      have hs1 := hbel'.size
      go_wp2_with fail
      go_roundw
      case rel => exact ⟨k + 1, _, hlt, by go_num, rfl, hbel'.trans (hb1.mono (by simp at hs1; omega))⟩
      case measure => simp [intOf]; omega
    · go_wp2_with fail
      go_ret
      exact ⟨⟨_, rfl⟩, hbel⟩

/-- Some truth value. -/
def AnyB (e : Ending) : Prop := ∃ z, e = .returned (.bool z)
theorem AnyB.mk (z : Bool) : AnyB (.returned (.bool z)) := ⟨z, rfl⟩
set_option maxHeartbeats 1600000 in
theorem small_some (v : V) : ∀ (sl : Value) (w : World) (B d : Nat), Rep w B sl v.l → B ≤ w.heap.size → d ≤ 1000 →
    Calls Tryd.prog 5 #[.agg #[.int .i64 v.t, .int .i64 v.n, .string v.s, sl], .int .i64 (d : Int)] w fun e w' => AnyB e ∧ Below w.heap.size w w' := by
  induction v using V.ind with
  | h v ih =>
  intro sl w B d hrep hB hd
  have HR := Lib.hid hrep
  obtain ⟨oa, cap, rfl, hlc, hm, hel⟩ := hrep.slice
  clear hrep
  by_cases h0 : d = 0
  · subst h0
    go_enter Tryd.func5, Tryd.ntmps5
    go_wp2_with fail
    go_ret
    exact ⟨AnyB.mk _, below1 _ _⟩
  have hd0 : ((d : Int) == 0) = false := by rw [beq_eq_false_iff_ne]; omega
  by_cases ht : 200 < (v.s.size : Int)
  · clear h0
    go_enter Tryd.func5, Tryd.ntmps5
    go_wp2_with fail
    go_ret
    exact ⟨AnyB.mk _, below1 _ _⟩
  by_cases hi : 40 < (v.l.length : Int)
  · clear h0
    go_enter Tryd.func5, Tryd.ntmps5
    go_wp2_with fail
    go_ret
    exact ⟨AnyB.mk _, below1 _ _⟩
  obtain ⟨c, hc⟩ : ∃ c : Nat, d = c + 1 := ⟨d - 1, by omega⟩
  have hcd : (d : Int) - 1 = (c : Int) := by omega
  have hc1 : c ≤ 1000 := by omega
  clear h0 hc
  go_enter Tryd.func5, Tryd.ntmps5
  go_wp2_with fail
  go_loopw [5] (fun i wr => ∃ (k : Nat), k ≤ v.l.length ∧ i = .int .i64 k ∧ Below (w.heap.size + 1) (w.alloc (.cells #[.int .i64 v.t, .int .i64 v.n, .string v.s, .slice oa v.l.length cap] 24)) wr) (fun i _ => v.l.length - (intOf i).toNat)
  case atStart => exact ⟨0, Nat.zero_le _, rfl, Below.refl _ _⟩
  case round =>
    obtain ⟨k, hk, rfl, hbel'⟩ := hrel
    have hbel : Below w.heap.size w wr := (below1 _ _).trans (hbel'.mono (by omega))
    obtain ⟨g0, g1, g2, g3⟩ := box_later hbel'
    by_cases hlt : k < v.l.length
    · obtain ⟨b, off, oe, ce, rfl, hb, h0, h1, h2, h3, hr⟩ := hel k _ (List.getElem?_eq_getElem hlt)
      rw [← hbel.cell (p := ⟨b, _, none⟩) (Nat.lt_of_lt_of_le hb hB)] at h0 h1 h2 h3
      have hs := hbel.size
      have HI := Lib.hid (ih _ (List.getElem_mem hlt) _ wr B c (hr.later (hbel.mono hB)) (by omega) hc1)
      go_wp2_with fail
      refine HI.out.mono ?_
      rintro e w1 ⟨⟨y, rfl⟩, hb1⟩
      have hs1 := hbel'.size
      clear HI
      cases y
      · go_wp2_with fail
        go_ret
        exact ⟨AnyB.mk _, hbel.trans (hb1.mono (by omega))⟩
      · go_wp2_with fail
        go_roundw
        case rel => exact ⟨k + 1, hlt, by go_num, hbel'.trans (hb1.mono (by simp at hs1; omega))⟩
        case measure => simp [intOf]; omega
    · have HS := Lib.hid (rsize_some v _ wr B (HR.out.later (hbel.mono hB)) (by have := hbel.size; omega))
      have hs := hbel.size
      go_wp2_with fail
      refine HS.out.mono ?_
      rintro e w1 ⟨⟨z, rfl⟩, hb1⟩
      clear HS
      go_wp2_with fail
      go_ret
      exact ⟨AnyB.mk _, hbel.trans (hb1.mono hs)⟩
end Go.Proofs.YtmbmlcnipncgnaaDoor
