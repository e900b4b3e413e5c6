/-
  cut, duplicate, Take, Drop of the package. Nothing is assumed.
-/
import Derived.Test.YtohooejljbddmaaLsBase
import Derived.Laws.CopyOwn
namespace Go.Proofs.Ytohooejljbddmaa
open Go.RowKit

theorem infoSize : (Try.prog.info? 2).map (·.size) = some 1 := by kernel_rfl

set_option maxHeartbeats 400000 in
theorem cut_any (x : Value) (l : List Int) (n : Int) (w : World) (B : Nat) (hx : HoldsI w B x l) (hl : l.length ≤ 1000) :
    Calls Try.prog 55 #[x, .int .i64 n] w fun e w' => e = .returned (.int .i64 ((min n.toNat l.length : Nat) : Int)) ∧ w = w' := by
  obtain ⟨oa, ca, rfl, _, _, hel⟩ := hx
  clear hel
  by_cases h0 : n < 0
  · have HE := Lib.hid (show ((min n.toNat l.length : Nat) : Int) = 0 by omega)
    go_enter Try.func55, Try.ntmps55
    go_wp2_with fail
    go_ret
    exact ⟨ret_int (by have := HE.out; omega), rfl⟩
  · by_cases h1 : n ≤ (l.length : Int)
    · have HE := Lib.hid (show ((min n.toNat l.length : Nat) : Int) = n by omega)
      go_enter Try.func55, Try.ntmps55
      go_wp2_with fail
      go_ret
      exact ⟨ret_int (by have := HE.out; omega), rfl⟩
    · have HE := Lib.hid (show ((min n.toNat l.length : Nat) : Int) = l.length by omega)
      go_enter Try.func55, Try.ntmps55
      go_wp2_with fail
      go_ret
      exact ⟨ret_int (by have := HE.out; omega), rfl⟩

/-- The list lies in a block of its own, from its head on. -/
def Own1 (w : World) (g : Nat) (l : List Int) : Prop := w.heap[g]? = some (.cells (l.map (Value.int .i64)).toArray 2 (0, 0))
theorem Own1.own {w : World} {g H n : Nat} {l : List Int} (h : Own1 w g l) (hg : H ≤ g) (hn : l.length = n) (hl : l.length ≤ 1000) : OwnI w H (.slice (some ⟨g, 0, none⟩) n n) l := by
  subst hn
  exact ⟨by simp, .inr ⟨g, l.length, _, rfl, hg, h, Nat.le_refl _, by unfold maxLen; omega, by simp, by rw [List.take_of_length_le (by simp)]⟩⟩

set_option maxRecDepth 100000 in
set_option maxHeartbeats 800000 in
theorem duplicate_any (x : Value) (l : List Int) (w : World) (B : Nat) (hx : HoldsI w B x l) (hB : B ≤ w.heap.size) (hl : l.length ≤ 1000) :
    Calls Try.prog 54 #[x] w fun e w' => (∃ g, e = .returned (.slice (some ⟨g, 0, none⟩) l.length l.length) ∧ w.heap.size ≤ g ∧ Own1 w' g l) ∧ Below w.heap.size w w' := by
  obtain ⟨oa, ca, rfl, _, _, hel⟩ := hx
  have HEL := Lib.hid hel; clear hel
  obtain ⟨i, hi, hz0, hz1, hz2⟩ := info_parts infoInt
  go_enter Try.func54, Try.ntmps54
  go_wp2_with (at_make; refine wpList_make_full _ rfl _ _ 22 rfl w.heap.size 2 i _ 1 Try.underlying22 hi hz0 hz1 _ _ _ _ l.length rfl rfl rfl rfl ?b2 ?b3 (Nat.le_refl _) ?_)
  case b2 => rw [hz2]; omega
  case b3 => unfold maxLen; omega
  intro w1 hown hgrow
  have hbw1 : Below w.heap.size w w1 := (Below.refl _ _).grown hgrow (Nat.le_refl _) (fun k h => by cases h)
  obtain ⟨cur, hh, hsz⟩ : ∃ cur : Array Value, w1.heap[w.heap.size]? = some (.cells cur 2 (0, 0)) ∧ cur.size = l.length := by
    rcases hown.2 with ⟨h0, _⟩ | ⟨g', cap, cur, hv, _, hh, _, _, hsz, _⟩
    · cases h0
    · cases hv
      exact ⟨cur, hh, by omega⟩
  have hpos : 0 < (l.map (Value.int .i64)).length → ∃ ad, oa = some ad ∧ ∀ (j : Nat) v, (l.map (Value.int .i64))[j]? = some v → w1.cell? (ad.add j) = some v := by
    intro h0
    simp at h0
    obtain ⟨b, off, rfl, hb, _⟩ := HEL.out 0 _ (List.getElem?_eq_getElem h0)
    refine ⟨_, rfl, fun j v hv => ?_⟩
    simp only [List.getElem?_map, Option.map_eq_some_iff] at hv
    obtain ⟨z, hz, rfl⟩ := hv
    obtain ⟨b', off', he, _, hc⟩ := HEL.out j z hz
    cases he
    rw [← hbw1.cell (p := ⟨b, _, none⟩) (Nat.lt_of_lt_of_le hb hB)] at hc
    unfold Addr.add
    split
    · rename_i h; subst h; exact hc
    · exact hc
  have HP := Lib.hid hpos
  have HH := Lib.hid hh
  have HS := Lib.hid hsz
  clear hown hgrow hpos hh hsz
  go_wp2_with (refine wpList_copy_splice (o := ⟨some 9, _, _, _, _, _⟩) rfl (.tmp 7) (.tmp 8) 22 22 rfl 2 Try.underlying22 infoSize (some ⟨w.heap.size, 0, none⟩) oa l.length l.length l.length ca rfl rfl w.heap.size 0 cur.toList 2 (by simpa using HH.out) (l.map (Value.int .i64)) (by simp) (fun h => ⟨rfl, HP.out h⟩) (by have := HS.out; simp; omega) (by intro v hv; simp at hv; obtain ⟨z, _, rfl⟩ := hv; rfl) w.heap.size w hbw1 (Nat.le_refl _) ?_)
  intro w2 HG2 hB2
  go_wp2_with fail
  go_ret
  refine ⟨⟨_, rfl, Nat.le_refl _, ?_⟩, hB2⟩
  unfold Own1
  rw [HG2.out]
  have hsz := HS.out
  have : splice cur.toList 0 (l.map (Value.int .i64)) = l.map (Value.int .i64) := by
    unfold splice
    simp
    omega
  rw [this]

set_option maxRecDepth 100000 in
set_option maxHeartbeats 800000 in
theorem take_any (x : Value) (l : List Int) (n : Int) (w : World) (B : Nat) (hx : HoldsI w B x l) (hB : B ≤ w.heap.size) (hl : l.length ≤ 1000) :
    Calls Try.prog 24 #[x, .int .i64 n] w fun e w' => RetI w.heap.size (tk l n) e w' ∧ Below w.heap.size w w' := by
  have HC := Lib.hid (cut_any x l n w B hx hl)
  obtain ⟨oa, ca, rfl, h1, h2, hel⟩ := hx
  obtain ⟨c, hc⟩ : ∃ c : Nat, min n.toNat l.length = c := ⟨_, rfl⟩
  rw [hc] at HC
  have hcl : c ≤ l.length := by omega
  have hT : l.take c = tk l n := by
    unfold tk
    rcases Nat.le_total n.toNat l.length with h | h
    · rw [← hc, Nat.min_eq_left h]
    · rw [← hc, Nat.min_eq_right h, List.take_of_length_le (Nat.le_refl _), List.take_of_length_le h]
  have hlen : (l.take c).length = c := by simp; omega
  have hx2 : HoldsI w B (.slice oa c ca) (l.take c) := by
    refine ⟨oa, ca, by rw [hlen], by omega, h2, fun i z hz => hel i z ?_⟩
    rw [List.getElem?_take] at hz
    split at hz
    · exact hz
    · cases hz
  have HD := Lib.hid (duplicate_any _ _ w B hx2 hB (by omega))
  have HT := Lib.hid hT
  have HL := Lib.hid hlen
  clear hc hT hlen hx2 hel
  go_enter Try.func24, Try.ntmps24
  go_wp2_with fail
  refine HC.out.mono ?_
  rintro e w' ⟨rfl, rfl⟩
  go_wp2_with fail
  refine HD.out.mono ?_
  rintro e w2 ⟨⟨g, rfl, hg, ho⟩, hb⟩
  have HO := Lib.hid ho; clear ho
  go_wp2_with fail
  go_ret
  exact ⟨RetI.mk (HO.out.own hg HL.out (by have := HL.out; omega)) HT.out, hb⟩

set_option maxRecDepth 100000 in
set_option maxHeartbeats 800000 in
theorem drop_any (x : Value) (l : List Int) (n : Int) (w : World) (B : Nat) (hx : HoldsI w B x l) (hB : B ≤ w.heap.size) (hl : l.length ≤ 1000) :
    Calls Try.prog 26 #[x, .int .i64 n] w fun e w' => RetI w.heap.size (dr l n) e w' ∧ Below w.heap.size w w' := by
  have HC := Lib.hid (cut_any x l n w B hx hl)
  obtain ⟨oa, ca, rfl, h1, h2, hel⟩ := hx
  obtain ⟨c, hc⟩ : ∃ c : Nat, min n.toNat l.length = c := ⟨_, rfl⟩
  rw [hc] at HC
  have hcl : c ≤ l.length := by omega
  have hT : l.drop c = dr l n := by
    unfold dr
    rcases Nat.le_total n.toNat l.length with h | h
    · rw [← hc, Nat.min_eq_left h]
    · rw [← hc, Nat.min_eq_right h, List.drop_of_length_le (Nat.le_refl _), List.drop_of_length_le h]
  have hlen : (l.drop c).length = l.length - c := by simp
  have hcell : ∀ i z, (l.drop c)[i]? = some z → ∃ b off : Nat, oa = some ⟨b, off, none⟩ ∧ b < B ∧ w.cell? ⟨b, off + c + i, none⟩ = some (.int .i64 z) := fun i z hz => by
    rw [List.getElem?_drop] at hz
    obtain ⟨b, off, h, hb, hcc⟩ := hel _ z hz
    exact ⟨b, off, h, hb, by rw [Nat.add_assoc]; exact hcc⟩
  have HT := Lib.hid hT
  have HL := Lib.hid hlen
  have hx2 : ∀ oa', (oa' = oa ∧ ca = c ∨ ca ≠ c ∧ oa' = oa.map (·.add c)) → HoldsI w B (.slice oa' (l.length - c) (ca - c)) (l.drop c) := by
    rintro oa' (⟨rfl, he⟩ | ⟨_, rfl⟩)
    · have hnil : l.drop c = [] := List.drop_of_length_le (by omega)
      rw [hnil]
      exact ⟨oa', ca - c, by rw [show l.length - c = 0 by omega]; rfl, Nat.zero_le _, by omega, fun i z hz => by simp at hz⟩
    · refine ⟨_, ca - c, by rw [hlen], by omega, by omega, fun i z hz => ?_⟩
      obtain ⟨b, off, rfl, hb, hcc⟩ := hcell i z hz
      refine ⟨b, off + c, ?_, hb, hcc⟩
      simp [Addr.add]
      done
  have HX := Lib.hid hx2
  clear hc hT hlen hx2 hel hcell
  by_cases hcc : ca = c
  · subst hcc
    have hnil : l.drop ca = [] := List.drop_of_length_le (by omega)
    have HN := Lib.hid (HT.out.symm.trans hnil)
    have HD := Lib.hid (duplicate_any (.slice oa 0 0) [] w B ⟨oa, 0, rfl, Nat.le_refl _, by omega, fun i z hz => by simp at hz⟩ hB (by simp))
    clear hnil
    go_enter Try.func26, Try.ntmps26
    go_wp2_with fail
    refine HC.out.mono ?_
    rintro e w' ⟨rfl, rfl⟩
    go_wp2_with fail
    refine HD.out.mono ?_
    rintro e w2 ⟨⟨g, rfl, hg, ho⟩, hb⟩
    have HO := Lib.hid ho; clear ho
    go_wp2_with fail
    go_ret
    exact ⟨RetI.mk (HO.out.own hg rfl (by simp)) HN.out.symm, hb⟩
  · have HD := Lib.hid (duplicate_any _ _ w B (HX.out _ (Or.inr ⟨hcc, rfl⟩)) hB (by have := HL.out; omega))
    go_enter Try.func26, Try.ntmps26
    go_wp2_with fail
    refine HC.out.mono ?_
    rintro e w' ⟨rfl, rfl⟩
    go_wp2_with fail
    refine HD.out.mono ?_
    rintro e w2 ⟨⟨g, rfl, hg, ho⟩, hb⟩
    have HO := Lib.hid ho; clear ho
    go_wp2_with fail
    go_ret
    exact ⟨RetI.mk (HO.out.own hg HL.out (by have := HL.out; omega)) HT.out, hb⟩
end Go.Proofs.Ytohooejljbddmaa
