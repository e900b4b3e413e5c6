/-
  The loops of the reference that build a list: Take, Drop, Reverse, Above, Even. Nothing is assumed.
-/
import Derived.Test.YtohooejljbddmaaLsBase
namespace Go.Proofs.Ytohooejljbddmaa
open Go.RowKit

set_option maxRecDepth 100000 in
set_option maxHeartbeats 1600000 in
theorem rtake_any (x : Value) (l : List Int) (n : Int) (w : World) (B : Nat) (hx : HoldsI w B x l) (hB : B ≤ w.heap.size) (hl : l.length ≤ 1000) :
    Calls Try.prog 25 #[x, .int .i64 n] w fun e w' => RetI w.heap.size (tk l n) e w' ∧ Below w.heap.size w w' := by
  obtain ⟨oa, ca, rfl, _, _, hel⟩ := hx
  obtain ⟨i0, hi, hz0, hz1, hz2⟩ := info_parts infoInt
  go_enter Try.func25, Try.ntmps25
  go_wp2_with fail
  go_loopw [5, 6] (fun v j wr => ∃ k : Nat, k ≤ l.length ∧ k ≤ n.toNat ∧ j = .int .i64 k ∧ Hid (OwnI wr w.heap.size v (tkK l k)) ∧ Below w.heap.size w wr) (fun _ j _ => l.length - (intOf j).toNat)
  case atStart => exact ⟨0, Nat.zero_le _, Nat.zero_le _, rfl, OwnI.none _ _, Below.refl _ _⟩
  case round =>
    obtain ⟨k, hk, hkn, rfl, HO, hbel⟩ := hrel
    have hln := tkK_len l k
    by_cases hlt : k < l.length
    · by_cases hn : (k : Int) < n
      · have hsz := hbel.size
        obtain ⟨b, off, rfl, hb, hc⟩ := hel k _ (List.getElem?_eq_getElem hlt)
        rw [← hbel.cell (p := ⟨b, _, none⟩) (Nat.lt_of_lt_of_le hb hB)] at hc
        have hki0 : (0 : Int) ≤ (k : Int) := by omega
        have hki1 : (k : Int) < (l.length : Int) := by omega
        have HSN := Lib.hid (tkK_snoc l k hlt)
        clear hel
        go_wp2_with (at_builtin; refine wpList_append_own _ rfl _ _ 22 rfl w.heap.size 2 i0 (.int .i64 0) 1 8 Try.underlying22 hi hz0 hz1 hz2 rfl (by decide) _ _ _ rfl (HO.out.alloc _) ⟨wr.heap.size, 0, none⟩ 1 1 [.int .i64 l[k]] rfl rfl (one_cells _ _ _) (one_one _) ?c3 ?c4 ?c5 ?_)
        case c3 => unfold maxLen; omega
        case c4 => omega
        case c5 => simp; omega
        intro v' w2 hown' hgrow _
        have hbw := below_app hbel HO.out hgrow
        have HO2 := Lib.hid (own_snoc hown' HSN.out)
        clear hown' hgrow
        go_wp2_with fail
        go_roundw
        case rel => exact ⟨k + 1, hlt, by omega, by go_num, HO2, hbw⟩
        case measure => simp [intOf]; omega
      · clear hel
        go_wp2_with fail
        go_ret
        refine ⟨RetI.mk HO.out ?_, hbel⟩
        unfold tkK tk
        rw [show n.toNat = k by omega]
    · clear hel
      go_wp2_with fail
      go_ret
      refine ⟨RetI.mk HO.out ?_, hbel⟩
      unfold tkK tk
      rw [List.take_of_length_le (by omega), List.take_of_length_le (by omega)]

set_option maxRecDepth 100000 in
set_option maxHeartbeats 1600000 in
theorem rdrop_any (x : Value) (l : List Int) (n : Int) (w : World) (B : Nat) (hx : HoldsI w B x l) (hB : B ≤ w.heap.size) (hl : l.length ≤ 1000) :
    Calls Try.prog 27 #[x, .int .i64 n] w fun e w' => RetI w.heap.size (dr l n) e w' ∧ Below w.heap.size w w' := by
  obtain ⟨oa, ca, rfl, _, _, hel⟩ := hx
  obtain ⟨i0, hi, hz0, hz1, hz2⟩ := info_parts infoInt
  go_enter Try.func27, Try.ntmps27
  go_wp2_with fail
  go_loopw [5, 6] (fun v j wr => ∃ k : Nat, k ≤ l.length ∧ j = .int .i64 k ∧ Hid (OwnI wr w.heap.size v (drK l n.toNat k)) ∧ Below w.heap.size w wr) (fun _ j _ => l.length - (intOf j).toNat)
  case atStart => exact ⟨0, Nat.zero_le _, rfl, Lib.hid (by simp [drK]; exact OwnI.none _ _), Below.refl _ _⟩
  case round =>
    obtain ⟨k, hk, rfl, HO, hbel⟩ := hrel
    have hln := drK_len l n.toNat k
    by_cases hlt : k < l.length
    · by_cases hn : n ≤ (k : Int)
      · have hsz := hbel.size
        obtain ⟨b, off, rfl, hb, hc⟩ := hel k _ (List.getElem?_eq_getElem hlt)
        rw [← hbel.cell (p := ⟨b, _, none⟩) (Nat.lt_of_lt_of_le hb hB)] at hc
        have hki0 : (0 : Int) ≤ (k : Int) := by omega
        have hki1 : (k : Int) < (l.length : Int) := by omega
        have HSN := Lib.hid (drK_hit l n.toNat k hlt (by omega))
        clear hel
        go_wp2_with (at_builtin; refine wpList_append_own _ rfl _ _ 22 rfl w.heap.size 2 i0 (.int .i64 0) 1 8 Try.underlying22 hi hz0 hz1 hz2 rfl (by decide) _ _ _ rfl (HO.out.alloc _) ⟨wr.heap.size, 0, none⟩ 1 1 [.int .i64 l[k]] rfl rfl (one_cells _ _ _) (one_one _) ?c3 ?c4 ?c5 ?_)
        case c3 => unfold maxLen; omega
        case c4 => omega
        case c5 => simp; omega
        intro v' w2 hown' hgrow _
        have hbw := below_app hbel HO.out hgrow
        have HO2 := Lib.hid (own_snoc hown' HSN.out)
        clear hown' hgrow
        go_wp2_with fail
        go_roundw
        case rel => exact ⟨k + 1, hlt, by go_num, HO2, hbw⟩
        case measure => simp [intOf]; omega
      · have HSN := Lib.hid (drK_miss l n.toNat k hlt (by omega))
        clear hel
        go_wp2_with fail
        go_roundw
        case rel => exact ⟨k + 1, hlt, by go_num, Lib.hid (by rw [HSN.out]; exact HO.out), hbel⟩
        case measure => simp [intOf]; omega
    · clear hel
      go_wp2_with fail
      go_ret
      refine ⟨RetI.mk HO.out ?_, hbel⟩
      unfold drK dr
      rw [List.take_of_length_le (by omega)]

set_option maxRecDepth 100000 in
set_option maxHeartbeats 1600000 in
theorem rreverse_any (x : Value) (l : List Int) (w : World) (B : Nat) (hx : HoldsI w B x l) (hB : B ≤ w.heap.size) (hl : l.length ≤ 1000) :
    Calls Try.prog 29 #[x] w fun e w' => RetI w.heap.size l.reverse e w' ∧ Below w.heap.size w w' := by
  obtain ⟨oa, ca, rfl, _, _, hel⟩ := hx
  obtain ⟨i0, hi, hz0, hz1, hz2⟩ := info_parts infoInt
  go_enter Try.func29, Try.ntmps29
  go_wp2_with fail
  go_loopw [3, 4] (fun v j wr => ∃ (k : Nat) (z : Int), k ≤ l.length ∧ j = .int .i64 z ∧ z + (k : Int) + 1 = (l.length : Int) ∧ Hid (OwnI wr w.heap.size v (rvK l k)) ∧ Below w.heap.size w wr) (fun _ j _ => (intOf j + 1).toNat)
  case atStart => exact ⟨0, _, Nat.zero_le _, rfl, by simp, OwnI.none _ _, Below.refl _ _⟩
  case round =>
    obtain ⟨k, z, hk, rfl, hz, HO, hbel⟩ := hrel
    have hln := rvK_len l k
    by_cases hlt : k < l.length
    · obtain ⟨m, rfl⟩ : ∃ m : Nat, z = m := ⟨z.toNat, by omega⟩
      have hm : m < l.length := by omega
      have hmk : l.length - 1 - k = m := by omega
      have hsz := hbel.size
      obtain ⟨b, off, rfl, hb, hc⟩ := hel m _ (List.getElem?_eq_getElem hm)
      rw [← hbel.cell (p := ⟨b, _, none⟩) (Nat.lt_of_lt_of_le hb hB)] at hc
      have hki0 : (0 : Int) ≤ (m : Int) := by omega
      have hki1 : (m : Int) < (l.length : Int) := by omega
      have hsn : rvK l (k + 1) = rvK l k ++ [l[m]] := by rw [rvK_snoc l k hlt]; simp only [hmk]
      have HSN := Lib.hid hsn
      have HZ := Lib.hid hz
      clear hel hsn hz hmk
      go_wp2_with (at_builtin; refine wpList_append_own _ rfl _ _ 22 rfl w.heap.size 2 i0 (.int .i64 0) 1 8 Try.underlying22 hi hz0 hz1 hz2 rfl (by decide) _ _ _ rfl (HO.out.alloc _) ⟨wr.heap.size, 0, none⟩ 1 1 [.int .i64 l[m]] rfl rfl (one_cells _ _ _) (one_one _) ?c3 ?c4 ?c5 ?_)
      case c3 => unfold maxLen; omega
      case c4 => omega
      case c5 => simp; omega
      intro v' w2 hown' hgrow _
      have hbw := below_app hbel HO.out hgrow
      have HO2 := Lib.hid (own_snoc hown' HSN.out)
      clear hown' hgrow
      go_wp2_with fail
      go_roundw
      case rel => exact ⟨k + 1, (m : Int) - 1, hlt, by go_num, by have := HZ.out; omega, HO2, hbw⟩
      case measure => simp [intOf]
    · have hz2 : z = -1 := by omega
      subst hz2
      clear hel hz
      go_wp2_with fail
      go_ret
      refine ⟨RetI.mk HO.out ?_, hbel⟩
      unfold rvK
      rw [List.take_of_length_le (by simp; omega)]

set_option maxRecDepth 100000 in
set_option maxHeartbeats 1600000 in
theorem rabove_any (x : Value) (l : List Int) (n : Int) (w : World) (B : Nat) (hx : HoldsI w B x l) (hB : B ≤ w.heap.size) (hl : l.length ≤ 1000) :
    Calls Try.prog 37 #[x, .int .i64 n] w fun e w' => RetI w.heap.size (sel (abv n) l) e w' ∧ Below w.heap.size w w' := by
  obtain ⟨oa, ca, rfl, _, _, hel⟩ := hx
  obtain ⟨i0, hi, hz0, hz1, hz2⟩ := info_parts infoInt
  go_enter Try.func37, Try.ntmps37
  go_wp2_with fail
  go_loopw [5, 6] (fun v j wr => ∃ k : Nat, k ≤ l.length ∧ j = .int .i64 k ∧ Hid (OwnI wr w.heap.size v (selK (abv n) l k)) ∧ Below w.heap.size w wr) (fun _ j _ => l.length - (intOf j).toNat)
  case atStart => exact ⟨0, Nat.zero_le _, rfl, OwnI.none _ _, Below.refl _ _⟩
  case round =>
    obtain ⟨k, hk, rfl, HO, hbel⟩ := hrel
    have hln := selK_len (abv n) l k
    by_cases hlt : k < l.length
    · by_cases hn : n < l[k]
      · have hsz := hbel.size
        obtain ⟨b, off, rfl, hb, hc⟩ := hel k _ (List.getElem?_eq_getElem hlt)
        rw [← hbel.cell (p := ⟨b, _, none⟩) (Nat.lt_of_lt_of_le hb hB)] at hc
        have hki0 : (0 : Int) ≤ (k : Int) := by omega
        have hki1 : (k : Int) < (l.length : Int) := by omega
        have HSN := Lib.hid (selK_hit (abv n) l k hlt (decide_eq_true hn))
        clear hel
        go_wp2_with (at_builtin; refine wpList_append_own _ rfl _ _ 22 rfl w.heap.size 2 i0 (.int .i64 0) 1 8 Try.underlying22 hi hz0 hz1 hz2 rfl (by decide) _ _ _ rfl (HO.out.alloc _) ⟨wr.heap.size, 0, none⟩ 1 1 [.int .i64 l[k]] rfl rfl (one_cells _ _ _) (one_one _) ?c3 ?c4 ?c5 ?_)
        case c3 => unfold maxLen; omega
        case c4 => omega
        case c5 => simp; omega
        intro v' w2 hown' hgrow _
        have hbw := below_app hbel HO.out hgrow
        have HO2 := Lib.hid (own_snoc hown' HSN.out)
        clear hown' hgrow
        go_wp2_with fail
        go_roundw
        case rel => exact ⟨k + 1, hlt, by go_num, HO2, hbw⟩
        case measure => simp [intOf]; omega
      · have hsz := hbel.size
        obtain ⟨b, off, rfl, hb, hc⟩ := hel k _ (List.getElem?_eq_getElem hlt)
        rw [← hbel.cell (p := ⟨b, _, none⟩) (Nat.lt_of_lt_of_le hb hB)] at hc
        have hki0 : (0 : Int) ≤ (k : Int) := by omega
        have hki1 : (k : Int) < (l.length : Int) := by omega
        have HSN := Lib.hid (selK_miss (abv n) l k hlt (decide_eq_false hn))
        clear hel
        go_wp2_with fail
        go_roundw
        case rel => exact ⟨k + 1, hlt, by go_num, Lib.hid (by rw [HSN.out]; exact HO.out), hbel⟩
        case measure => simp [intOf]; omega
    · clear hel
      go_wp2_with fail
      go_ret
      exact ⟨RetI.mk HO.out (selK_all _ l k (by omega)), hbel⟩

set_option maxRecDepth 100000 in
set_option maxHeartbeats 1600000 in
theorem reven_any (x : Value) (l : List Int) (w : World) (B : Nat) (hx : HoldsI w B x l) (hB : B ≤ w.heap.size) (hl : l.length ≤ 1000) :
    Calls Try.prog 39 #[x] w fun e w' => RetI w.heap.size (sel (evn) l) e w' ∧ Below w.heap.size w w' := by
  obtain ⟨oa, ca, rfl, _, _, hel⟩ := hx
  obtain ⟨i0, hi, hz0, hz1, hz2⟩ := info_parts infoInt
  go_enter Try.func39, Try.ntmps39
  go_wp2_with fail
  go_loopw [3, 4] (fun v j wr => ∃ k : Nat, k ≤ l.length ∧ j = .int .i64 k ∧ Hid (OwnI wr w.heap.size v (selK (evn) l k)) ∧ Below w.heap.size w wr) (fun _ j _ => l.length - (intOf j).toNat)
  case atStart => exact ⟨0, Nat.zero_le _, rfl, OwnI.none _ _, Below.refl _ _⟩
  case round =>
    obtain ⟨k, hk, rfl, HO, hbel⟩ := hrel
    have hln := selK_len (evn) l k
    by_cases hlt : k < l.length
    · by_cases hn : l[k].tmod 2 = 0
      · have hsz := hbel.size
        obtain ⟨b, off, rfl, hb, hc⟩ := hel k _ (List.getElem?_eq_getElem hlt)
        rw [← hbel.cell (p := ⟨b, _, none⟩) (Nat.lt_of_lt_of_le hb hB)] at hc
        have hki0 : (0 : Int) ≤ (k : Int) := by omega
        have hki1 : (k : Int) < (l.length : Int) := by omega
        have HSN := Lib.hid (selK_hit (evn) l k hlt (decide_eq_true hn))
        clear hel
        have hnb : (l[k].tmod 2 == 0) = true := by rw [hn]; rfl
        have HNB := Lib.hid hn; clear hn
        go_wp2_with (at_builtin; refine wpList_append_own _ rfl _ _ 22 rfl w.heap.size 2 i0 (.int .i64 0) 1 8 Try.underlying22 hi hz0 hz1 hz2 rfl (by decide) _ _ _ rfl (HO.out.alloc _) ⟨wr.heap.size, 0, none⟩ 1 1 [.int .i64 l[k]] rfl rfl (one_cells _ _ _) (one_one _) ?c3 ?c4 ?c5 ?_)
        case c3 => unfold maxLen; omega
        case c4 => omega
        case c5 => simp; omega
        intro v' w2 hown' hgrow _
        have hbw := below_app hbel HO.out hgrow
        have HO2 := Lib.hid (own_snoc hown' HSN.out)
        clear hown' hgrow
        go_wp2_with fail
        go_roundw
        case rel => exact ⟨k + 1, hlt, by go_num, HO2, hbw⟩
        case measure => simp [intOf]; omega
      · have hsz := hbel.size
        obtain ⟨b, off, rfl, hb, hc⟩ := hel k _ (List.getElem?_eq_getElem hlt)
        rw [← hbel.cell (p := ⟨b, _, none⟩) (Nat.lt_of_lt_of_le hb hB)] at hc
        have hki0 : (0 : Int) ≤ (k : Int) := by omega
        have hki1 : (k : Int) < (l.length : Int) := by omega
        have HSN := Lib.hid (selK_miss (evn) l k hlt (decide_eq_false hn))
        clear hel
        have hnb : (l[k].tmod 2 == 0) = false := by simpa using hn
        have HNB := Lib.hid hn; clear hn
        go_wp2_with fail
        go_roundw
        case rel => exact ⟨k + 1, hlt, by go_num, Lib.hid (by rw [HSN.out]; exact HO.out), hbel⟩
        case measure => simp [intOf]; omega
    · clear hel
      go_wp2_with fail
      go_ret
      exact ⟨RetI.mk HO.out (selK_all _ l k (by omega)), hbel⟩

end Go.Proofs.Ytohooejljbddmaa
