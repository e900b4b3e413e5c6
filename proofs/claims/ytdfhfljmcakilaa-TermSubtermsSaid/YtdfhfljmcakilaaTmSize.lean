/-
  The walks of Within and small, of Size and Depth of both sides. Nothing is assumed.
-/
import Derived.Test.YtdfhfljmcakilaaTmBase
namespace Go.Proofs.Ytdfhfljmcakilaa
open Go.RowKit

theorem i64_small {x : Int} (h0 : -1000000 ≤ x) (h1 : x ≤ 1000000) : wrap64 x = x := by unfold wrap64; omega

set_option maxHeartbeats 800000 in
theorem left_any (v : T) : ∀ (sl : Value) (w : World) (B : Nat) (most : Int), Rep w B sl v.l → B ≤ w.heap.size → 0 ≤ most → most ≤ 1000 →
    Calls Try.prog 50 #[.agg #[.int .i64 v.r, sl], .int .i64 most] w fun e w' => e = .returned (.int .i64 (leftT v.size most)) ∧ Below w.heap.size w w' := by
  induction v using T.ind with
  | h v ih =>
  intro sl w B most hrep hB h0 h1
  obtain ⟨oa, cap, rfl, hlc, hm, hel⟩ := hrep.slice
  have HSZ := Lib.hid v.size_eq
  have hmo : wrap64 (most - 1) = most - 1 := i64_small (by omega) (by omega)
  go_enter Try.func50, Try.ntmps50
  go_wp2_with fail
  go_loopw [1, 5] (fun s i wr => ∃ (k : Nat) (N : Int), k ≤ v.l.length ∧ i = .int .i64 k ∧ s = .int .i64 N ∧ Hid (N = leftT (1 + T.sizes (v.l.take k)) most) ∧ Below (w.heap.size + 1) (w.alloc (.cells #[.int .i64 v.r, .slice oa v.l.length cap] 24)) wr) (fun _ i _ => v.l.length - (intOf i).toNat)
  case atStart => exact ⟨0, _, Nat.zero_le _, rfl, rfl, Lib.hid (by rw [List.take_zero, T.sizes_nil]; unfold leftT; split <;> omega), Below.refl _ _⟩
  case round =>
    obtain ⟨k, N, hk, rfl, rfl, HN, hbel'⟩ := hrel
    have hbel : Below w.heap.size w wr := (below1 _ _).trans (hbel'.mono (by omega))
    have hown := (Box.later (Box.new v (.slice oa v.l.length cap) 24 rfl) hbel' (Nat.lt_succ_self _)).2
    have hN : N ≤ most ∧ -1 ≤ N := by have := HN.out; unfold leftT at this; split at this <;> omega
    obtain ⟨hN1, hN2⟩ := hN
    by_cases hlt : k < v.l.length
    · by_cases hle : 0 ≤ N
      · obtain ⟨b, off, oe, ce, rfl, hb, c0, c1, hr⟩ := hel k _ (List.getElem?_eq_getElem hlt)
        rw [← hbel.cell (p := ⟨b, _, none⟩) (Nat.lt_of_lt_of_le hb hB)] at c0 c1
        have hs := hbel.size
        have hs1 := hbel'.size
        have HT := Lib.hid (List.take_succ_eq_append_getElem hlt)
        go_wp2_with fail
        refine (ih _ (List.getElem_mem hlt) _ _ B N (hr.later (hbel.mono hB)) (by omega) hle (by omega)).mono ?_
        rintro e w1 ⟨rfl, hb1⟩
        go_wp2_with fail
        go_roundw
        case rel =>
          refine ⟨k + 1, _, hlt, by go_num, rfl, Lib.hid ?_, hbel'.trans (hb1.mono (by simp at hs1; omega))⟩
          rw [HT.out, T.sizes_snoc]
          have := HN.out
          unfold leftT at this ⊢
          split at this <;> split <;> split <;> omega
        case measure => simp [intOf]; omega
      · go_wp2_with fail
        go_ret
        refine ⟨ret_int ?_, hbel⟩
        have := HN.out
        have := HSZ.out
        have := T.sizes_take v.l k
        unfold leftT at *
        split at * <;> split <;> omega
    · go_wp2_with fail
      go_ret
      refine ⟨ret_int ?_, hbel⟩
      rw [HN.out, HSZ.out, List.take_of_length_le (by omega)]

theorem bool_le (n : Nat) : decide (0 ≤ leftT n 40) = decide (n ≤ 40) := by
  unfold leftT
  split
  · rw [decide_eq_true (by omega), decide_eq_true (by omega)]
  · rw [decide_eq_false (by omega), decide_eq_false (by omega)]

set_option maxHeartbeats 800000 in
theorem within_any (v : T) (sl : Value) (w : World) (B : Nat) (hrep : Rep w B sl v.l) (hB : B ≤ w.heap.size) :
    Calls Try.prog 30 #[.agg #[.int .i64 v.r, sl], .int .i64 40] w fun e w' => e = .returned (.bool (decide (v.size ≤ 40))) ∧ Below w.heap.size w w' := by
  obtain ⟨oa, cap, rfl, hlc, hm⟩ := hrep.form
  have HB := Lib.hid (bool_le v.size)
  go_enter Try.func30, Try.ntmps30
  go_wp2_with fail
  refine (left_any v _ _ B 40 (hrep.later ((below1 w _).mono hB)) (by simp; omega) (by decide) (by decide)).mono ?_
  rintro e w1 ⟨rfl, hb1⟩
  go_wp2_with fail
  go_ret
  exact ⟨ret_bool HB.out, (below1 _ _).trans (hb1.mono (by simp))⟩

def smallT (l : List T) : Bool := l.all fun v => decide (v.size ≤ 40)

set_option maxHeartbeats 800000 in
theorem small_any (l : List T) (sl : Value) (w : World) (B : Nat) (hrep : Rep w B sl l) (hB : B ≤ w.heap.size) :
    Calls Try.prog 9 #[sl] w fun e w' => e = .returned (.bool (smallT l)) ∧ Below w.heap.size w w' := by
  obtain ⟨oa, cap, rfl, hlc, hm, hel⟩ := hrep.slice
  go_enter Try.func9, Try.ntmps9
  go_wp2_with fail
  go_loopw [3] (fun i wr => ∃ k : Nat, k ≤ l.length ∧ i = .int .i64 k ∧ Hid (smallT (l.drop k) = smallT l) ∧ Below w.heap.size w wr) (fun i _ => l.length - (intOf i).toNat)
  case atStart => exact ⟨0, Nat.zero_le _, rfl, rfl, Below.refl _ _⟩
  case round =>
    obtain ⟨k, hk, rfl, HD, hbel⟩ := hrel
    by_cases hlt : k < l.length
    · obtain ⟨b, off, oe, ce, rfl, hb, c0, c1, hr⟩ := hel k _ (List.getElem?_eq_getElem hlt)
      rw [← hbel.cell (p := ⟨b, _, none⟩) (Nat.lt_of_lt_of_le hb hB)] at c0 c1
      have hs := hbel.size
      have HS := Lib.hid (List.drop_eq_getElem_cons hlt)
      have HW := Lib.hid (within_any l[k] _ wr B (hr.later (hbel.mono hB)) (by omega))
      cases hq : decide (l[k].size ≤ 40)
      · rw [hq] at HW
        have HQ := Lib.hid hq
        clear hq
        go_wp2_with fail
        refine HW.out.mono ?_
        rintro e w1 ⟨rfl, hb1⟩
        go_wp2_with fail
        go_ret
        exact ⟨ret_bool (by rw [← HD.out, HS.out]; unfold smallT; rw [List.all_cons, HQ.out]; rfl), hbel.trans (hb1.mono (by omega))⟩
      · rw [hq] at HW
        have HQ := Lib.hid hq
        clear hq
        go_wp2_with fail
        refine HW.out.mono ?_
        rintro e w1 ⟨rfl, hb1⟩
        go_wp2_with fail
        go_roundw
        case rel =>
          refine ⟨k + 1, hlt, by go_num, Lib.hid ?_, hbel.trans (hb1.mono (by omega))⟩
          have h := HD.out
          rw [HS.out] at h
          unfold smallT at h ⊢
          rw [List.all_cons, HQ.out] at h
          simpa using h
        case measure => simp [intOf]; omega
    · go_wp2_with fail
      go_ret
      exact ⟨ret_bool (by rw [← HD.out, List.drop_of_length_le (by omega)]; rfl), hbel⟩

set_option maxHeartbeats 800000 in
theorem size_any (v : T) : ∀ (sl : Value) (w : World) (B : Nat), Rep w B sl v.l → B ≤ w.heap.size → v.size ≤ 1000 →
    Calls Try.prog 11 #[.agg #[.int .i64 v.r, sl]] w fun e w' => e = .returned (.int .i64 v.size) ∧ Below w.heap.size w w' := by
  induction v using T.ind with
  | h v ih =>
  intro sl w B hrep hB hsz
  obtain ⟨oa, cap, rfl, hlc, hm, hel⟩ := hrep.slice
  have HSZ := Lib.hid v.size_eq
  go_enter Try.func11, Try.ntmps11
  go_wp2_with fail
  go_loopw [3, 9] (fun s i wr => ∃ (k N : Nat), k ≤ v.l.length ∧ i = .int .i64 k ∧ s = .int .i64 N ∧ Hid (N = 1 + T.sizes (v.l.take k)) ∧ Below w.heap.size w wr) (fun _ i _ => v.l.length - (intOf i).toNat)
  case atStart => exact ⟨0, 1, Nat.zero_le _, rfl, rfl, Lib.hid (by rw [List.take_zero, T.sizes_nil]), (Below.refl _ _).alloc (Nat.le_refl _) _⟩
  case round =>
    obtain ⟨k, N, hk, rfl, rfl, HN, hbel⟩ := hrel
    by_cases hlt : k < v.l.length
    · obtain ⟨b, off, oe, ce, rfl, hb, c0, c1, hr⟩ := hel k _ (List.getElem?_eq_getElem hlt)
      rw [← hbel.cell (p := ⟨b, _, none⟩) (Nat.lt_of_lt_of_le hb hB)] at c0 c1
      have hs := hbel.size
      have HT := Lib.hid (List.take_succ_eq_append_getElem hlt)
      have hle := T.mem_sizes (List.getElem_mem hlt)
      have hN : N ≤ 1000 := by have := HN.out; have := T.sizes_take v.l k; have := HSZ.out; omega
      have hle2 : v.l[k].size ≤ 1000 := by have := HSZ.out; omega
      clear hle
      go_wp2_with fail
      refine (ih _ (List.getElem_mem hlt) _ _ B (hr.later ((hbel.mono hB).alloc (by omega) _)) (by simp; omega) hle2 |>.mono ?_)
      rintro e w1 ⟨rfl, hb1⟩
      go_wp2_with fail
      go_roundw
      case rel =>
        refine ⟨k + 1, N + v.l[k].size, hlt, by go_num, by go_num, Lib.hid ?_, (hbel.alloc hs _).trans (hb1.mono (by simp; omega))⟩
        rw [HT.out, T.sizes_snoc, HN.out]
        omega
      case measure => simp [intOf]; omega
    · go_wp2_with fail
      go_ret
      refine ⟨ret_int ?_, hbel⟩
      rw [HN.out, HSZ.out, List.take_of_length_le (by omega)]

set_option maxHeartbeats 800000 in
theorem rsize_any (v : T) : ∀ (sl : Value) (w : World) (B : Nat), Rep w B sl v.l → B ≤ w.heap.size → v.size ≤ 1000 →
    Calls Try.prog 12 #[.agg #[.int .i64 v.r, sl]] w fun e w' => e = .returned (.int .i64 v.size) ∧ Below w.heap.size w w' := by
  induction v using T.ind with
  | h v ih =>
  intro sl w B hrep hB hsz
  obtain ⟨oa, cap, rfl, hlc, hm, hel⟩ := hrep.slice
  have HSZ := Lib.hid v.size_eq
  go_enter Try.func12, Try.ntmps12
  go_wp2_with fail
  go_loopw [3, 4] (fun s i wr => ∃ (k N : Nat), k ≤ v.l.length ∧ i = .int .i64 k ∧ s = .int .i64 N ∧ Hid (N = 1 + T.sizes (v.l.take k)) ∧ Below (w.heap.size + 1) (w.alloc (.cells #[.int .i64 v.r, .slice oa v.l.length cap] 24)) wr) (fun _ i _ => v.l.length - (intOf i).toNat)
  case atStart => exact ⟨0, 1, Nat.zero_le _, rfl, rfl, Lib.hid (by rw [List.take_zero, T.sizes_nil]), Below.refl _ _⟩
  case round =>
    obtain ⟨k, N, hk, rfl, rfl, HN, hbel'⟩ := hrel
    have hbel : Below w.heap.size w wr := (below1 _ _).trans (hbel'.mono (by omega))
    have hown := (Box.later (Box.new v (.slice oa v.l.length cap) 24 rfl) hbel' (Nat.lt_succ_self _)).2
    by_cases hlt : k < v.l.length
    · obtain ⟨b, off, oe, ce, rfl, hb, c0, c1, hr⟩ := hel k _ (List.getElem?_eq_getElem hlt)
      rw [← hbel.cell (p := ⟨b, _, none⟩) (Nat.lt_of_lt_of_le hb hB)] at c0 c1
      have hs := hbel.size
      have hs1 := hbel'.size
      have HT := Lib.hid (List.take_succ_eq_append_getElem hlt)
      have hle := T.mem_sizes (List.getElem_mem hlt)
      have hN : N ≤ 1000 := by have := HN.out; have := T.sizes_take v.l k; have := HSZ.out; omega
      have hle2 : v.l[k].size ≤ 1000 := by have := HSZ.out; omega
      clear hle
      go_wp2_with fail
      refine (ih _ (List.getElem_mem hlt) _ _ B (hr.later (hbel.mono hB)) (by omega) hle2 |>.mono ?_)
      rintro e w1 ⟨rfl, hb1⟩
      go_wp2_with fail
      go_roundw
      case rel =>
        refine ⟨k + 1, N + v.l[k].size, hlt, by go_num, by go_num, Lib.hid ?_, hbel'.trans (hb1.mono (by simp at hs1; omega))⟩
        rw [HT.out, T.sizes_snoc, HN.out]
        omega
      case measure => simp [intOf]; omega
    · go_wp2_with fail
      go_ret
      refine ⟨ret_int ?_, hbel⟩
      rw [HN.out, HSZ.out, List.take_of_length_le (by omega)]

set_option maxHeartbeats 800000 in
theorem depth_any (v : T) : ∀ (sl : Value) (w : World) (B : Nat), Rep w B sl v.l → B ≤ w.heap.size → v.size ≤ 1000 →
    Calls Try.prog 13 #[.agg #[.int .i64 v.r, sl]] w fun e w' => e = .returned (.int .i64 v.depth) ∧ Below w.heap.size w w' := by
  induction v using T.ind with
  | h v ih =>
  intro sl w B hrep hB hsz
  obtain ⟨oa, cap, rfl, hlc, hm, hel⟩ := hrep.slice
  have HSZ := Lib.hid v.size_eq
  have HDE := Lib.hid v.depth_eq
  have HDL := Lib.hid (fun k => T.depths_le (v.l.take k) (fun x _ => T.depth_le x) 0)
  go_enter Try.func13, Try.ntmps13
  go_wp2_with fail
  go_loopw [3, 9] (fun s i wr => ∃ (k N : Nat), k ≤ v.l.length ∧ i = .int .i64 k ∧ s = .int .i64 N ∧ Hid (N = T.depths 0 (v.l.take k)) ∧ Below w.heap.size w wr) (fun _ i _ => v.l.length - (intOf i).toNat)
  case atStart => exact ⟨0, 0, Nat.zero_le _, rfl, rfl, Lib.hid (by rw [List.take_zero, T.depths]), (Below.refl _ _).alloc (Nat.le_refl _) _⟩
  case round =>
    obtain ⟨k, N, hk, rfl, rfl, HN, hbel⟩ := hrel
    have hN : N ≤ 1000 := by have := HN.out; have := HDL.out k; have := T.sizes_take v.l k; have := HSZ.out; omega
    by_cases hlt : k < v.l.length
    · obtain ⟨b, off, oe, ce, rfl, hb, c0, c1, hr⟩ := hel k _ (List.getElem?_eq_getElem hlt)
      rw [← hbel.cell (p := ⟨b, _, none⟩) (Nat.lt_of_lt_of_le hb hB)] at c0 c1
      have hs := hbel.size
      have HT := Lib.hid (List.take_succ_eq_append_getElem hlt)
      have hle := T.mem_sizes (List.getElem_mem hlt)
      have hle2 : v.l[k].size ≤ 1000 := by have := HSZ.out; omega
      clear hle
      go_wp2_with fail
      refine (ih _ (List.getElem_mem hlt) _ _ B (hr.later ((hbel.mono hB).alloc (by omega) _)) (by simp; omega) hle2 |>.mono ?_)
      rintro e w1 ⟨rfl, hb1⟩
      have hmx : max (N : Int) (v.l[k].depth : Int) = ((max N v.l[k].depth : Nat) : Int) := by omega
      go_wp2_with fail
      go_roundw
      case rel =>
        refine ⟨k + 1, max N v.l[k].depth, hlt, by go_num, by first | rfl | rw [hmx] | (simp; omega), Lib.hid ?_, (hbel.alloc hs _).trans (hb1.mono (by simp; omega))⟩
        rw [HT.out, T.depths_snoc, HN.out]
      case measure => simp [intOf]; omega
    · go_wp2_with fail
      go_ret
      refine ⟨ret_int ?_, hbel⟩
      rw [HDE.out, HN.out, List.take_of_length_le (by omega)]
      omega

set_option maxHeartbeats 800000 in
theorem rdepth_any (v : T) : ∀ (sl : Value) (w : World) (B : Nat), Rep w B sl v.l → B ≤ w.heap.size → v.size ≤ 1000 →
    Calls Try.prog 14 #[.agg #[.int .i64 v.r, sl]] w fun e w' => e = .returned (.int .i64 v.depth) ∧ Below w.heap.size w w' := by
  induction v using T.ind with
  | h v ih =>
  intro sl w B hrep hB hsz
  obtain ⟨oa, cap, rfl, hlc, hm, hel⟩ := hrep.slice
  have HSZ := Lib.hid v.size_eq
  have HDE := Lib.hid v.depth_eq
  have HDL := Lib.hid (fun k => T.depths_le (v.l.take k) (fun x _ => T.depth_le x) 0)
  go_enter Try.func14, Try.ntmps14
  go_wp2_with fail
  go_loopw [3, 4] (fun s i wr => ∃ (k N : Nat), k ≤ v.l.length ∧ i = .int .i64 k ∧ s = .int .i64 N ∧ Hid (N = T.depths 0 (v.l.take k)) ∧ Below (w.heap.size + 1) (w.alloc (.cells #[.int .i64 v.r, .slice oa v.l.length cap] 24)) wr) (fun _ i _ => v.l.length - (intOf i).toNat)
  case atStart => exact ⟨0, 0, Nat.zero_le _, rfl, rfl, Lib.hid (by rw [List.take_zero, T.depths]), Below.refl _ _⟩
  case round =>
    obtain ⟨k, N, hk, rfl, rfl, HN, hbel'⟩ := hrel
    have hbel : Below w.heap.size w wr := (below1 _ _).trans (hbel'.mono (by omega))
    have hown := (Box.later (Box.new v (.slice oa v.l.length cap) 24 rfl) hbel' (Nat.lt_succ_self _)).2
    have hN : N ≤ 1000 := by have := HN.out; have := HDL.out k; have := T.sizes_take v.l k; have := HSZ.out; omega
    by_cases hlt : k < v.l.length
    · obtain ⟨b, off, oe, ce, rfl, hb, c0, c1, hr⟩ := hel k _ (List.getElem?_eq_getElem hlt)
      rw [← hbel.cell (p := ⟨b, _, none⟩) (Nat.lt_of_lt_of_le hb hB)] at c0 c1
      have hs := hbel.size
      have hs1 := hbel'.size
      have HT := Lib.hid (List.take_succ_eq_append_getElem hlt)
      have hle := T.mem_sizes (List.getElem_mem hlt)
      have hle2 : v.l[k].size ≤ 1000 := by have := HSZ.out; omega
      clear hle
      go_wp2_with fail
      refine (ih _ (List.getElem_mem hlt) _ _ B (hr.later (hbel.mono hB)) (by omega) hle2 |>.mono ?_)
      rintro e w1 ⟨rfl, hb1⟩
      have hmx : max (N : Int) (v.l[k].depth : Int) = ((max N v.l[k].depth : Nat) : Int) := by omega
      go_wp2_with fail
      go_roundw
      case rel =>
        refine ⟨k + 1, max N v.l[k].depth, hlt, by go_num, by first | rfl | rw [hmx] | (simp; omega), Lib.hid ?_, hbel'.trans (hb1.mono (by simp at hs1; omega))⟩
        rw [HT.out, T.depths_snoc, HN.out]
      case measure => simp [intOf]; omega
    · go_wp2_with fail
      go_ret
      refine ⟨ret_int ?_, hbel⟩
      rw [HDE.out, HN.out, List.take_of_length_le (by omega)]
      omega

end Go.Proofs.Ytdfhfljmcakilaa
