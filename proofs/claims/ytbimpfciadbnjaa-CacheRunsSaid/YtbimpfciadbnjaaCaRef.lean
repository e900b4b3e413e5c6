/-
  Within, Size, Rules, arities, CompareInts and Compare of the reference of terms (out of the texts of layer 13; printed by gen/ca0.py). Nothing is assumed.
-/
import Derived.Test.YtbimpfciadbnjaaTmFR
import Derived.Deep.RegionHeldLaw
namespace Go.Proofs.Ytbimpfciadbnjaa
open Go.RowKit

theorem i64_small {x : Int} (h0 : -1000000 ≤ x) (h1 : x ≤ 1000000) : wrap64 x = x := by unfold wrap64; omega
set_option maxHeartbeats 800000 in
theorem left_any (v : T) : ∀ (sl : Value) (w : World) (B : Nat) (most : Int), Rep w B sl v.l → B ≤ w.heap.size → 0 ≤ most → most ≤ 1000 →
    Calls Try.prog 37 #[.agg #[.int .i64 v.r, sl], .int .i64 most] w fun e w' => e = .returned (.int .i64 (leftT v.size most)) ∧ Below w.heap.size w w' := by
  induction v using T.ind with
  | h v ih =>
  intro sl w B most hrep hB h0 h1
  obtain ⟨oa, cap, rfl, hlc, hm, hel⟩ := hrep.slice
  have HSZ := Lib.hid v.size_eq
  have hmo : wrap64 (most - 1) = most - 1 := i64_small (by omega) (by omega)
  go_enter Try.func37, Try.ntmps37
  go_wp2_with fail
  go_loopw [1, 5] (fun s i wr => ∃ (k : Nat) (N : Int), k ≤ v.l.length ∧ i = .int .i64 k ∧ s = .int .i64 N ∧ Hid (N = leftT (1 + T.sizes (v.l.take k)) most) ∧ Below (w.heap.size + 1) (w.alloc (.cells #[.int .i64 v.r, .slice oa v.l.length cap] 36)) wr) (fun _ i _ => v.l.length - (intOf i).toNat)
  case atStart => exact ⟨0, _, Nat.zero_le _, rfl, rfl, Lib.hid (by rw [List.take_zero, T.sizes_nil]; unfold leftT; split <;> omega), Below.refl _ _⟩
  case round =>
    obtain ⟨k, N, hk, rfl, rfl, HN, hbel'⟩ := hrel
    have hbel : Below w.heap.size w wr := (below1 _ _).trans (hbel'.mono (by omega))
    have hown := (Box.later (Box.new v (.slice oa v.l.length cap) 36 rfl) hbel' (Nat.lt_succ_self _)).2
    have hN : N ≤ most ∧ -1 ≤ N := by have := HN.out; unfold leftT at this; split at this <;> omega
    obtain ⟨hN1, hN2⟩ := hN
    by_cases hlt : k < v.l.length
    · by_cases hle : 0 ≤ N
      · obtain ⟨b, off, oe, ce, rfl, hb, c0, c1, hr⟩ := hel k _ (List.getElem?_eq_getElem hlt)
        rw [← hbel.cell (p := ⟨b, _, none⟩) (Nat.lt_of_lt_of_le hb hB)] at c0 c1
        have hs := hbel.size
        have hs1 := hbel'.size
        have HT := Lib.hid (List.take_succ_eq_append_getElem hlt)
        go_wp2_with fail
        refine (ih _ (List.getElem_mem hlt) _ _ B N (hr.later (hbel.mono hB)) (by omega) hle (by omega)).mono ?_
        rintro e w1 ⟨rfl, hb1⟩
        go_wp2_with fail
        go_roundw
        case rel =>
          refine ⟨k + 1, _, hlt, by go_num, rfl, Lib.hid ?_, hbel'.trans (hb1.mono (by simp at hs1; omega))⟩
          rw [HT.out, T.sizes_snoc]
          have := HN.out
          unfold leftT at this ⊢
          split at this <;> split <;> split <;> omega
        case measure => simp [intOf]; omega
      · go_wp2_with fail
        go_ret
        refine ⟨ret_int ?_, hbel⟩
        have := HN.out
        have := HSZ.out
        have := T.sizes_take v.l k
        unfold leftT at *
        split at * <;> split <;> omega
    · go_wp2_with fail
      go_ret
      refine ⟨ret_int ?_, hbel⟩
      rw [HN.out, HSZ.out, List.take_of_length_le (by omega)]
theorem bool_le (n : Nat) : decide (0 ≤ leftT n 20) = decide (n ≤ 20) := by
  unfold leftT
  split
  · rw [decide_eq_true (by omega), decide_eq_true (by omega)]
  · rw [decide_eq_false (by omega), decide_eq_false (by omega)]
set_option maxHeartbeats 800000 in
theorem within_any (v : T) (sl : Value) (w : World) (B : Nat) (hrep : Rep w B sl v.l) (hB : B ≤ w.heap.size) :
    Calls Try.prog 24 #[.agg #[.int .i64 v.r, sl], .int .i64 20] w fun e w' => e = .returned (.bool (decide (v.size ≤ 20))) ∧ Below w.heap.size w w' := by
  obtain ⟨oa, cap, rfl, hlc, hm⟩ := hrep.form
  have HB := Lib.hid (bool_le v.size)
  go_enter Try.func24, Try.ntmps24
  go_wp2_with fail
  refine (left_any v _ _ B 20 (hrep.later ((below1 w _).mono hB)) (by simp; omega) (by decide) (by decide)).mono ?_
  rintro e w1 ⟨rfl, hb1⟩
  go_wp2_with fail
  go_ret
  exact ⟨ret_bool HB.out, (below1 _ _).trans (hb1.mono (by simp))⟩
set_option maxHeartbeats 800000 in
theorem rsize_any (v : T) : ∀ (sl : Value) (w : World) (B : Nat), Rep w B sl v.l → B ≤ w.heap.size → v.size ≤ 1000 →
    Calls Try.prog 40 #[.agg #[.int .i64 v.r, sl]] w fun e w' => e = .returned (.int .i64 v.size) ∧ Below w.heap.size w w' := by
  induction v using T.ind with
  | h v ih =>
  intro sl w B hrep hB hsz
  obtain ⟨oa, cap, rfl, hlc, hm, hel⟩ := hrep.slice
  have HSZ := Lib.hid v.size_eq
  go_enter Try.func40, Try.ntmps40
  go_wp2_with fail
  go_loopw [3, 4] (fun s i wr => ∃ (k N : Nat), k ≤ v.l.length ∧ i = .int .i64 k ∧ s = .int .i64 N ∧ Hid (N = 1 + T.sizes (v.l.take k)) ∧ Below (w.heap.size + 1) (w.alloc (.cells #[.int .i64 v.r, .slice oa v.l.length cap] 36)) wr) (fun _ i _ => v.l.length - (intOf i).toNat)
  case atStart => exact ⟨0, 1, Nat.zero_le _, rfl, rfl, Lib.hid (by rw [List.take_zero, T.sizes_nil]), Below.refl _ _⟩
  case round =>
    obtain ⟨k, N, hk, rfl, rfl, HN, hbel'⟩ := hrel
    have hbel : Below w.heap.size w wr := (below1 _ _).trans (hbel'.mono (by omega))
    have hown := (Box.later (Box.new v (.slice oa v.l.length cap) 36 rfl) hbel' (Nat.lt_succ_self _)).2
    by_cases hlt : k < v.l.length
    · obtain ⟨b, off, oe, ce, rfl, hb, c0, c1, hr⟩ := hel k _ (List.getElem?_eq_getElem hlt)
      rw [← hbel.cell (p := ⟨b, _, none⟩) (Nat.lt_of_lt_of_le hb hB)] at c0 c1
      have hs := hbel.size
      have hs1 := hbel'.size
      have HT := Lib.hid (List.take_succ_eq_append_getElem hlt)
      have hle := T.mem_sizes (List.getElem_mem hlt)
      have hN : N ≤ 1000 := by have := HN.out; have := T.sizes_take v.l k; have := HSZ.out; omega
      have hle2 : v.l[k].size ≤ 1000 := by have := HSZ.out; omega
      clear hle
      go_wp2_with fail
      refine (ih _ (List.getElem_mem hlt) _ _ B (hr.later (hbel.mono hB)) (by omega) hle2 |>.mono ?_)
      rintro e w1 ⟨rfl, hb1⟩
      go_wp2_with fail
      go_roundw
      case rel =>
        refine ⟨k + 1, N + v.l[k].size, hlt, by go_num, by go_num, Lib.hid ?_, hbel'.trans (hb1.mono (by simp at hs1; omega))⟩
        rw [HT.out, T.sizes_snoc, HN.out]
        omega
      case measure => simp [intOf]; omega
    · go_wp2_with fail
      go_ret
      refine ⟨ret_int ?_, hbel⟩
      rw [HN.out, HSZ.out, List.take_of_length_le (by omega)]
set_option maxHeartbeats 400000 in
theorem order_any (a b : Int) (w : World) : Calls Try.prog 39 #[.int .i64 a, .int .i64 b] w fun e w' => e = .returned (.int .i64 (cmpI a b)) ∧ w' = w := by
  have HC := Lib.hid (cmpI_three a b)
  rcases Int.lt_trichotomy a b with h | h | h
  · go_enter Try.func39, Try.ntmps39
    go_wp2_with fail
    go_ret
    exact ⟨ret_int (by unfold cmpI; rw [if_pos h]), rfl⟩
  · subst h
    go_enter Try.func39, Try.ntmps39
    go_wp2_with fail
    go_ret
    exact ⟨ret_int (cmpI_self a).symm, rfl⟩
  · go_enter Try.func39, Try.ntmps39
    go_wp2_with fail
    go_ret
    exact ⟨ret_int (by unfold cmpI; rw [if_neg (by omega), if_pos h]), rfl⟩
set_option maxRecDepth 100000 in
set_option maxHeartbeats 1600000 in
theorem cmpInts_any (x y : Value) (l m : List Int) (w : World) (B : Nat) (hx : HoldsI w B x l) (hy : HoldsI w B y m) (hB : B ≤ w.heap.size) :
    Calls Try.prog 41 #[x, y] w fun e w' => e = .returned (.int .i64 (cmpL l m)) ∧ Below w.heap.size w w' := by
  obtain ⟨oa, ca, rfl, _, _, hel⟩ := hx
  obtain ⟨ob, cb, rfl, _, _, hem⟩ := hy
  go_enter Try.func41, Try.ntmps41
  go_wp2_with fail
  go_loopw [5] (fun i wr => ∃ k : Nat, k ≤ l.length ∧ k ≤ m.length ∧ i = .int .i64 k ∧ Hid (cmpL (l.drop k) (m.drop k) = cmpL l m) ∧ Below w.heap.size w wr) (fun i _ => l.length - (intOf i).toNat)
  case atStart => exact ⟨0, Nat.zero_le _, Nat.zero_le _, rfl, rfl, Below.refl _ _⟩
  case round =>
    obtain ⟨k, hk, hk', rfl, HD, hbel⟩ := hrel
    have HEND : k = l.length ∨ k = m.length → Hid (cmpI (l.length : Int) m.length = cmpL l m) := fun h => by
      refine Lib.hid ?_
      rw [← HD.out]
      by_cases e1 : k < l.length
      · have e2 : k = m.length := by omega
        rw [List.drop_of_length_le (by omega : m.length ≤ k)]
        cases hd : l.drop k with
        | nil => have := congrArg List.length hd; simp at this; omega
        | cons a r => rw [cmpL_cons_nil]; unfold cmpI; rw [if_neg (by omega), if_pos (by omega)]
      · rw [List.drop_of_length_le (by omega : l.length ≤ k), cmpL_nil]
        unfold cmpI
        simp only [List.length_drop]
        split <;> split <;> (try split) <;> omega
    have HEND := Lib.hid HEND
    by_cases hlt : k < l.length
    · by_cases hlt' : k < m.length
      · obtain ⟨b, off, rfl, hb, hc⟩ := hel k _ (List.getElem?_eq_getElem hlt)
        obtain ⟨b', off', rfl, hb', hc'⟩ := hem k _ (List.getElem?_eq_getElem hlt')
        rw [← hbel.cell (p := ⟨b, _, none⟩) (Nat.lt_of_lt_of_le hb hB)] at hc
        rw [← hbel.cell (p := ⟨b', _, none⟩) (Nat.lt_of_lt_of_le hb' hB)] at hc'
        have HS := Lib.hid (List.drop_eq_getElem_cons hlt)
        have HS' := Lib.hid (List.drop_eq_getElem_cons hlt')
        have q0 : (0 : Int) ≤ (k : Int) := by omega
        have q1 : (k : Int) < (l.length : Int) := by omega
        have q2 : (k : Int) < (m.length : Int) := by omega
        rcases Int.lt_trichotomy l[k] m[k] with h | h | h
        · have hg : ¬ m[k] < l[k] := by omega
          have HH := Lib.hid h
          go_wp2_with fail
          go_quiet (fail)
          go_wp2_with fail
          go_ret
          refine ⟨ret_int ?_, hbel.trans (below_drewN _ _ _)⟩
          rw [← HD.out, HS.out, HS'.out, cmpL_cons]
          have : cmpI l[k] m[k] = -1 := if_pos HH.out
          rw [this]; rfl
        · have hg : ¬ m[k] < l[k] := by omega
          have hg' : ¬ l[k] < m[k] := by omega
          have HH := Lib.hid h
          clear h
          go_wp2_with fail
          go_quiet (fail)
          go_wp2_with fail
          go_quiet (fail)
          go_wp2_with fail
          go_roundw
          case rel =>
            refine ⟨k + 1, hlt, hlt', by go_num, Lib.hid ?_, by first | exact hbel.trans (below_drewN _ _ _) | exact (hbel.trans (below_drewN _ _ _)).trans (below_drewN _ _ _)⟩
            have h := HD.out
            rw [HS.out, HS'.out, cmpL_cons, HH.out, cmpI_self, if_neg (by simp)] at h
            exact h
          case measure => simp [intOf]; omega
        · have hg : ¬ l[k] < m[k] := by omega
          have HH := Lib.hid h
          go_wp2_with fail
          go_quiet (fail)
          go_wp2_with fail
          go_quiet (fail)
          go_wp2_with fail
          go_ret
          refine ⟨ret_int ?_, by first | exact hbel.trans (below_drewN _ _ _) | exact (hbel.trans (below_drewN _ _ _)).trans (below_drewN _ _ _)⟩
          rw [← HD.out, HS.out, HS'.out, cmpL_cons]
          have : cmpI l[k] m[k] = 1 := by unfold cmpI; rw [if_neg (by have := HH.out; omega), if_pos HH.out]
          rw [this]; rfl
      · have HE := HEND.out (.inr (by omega))
        go_wp2_with fail
        refine (order_any _ _ _).mono ?_
        rintro e w1 ⟨rfl, hw⟩
        obtain rfl := hw.symm
        go_wp2_with fail
        go_ret
        exact ⟨ret_int HE.out, hbel⟩
    · have HE := HEND.out (.inl (by omega))
      go_wp2_with fail
      refine (order_any _ _ _).mono ?_
      rintro e w1 ⟨rfl, hw⟩
      obtain rfl := hw.symm
      go_wp2_with fail
      go_ret
      exact ⟨ret_int HE.out, hbel⟩
theorem own_one (w : World) (H : Nat) (z : Int) (h : H ≤ w.heap.size) : OwnI (w.alloc (.cells #[.int .i64 z] 3)) H (.slice (some ⟨w.heap.size, 0, none⟩) 1 1) [z] :=
  World.ownsRow_lit w #[.int .i64 z] 1 h (by unfold maxLen; omega) rfl
set_option maxRecDepth 100000 in
set_option maxHeartbeats 1600000 in
theorem rrules_any (v : T) : ∀ (sl : Value) (w : World) (B : Nat), Rep w B sl v.l → B ≤ w.heap.size → v.size ≤ 900 →
    Calls Try.prog 42 #[.agg #[.int .i64 v.r, sl]] w fun e w' => RetI w.heap.size v.rules e w' ∧ Below w.heap.size w w' := by
  induction v using T.ind with
  | h v ih =>
  intro sl w B hrep hB hsz
  obtain ⟨oa, cap, rfl, hlc, hm, hel⟩ := hrep.slice
  have HSZ := Lib.hid v.size_eq
  have HPR := Lib.hid (show v.rules = v.r :: (T.pres v.l).map T.r by unfold T.rules; rw [T.pre_eq]; rfl)
  go_enter Try.func42, Try.ntmps42
  go_wp2_with fail
  go_loopw [3, 4] (fun s i wr => ∃ (k : Nat), k ≤ v.l.length ∧ i = .int .i64 k ∧ Hid (OwnI wr (w.heap.size + 1) s (v.r :: (T.pres (v.l.take k)).map T.r)) ∧ Below (w.heap.size + 1) (w.alloc (.cells #[.int .i64 v.r, .slice oa v.l.length cap] 36)) wr) (fun _ i _ => v.l.length - (intOf i).toNat)
  case atStart =>
    refine ⟨0, Nat.zero_le _, rfl, Lib.hid ?_, (Below.refl _ _).alloc (by simp) _⟩
    rw [List.take_zero, T.pres_nil]
    have h := own_one (w.alloc (.cells #[.int .i64 v.r, .slice oa v.l.length cap] 36)) (w.heap.size + 1) v.r (by simp)
    rw [World.size_alloc] at h
    exact h
  case round =>
    obtain ⟨k, hk, rfl, HO, hbel'⟩ := hrel
    have hbel : Below w.heap.size w wr := (below1 _ _).trans (hbel'.mono (by omega))
    have hown := (Box.later (Box.new v (.slice oa v.l.length cap) 36 rfl) hbel' (Nat.lt_succ_self _)).2
    by_cases hlt : k < v.l.length
    · obtain ⟨b, off, oe, ce, rfl, hb, c0, c1, hr⟩ := hel k _ (List.getElem?_eq_getElem hlt)
      rw [← hbel.cell (p := ⟨b, _, none⟩) (Nat.lt_of_lt_of_le hb hB)] at c0 c1
      have hs := hbel.size
      have hs1 : w.heap.size + 1 ≤ wr.heap.size := by have := hbel'.size; simpa using this
      have HT := Lib.hid (List.take_succ_eq_append_getElem hlt)
      have hle := T.mem_sizes (List.getElem_mem hlt)
      have HLN : Hid ((T.pres (v.l.take k)).length + v.l[k].rules.length ≤ 900) := Lib.hid (by
        have h1 := T.sizes_take v.l (k + 1)
        rw [HT.out, T.sizes_snoc] at h1
        rw [T.rules_len]
        have := HSZ.out
        unfold T.sizes at h1 this
        omega)
      have hle2 : v.l[k].size ≤ 900 := by have := HSZ.out; omega
      clear hle
      go_wp2_with fail
      refine (ih _ (List.getElem_mem hlt) _ _ B (hr.later (hbel.mono hB)) (by omega) hle2 |>.mono ?_)
      rintro e w1 ⟨⟨v1, rfl, h1⟩, hb1⟩
      have HB1 := hbel'.trans (hb1.mono hs1)
      obtain ⟨o1, cc1, rfl, _, _, hsr⟩ := h1.holds.form rfl
      have HO1 := Lib.hid (HO.out.later hb1)
      have hs2 : w.heap.size + 1 ≤ w1.heap.size := Nat.le_trans hs1 hb1.size
      clear h1 hb1
      go_wp2_with (at_builtin; refine append_src rfl _ _ rfl (w.heap.size + 1) _ _ rfl HO1.out o1 _ cc1 rfl v.l[k].rules rfl hsr.src ?b1 hs2 ?_)
      case b1 => have := HLN.out; simp; omega
      intro v' w2 ho2 hg2
      have HB2 := below_grown HB1 hs2 HO1.out hg2
      have HO2 := Lib.hid ho2
      clear ho2 hg2
      go_wp2_with fail
      go_roundw
      case rel =>
        refine ⟨k + 1, hlt, by go_num, Lib.hid ?_, HB2⟩
        have h := HO2.out
        rw [HT.out, T.pres_snoc, List.map_append]
        exact h
      case measure => simp [intOf]; omega
    · go_wp2_with fail
      go_ret
      refine ⟨⟨_, rfl, ?_⟩, hbel⟩
      rw [HPR.out]
      have h := HO.out
      rw [List.take_of_length_le (by omega)] at h
      exact h.weak (by omega)
set_option maxRecDepth 100000 in
set_option maxHeartbeats 1600000 in
theorem rars_any (v : T) : ∀ (sl : Value) (w : World) (B : Nat), Rep w B sl v.l → B ≤ w.heap.size → v.size ≤ 900 →
    Calls Try.prog 43 #[.agg #[.int .i64 v.r, sl]] w fun e w' => RetI w.heap.size v.ars e w' ∧ Below w.heap.size w w' := by
  induction v using T.ind with
  | h v ih =>
  intro sl w B hrep hB hsz
  obtain ⟨oa, cap, rfl, hlc, hm, hel⟩ := hrep.slice
  have HSZ := Lib.hid v.size_eq
  have HPR := Lib.hid (show v.ars = (v.l.length : Int) :: (T.pres v.l).map (fun x => (x.l.length : Int)) by unfold T.ars; rw [T.pre_eq]; rfl)
  go_enter Try.func43, Try.ntmps43
  go_wp2_with fail
  go_loopw [3, 4] (fun s i wr => ∃ (k : Nat), k ≤ v.l.length ∧ i = .int .i64 k ∧ Hid (OwnI wr (w.heap.size + 1) s ((v.l.length : Int) :: (T.pres (v.l.take k)).map (fun x => (x.l.length : Int)))) ∧ Below (w.heap.size + 1) (w.alloc (.cells #[.int .i64 v.r, .slice oa v.l.length cap] 36)) wr) (fun _ i _ => v.l.length - (intOf i).toNat)
  case atStart =>
    refine ⟨0, Nat.zero_le _, rfl, Lib.hid ?_, (Below.refl _ _).alloc (by simp) _⟩
    rw [List.take_zero, T.pres_nil]
    have h := own_one (w.alloc (.cells #[.int .i64 v.r, .slice oa v.l.length cap] 36)) (w.heap.size + 1) (v.l.length : Int) (by simp)
    rw [World.size_alloc] at h
    exact h
  case round =>
    obtain ⟨k, hk, rfl, HO, hbel'⟩ := hrel
    have hbel : Below w.heap.size w wr := (below1 _ _).trans (hbel'.mono (by omega))
    have hown := (Box.later (Box.new v (.slice oa v.l.length cap) 36 rfl) hbel' (Nat.lt_succ_self _)).2
    by_cases hlt : k < v.l.length
    · obtain ⟨b, off, oe, ce, rfl, hb, c0, c1, hr⟩ := hel k _ (List.getElem?_eq_getElem hlt)
      rw [← hbel.cell (p := ⟨b, _, none⟩) (Nat.lt_of_lt_of_le hb hB)] at c0 c1
      have hs := hbel.size
      have hs1 : w.heap.size + 1 ≤ wr.heap.size := by have := hbel'.size; simpa using this
      have HT := Lib.hid (List.take_succ_eq_append_getElem hlt)
      have hle := T.mem_sizes (List.getElem_mem hlt)
      have HLN : Hid ((T.pres (v.l.take k)).length + v.l[k].ars.length ≤ 900) := Lib.hid (by
        have h1 := T.sizes_take v.l (k + 1)
        rw [HT.out, T.sizes_snoc] at h1
        rw [T.ars_len]
        have := HSZ.out
        unfold T.sizes at h1 this
        omega)
      have hle2 : v.l[k].size ≤ 900 := by have := HSZ.out; omega
      clear hle
      go_wp2_with fail
      refine (ih _ (List.getElem_mem hlt) _ _ B (hr.later (hbel.mono hB)) (by omega) hle2 |>.mono ?_)
      rintro e w1 ⟨⟨v1, rfl, h1⟩, hb1⟩
      have HB1 := hbel'.trans (hb1.mono hs1)
      obtain ⟨o1, cc1, rfl, _, _, hsr⟩ := h1.holds.form rfl
      have HO1 := Lib.hid (HO.out.later hb1)
      have hs2 : w.heap.size + 1 ≤ w1.heap.size := Nat.le_trans hs1 hb1.size
      clear h1 hb1
      go_wp2_with (at_builtin; refine append_src rfl _ _ rfl (w.heap.size + 1) _ _ rfl HO1.out o1 _ cc1 rfl v.l[k].ars rfl hsr.src ?b1 hs2 ?_)
      case b1 => have := HLN.out; simp; omega
      intro v' w2 ho2 hg2
      have HB2 := below_grown HB1 hs2 HO1.out hg2
      have HO2 := Lib.hid ho2
      clear ho2 hg2
      go_wp2_with fail
      go_roundw
      case rel =>
        refine ⟨k + 1, hlt, by go_num, Lib.hid ?_, HB2⟩
        have h := HO2.out
        rw [HT.out, T.pres_snoc, List.map_append]
        exact h
      case measure => simp [intOf]; omega
    · go_wp2_with fail
      go_ret
      refine ⟨⟨_, rfl, ?_⟩, hbel⟩
      rw [HPR.out]
      have h := HO.out
      rw [List.take_of_length_le (by omega)] at h
      exact h.weak (by omega)
theorem neqf {a b : Int} (h : a = b) : (a != b) = false := by subst h; simp
theorem neqt {a b : Int} (h : a ≠ b) : (a != b) = true := bne_iff_ne.2 h
set_option maxRecDepth 100000 in
set_option maxHeartbeats 3200000 in
theorem rcompare_any (a b : T) (sa sb : Value) (w : World) (B : Nat) (hra : Rep w B sa a.l) (hrb : Rep w B sb b.l) (hB : B ≤ w.heap.size) (hsa : a.size ≤ 900) (hsb : b.size ≤ 900) :
    Calls Try.prog 34 #[.agg #[.int .i64 a.r, sa], .agg #[.int .i64 b.r, sb]] w fun e w' => e = .returned (.int .i64 (a.cmp b)) ∧ Below w.heap.size w w' := by
  obtain ⟨oa, ca, rfl, _, _⟩ := hra.form
  obtain ⟨ob, cb, rfl, _, _⟩ := hrb.form
  have HZ := Lib.hid (show a.cmp b = if cmpI a.size b.size ≠ 0 then cmpI a.size b.size else if cmpL a.rules b.rules ≠ 0 then cmpL a.rules b.rules else cmpL a.ars b.ars from rfl)
  have HBB : Below w.heap.size w ((w.alloc (.cells #[.int .i64 a.r, .slice oa a.l.length ca] 36)).alloc (.cells #[.int .i64 b.r, .slice ob b.l.length cb] 36)) := below2 _ _ _
  have BA : Box ((w.alloc (.cells #[.int .i64 a.r, .slice oa a.l.length ca] 36)).alloc (.cells #[.int .i64 b.r, .slice ob b.l.length cb] 36)) w.heap.size a (.slice oa a.l.length ca) := (Box.new a _ _ rfl).later (below1 _ _) (by simp)
  have BB : Box ((w.alloc (.cells #[.int .i64 a.r, .slice oa a.l.length ca] 36)).alloc (.cells #[.int .i64 b.r, .slice ob b.l.length cb] 36)) (w.heap.size + 1) b (.slice ob b.l.length cb) := Box.new b _ _ (by simp)
  have hzz : ((w.alloc (.cells #[.int .i64 a.r, .slice oa a.l.length ca] 36)).alloc (.cells #[.int .i64 b.r, .slice ob b.l.length cb] 36)).heap.size = w.heap.size + 2 := by simp
  have HRA := Lib.hid (hra.later (HBB.mono hB))
  have HRB := Lib.hid (hrb.later (HBB.mono hB))
  clear hra hrb
  go_enter Try.func34, Try.ntmps34
  go_wp2_with fail
  generalize (w.alloc (.cells #[.int .i64 a.r, .slice oa a.l.length ca] 36)).alloc (.cells #[.int .i64 b.r, .slice ob b.l.length cb] 36) = W at *
  have hBW : B ≤ W.heap.size := by omega
  have HKEEP : Hid (∀ w', Below W.heap.size W w' → w'.cell? ⟨w.heap.size, 0, none⟩ = some (.int .i64 a.r) ∧ w'.cell? ⟨w.heap.size, 1, none⟩ = some (.slice oa a.l.length ca) ∧ w'.cell? ⟨w.heap.size + 1, 0, none⟩ = some (.int .i64 b.r) ∧ w'.cell? ⟨w.heap.size + 1, 1, none⟩ = some (.slice ob b.l.length cb)) :=
    Lib.hid (fun w' hb => ⟨(BA.later hb (by omega)).1, (BA.later hb (by omega)).2, (BB.later hb (by omega)).1, (BB.later hb (by omega)).2⟩)
  have HSA : Hid (∀ w', Below W.heap.size W w' → Calls Try.prog 40 #[.agg #[.int .i64 a.r, .slice oa a.l.length ca]] w' fun e w2 => e = .returned (.int .i64 a.size) ∧ Below w'.heap.size w' w2) :=
    Lib.hid (fun w' hb => rsize_any a _ w' B (HRA.out.later (hb.mono hBW)) (Nat.le_trans hBW hb.size) (by omega))
  have HSB : Hid (∀ w', Below W.heap.size W w' → Calls Try.prog 40 #[.agg #[.int .i64 b.r, .slice ob b.l.length cb]] w' fun e w2 => e = .returned (.int .i64 b.size) ∧ Below w'.heap.size w' w2) :=
    Lib.hid (fun w' hb => rsize_any b _ w' B (HRB.out.later (hb.mono hBW)) (Nat.le_trans hBW hb.size) (by omega))
  have HUA : Hid (∀ w', Below W.heap.size W w' → Calls Try.prog 42 #[.agg #[.int .i64 a.r, .slice oa a.l.length ca]] w' fun e w2 => RetI w'.heap.size a.rules e w2 ∧ Below w'.heap.size w' w2) :=
    Lib.hid (fun w' hb => rrules_any a _ w' B (HRA.out.later (hb.mono hBW)) (Nat.le_trans hBW hb.size) (by omega))
  have HUB : Hid (∀ w', Below W.heap.size W w' → Calls Try.prog 42 #[.agg #[.int .i64 b.r, .slice ob b.l.length cb]] w' fun e w2 => RetI w'.heap.size b.rules e w2 ∧ Below w'.heap.size w' w2) :=
    Lib.hid (fun w' hb => rrules_any b _ w' B (HRB.out.later (hb.mono hBW)) (Nat.le_trans hBW hb.size) (by omega))
  have HAA : Hid (∀ w', Below W.heap.size W w' → Calls Try.prog 43 #[.agg #[.int .i64 a.r, .slice oa a.l.length ca]] w' fun e w2 => RetI w'.heap.size a.ars e w2 ∧ Below w'.heap.size w' w2) :=
    Lib.hid (fun w' hb => rars_any a _ w' B (HRA.out.later (hb.mono hBW)) (Nat.le_trans hBW hb.size) (by omega))
  have HAB : Hid (∀ w', Below W.heap.size W w' → Calls Try.prog 43 #[.agg #[.int .i64 b.r, .slice ob b.l.length cb]] w' fun e w2 => RetI w'.heap.size b.ars e w2 ∧ Below w'.heap.size w' w2) :=
    Lib.hid (fun w' hb => rars_any b _ w' B (HRB.out.later (hb.mono hBW)) (Nat.le_trans hBW hb.size) (by omega))
  obtain ⟨ca0, ca1, cb0, cb1⟩ := HKEEP.out W (Below.refl _ _)
  have h0 : Below W.heap.size W W.drew := (Below.refl _ _).drew
  go_region_held_law (fun w' => w'.cell? ⟨w.heap.size, 0, none⟩ = some (.int .i64 a.r) ∧ w'.cell? ⟨w.heap.size, 1, none⟩ = some (.slice oa a.l.length ca) ∧ w'.cell? ⟨w.heap.size + 1, 0, none⟩ = some (.int .i64 b.r) ∧ w'.cell? ⟨w.heap.size + 1, 1, none⟩ = some (.slice ob b.l.length cb))
    (exact HKEEP.out _ (by assumption))
    (first
      | (go_simp; go_at_call 40; (with_reducible refine (HSA.out _ (by assumption)).mono ?_); rintro e w3 ⟨rfl, hb3⟩
         have h3 : Below W.heap.size W w3 := h0.trans hb3
         clear h0 hb3)
      | (go_simp; go_at_call 40; (with_reducible refine (HSB.out _ (by assumption)).mono ?_); rintro e w4 ⟨rfl, hb4⟩
         have h4 : Below W.heap.size W w4 := h3.trans (hb4.mono h3.size)
         clear h3 hb4)
      | (go_simp; go_at_call 39; (with_reducible refine (order_any _ _ _).mono ?_); rintro e w5 ⟨rfl, hw5⟩; subst hw5))
  by_cases hc1 : cmpI a.size b.size = 0
  case neg =>
    have fc := neqt hc1
    have HC := Lib.hid hc1
    clear hc1
    go_wp2_with fail
    go_ret
    exact ⟨ret_int (by rw [HZ.out, if_pos HC.out]), HBB.trans (h4.mono (by omega))⟩
  have fc := neqf hc1
  have HC1 := Lib.hid hc1
  clear hc1
  go_wp2_with fail
  clear fc
  have h5 := h4.drew
  clear h4
  go_region_held_law (fun w' => w'.cell? ⟨w.heap.size, 0, none⟩ = some (.int .i64 a.r) ∧ w'.cell? ⟨w.heap.size, 1, none⟩ = some (.slice oa a.l.length ca) ∧ w'.cell? ⟨w.heap.size + 1, 0, none⟩ = some (.int .i64 b.r) ∧ w'.cell? ⟨w.heap.size + 1, 1, none⟩ = some (.slice ob b.l.length cb))
    (exact HKEEP.out _ (by assumption))
    (first
      | (go_simp; go_at_call 42; (with_reducible refine (HUA.out _ (by assumption)).mono ?_); rintro e w6 ⟨⟨v1, rfl, g1⟩, hb6⟩
         have H1 := Lib.hid g1.holds
         have h6 : Below W.heap.size W w6 := h5.trans (hb6.mono h5.size)
         clear h5 hb6 g1)
      | (go_simp; go_at_call 42; (with_reducible refine (HUB.out _ (by assumption)).mono ?_); rintro e w7 ⟨⟨v2, rfl, g2⟩, hb7⟩
         have H1' := Lib.hid (H1.out.on hb7)
         have H2 := Lib.hid g2.holds
         have h7 : Below W.heap.size W w7 := h6.trans (hb7.mono h6.size)
         clear h6 hb7 g2 H1)
      | (go_simp; go_at_call 41; (with_reducible refine (cmpInts_any _ _ _ _ _ _ H1'.out H2.out (Nat.le_refl _)).mono ?_); rintro e w8 ⟨rfl, hb8⟩
         have h8 : Below W.heap.size W w8 := h7.trans (hb8.mono h7.size)
         clear h7 hb8 H1' H2))
  by_cases hc1 : cmpL a.rules b.rules = 0
  case neg =>
    have fc := neqt hc1
    have HC := Lib.hid hc1
    clear hc1
    go_wp2_with fail
    go_ret
    exact ⟨ret_int (by rw [HZ.out, if_neg (by rw [HC1.out]; simp), if_pos HC.out]), HBB.trans (h8.mono (by omega))⟩
  have fc := neqf hc1
  have HC2 := Lib.hid hc1
  clear hc1
  go_wp2_with fail
  clear fc
  have h5 := h8.drew
  clear h8
  go_region_held_law (fun w' => w'.cell? ⟨w.heap.size, 0, none⟩ = some (.int .i64 a.r) ∧ w'.cell? ⟨w.heap.size, 1, none⟩ = some (.slice oa a.l.length ca) ∧ w'.cell? ⟨w.heap.size + 1, 0, none⟩ = some (.int .i64 b.r) ∧ w'.cell? ⟨w.heap.size + 1, 1, none⟩ = some (.slice ob b.l.length cb))
    (exact HKEEP.out _ (by assumption))
    (first
      | (go_simp; go_at_call 43; (with_reducible refine (HAA.out _ (by assumption)).mono ?_); rintro e w6 ⟨⟨v1, rfl, g1⟩, hb6⟩
         have H1 := Lib.hid g1.holds
         have h6 : Below W.heap.size W w6 := h5.trans (hb6.mono h5.size)
         clear h5 hb6 g1)
      | (go_simp; go_at_call 43; (with_reducible refine (HAB.out _ (by assumption)).mono ?_); rintro e w7 ⟨⟨v2, rfl, g2⟩, hb7⟩
         have H1' := Lib.hid (H1.out.on hb7)
         have H2 := Lib.hid g2.holds
         have h7 : Below W.heap.size W w7 := h6.trans (hb7.mono h6.size)
         clear h6 hb7 g2 H1)
      | (go_simp; go_at_call 41; (with_reducible refine (cmpInts_any _ _ _ _ _ _ H1'.out H2.out (Nat.le_refl _)).mono ?_); rintro e w8 ⟨rfl, hb8⟩
         have h8 : Below W.heap.size W w8 := h7.trans (hb8.mono h7.size)
         clear h7 hb8 H1' H2))
  go_wp2_with fail
  go_ret
  exact ⟨ret_int (by rw [HZ.out, if_neg (by rw [HC1.out]; simp), if_neg (by rw [HC2.out]; simp)]), HBB.trans (h8.mono (by omega))⟩
end Go.Proofs.Ytbimpfciadbnjaa
