/-
  The walks of Solve of the package at the ten names. Nothing is assumed.
-/
import Derived.Test.YtlpmaeemegphiaaBvSolve
namespace Go.Proofs.Ytlpmaeemegphiaa
open Go.RowKit

set_option maxRecDepth 100000 in
set_option maxHeartbeats 1600000 in
theorem solve0_any (r k : Int) (w : World) : Calls Try.prog 38 #[.string ⟨#[98, 97, 110, 100]⟩, .int .i64 r, .int .i64 k] w fun e w' => RetI w.heap.size (sol 0 r k) e w' ∧ Below w.heap.size w w' := by
  obtain ⟨i0, hi, hz0, hz1, hz2⟩ := info_parts infoInt
  cases hr : vld r
  · have hs : sol 0 r k = [] := by unfold sol okk; rw [hr]; rfl
    rw [hs]
    clear hs hi hz0 hz1 hz2 i0
    have HR := Lib.hid hr
    have hnf := run_eq_func 12
    go_enter Try.func38, Try.ntmps38
    go_wp2_with (first | (go_at_call 48; refine (operation0_any _).mono ?_; rintro e w' ⟨rfl, rfl⟩) | (go_at_call 10; refine (valid_any _ _).mono ?_; rintro e w' ⟨rfl, rfl⟩))
    go_ret
    exact ⟨RetI.none _ _, Below.refl _ _⟩
  cases hk : vld k
  · have hs : sol 0 r k = [] := by unfold sol okk; rw [hr, hk]; rfl
    rw [hs]
    clear hs hi hz0 hz1 hz2 i0
    have HR := Lib.hid hr
    have HK := Lib.hid hk
    have hnf := run_eq_func 12
    go_enter Try.func38, Try.ntmps38
    go_wp2_with (first | (go_at_call 48; refine (operation0_any _).mono ?_; rintro e w' ⟨rfl, rfl⟩) | (go_at_call 10; refine (valid_any _ _).mono ?_; rintro e w' ⟨rfl, rfl⟩))
    go_ret
    exact ⟨RetI.none _ _, Below.refl _ _⟩
  have hs : sol 0 r k = solK 0 r k 256 := by unfold sol okk; rw [hr]; rw [hk]; rfl
  have HS := Lib.hid hs; clear hs
  have HR := Lib.hid hr
  have HK := Lib.hid hk
  have hnf := run_eq_func 12
  go_enter Try.func38, Try.ntmps38
  go_wp2_with (first | (go_at_call 48; refine (operation0_any _).mono ?_; rintro e w' ⟨rfl, rfl⟩) | (go_at_call 10; refine (valid_any _ _).mono ?_; rintro e w' ⟨rfl, rfl⟩))
  clear hnf hr hk
  rename World => w0
  go_loopw [9, 31] (fun v j wr => ∃ n : Nat, n ≤ 256 ∧ j = .int .i64 n ∧ Hid (OwnI wr w0.heap.size v (solK 0 r k n)) ∧ Below w0.heap.size w0 wr) (fun _ j _ => 256 - (intOf j).toNat)
  case atStart => exact ⟨0, Nat.zero_le _, rfl, OwnI.none _ _, Below.refl _ _⟩
  case round =>
    obtain ⟨n, hn, rfl, HO, hbel⟩ := hrel
    by_cases hlt : n < 256
    · have hsz := hbel.size
      have hln := solK_len 0 r k n
      have HA : Hid (ap 0 n k = bvB 0 n k) := Lib.hid rfl
      by_cases hh : bvB 0 n k = r
      · have HH := Lib.hid hh
        have hsnoc := solK_hit 0 r k n (HA.out.trans hh)
        have HSN := Lib.hid hsnoc; clear hsnoc
        go_wp2_with (first
          | (go_at_call 12; refine (and_any _ _ _).mono ?_; rintro e w1 ⟨rfl, hb1⟩; have HO1 := Lib.hid (HO.out.later hb1); have hs1 := hb1.size)
          | (at_builtin; refine wpList_append_own _ rfl _ _ 29 rfl w0.heap.size 3 i0 (.int .i64 0) 1 8 Try.underlying29 hi hz0 hz1 hz2 rfl (by decide) _ _ _ rfl (HO1.out.alloc _) ⟨w1.heap.size, 0, none⟩ 1 1 [.int .i64 n] rfl rfl ?c1 ?c2 ?c3 ?c4 ?c5 ?_))
        case c1 =>
          intro j u hj
          match j, hj with
          | 0, hj => simp at hj; subst hj; simp [Addr.add]
          | j + 1, hj => simp at hj
        case c2 => intro u hu; simp at hu; subst hu; rfl
        case c3 => unfold maxLen; omega
        case c4 => omega
        case c5 => simp; omega
        intro v' w2 hown' hgrow _
        have hbw : Below w0.heap.size w0 w2 := ((hbel.trans (hb1.mono hsz)).alloc (by omega) _).grown hgrow (by simp; omega) (fun q hq => by
          rcases Nat.lt_or_ge q w0.heap.size with h | h
          · exact absurd hq (own_far HO1.out h)
          · exact h)
        have HO2 : Hid (OwnI w2 w0.heap.size v' (solK 0 r k (n + 1))) := Lib.hid (by
          rw [HSN.out]
          unfold OwnI
          rw [List.length_append, List.map_append]
          exact hown')
        clear hown' hgrow hb1 hs1 hh hln
        go_wp2_with fail
        go_roundw
        case rel => exact ⟨n + 1, hlt, by go_num, HO2, hbw⟩
        case measure => simp [intOf]; omega
      · have hsnoc := solK_miss 0 r k n (fun e => hh (HA.out.symm.trans e))
        have HSN := Lib.hid hsnoc; clear hsnoc
        have hne : (bvB 0 n k == r) = false := by simpa using hh
        go_wp2_with (go_at_call 12; refine (and_any _ _ _).mono ?_; rintro e w1 ⟨rfl, hb1⟩; have HO1 := Lib.hid (HO.out.later hb1))
        go_roundw
        case rel => exact ⟨n + 1, hlt, by go_num, by rw [HSN.out]; exact HO1, hbel.trans (hb1.mono hsz)⟩
        case measure => simp [intOf]; omega
    · obtain rfl : n = 256 := by omega
      go_wp2_with fail
      go_ret
      exact ⟨⟨_, rfl, by rw [HS.out]; exact HO.out⟩, hbel⟩

set_option maxRecDepth 100000 in
set_option maxHeartbeats 1600000 in
theorem solve1_any (r k : Int) (w : World) : Calls Try.prog 38 #[.string ⟨#[98, 111, 114]⟩, .int .i64 r, .int .i64 k] w fun e w' => RetI w.heap.size (sol 1 r k) e w' ∧ Below w.heap.size w w' := by
  obtain ⟨i0, hi, hz0, hz1, hz2⟩ := info_parts infoInt
  cases hr : vld r
  · have hs : sol 1 r k = [] := by unfold sol okk; rw [hr]; rfl
    rw [hs]
    clear hs hi hz0 hz1 hz2 i0
    have HR := Lib.hid hr
    have hnf := run_eq_func 14
    go_enter Try.func38, Try.ntmps38
    go_wp2_with (first | (go_at_call 48; refine (operation1_any _).mono ?_; rintro e w' ⟨rfl, rfl⟩) | (go_at_call 10; refine (valid_any _ _).mono ?_; rintro e w' ⟨rfl, rfl⟩))
    go_ret
    exact ⟨RetI.none _ _, Below.refl _ _⟩
  cases hk : vld k
  · have hs : sol 1 r k = [] := by unfold sol okk; rw [hr, hk]; rfl
    rw [hs]
    clear hs hi hz0 hz1 hz2 i0
    have HR := Lib.hid hr
    have HK := Lib.hid hk
    have hnf := run_eq_func 14
    go_enter Try.func38, Try.ntmps38
    go_wp2_with (first | (go_at_call 48; refine (operation1_any _).mono ?_; rintro e w' ⟨rfl, rfl⟩) | (go_at_call 10; refine (valid_any _ _).mono ?_; rintro e w' ⟨rfl, rfl⟩))
    go_ret
    exact ⟨RetI.none _ _, Below.refl _ _⟩
  have hs : sol 1 r k = solK 1 r k 256 := by unfold sol okk; rw [hr]; rw [hk]; rfl
  have HS := Lib.hid hs; clear hs
  have HR := Lib.hid hr
  have HK := Lib.hid hk
  have hnf := run_eq_func 14
  go_enter Try.func38, Try.ntmps38
  go_wp2_with (first | (go_at_call 48; refine (operation1_any _).mono ?_; rintro e w' ⟨rfl, rfl⟩) | (go_at_call 10; refine (valid_any _ _).mono ?_; rintro e w' ⟨rfl, rfl⟩))
  clear hnf hr hk
  rename World => w0
  go_loopw [9, 31] (fun v j wr => ∃ n : Nat, n ≤ 256 ∧ j = .int .i64 n ∧ Hid (OwnI wr w0.heap.size v (solK 1 r k n)) ∧ Below w0.heap.size w0 wr) (fun _ j _ => 256 - (intOf j).toNat)
  case atStart => exact ⟨0, Nat.zero_le _, rfl, OwnI.none _ _, Below.refl _ _⟩
  case round =>
    obtain ⟨n, hn, rfl, HO, hbel⟩ := hrel
    by_cases hlt : n < 256
    · have hsz := hbel.size
      have hln := solK_len 1 r k n
      have HA : Hid (ap 1 n k = bvB 1 n k) := Lib.hid rfl
      by_cases hh : bvB 1 n k = r
      · have HH := Lib.hid hh
        have hsnoc := solK_hit 1 r k n (HA.out.trans hh)
        have HSN := Lib.hid hsnoc; clear hsnoc
        go_wp2_with (first
          | (go_at_call 14; refine (or_any _ _ _).mono ?_; rintro e w1 ⟨rfl, hb1⟩; have HO1 := Lib.hid (HO.out.later hb1); have hs1 := hb1.size)
          | (at_builtin; refine wpList_append_own _ rfl _ _ 29 rfl w0.heap.size 3 i0 (.int .i64 0) 1 8 Try.underlying29 hi hz0 hz1 hz2 rfl (by decide) _ _ _ rfl (HO1.out.alloc _) ⟨w1.heap.size, 0, none⟩ 1 1 [.int .i64 n] rfl rfl ?c1 ?c2 ?c3 ?c4 ?c5 ?_))
        case c1 =>
          intro j u hj
          match j, hj with
          | 0, hj => simp at hj; subst hj; simp [Addr.add]
          | j + 1, hj => simp at hj
        case c2 => intro u hu; simp at hu; subst hu; rfl
        case c3 => unfold maxLen; omega
        case c4 => omega
        case c5 => simp; omega
        intro v' w2 hown' hgrow _
        have hbw : Below w0.heap.size w0 w2 := ((hbel.trans (hb1.mono hsz)).alloc (by omega) _).grown hgrow (by simp; omega) (fun q hq => by
          rcases Nat.lt_or_ge q w0.heap.size with h | h
          · exact absurd hq (own_far HO1.out h)
          · exact h)
        have HO2 : Hid (OwnI w2 w0.heap.size v' (solK 1 r k (n + 1))) := Lib.hid (by
          rw [HSN.out]
          unfold OwnI
          rw [List.length_append, List.map_append]
          exact hown')
        clear hown' hgrow hb1 hs1 hh hln
        go_wp2_with fail
        go_roundw
        case rel => exact ⟨n + 1, hlt, by go_num, HO2, hbw⟩
        case measure => simp [intOf]; omega
      · have hsnoc := solK_miss 1 r k n (fun e => hh (HA.out.symm.trans e))
        have HSN := Lib.hid hsnoc; clear hsnoc
        have hne : (bvB 1 n k == r) = false := by simpa using hh
        go_wp2_with (go_at_call 14; refine (or_any _ _ _).mono ?_; rintro e w1 ⟨rfl, hb1⟩; have HO1 := Lib.hid (HO.out.later hb1))
        go_roundw
        case rel => exact ⟨n + 1, hlt, by go_num, by rw [HSN.out]; exact HO1, hbel.trans (hb1.mono hsz)⟩
        case measure => simp [intOf]; omega
    · obtain rfl : n = 256 := by omega
      go_wp2_with fail
      go_ret
      exact ⟨⟨_, rfl, by rw [HS.out]; exact HO.out⟩, hbel⟩

set_option maxRecDepth 100000 in
set_option maxHeartbeats 1600000 in
theorem solve2_any (r k : Int) (w : World) : Calls Try.prog 38 #[.string ⟨#[98, 120, 111, 114]⟩, .int .i64 r, .int .i64 k] w fun e w' => RetI w.heap.size (sol 2 r k) e w' ∧ Below w.heap.size w w' := by
  obtain ⟨i0, hi, hz0, hz1, hz2⟩ := info_parts infoInt
  cases hr : vld r
  · have hs : sol 2 r k = [] := by unfold sol okk; rw [hr]; rfl
    rw [hs]
    clear hs hi hz0 hz1 hz2 i0
    have HR := Lib.hid hr
    have hnf := run_eq_func 16
    go_enter Try.func38, Try.ntmps38
    go_wp2_with (first | (go_at_call 48; refine (operation2_any _).mono ?_; rintro e w' ⟨rfl, rfl⟩) | (go_at_call 10; refine (valid_any _ _).mono ?_; rintro e w' ⟨rfl, rfl⟩))
    go_ret
    exact ⟨RetI.none _ _, Below.refl _ _⟩
  cases hk : vld k
  · have hs : sol 2 r k = [] := by unfold sol okk; rw [hr, hk]; rfl
    rw [hs]
    clear hs hi hz0 hz1 hz2 i0
    have HR := Lib.hid hr
    have HK := Lib.hid hk
    have hnf := run_eq_func 16
    go_enter Try.func38, Try.ntmps38
    go_wp2_with (first | (go_at_call 48; refine (operation2_any _).mono ?_; rintro e w' ⟨rfl, rfl⟩) | (go_at_call 10; refine (valid_any _ _).mono ?_; rintro e w' ⟨rfl, rfl⟩))
    go_ret
    exact ⟨RetI.none _ _, Below.refl _ _⟩
  have hs : sol 2 r k = solK 2 r k 256 := by unfold sol okk; rw [hr]; rw [hk]; rfl
  have HS := Lib.hid hs; clear hs
  have HR := Lib.hid hr
  have HK := Lib.hid hk
  have hnf := run_eq_func 16
  go_enter Try.func38, Try.ntmps38
  go_wp2_with (first | (go_at_call 48; refine (operation2_any _).mono ?_; rintro e w' ⟨rfl, rfl⟩) | (go_at_call 10; refine (valid_any _ _).mono ?_; rintro e w' ⟨rfl, rfl⟩))
  clear hnf hr hk
  rename World => w0
  go_loopw [9, 31] (fun v j wr => ∃ n : Nat, n ≤ 256 ∧ j = .int .i64 n ∧ Hid (OwnI wr w0.heap.size v (solK 2 r k n)) ∧ Below w0.heap.size w0 wr) (fun _ j _ => 256 - (intOf j).toNat)
  case atStart => exact ⟨0, Nat.zero_le _, rfl, OwnI.none _ _, Below.refl _ _⟩
  case round =>
    obtain ⟨n, hn, rfl, HO, hbel⟩ := hrel
    by_cases hlt : n < 256
    · have hsz := hbel.size
      have hln := solK_len 2 r k n
      have HA : Hid (ap 2 n k = bvB 2 n k) := Lib.hid rfl
      by_cases hh : bvB 2 n k = r
      · have HH := Lib.hid hh
        have hsnoc := solK_hit 2 r k n (HA.out.trans hh)
        have HSN := Lib.hid hsnoc; clear hsnoc
        go_wp2_with (first
          | (go_at_call 16; refine (xor_any _ _ _).mono ?_; rintro e w1 ⟨rfl, hb1⟩; have HO1 := Lib.hid (HO.out.later hb1); have hs1 := hb1.size)
          | (at_builtin; refine wpList_append_own _ rfl _ _ 29 rfl w0.heap.size 3 i0 (.int .i64 0) 1 8 Try.underlying29 hi hz0 hz1 hz2 rfl (by decide) _ _ _ rfl (HO1.out.alloc _) ⟨w1.heap.size, 0, none⟩ 1 1 [.int .i64 n] rfl rfl ?c1 ?c2 ?c3 ?c4 ?c5 ?_))
        case c1 =>
          intro j u hj
          match j, hj with
          | 0, hj => simp at hj; subst hj; simp [Addr.add]
          | j + 1, hj => simp at hj
        case c2 => intro u hu; simp at hu; subst hu; rfl
        case c3 => unfold maxLen; omega
        case c4 => omega
        case c5 => simp; omega
        intro v' w2 hown' hgrow _
        have hbw : Below w0.heap.size w0 w2 := ((hbel.trans (hb1.mono hsz)).alloc (by omega) _).grown hgrow (by simp; omega) (fun q hq => by
          rcases Nat.lt_or_ge q w0.heap.size with h | h
          · exact absurd hq (own_far HO1.out h)
          · exact h)
        have HO2 : Hid (OwnI w2 w0.heap.size v' (solK 2 r k (n + 1))) := Lib.hid (by
          rw [HSN.out]
          unfold OwnI
          rw [List.length_append, List.map_append]
          exact hown')
        clear hown' hgrow hb1 hs1 hh hln
        go_wp2_with fail
        go_roundw
        case rel => exact ⟨n + 1, hlt, by go_num, HO2, hbw⟩
        case measure => simp [intOf]; omega
      · have hsnoc := solK_miss 2 r k n (fun e => hh (HA.out.symm.trans e))
        have HSN := Lib.hid hsnoc; clear hsnoc
        have hne : (bvB 2 n k == r) = false := by simpa using hh
        go_wp2_with (go_at_call 16; refine (xor_any _ _ _).mono ?_; rintro e w1 ⟨rfl, hb1⟩; have HO1 := Lib.hid (HO.out.later hb1))
        go_roundw
        case rel => exact ⟨n + 1, hlt, by go_num, by rw [HSN.out]; exact HO1, hbel.trans (hb1.mono hsz)⟩
        case measure => simp [intOf]; omega
    · obtain rfl : n = 256 := by omega
      go_wp2_with fail
      go_ret
      exact ⟨⟨_, rfl, by rw [HS.out]; exact HO.out⟩, hbel⟩

set_option maxRecDepth 100000 in
set_option maxHeartbeats 1600000 in
theorem solve3_any (r k : Int) (w : World) : Calls Try.prog 38 #[.string ⟨#[98, 97, 100, 100]⟩, .int .i64 r, .int .i64 k] w fun e w' => RetI w.heap.size (sol 3 r k) e w' ∧ Below w.heap.size w w' := by
  obtain ⟨i0, hi, hz0, hz1, hz2⟩ := info_parts infoInt
  cases hr : vld r
  · have hs : sol 3 r k = [] := by unfold sol okk; rw [hr]; rfl
    rw [hs]
    clear hs hi hz0 hz1 hz2 i0
    have HR := Lib.hid hr
    have hnf := run_eq_func 21
    go_enter Try.func38, Try.ntmps38
    go_wp2_with (first | (go_at_call 48; refine (operation3_any _).mono ?_; rintro e w' ⟨rfl, rfl⟩) | (go_at_call 10; refine (valid_any _ _).mono ?_; rintro e w' ⟨rfl, rfl⟩))
    go_ret
    exact ⟨RetI.none _ _, Below.refl _ _⟩
  cases hk : vld k
  · have hs : sol 3 r k = [] := by unfold sol okk; rw [hr, hk]; rfl
    rw [hs]
    clear hs hi hz0 hz1 hz2 i0
    have HR := Lib.hid hr
    have HK := Lib.hid hk
    have hnf := run_eq_func 21
    go_enter Try.func38, Try.ntmps38
    go_wp2_with (first | (go_at_call 48; refine (operation3_any _).mono ?_; rintro e w' ⟨rfl, rfl⟩) | (go_at_call 10; refine (valid_any _ _).mono ?_; rintro e w' ⟨rfl, rfl⟩))
    go_ret
    exact ⟨RetI.none _ _, Below.refl _ _⟩
  have hs : sol 3 r k = solK 3 r k 256 := by unfold sol okk; rw [hr]; rw [hk]; rfl
  have HS := Lib.hid hs; clear hs
  have HR := Lib.hid hr
  have HK := Lib.hid hk
  have hnf := run_eq_func 21
  go_enter Try.func38, Try.ntmps38
  go_wp2_with (first | (go_at_call 48; refine (operation3_any _).mono ?_; rintro e w' ⟨rfl, rfl⟩) | (go_at_call 10; refine (valid_any _ _).mono ?_; rintro e w' ⟨rfl, rfl⟩))
  clear hnf hr hk
  rename World => w0
  go_loopw [9, 31] (fun v j wr => ∃ n : Nat, n ≤ 256 ∧ j = .int .i64 n ∧ Hid (OwnI wr w0.heap.size v (solK 3 r k n)) ∧ Below w0.heap.size w0 wr) (fun _ j _ => 256 - (intOf j).toNat)
  case atStart => exact ⟨0, Nat.zero_le _, rfl, OwnI.none _ _, Below.refl _ _⟩
  case round =>
    obtain ⟨n, hn, rfl, HO, hbel⟩ := hrel
    by_cases hlt : n < 256
    · have hsz := hbel.size
      have hln := solK_len 3 r k n
      have HA : Hid (ap 3 n k = bvAdd n k) := Lib.hid rfl
      by_cases hh : bvAdd n k = r
      · have HH := Lib.hid hh
        have hsnoc := solK_hit 3 r k n (HA.out.trans hh)
        have HSN := Lib.hid hsnoc; clear hsnoc
        go_wp2_with (first
          | (go_at_call 21; refine (add_any _ _ _).mono ?_; rintro e w1 ⟨rfl, hb1⟩; have HO1 := Lib.hid (HO.out.later hb1); have hs1 := hb1.size)
          | (at_builtin; refine wpList_append_own _ rfl _ _ 29 rfl w0.heap.size 3 i0 (.int .i64 0) 1 8 Try.underlying29 hi hz0 hz1 hz2 rfl (by decide) _ _ _ rfl (HO1.out.alloc _) ⟨w1.heap.size, 0, none⟩ 1 1 [.int .i64 n] rfl rfl ?c1 ?c2 ?c3 ?c4 ?c5 ?_))
        case c1 =>
          intro j u hj
          match j, hj with
          | 0, hj => simp at hj; subst hj; simp [Addr.add]
          | j + 1, hj => simp at hj
        case c2 => intro u hu; simp at hu; subst hu; rfl
        case c3 => unfold maxLen; omega
        case c4 => omega
        case c5 => simp; omega
        intro v' w2 hown' hgrow _
        have hbw : Below w0.heap.size w0 w2 := ((hbel.trans (hb1.mono hsz)).alloc (by omega) _).grown hgrow (by simp; omega) (fun q hq => by
          rcases Nat.lt_or_ge q w0.heap.size with h | h
          · exact absurd hq (own_far HO1.out h)
          · exact h)
        have HO2 : Hid (OwnI w2 w0.heap.size v' (solK 3 r k (n + 1))) := Lib.hid (by
          rw [HSN.out]
          unfold OwnI
          rw [List.length_append, List.map_append]
          exact hown')
        clear hown' hgrow hb1 hs1 hh hln
        go_wp2_with fail
        go_roundw
        case rel => exact ⟨n + 1, hlt, by go_num, HO2, hbw⟩
        case measure => simp [intOf]; omega
      · have hsnoc := solK_miss 3 r k n (fun e => hh (HA.out.symm.trans e))
        have HSN := Lib.hid hsnoc; clear hsnoc
        have hne : (bvAdd n k == r) = false := by simpa using hh
        go_wp2_with (go_at_call 21; refine (add_any _ _ _).mono ?_; rintro e w1 ⟨rfl, hb1⟩; have HO1 := Lib.hid (HO.out.later hb1))
        go_roundw
        case rel => exact ⟨n + 1, hlt, by go_num, by rw [HSN.out]; exact HO1, hbel.trans (hb1.mono hsz)⟩
        case measure => simp [intOf]; omega
    · obtain rfl : n = 256 := by omega
      go_wp2_with fail
      go_ret
      exact ⟨⟨_, rfl, by rw [HS.out]; exact HO.out⟩, hbel⟩

set_option maxRecDepth 100000 in
set_option maxHeartbeats 1600000 in
theorem solve4_any (r k : Int) (w : World) : Calls Try.prog 38 #[.string ⟨#[98, 115, 117, 98]⟩, .int .i64 r, .int .i64 k] w fun e w' => RetI w.heap.size (sol 4 r k) e w' ∧ Below w.heap.size w w' := by
  obtain ⟨i0, hi, hz0, hz1, hz2⟩ := info_parts infoInt
  cases hr : vld r
  · have hs : sol 4 r k = [] := by unfold sol okk; rw [hr]; rfl
    rw [hs]
    clear hs hi hz0 hz1 hz2 i0
    have HR := Lib.hid hr
    have hnf := run_eq_func 23
    go_enter Try.func38, Try.ntmps38
    go_wp2_with (first | (go_at_call 48; refine (operation4_any _).mono ?_; rintro e w' ⟨rfl, rfl⟩) | (go_at_call 10; refine (valid_any _ _).mono ?_; rintro e w' ⟨rfl, rfl⟩))
    go_ret
    exact ⟨RetI.none _ _, Below.refl _ _⟩
  cases hk : vld k
  · have hs : sol 4 r k = [] := by unfold sol okk; rw [hr, hk]; rfl
    rw [hs]
    clear hs hi hz0 hz1 hz2 i0
    have HR := Lib.hid hr
    have HK := Lib.hid hk
    have hnf := run_eq_func 23
    go_enter Try.func38, Try.ntmps38
    go_wp2_with (first | (go_at_call 48; refine (operation4_any _).mono ?_; rintro e w' ⟨rfl, rfl⟩) | (go_at_call 10; refine (valid_any _ _).mono ?_; rintro e w' ⟨rfl, rfl⟩))
    go_ret
    exact ⟨RetI.none _ _, Below.refl _ _⟩
  have hs : sol 4 r k = solK 4 r k 256 := by unfold sol okk; rw [hr]; rw [hk]; rfl
  have HS := Lib.hid hs; clear hs
  have HR := Lib.hid hr
  have HK := Lib.hid hk
  have hnf := run_eq_func 23
  go_enter Try.func38, Try.ntmps38
  go_wp2_with (first | (go_at_call 48; refine (operation4_any _).mono ?_; rintro e w' ⟨rfl, rfl⟩) | (go_at_call 10; refine (valid_any _ _).mono ?_; rintro e w' ⟨rfl, rfl⟩))
  clear hnf hr hk
  rename World => w0
  go_loopw [9, 31] (fun v j wr => ∃ n : Nat, n ≤ 256 ∧ j = .int .i64 n ∧ Hid (OwnI wr w0.heap.size v (solK 4 r k n)) ∧ Below w0.heap.size w0 wr) (fun _ j _ => 256 - (intOf j).toNat)
  case atStart => exact ⟨0, Nat.zero_le _, rfl, OwnI.none _ _, Below.refl _ _⟩
  case round =>
    obtain ⟨n, hn, rfl, HO, hbel⟩ := hrel
    by_cases hlt : n < 256
    · have hsz := hbel.size
      have hln := solK_len 4 r k n
      have HA : Hid (ap 4 n k = bvSub n k) := Lib.hid rfl
      by_cases hh : bvSub n k = r
      · have HH := Lib.hid hh
        have hsnoc := solK_hit 4 r k n (HA.out.trans hh)
        have HSN := Lib.hid hsnoc; clear hsnoc
        go_wp2_with (first
          | (go_at_call 23; refine (sub_any _ _ _).mono ?_; rintro e w1 ⟨rfl, hb1⟩; have HO1 := Lib.hid (HO.out.later hb1); have hs1 := hb1.size)
          | (at_builtin; refine wpList_append_own _ rfl _ _ 29 rfl w0.heap.size 3 i0 (.int .i64 0) 1 8 Try.underlying29 hi hz0 hz1 hz2 rfl (by decide) _ _ _ rfl (HO1.out.alloc _) ⟨w1.heap.size, 0, none⟩ 1 1 [.int .i64 n] rfl rfl ?c1 ?c2 ?c3 ?c4 ?c5 ?_))
        case c1 =>
          intro j u hj
          match j, hj with
          | 0, hj => simp at hj; subst hj; simp [Addr.add]
          | j + 1, hj => simp at hj
        case c2 => intro u hu; simp at hu; subst hu; rfl
        case c3 => unfold maxLen; omega
        case c4 => omega
        case c5 => simp; omega
        intro v' w2 hown' hgrow _
        have hbw : Below w0.heap.size w0 w2 := ((hbel.trans (hb1.mono hsz)).alloc (by omega) _).grown hgrow (by simp; omega) (fun q hq => by
          rcases Nat.lt_or_ge q w0.heap.size with h | h
          · exact absurd hq (own_far HO1.out h)
          · exact h)
        have HO2 : Hid (OwnI w2 w0.heap.size v' (solK 4 r k (n + 1))) := Lib.hid (by
          rw [HSN.out]
          unfold OwnI
          rw [List.length_append, List.map_append]
          exact hown')
        clear hown' hgrow hb1 hs1 hh hln
        go_wp2_with fail
        go_roundw
        case rel => exact ⟨n + 1, hlt, by go_num, HO2, hbw⟩
        case measure => simp [intOf]; omega
      · have hsnoc := solK_miss 4 r k n (fun e => hh (HA.out.symm.trans e))
        have HSN := Lib.hid hsnoc; clear hsnoc
        have hne : (bvSub n k == r) = false := by simpa using hh
        go_wp2_with (go_at_call 23; refine (sub_any _ _ _).mono ?_; rintro e w1 ⟨rfl, hb1⟩; have HO1 := Lib.hid (HO.out.later hb1))
        go_roundw
        case rel => exact ⟨n + 1, hlt, by go_num, by rw [HSN.out]; exact HO1, hbel.trans (hb1.mono hsz)⟩
        case measure => simp [intOf]; omega
    · obtain rfl : n = 256 := by omega
      go_wp2_with fail
      go_ret
      exact ⟨⟨_, rfl, by rw [HS.out]; exact HO.out⟩, hbel⟩

set_option maxRecDepth 100000 in
set_option maxHeartbeats 1600000 in
theorem solve5_any (r k : Int) (w : World) : Calls Try.prog 38 #[.string ⟨#[98, 109, 117, 108]⟩, .int .i64 r, .int .i64 k] w fun e w' => RetI w.heap.size (sol 5 r k) e w' ∧ Below w.heap.size w w' := by
  obtain ⟨i0, hi, hz0, hz1, hz2⟩ := info_parts infoInt
  cases hr : vld r
  · have hs : sol 5 r k = [] := by unfold sol okk; rw [hr]; rfl
    rw [hs]
    clear hs hi hz0 hz1 hz2 i0
    have HR := Lib.hid hr
    have hnf := run_eq_func 25
    go_enter Try.func38, Try.ntmps38
    go_wp2_with (first | (go_at_call 48; refine (operation5_any _).mono ?_; rintro e w' ⟨rfl, rfl⟩) | (go_at_call 10; refine (valid_any _ _).mono ?_; rintro e w' ⟨rfl, rfl⟩))
    go_ret
    exact ⟨RetI.none _ _, Below.refl _ _⟩
  cases hk : vld k
  · have hs : sol 5 r k = [] := by unfold sol okk; rw [hr, hk]; rfl
    rw [hs]
    clear hs hi hz0 hz1 hz2 i0
    have HR := Lib.hid hr
    have HK := Lib.hid hk
    have hnf := run_eq_func 25
    go_enter Try.func38, Try.ntmps38
    go_wp2_with (first | (go_at_call 48; refine (operation5_any _).mono ?_; rintro e w' ⟨rfl, rfl⟩) | (go_at_call 10; refine (valid_any _ _).mono ?_; rintro e w' ⟨rfl, rfl⟩))
    go_ret
    exact ⟨RetI.none _ _, Below.refl _ _⟩
  have hs : sol 5 r k = solK 5 r k 256 := by unfold sol okk; rw [hr]; rw [hk]; rfl
  have HS := Lib.hid hs; clear hs
  have HR := Lib.hid hr
  have HK := Lib.hid hk
  have hnf := run_eq_func 25
  go_enter Try.func38, Try.ntmps38
  go_wp2_with (first | (go_at_call 48; refine (operation5_any _).mono ?_; rintro e w' ⟨rfl, rfl⟩) | (go_at_call 10; refine (valid_any _ _).mono ?_; rintro e w' ⟨rfl, rfl⟩))
  clear hnf hr hk
  rename World => w0
  go_loopw [9, 31] (fun v j wr => ∃ n : Nat, n ≤ 256 ∧ j = .int .i64 n ∧ Hid (OwnI wr w0.heap.size v (solK 5 r k n)) ∧ Below w0.heap.size w0 wr) (fun _ j _ => 256 - (intOf j).toNat)
  case atStart => exact ⟨0, Nat.zero_le _, rfl, OwnI.none _ _, Below.refl _ _⟩
  case round =>
    obtain ⟨n, hn, rfl, HO, hbel⟩ := hrel
    by_cases hlt : n < 256
    · have hsz := hbel.size
      have hln := solK_len 5 r k n
      have HA : Hid (ap 5 n k = bvMul n k) := Lib.hid rfl
      by_cases hh : bvMul n k = r
      · have HH := Lib.hid hh
        have hsnoc := solK_hit 5 r k n (HA.out.trans hh)
        have HSN := Lib.hid hsnoc; clear hsnoc
        go_wp2_with (first
          | (go_at_call 25; refine (mul_any _ _ _).mono ?_; rintro e w1 ⟨rfl, hb1⟩; have HO1 := Lib.hid (HO.out.later hb1); have hs1 := hb1.size)
          | (at_builtin; refine wpList_append_own _ rfl _ _ 29 rfl w0.heap.size 3 i0 (.int .i64 0) 1 8 Try.underlying29 hi hz0 hz1 hz2 rfl (by decide) _ _ _ rfl (HO1.out.alloc _) ⟨w1.heap.size, 0, none⟩ 1 1 [.int .i64 n] rfl rfl ?c1 ?c2 ?c3 ?c4 ?c5 ?_))
        case c1 =>
          intro j u hj
          match j, hj with
          | 0, hj => simp at hj; subst hj; simp [Addr.add]
          | j + 1, hj => simp at hj
        case c2 => intro u hu; simp at hu; subst hu; rfl
        case c3 => unfold maxLen; omega
        case c4 => omega
        case c5 => simp; omega
        intro v' w2 hown' hgrow _
        have hbw : Below w0.heap.size w0 w2 := ((hbel.trans (hb1.mono hsz)).alloc (by omega) _).grown hgrow (by simp; omega) (fun q hq => by
          rcases Nat.lt_or_ge q w0.heap.size with h | h
          · exact absurd hq (own_far HO1.out h)
          · exact h)
        have HO2 : Hid (OwnI w2 w0.heap.size v' (solK 5 r k (n + 1))) := Lib.hid (by
          rw [HSN.out]
          unfold OwnI
          rw [List.length_append, List.map_append]
          exact hown')
        clear hown' hgrow hb1 hs1 hh hln
        go_wp2_with fail
        go_roundw
        case rel => exact ⟨n + 1, hlt, by go_num, HO2, hbw⟩
        case measure => simp [intOf]; omega
      · have hsnoc := solK_miss 5 r k n (fun e => hh (HA.out.symm.trans e))
        have HSN := Lib.hid hsnoc; clear hsnoc
        have hne : (bvMul n k == r) = false := by simpa using hh
        go_wp2_with (go_at_call 25; refine (mul_any _ _ _).mono ?_; rintro e w1 ⟨rfl, hb1⟩; have HO1 := Lib.hid (HO.out.later hb1))
        go_roundw
        case rel => exact ⟨n + 1, hlt, by go_num, by rw [HSN.out]; exact HO1, hbel.trans (hb1.mono hsz)⟩
        case measure => simp [intOf]; omega
    · obtain rfl : n = 256 := by omega
      go_wp2_with fail
      go_ret
      exact ⟨⟨_, rfl, by rw [HS.out]; exact HO.out⟩, hbel⟩

set_option maxRecDepth 100000 in
set_option maxHeartbeats 1600000 in
theorem solve6_any (r k : Int) (w : World) : Calls Try.prog 38 #[.string ⟨#[98, 108, 101, 102, 116]⟩, .int .i64 r, .int .i64 k] w fun e w' => RetI w.heap.size (sol 6 r k) e w' ∧ Below w.heap.size w w' := by
  obtain ⟨i0, hi, hz0, hz1, hz2⟩ := info_parts infoInt
  cases hr : vld r
  · have hs : sol 6 r k = [] := by unfold sol okk; rw [hr]; rfl
    rw [hs]
    clear hs hi hz0 hz1 hz2 i0
    have HR := Lib.hid hr
    have hnf := run_eq_func 27
    go_enter Try.func38, Try.ntmps38
    go_wp2_with (first | (go_at_call 48; refine (operation6_any _).mono ?_; rintro e w' ⟨rfl, rfl⟩) | (go_at_call 10; refine (valid_any _ _).mono ?_; rintro e w' ⟨rfl, rfl⟩))
    go_ret
    exact ⟨RetI.none _ _, Below.refl _ _⟩
  have hs : sol 6 r k = solK 6 r k 256 := by unfold sol okk; rw [hr]; rfl
  have HS := Lib.hid hs; clear hs
  have HR := Lib.hid hr

  have hnf := run_eq_func 27
  go_enter Try.func38, Try.ntmps38
  go_wp2_with (first | (go_at_call 48; refine (operation6_any _).mono ?_; rintro e w' ⟨rfl, rfl⟩) | (go_at_call 10; refine (valid_any _ _).mono ?_; rintro e w' ⟨rfl, rfl⟩))
  clear hnf hr 
  rename World => w0
  go_loopw [9, 31] (fun v j wr => ∃ n : Nat, n ≤ 256 ∧ j = .int .i64 n ∧ Hid (OwnI wr w0.heap.size v (solK 6 r k n)) ∧ Below w0.heap.size w0 wr) (fun _ j _ => 256 - (intOf j).toNat)
  case atStart => exact ⟨0, Nat.zero_le _, rfl, OwnI.none _ _, Below.refl _ _⟩
  case round =>
    obtain ⟨n, hn, rfl, HO, hbel⟩ := hrel
    by_cases hlt : n < 256
    · have hsz := hbel.size
      have hln := solK_len 6 r k n
      have HA : Hid (ap 6 n k = bvLeft n k) := Lib.hid rfl
      by_cases hh : bvLeft n k = r
      · have HH := Lib.hid hh
        have hsnoc := solK_hit 6 r k n (HA.out.trans hh)
        have HSN := Lib.hid hsnoc; clear hsnoc
        go_wp2_with (first
          | (go_at_call 27; refine (left_any _ _ _).mono ?_; rintro e w1 ⟨rfl, hb1⟩; have HO1 := Lib.hid (HO.out.later hb1); have hs1 := hb1.size)
          | (at_builtin; refine wpList_append_own _ rfl _ _ 29 rfl w0.heap.size 3 i0 (.int .i64 0) 1 8 Try.underlying29 hi hz0 hz1 hz2 rfl (by decide) _ _ _ rfl (HO1.out.alloc _) ⟨w1.heap.size, 0, none⟩ 1 1 [.int .i64 n] rfl rfl ?c1 ?c2 ?c3 ?c4 ?c5 ?_))
        case c1 =>
          intro j u hj
          match j, hj with
          | 0, hj => simp at hj; subst hj; simp [Addr.add]
          | j + 1, hj => simp at hj
        case c2 => intro u hu; simp at hu; subst hu; rfl
        case c3 => unfold maxLen; omega
        case c4 => omega
        case c5 => simp; omega
        intro v' w2 hown' hgrow _
        have hbw : Below w0.heap.size w0 w2 := ((hbel.trans (hb1.mono hsz)).alloc (by omega) _).grown hgrow (by simp; omega) (fun q hq => by
          rcases Nat.lt_or_ge q w0.heap.size with h | h
          · exact absurd hq (own_far HO1.out h)
          · exact h)
        have HO2 : Hid (OwnI w2 w0.heap.size v' (solK 6 r k (n + 1))) := Lib.hid (by
          rw [HSN.out]
          unfold OwnI
          rw [List.length_append, List.map_append]
          exact hown')
        clear hown' hgrow hb1 hs1 hh hln
        go_wp2_with fail
        go_roundw
        case rel => exact ⟨n + 1, hlt, by go_num, HO2, hbw⟩
        case measure => simp [intOf]; omega
      · have hsnoc := solK_miss 6 r k n (fun e => hh (HA.out.symm.trans e))
        have HSN := Lib.hid hsnoc; clear hsnoc
        have hne : (bvLeft n k == r) = false := by simpa using hh
        go_wp2_with (go_at_call 27; refine (left_any _ _ _).mono ?_; rintro e w1 ⟨rfl, hb1⟩; have HO1 := Lib.hid (HO.out.later hb1))
        go_roundw
        case rel => exact ⟨n + 1, hlt, by go_num, by rw [HSN.out]; exact HO1, hbel.trans (hb1.mono hsz)⟩
        case measure => simp [intOf]; omega
    · obtain rfl : n = 256 := by omega
      go_wp2_with fail
      go_ret
      exact ⟨⟨_, rfl, by rw [HS.out]; exact HO.out⟩, hbel⟩

set_option maxRecDepth 100000 in
set_option maxHeartbeats 1600000 in
theorem solve7_any (r k : Int) (w : World) : Calls Try.prog 38 #[.string ⟨#[98, 114, 105, 103, 104, 116]⟩, .int .i64 r, .int .i64 k] w fun e w' => RetI w.heap.size (sol 7 r k) e w' ∧ Below w.heap.size w w' := by
  obtain ⟨i0, hi, hz0, hz1, hz2⟩ := info_parts infoInt
  cases hr : vld r
  · have hs : sol 7 r k = [] := by unfold sol okk; rw [hr]; rfl
    rw [hs]
    clear hs hi hz0 hz1 hz2 i0
    have HR := Lib.hid hr
    have hnf := run_eq_func 29
    go_enter Try.func38, Try.ntmps38
    go_wp2_with (first | (go_at_call 48; refine (operation7_any _).mono ?_; rintro e w' ⟨rfl, rfl⟩) | (go_at_call 10; refine (valid_any _ _).mono ?_; rintro e w' ⟨rfl, rfl⟩))
    go_ret
    exact ⟨RetI.none _ _, Below.refl _ _⟩
  have hs : sol 7 r k = solK 7 r k 256 := by unfold sol okk; rw [hr]; rfl
  have HS := Lib.hid hs; clear hs
  have HR := Lib.hid hr

  have hnf := run_eq_func 29
  go_enter Try.func38, Try.ntmps38
  go_wp2_with (first | (go_at_call 48; refine (operation7_any _).mono ?_; rintro e w' ⟨rfl, rfl⟩) | (go_at_call 10; refine (valid_any _ _).mono ?_; rintro e w' ⟨rfl, rfl⟩))
  clear hnf hr 
  rename World => w0
  go_loopw [9, 31] (fun v j wr => ∃ n : Nat, n ≤ 256 ∧ j = .int .i64 n ∧ Hid (OwnI wr w0.heap.size v (solK 7 r k n)) ∧ Below w0.heap.size w0 wr) (fun _ j _ => 256 - (intOf j).toNat)
  case atStart => exact ⟨0, Nat.zero_le _, rfl, OwnI.none _ _, Below.refl _ _⟩
  case round =>
    obtain ⟨n, hn, rfl, HO, hbel⟩ := hrel
    by_cases hlt : n < 256
    · have hsz := hbel.size
      have hln := solK_len 7 r k n
      have HA : Hid (ap 7 n k = bvRight n k) := Lib.hid rfl
      by_cases hh : bvRight n k = r
      · have HH := Lib.hid hh
        have hsnoc := solK_hit 7 r k n (HA.out.trans hh)
        have HSN := Lib.hid hsnoc; clear hsnoc
        go_wp2_with (first
          | (go_at_call 29; refine (right_any _ _ _).mono ?_; rintro e w1 ⟨rfl, hb1⟩; have HO1 := Lib.hid (HO.out.later hb1); have hs1 := hb1.size)
          | (at_builtin; refine wpList_append_own _ rfl _ _ 29 rfl w0.heap.size 3 i0 (.int .i64 0) 1 8 Try.underlying29 hi hz0 hz1 hz2 rfl (by decide) _ _ _ rfl (HO1.out.alloc _) ⟨w1.heap.size, 0, none⟩ 1 1 [.int .i64 n] rfl rfl ?c1 ?c2 ?c3 ?c4 ?c5 ?_))
        case c1 =>
          intro j u hj
          match j, hj with
          | 0, hj => simp at hj; subst hj; simp [Addr.add]
          | j + 1, hj => simp at hj
        case c2 => intro u hu; simp at hu; subst hu; rfl
        case c3 => unfold maxLen; omega
        case c4 => omega
        case c5 => simp; omega
        intro v' w2 hown' hgrow _
        have hbw : Below w0.heap.size w0 w2 := ((hbel.trans (hb1.mono hsz)).alloc (by omega) _).grown hgrow (by simp; omega) (fun q hq => by
          rcases Nat.lt_or_ge q w0.heap.size with h | h
          · exact absurd hq (own_far HO1.out h)
          · exact h)
        have HO2 : Hid (OwnI w2 w0.heap.size v' (solK 7 r k (n + 1))) := Lib.hid (by
          rw [HSN.out]
          unfold OwnI
          rw [List.length_append, List.map_append]
          exact hown')
        clear hown' hgrow hb1 hs1 hh hln
        go_wp2_with fail
        go_roundw
        case rel => exact ⟨n + 1, hlt, by go_num, HO2, hbw⟩
        case measure => simp [intOf]; omega
      · have hsnoc := solK_miss 7 r k n (fun e => hh (HA.out.symm.trans e))
        have HSN := Lib.hid hsnoc; clear hsnoc
        have hne : (bvRight n k == r) = false := by simpa using hh
        go_wp2_with (go_at_call 29; refine (right_any _ _ _).mono ?_; rintro e w1 ⟨rfl, hb1⟩; have HO1 := Lib.hid (HO.out.later hb1))
        go_roundw
        case rel => exact ⟨n + 1, hlt, by go_num, by rw [HSN.out]; exact HO1, hbel.trans (hb1.mono hsz)⟩
        case measure => simp [intOf]; omega
    · obtain rfl : n = 256 := by omega
      go_wp2_with fail
      go_ret
      exact ⟨⟨_, rfl, by rw [HS.out]; exact HO.out⟩, hbel⟩

set_option maxRecDepth 100000 in
set_option maxHeartbeats 1600000 in
theorem solve8_any (r k : Int) (w : World) : Calls Try.prog 38 #[.string ⟨#[98, 97, 114, 105, 116, 104]⟩, .int .i64 r, .int .i64 k] w fun e w' => RetI w.heap.size (sol 8 r k) e w' ∧ Below w.heap.size w w' := by
  obtain ⟨i0, hi, hz0, hz1, hz2⟩ := info_parts infoInt
  cases hr : vld r
  · have hs : sol 8 r k = [] := by unfold sol okk; rw [hr]; rfl
    rw [hs]
    clear hs hi hz0 hz1 hz2 i0
    have HR := Lib.hid hr
    have hnf := run_eq_func 31
    go_enter Try.func38, Try.ntmps38
    go_wp2_with (first | (go_at_call 48; refine (operation8_any _).mono ?_; rintro e w' ⟨rfl, rfl⟩) | (go_at_call 10; refine (valid_any _ _).mono ?_; rintro e w' ⟨rfl, rfl⟩))
    go_ret
    exact ⟨RetI.none _ _, Below.refl _ _⟩
  have hs : sol 8 r k = solK 8 r k 256 := by unfold sol okk; rw [hr]; rfl
  have HS := Lib.hid hs; clear hs
  have HR := Lib.hid hr

  have hnf := run_eq_func 31
  go_enter Try.func38, Try.ntmps38
  go_wp2_with (first | (go_at_call 48; refine (operation8_any _).mono ?_; rintro e w' ⟨rfl, rfl⟩) | (go_at_call 10; refine (valid_any _ _).mono ?_; rintro e w' ⟨rfl, rfl⟩))
  clear hnf hr 
  rename World => w0
  go_loopw [9, 31] (fun v j wr => ∃ n : Nat, n ≤ 256 ∧ j = .int .i64 n ∧ Hid (OwnI wr w0.heap.size v (solK 8 r k n)) ∧ Below w0.heap.size w0 wr) (fun _ j _ => 256 - (intOf j).toNat)
  case atStart => exact ⟨0, Nat.zero_le _, rfl, OwnI.none _ _, Below.refl _ _⟩
  case round =>
    obtain ⟨n, hn, rfl, HO, hbel⟩ := hrel
    by_cases hlt : n < 256
    · have hsz := hbel.size
      have hln := solK_len 8 r k n
      have HA : Hid (ap 8 n k = bvArith n k) := Lib.hid rfl
      by_cases hh : bvArith n k = r
      · have HH := Lib.hid hh
        have hsnoc := solK_hit 8 r k n (HA.out.trans hh)
        have HSN := Lib.hid hsnoc; clear hsnoc
        go_wp2_with (first
          | (go_at_call 31; refine (arith_any _ _ _).mono ?_; rintro e w1 ⟨rfl, hb1⟩; have HO1 := Lib.hid (HO.out.later hb1); have hs1 := hb1.size)
          | (at_builtin; refine wpList_append_own _ rfl _ _ 29 rfl w0.heap.size 3 i0 (.int .i64 0) 1 8 Try.underlying29 hi hz0 hz1 hz2 rfl (by decide) _ _ _ rfl (HO1.out.alloc _) ⟨w1.heap.size, 0, none⟩ 1 1 [.int .i64 n] rfl rfl ?c1 ?c2 ?c3 ?c4 ?c5 ?_))
        case c1 =>
          intro j u hj
          match j, hj with
          | 0, hj => simp at hj; subst hj; simp [Addr.add]
          | j + 1, hj => simp at hj
        case c2 => intro u hu; simp at hu; subst hu; rfl
        case c3 => unfold maxLen; omega
        case c4 => omega
        case c5 => simp; omega
        intro v' w2 hown' hgrow _
        have hbw : Below w0.heap.size w0 w2 := ((hbel.trans (hb1.mono hsz)).alloc (by omega) _).grown hgrow (by simp; omega) (fun q hq => by
          rcases Nat.lt_or_ge q w0.heap.size with h | h
          · exact absurd hq (own_far HO1.out h)
          · exact h)
        have HO2 : Hid (OwnI w2 w0.heap.size v' (solK 8 r k (n + 1))) := Lib.hid (by
          rw [HSN.out]
          unfold OwnI
          rw [List.length_append, List.map_append]
          exact hown')
        clear hown' hgrow hb1 hs1 hh hln
        go_wp2_with fail
        go_roundw
        case rel => exact ⟨n + 1, hlt, by go_num, HO2, hbw⟩
        case measure => simp [intOf]; omega
      · have hsnoc := solK_miss 8 r k n (fun e => hh (HA.out.symm.trans e))
        have HSN := Lib.hid hsnoc; clear hsnoc
        have hne : (bvArith n k == r) = false := by simpa using hh
        go_wp2_with (go_at_call 31; refine (arith_any _ _ _).mono ?_; rintro e w1 ⟨rfl, hb1⟩; have HO1 := Lib.hid (HO.out.later hb1))
        go_roundw
        case rel => exact ⟨n + 1, hlt, by go_num, by rw [HSN.out]; exact HO1, hbel.trans (hb1.mono hsz)⟩
        case measure => simp [intOf]; omega
    · obtain rfl : n = 256 := by omega
      go_wp2_with fail
      go_ret
      exact ⟨⟨_, rfl, by rw [HS.out]; exact HO.out⟩, hbel⟩

set_option maxRecDepth 100000 in
set_option maxHeartbeats 1600000 in
theorem solve9_any (r k : Int) (w : World) : Calls Try.prog 38 #[.string ⟨#[98, 110, 111, 116]⟩, .int .i64 r, .int .i64 k] w fun e w' => RetI w.heap.size (sol 9 r k) e w' ∧ Below w.heap.size w w' := by
  obtain ⟨i0, hi, hz0, hz1, hz2⟩ := info_parts infoInt
  cases hr : vld r
  · have hs : sol 9 r k = [] := by unfold sol okk; rw [hr]; rfl
    rw [hs]
    clear hs hi hz0 hz1 hz2 i0
    have HR := Lib.hid hr
    have hnf := run_eq_func 50
    go_enter Try.func38, Try.ntmps38
    go_wp2_with (first | (go_at_call 48; refine (operation9_any _).mono ?_; rintro e w' ⟨rfl, rfl⟩) | (go_at_call 10; refine (valid_any _ _).mono ?_; rintro e w' ⟨rfl, rfl⟩))
    go_ret
    exact ⟨RetI.none _ _, Below.refl _ _⟩
  have hs : sol 9 r k = solK 9 r k 256 := by unfold sol okk; rw [hr]; rfl
  have HS := Lib.hid hs; clear hs
  have HR := Lib.hid hr

  have hnf := run_eq_func 50
  go_enter Try.func38, Try.ntmps38
  go_wp2_with (first | (go_at_call 48; refine (operation9_any _).mono ?_; rintro e w' ⟨rfl, rfl⟩) | (go_at_call 10; refine (valid_any _ _).mono ?_; rintro e w' ⟨rfl, rfl⟩))
  clear hnf hr 
  rename World => w0
  go_loopw [9, 31] (fun v j wr => ∃ n : Nat, n ≤ 256 ∧ j = .int .i64 n ∧ Hid (OwnI wr w0.heap.size v (solK 9 r k n)) ∧ Below w0.heap.size w0 wr) (fun _ j _ => 256 - (intOf j).toNat)
  case atStart => exact ⟨0, Nat.zero_le _, rfl, OwnI.none _ _, Below.refl _ _⟩
  case round =>
    obtain ⟨n, hn, rfl, HO, hbel⟩ := hrel
    by_cases hlt : n < 256
    · have hsz := hbel.size
      have hln := solK_len 9 r k n
      have HA : Hid (ap 9 n k = bvNot n) := Lib.hid rfl
      by_cases hh : bvNot n = r
      · have HH := Lib.hid hh
        have hsnoc := solK_hit 9 r k n (HA.out.trans hh)
        have HSN := Lib.hid hsnoc; clear hsnoc
        go_wp2_with (first
          | (go_at_call 50; refine (closure_any _ _ _).mono ?_; rintro e w1 ⟨rfl, hb1⟩; have HO1 := Lib.hid (HO.out.later hb1); have hs1 := hb1.size)
          | (at_builtin; refine wpList_append_own _ rfl _ _ 29 rfl w0.heap.size 3 i0 (.int .i64 0) 1 8 Try.underlying29 hi hz0 hz1 hz2 rfl (by decide) _ _ _ rfl (HO1.out.alloc _) ⟨w1.heap.size, 0, none⟩ 1 1 [.int .i64 n] rfl rfl ?c1 ?c2 ?c3 ?c4 ?c5 ?_))
        case c1 =>
          intro j u hj
          match j, hj with
          | 0, hj => simp at hj; subst hj; simp [Addr.add]
          | j + 1, hj => simp at hj
        case c2 => intro u hu; simp at hu; subst hu; rfl
        case c3 => unfold maxLen; omega
        case c4 => omega
        case c5 => simp; omega
        intro v' w2 hown' hgrow _
        have hbw : Below w0.heap.size w0 w2 := ((hbel.trans (hb1.mono hsz)).alloc (by omega) _).grown hgrow (by simp; omega) (fun q hq => by
          rcases Nat.lt_or_ge q w0.heap.size with h | h
          · exact absurd hq (own_far HO1.out h)
          · exact h)
        have HO2 : Hid (OwnI w2 w0.heap.size v' (solK 9 r k (n + 1))) := Lib.hid (by
          rw [HSN.out]
          unfold OwnI
          rw [List.length_append, List.map_append]
          exact hown')
        clear hown' hgrow hb1 hs1 hh hln
        go_wp2_with fail
        go_roundw
        case rel => exact ⟨n + 1, hlt, by go_num, HO2, hbw⟩
        case measure => simp [intOf]; omega
      · have hsnoc := solK_miss 9 r k n (fun e => hh (HA.out.symm.trans e))
        have HSN := Lib.hid hsnoc; clear hsnoc
        have hne : (bvNot n == r) = false := by simpa using hh
        go_wp2_with (go_at_call 50; refine (closure_any _ _ _).mono ?_; rintro e w1 ⟨rfl, hb1⟩; have HO1 := Lib.hid (HO.out.later hb1))
        go_roundw
        case rel => exact ⟨n + 1, hlt, by go_num, by rw [HSN.out]; exact HO1, hbel.trans (hb1.mono hsz)⟩
        case measure => simp [intOf]; omega
    · obtain rfl : n = 256 := by omega
      go_wp2_with fail
      go_ret
      exact ⟨⟨_, rfl, by rw [HS.out]; exact HO.out⟩, hbel⟩

end Go.Proofs.Ytlpmaeemegphiaa
