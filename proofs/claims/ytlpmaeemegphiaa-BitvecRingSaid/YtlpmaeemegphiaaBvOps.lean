/-
  The contracts of the operations of layer 3's package: what each returns for all numbers. Nothing is assumed.
-/
import Derived.Test.YtlpmaeemegphiaaBvLaws
import Derived.Test.YtlpmaeemegphiaaChecked
import Derived.OwnWalk
import Derived.Lib.Hide
namespace Go.Proofs.Ytlpmaeemegphiaa
open Go.RowKit

theorem ret_int {k : IntKind} {a b : Int} (h : a = b) : Ending.returned (.int k a) = .returned (.int k b) := by rw [h]
theorem ret_string {a b : ByteArray} (h : a = b) : Ending.returned (.string a) = .returned (.string b) := by rw [h]
theorem below1 (w : World) (o : Obj) : Below w.heap.size w (w.alloc o) := (Below.refl _ _).alloc (Nat.le_refl _) o

theorem valid_any (a : Int) (w : World) : Calls Try.prog 10 #[.int .i64 a] w fun e w' => e = .returned (.bool (vld a)) ∧ w' = w := by
  cases h : vld a
  · rcases vld_no h with h1 | h1
    · clear h
      go_enter Try.func10, Try.ntmps10
      go_wp2
      go_ret
      exact ⟨rfl, rfl⟩
    · clear h
      have h2 : 0 ≤ a := by omega
      have h3 : decide (a ≤ 255) = false := by simpa using h1
      go_enter Try.func10, Try.ntmps10
      go_wp2
      go_ret
      exact ⟨rfl, rfl⟩
  · obtain ⟨h1, h2⟩ := vld_yes h
    clear h
    go_enter Try.func10, Try.ntmps10
    go_wp2
    go_ret
    exact ⟨rfl, rfl⟩

/-- What modulo computes. -/
def md (n : Int) (zs : List Int) : Int := if zs.all vld then n % 256 else 0

set_option maxHeartbeats 800000 in
theorem modulo_any (n : Int) (zs : List Int) (bk cap : Nat) (w : World) (hl : zs.length ≤ 2) (hc : ∀ (i : Nat) z, zs[i]? = some z → w.cell? ⟨bk, i, none⟩ = some (.int .i64 z)) :
    Calls Try.prog 40 #[.int .i64 n, .slice (some ⟨bk, 0, none⟩) zs.length cap] w fun e w' => e = .returned (.int .i64 (md n zs)) ∧ w' = w := by
  go_enter Try.func40, Try.ntmps40
  go_wp2_with fail
  go_loop [9] (fun i => ∃ k : Nat, k ≤ zs.length ∧ i = .int .i64 k ∧ (zs.take k).all vld = true) (fun i => zs.length - (intOf i).toNat)
  case atStart => exact ⟨0, Nat.zero_le _, rfl, rfl⟩
  case round =>
    obtain ⟨k, hk, rfl, hall⟩ := hrel
    have HALL := Lib.hid hall; clear hall
    by_cases hlt : k < zs.length
    · have hcell := hc k zs[k] (List.getElem?_eq_getElem hlt)
      clear hc
      cases hv : vld zs[k]
      · have HV := Lib.hid hv
        go_wp2_with (go_at_call 10; refine (valid_any _ _).mono ?_; rintro e w' ⟨rfl, rfl⟩)
        go_ret
        refine ⟨ret_int ?_, rfl⟩
        unfold md
        rw [if_neg]
        intro ha
        have := List.all_eq_true.1 ha zs[k] (List.getElem_mem hlt)
        rw [HV.out] at this
        cases this
      · have HV := Lib.hid hv
        go_wp2_with (go_at_call 10; refine (valid_any _ _).mono ?_; rintro e w' ⟨rfl, rfl⟩)
        go_round
        case rel =>
          refine ⟨k + 1, hlt, by go_num, ?_⟩
          rw [List.take_succ_eq_append_getElem hlt, List.all_append, HALL.out]
          simp [HV.out]
        case measure => simp [intOf]; omega
    · obtain rfl : k = zs.length := by omega
      go_wp2_with fail
      go_ret
      refine ⟨ret_int ?_, rfl⟩
      have h := HALL.out
      rw [List.take_length] at h
      unfold md
      rw [if_pos h, mask8]

-- OPS

theorem md_bits (kind : Nat) (a b : Int) : md (bits (opG kind) .i64 a b) [a, b] = bvB kind a b := by
  by_cases h : vld a = true ∧ vld b = true
  · have := bits_bv kind a b h.1 h.2
    simp [md, h.1, h.2, this]
  · unfold md bvB
    rw [if_neg (by simpa using h), if_neg (by simpa using h)]
theorem md_two (n m a b : Int) (h : vld a = true → vld b = true → n % 256 = m) : md n [a, b] = if vld a && vld b then m else 0 := by
  unfold md
  by_cases hv : vld a = true ∧ vld b = true
  · simp [hv.1, hv.2, h hv.1 hv.2]
  · rw [if_neg (by simpa using hv), if_neg (by simpa using hv)]
theorem md_one (n m a : Int) (h : vld a = true → n % 256 = m) : md n [a] = if vld a then m else 0 := by
  unfold md
  by_cases hv : vld a = true
  · simp [hv, h hv]
  · rw [if_neg (by simpa using hv), if_neg (by simpa using hv)]
theorem wrap_mod (n : Int) : wrap64 n % 256 = n % 256 := by unfold wrap64; omega
theorem md_add (a b : Int) : md (wrap64 (a + b)) [a, b] = bvAdd a b := md_two _ _ _ _ fun _ _ => wrap_mod _
theorem md_sub (a b : Int) : md (wrap64 (a - b)) [a, b] = bvSub a b := md_two _ _ _ _ fun _ _ => wrap_mod _
theorem md_mul (a b : Int) : md (wrap64 (a * b)) [a, b] = bvMul a b := md_two _ _ _ _ fun _ _ => wrap_mod _
theorem md_not (a : Int) : md (wrap64 (255 - a)) [a] = bvNot a := md_one _ _ _ fun h => by
  rw [wrap_mod]
  have := vld_yes h
  omega
theorem md_left (a n : Int) : md (wrap64 (a * 2 ^ dst n)) [a] = bvLeft a n := md_one _ _ _ fun _ => wrap_mod _
theorem md_right (a n : Int) : md (a / 2 ^ dst n) [a] = bvRight a n := by
  unfold bvRight
  exact md_one _ _ _ fun h => by
    have := right_bv a n h
    unfold bvRight at this
    rw [this, if_pos h]
theorem md_arith (a n : Int) : md (sgn a / 2 ^ dst n) [a] = bvArith a n := md_one _ _ _ fun _ => rfl

set_option maxHeartbeats 800000 in
theorem and_any (a b : Int) (w : World) : Calls Try.prog 12 #[.int .i64 a, .int .i64 b] w fun e w' => e = .returned (.int .i64 (bvB 0 a b)) ∧ Below w.heap.size w w' := by
  go_enter Try.func12, Try.ntmps12
  go_wp2_with fail
  refine (modulo_any (bits .and .i64 a b) [a, b] _ 2 _ (by simp) (fun i z h => by
    match i, h with
    | 0, h => simp at h; subst h; simp
    | 1, h => simp at h; subst h; simp
    | i + 2, h => simp at h)).mono ?_
  rintro e w' ⟨rfl, rfl⟩
  rw [show md (bits .and .i64 a b) [a, b] = bvB 0 a b from md_bits 0 a b]
  go_wp2_with fail
  go_ret
  exact ⟨rfl, below1 _ _⟩

set_option maxHeartbeats 800000 in
theorem or_any (a b : Int) (w : World) : Calls Try.prog 14 #[.int .i64 a, .int .i64 b] w fun e w' => e = .returned (.int .i64 (bvB 1 a b)) ∧ Below w.heap.size w w' := by
  go_enter Try.func14, Try.ntmps14
  go_wp2_with fail
  refine (modulo_any (bits .or .i64 a b) [a, b] _ 2 _ (by simp) (fun i z h => by
    match i, h with
    | 0, h => simp at h; subst h; simp
    | 1, h => simp at h; subst h; simp
    | i + 2, h => simp at h)).mono ?_
  rintro e w' ⟨rfl, rfl⟩
  rw [show md (bits .or .i64 a b) [a, b] = bvB 1 a b from md_bits 1 a b]
  go_wp2_with fail
  go_ret
  exact ⟨rfl, below1 _ _⟩

set_option maxHeartbeats 800000 in
theorem xor_any (a b : Int) (w : World) : Calls Try.prog 16 #[.int .i64 a, .int .i64 b] w fun e w' => e = .returned (.int .i64 (bvB 2 a b)) ∧ Below w.heap.size w w' := by
  go_enter Try.func16, Try.ntmps16
  go_wp2_with fail
  refine (modulo_any (bits .xor .i64 a b) [a, b] _ 2 _ (by simp) (fun i z h => by
    match i, h with
    | 0, h => simp at h; subst h; simp
    | 1, h => simp at h; subst h; simp
    | i + 2, h => simp at h)).mono ?_
  rintro e w' ⟨rfl, rfl⟩
  rw [show md (bits .xor .i64 a b) [a, b] = bvB 2 a b from md_bits 2 a b]
  go_wp2_with fail
  go_ret
  exact ⟨rfl, below1 _ _⟩

set_option maxHeartbeats 800000 in
theorem add_any (a b : Int) (w : World) : Calls Try.prog 21 #[.int .i64 a, .int .i64 b] w fun e w' => e = .returned (.int .i64 (bvAdd a b)) ∧ Below w.heap.size w w' := by
  go_enter Try.func21, Try.ntmps21
  go_wp2_with fail
  refine (modulo_any (wrap64 (a + b)) [a, b] _ 2 _ (by simp) (fun i z h => by
    match i, h with
    | 0, h => simp at h; subst h; simp
    | 1, h => simp at h; subst h; simp
    | i + 2, h => simp at h)).mono ?_
  rintro e w' ⟨rfl, rfl⟩
  rw [md_add]
  go_wp2_with fail
  go_ret
  exact ⟨rfl, below1 _ _⟩

set_option maxHeartbeats 800000 in
theorem sub_any (a b : Int) (w : World) : Calls Try.prog 23 #[.int .i64 a, .int .i64 b] w fun e w' => e = .returned (.int .i64 (bvSub a b)) ∧ Below w.heap.size w w' := by
  go_enter Try.func23, Try.ntmps23
  go_wp2_with fail
  refine (modulo_any (wrap64 (a - b)) [a, b] _ 2 _ (by simp) (fun i z h => by
    match i, h with
    | 0, h => simp at h; subst h; simp
    | 1, h => simp at h; subst h; simp
    | i + 2, h => simp at h)).mono ?_
  rintro e w' ⟨rfl, rfl⟩
  rw [md_sub]
  go_wp2_with fail
  go_ret
  exact ⟨rfl, below1 _ _⟩

set_option maxHeartbeats 800000 in
theorem mul_any (a b : Int) (w : World) : Calls Try.prog 25 #[.int .i64 a, .int .i64 b] w fun e w' => e = .returned (.int .i64 (bvMul a b)) ∧ Below w.heap.size w w' := by
  go_enter Try.func25, Try.ntmps25
  go_wp2_with fail
  refine (modulo_any (wrap64 (a * b)) [a, b] _ 2 _ (by simp) (fun i z h => by
    match i, h with
    | 0, h => simp at h; subst h; simp
    | 1, h => simp at h; subst h; simp
    | i + 2, h => simp at h)).mono ?_
  rintro e w' ⟨rfl, rfl⟩
  rw [md_mul]
  go_wp2_with fail
  go_ret
  exact ⟨rfl, below1 _ _⟩

set_option maxHeartbeats 800000 in
theorem not_any (a : Int) (w : World) : Calls Try.prog 18 #[.int .i64 a] w fun e w' => e = .returned (.int .i64 (bvNot a)) ∧ Below w.heap.size w w' := by
  go_enter Try.func18, Try.ntmps18
  go_wp2_with fail
  refine (modulo_any (wrap64 (255 - a)) [a] _ 1 _ (by simp) (fun i z h => by
    match i, h with
    | 0, h => simp at h; subst h; simp
    | i + 1, h => simp at h)).mono ?_
  rintro e w' ⟨rfl, rfl⟩
  rw [md_not]
  go_wp2_with fail
  go_ret
  exact ⟨rfl, below1 _ _⟩

end Go.Proofs.Ytlpmaeemegphiaa
