/-
  The contracts of Text, of the package and of the reference. Nothing is assumed.
-/
import Derived.Test.YtlpmaeemegphiaaBvRef2
namespace Go.Proofs.Ytlpmaeemegphiaa
open Go.RowKit

theorem dg_toNat (a : Int) (i : Nat) : ((dg a i).toNat : Int) = 48 + bt a i := by
  unfold dg
  rcases bt_01 a i with h | h <;> simp [h]

theorem bit_mask (a : Int) (i : Nat) (P : Int) (hP : (2 : Int) ^ i = P) (hp : 0 < P) (h0 : 0 ≤ a) (h1 : a ≤ 255) : (48 + bits .and .i64 (a / P) 1) % 256 = ((dg a i).toNat : Int) := by
  have hq : 0 ≤ a / P := Int.ediv_nonneg h0 (by omega)
  have hq1 : a / P ≤ 255 := Int.le_trans (Int.ediv_le_self _ h0) h1
  have hm : bits .and .i64 (a / P) 1 = a / P % 2 := by
    have := bits_mask .i64 8 (by decide) wraps_i64 1 (by decide) (a / P) hq (by omega)
    simpa using this
  rw [hm, dg_toNat]
  unfold bt
  rw [hP]
  omega

/-- The digits in a block. -/
def dcells (a : Int) : Array Value := ((txt a 8).map fun c => Value.int .u8 (c.toNat : Int)).toArray
theorem back_digits (l : List UInt8) : ∀ r : ByteArray, (l.map fun c => (c.toNat : Int)).foldl (fun r n => r.push (UInt8.ofNat n.toNat)) r = r ++ (⟨l.toArray⟩ : ByteArray) := by
  induction l with
  | nil =>
    intro r
    apply ByteArray.ext
    simp
  | cons c l ih =>
    intro r
    rw [List.map_cons, List.foldl_cons, ih]
    apply ByteArray.ext
    simp
theorem digits_string (a : Int) (w : World) (t : TypeId) :
    (convert 37 9 (.slice (some ⟨w.heap.size, 0, none⟩) 8 8)).run Try.prog (w.alloc (.cells (dcells a) t)) = .ok (.string ⟨(txt a 8).toArray⟩) (w.alloc (.cells (dcells a) t)) := by
  rw [run_convert_bytes_string _ _ _ 5 _ _ _ Try.underlying37 Try.underlying5 Try.underlying9]
  rw [run_bytesToString _ _ _ _ ((txt a 8).map fun c => (c.toNat : Int))]
  · rw [back_digits]
    simp
  · have h := run_loadCells_list (P := Try.prog) (w := w.alloc (.cells (dcells a) t)) ⟨w.heap.size, 0, none⟩ ((txt a 8).map fun c => Value.int .u8 (c.toNat : Int)) (fun j v hv => by
      have ea : (⟨w.heap.size, 0, none⟩ : Addr).add j = ⟨w.heap.size, j, none⟩ := by simp [Addr.add]; exact fun h => h.symm
      rw [ea, World.cell?_alloc_at _ _ _ _ rfl]
      simpa [dcells] using hv)
    rw [List.length_map, txt_len] at h
    rw [h, List.map_map]
    rfl

set_option maxRecDepth 100000 in
set_option maxHeartbeats 1600000 in
theorem text_any (a : Int) (w : World) : Calls Try.prog 35 #[.int .i64 a] w fun e w' => e = .returned (.string (bvText a)) ∧ Below w.heap.size w w' := by
  cases hv : vld a
  · have HV := Lib.hid hv
    have HR : Hid (bvText a = ⟨#[]⟩) := Lib.hid (by unfold bvText; rw [hv]; rfl)
    go_enter Try.func35, Try.ntmps35
    go_wp2_with (go_at_call 10; refine (valid_any _ _).mono ?_; rintro e w' ⟨rfl, rfl⟩)
    go_ret
    exact ⟨ret_string HR.out.symm, Below.refl _ _⟩
  · have HV := Lib.hid hv
    have HR : Hid (bvText a = ⟨(txt a 8).toArray⟩) := Lib.hid (by unfold bvText; rw [if_pos hv])
    obtain ⟨h0, h1⟩ := vld_yes hv
    have e7 := bit_mask a 7 128 rfl (by decide) h0 h1
    have e6 := bit_mask a 6 64 rfl (by decide) h0 h1
    have e5 := bit_mask a 5 32 rfl (by decide) h0 h1
    have e4 := bit_mask a 4 16 rfl (by decide) h0 h1
    have e3 := bit_mask a 3 8 rfl (by decide) h0 h1
    have e2 := bit_mask a 2 4 rfl (by decide) h0 h1
    have e1 := bit_mask a 1 2 rfl (by decide) h0 h1
    have e0 := bit_mask a 0 1 rfl (by decide) h0 h1
    rw [Int.ediv_one] at e0
    have hback := digits_string a w 36
    have hcells : dcells a = #[.int .u8 ((dg a 7).toNat : Int), .int .u8 ((dg a 6).toNat : Int), .int .u8 ((dg a 5).toNat : Int), .int .u8 ((dg a 4).toNat : Int), .int .u8 ((dg a 3).toNat : Int), .int .u8 ((dg a 2).toNat : Int), .int .u8 ((dg a 1).toNat : Int), .int .u8 ((dg a 0).toNat : Int)] := rfl
    rw [hcells, ← e7, ← e6, ← e5, ← e4, ← e3, ← e2, ← e1, ← e0] at hback
    clear hcells e7 e6 e5 e4 e3 e2 e1 e0
    go_enter Try.func35, Try.ntmps35
    go_wp2_with (go_at_call 10; refine (valid_any _ _).mono ?_; rintro e w' ⟨rfl, rfl⟩)
    refine wp_loop_rounds 9 ?_
    iterate 9
      rw [rounds_succ]
      go_wp2_with fail
    go_ret
    exact ⟨ret_string HR.out.symm, below1 _ _⟩

theorem snoc_str (a : Int) (k m : Nat) (h : (m : Int) = 7 - (k : Int)) : (⟨(txt a (k + 1)).toArray⟩ : ByteArray) = ⟨(txt a k).toArray⟩ ++ ⟨#[dg a m]⟩ := by
  have e : 7 - k = m := by omega
  rw [txt_snoc, e]
  apply ByteArray.ext
  simp
theorem snoc0 (a : Int) (k m : Nat) (h : (m : Int) = 7 - (k : Int)) (hb : bt a m = 0) : (⟨(txt a (k + 1)).toArray⟩ : ByteArray) = ⟨(txt a k).toArray⟩ ++ ⟨#[48]⟩ := by
  rw [snoc_str a k m h]
  simp [dg, hb]
theorem snoc1 (a : Int) (k m : Nat) (h : (m : Int) = 7 - (k : Int)) (hb : bt a m = 1) : (⟨(txt a (k + 1)).toArray⟩ : ByteArray) = ⟨(txt a k).toArray⟩ ++ ⟨#[49]⟩ := by
  rw [snoc_str a k m h]
  simp [dg, hb]

set_option maxHeartbeats 800000 in
theorem rtext_any (a : Int) (w : World) : Calls Try.prog 36 #[.int .i64 a] w fun e w' => e = .returned (.string (bvText a)) ∧ w' = w := by
  cases hv : vld a
  · have HV := Lib.hid hv
    have HR : Hid (bvText a = ⟨#[]⟩) := Lib.hid (by unfold bvText; rw [hv]; rfl)
    go_enter Try.func36, Try.ntmps36
    go_wp2_with (go_at_call 11; refine (rvalid_any _ _).mono ?_; rintro e w' ⟨rfl, rfl⟩)
    go_ret
    exact ⟨ret_string HR.out.symm, rfl⟩
  · have HV := Lib.hid hv
    have HR : Hid (bvText a = ⟨(txt a 8).toArray⟩) := Lib.hid (by unfold bvText; rw [if_pos hv])
    go_enter Try.func36, Try.ntmps36
    go_wp2_with (go_at_call 11; refine (rvalid_any _ _).mono ?_; rintro e w' ⟨rfl, rfl⟩)
    go_loop [3, 4] (fun o i => ∃ (k : Nat) (j : Int), k ≤ 8 ∧ j = 7 - (k : Int) ∧ i = .int .i64 j ∧ o = .string ⟨(txt a k).toArray⟩) (fun _ i => (1 + intOf i).toNat)
    case atStart => exact ⟨0, 7, Nat.zero_le _, rfl, rfl, rfl⟩
    case round =>
      obtain ⟨k, j, hk, hj, rfl, rfl⟩ := hrel
      have HJ := Lib.hid hj
      by_cases hlt : k < 8
      · have j0 : 0 ≤ j := by omega
        have j1 : j ≤ 7 := by omega
        obtain ⟨m, hm⟩ := Int.eq_ofNat_of_zero_le j0
        subst hm
        clear hj
        have hl : (txt a k).length ≤ 8 := by rw [txt_len]; exact hk
        have hm8 : m ≤ 8 := by omega
        rcases bt_01 a m with hb | hb
        · go_wp2_with (go_at_call 47; refine (bit_any _ _ HV.out hm8 _).mono ?_; rintro e w' ⟨rfl, rfl⟩)
          go_round
          case rel => exact ⟨k + 1, (m : Int) - 1, hlt, by have := HJ.out; omega, rfl, by rw [snoc0 a k m HJ.out hb]⟩
          case measure => simp [intOf]; omega
        · go_wp2_with (go_at_call 47; refine (bit_any _ _ HV.out hm8 _).mono ?_; rintro e w' ⟨rfl, rfl⟩)
          go_round
          case rel => exact ⟨k + 1, (m : Int) - 1, hlt, by have := HJ.out; omega, rfl, by rw [snoc1 a k m HJ.out hb]⟩
          case measure => simp [intOf]; omega
      · obtain rfl : k = 8 := by omega
        have hj8 : j < 0 := by omega
        clear hj
        go_wp2_with fail
        go_ret
        exact ⟨ret_string HR.out.symm, rfl⟩
end Go.Proofs.Ytlpmaeemegphiaa
