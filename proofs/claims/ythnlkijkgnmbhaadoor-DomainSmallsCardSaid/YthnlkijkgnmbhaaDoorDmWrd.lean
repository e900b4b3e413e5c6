/-
  words of the reference. Nothing is assumed.
-/
import Derived.Test.YthnlkijkgnmbhaaDoorDmMp
import Derived.Deep.RegionLaw
namespace Go.Proofs.YthnlkijkgnmbhaaDoor
open Go.RowKit

/-- The first texts. -/
def wrdL (k : Nat) : List ByteArray := (List.range k).map fun j => strB (letL (j + 1))
theorem wrdL_len (k : Nat) : (wrdL k).length = k := by unfold wrdL; simp
theorem wrdL_at {k j : Nat} (h : j < k) : (wrdL k)[j]? = some (strB (letL (j + 1))) := by unfold wrdL; simp [h]
theorem wrdL_two (k : Nat) : wrdL (k + 2) = wrdL k ++ [strB (letL (k + 1)), strB (letL (k + 2))] := by
  unfold wrdL
  rw [List.range_succ, List.range_succ]
  simp
theorem strB_snoc (l : List UInt8) (c : UInt8) : strB l ++ ⟨#[c]⟩ = strB (l ++ [c]) := by
  apply ByteArray.ext
  simp [strB]
theorem let_a (i : Nat) : strB (letL (i + 1)) ++ ⟨#[97]⟩ = strB (letL (2 * i + 1 + 1)) := by
  rw [strB_snoc, letL_two (m := 2 * i + 1 + 1) (by omega), show (2 * i + 1 + 1) / 2 = i + 1 by omega, show (2 * i + 1 + 1) % 2 = 0 by omega]
  rfl
theorem let_b (i : Nat) : strB (letL (i + 1)) ++ ⟨#[98]⟩ = strB (letL (2 * i + 1 + 2)) := by
  rw [strB_snoc, letL_two (m := 2 * i + 1 + 2) (by omega), show (2 * i + 1 + 2) / 2 = i + 1 by omega, show (2 * i + 1 + 2) % 2 = 1 by omega]
  rfl
theorem str_news (W : World) (a b : Value) (t : TypeId) : ∀ (j : Nat) u, [a, b][j]? = some u → (W.alloc (.cells #[a, b] t)).cell? ((⟨W.heap.size, 0, none⟩ : Addr).add j) = some u := new_cells W [a, b] t

theorem wrd_lst {wr : World} {g T n off cp : Nat} (h : ∀ (j : Nat), j < T → wr.cell? ⟨g, j, none⟩ = some (.string (strB (letL (j + 1))))) (hg : g < wr.heap.size) (ho : n + off ≤ T) (hT : T ≤ 1000) :
    LStrs wr wr.heap.size (.slice (some ⟨g, off, none⟩) n cp) ((List.range n).map fun j => strB (letL (j + 1 + off))) := by
  refine ⟨some ⟨g, off, none⟩, cp, by rw [List.length_map, List.length_range], by rw [List.length_map, List.length_range]; omega, fun i a ha => ?_⟩
  have hi := (List.getElem?_eq_some_iff.1 ha).1
  rw [List.length_map, List.length_range] at hi
  rw [List.getElem?_map, List.getElem?_range hi] at ha
  cases ha
  refine ⟨g, off, _, rfl, hg, h (off + i) (by omega), ?_⟩
  rw [show off + i + 1 = i + 1 + off by omega]
  rfl

set_option maxRecDepth 100000 in
set_option maxHeartbeats 3200000 in
theorem words_any (n : Nat) (hn : n ≤ 100) (ne : Bool) (w : World) : Calls Tryd.prog 46 #[.int .i64 (n : Int), .bool ne] w fun e w' => (∃ sl, e = .returned sl ∧ LStrs w' w'.heap.size sl ((List.range n).map fun j => strB (letL (j + 1 + (if ne = true then 1 else 0))))) ∧ Below w.heap.size w w' := by
  obtain ⟨i0, hi, hz0, hz1, hz2⟩ := info_parts infoStr
  have hn0 : (n : Int) ≤ 100 := by omega
  go_enter Tryd.func46, Tryd.ntmps46
  go_wp2_with fail
  have HST : Hid ((w.alloc (.cells #[.string ⟨#[]⟩] 9)).ownsRow w.heap.size 9 1 (.slice (some ⟨w.heap.size, 0, none⟩) 1 1) 1 ((wrdL 1).map Value.string)) := Lib.hid (by
    refine ⟨by simp [wrdL_len], .inr ⟨w.heap.size, 1, #[.string ⟨#[]⟩], rfl, Nat.le_refl _, heap_alloc_new w _, Nat.le_refl _, by unfold maxLen; omega, rfl, ?_⟩⟩
    unfold wrdL
    rw [show List.range 1 = [0] from rfl]
    simp [letL_one, strB])
  go_loopw [6, 5] (fun iv v wr => ∃ i : Nat, 2 * i + 1 ≤ 2 * n + 1 ∧ iv = .int .i64 i ∧ Hid (wr.ownsRow w.heap.size 9 1 v (2 * i + 1) ((wrdL (2 * i + 1)).map Value.string) ∧ Below w.heap.size w wr)) (fun iv _ _ => n - (intOf iv).toNat)
  case atStart => exact ⟨0, by omega, rfl, Lib.hid ⟨HST.out, below1 _ _⟩⟩
  case round =>
    obtain ⟨i, hin, rfl, HI⟩ := hrel
    obtain ⟨g, cap, cur, hvf, hgw, hgh, hnc, hcm, hcs, _⟩ := (HI.out.1.2).resolve_left (fun h => by have := h.2; omega)
    subst hvf
    obtain ⟨T, hT⟩ : ∃ T, 2 * i + 1 = T := ⟨_, rfl⟩
    rw [hT] at HI
    have HCL := Lib.hid (fun (j : Nat) (hj : j < T) => (show wr.cell? ⟨g, j, none⟩ = some (.string (strB (letL (j + 1)))) from by
      rw [World.ownsRow.cellAt HI.out.1 j (by omega), List.getElem?_map, wrdL_at hj]
      rfl))
    have HTT := Lib.hid hT
    have HWZ := Lib.hid HI.out.2.size
    have hTn : (T : Int) ≤ 1000 := by omega
    rw [hT] at hnc ⊢
    by_cases hlt : T ≤ n
    · have hlti : (T : Int) ≤ (n : Int) := by omega
      have hiT : (i : Int) < (T : Int) := by omega
      have hi0 : (0 : Int) ≤ (i : Int) := by omega
      obtain ⟨s, hs⟩ : ∃ s, strB (letL (i + 1)) = s := ⟨_, rfl⟩
      have hc := HCL.out i (by omega)
      rw [hs] at hc
      have hsz : s.size ≤ 1000 := by
        rw [← hs, strB_size, letL_len]
        have := log2_lt (i + 1) (by omega)
        unfold lenN at this
        rw [if_neg (by omega)] at this
        omega
      have hsz2 : ¬ 9223372036854775807 < s.size + 1 := by omega
      have HSS := Lib.hid (And.intro hs hsz)
      have HKN := Lib.hid (show T ≤ n from hlt)
      clear hs hsz hlt hin hT hgh hcs hcm hnc hgw
      have hnw : ∀ X : Obj, (wr.alloc X).drew.heap[wr.heap.size]? = some X := fun X => heap_alloc_new wr X
      go_wp2_with fail
      go_region_law (
        (refine step_append_lies _ (by rfl) _ _ _ (by rfl) w.heap.size 9 i0 _ 1 16 Tryd.underlying72 hi hz0 hz1 hz2 rfl (by omega) (.slice (some ⟨g, 0, none⟩) T cap) T ((wrdL T).map Value.string) (by rfl) (HI.out.1.alloc _).drew
          ⟨wr.heap.size, 0, none⟩ 2 2 [.string (s ++ ⟨#[97]⟩), .string (s ++ ⟨#[98]⟩)] (by rfl) (by rfl) (World.news_of_block (cs := #[.string (s ++ ⟨#[97]⟩), .string (s ++ ⟨#[98]⟩)]) (t := 9) (fr := (0, 0)) (hnw _)) (by simp [Value.oneCell'])
          (by omega) (by unfold maxLen; omega) (by omega) (by have := HWZ.out; simp; omega) (wr.heap.size + 1) (by simp) ?_
         intro gg cap2 w3 hown3 hg3 hat hlt1))
      all_goals
        have HO3 := Lib.hid (show w3.ownsRow w.heap.size 9 1 (.slice (some ⟨gg, 0, none⟩) (2 * (i + 1) + 1) cap2) (2 * (i + 1) + 1) ((wrdL (2 * (i + 1) + 1)).map Value.string) from by
          rw [show 2 * (i + 1) + 1 = T + 2 by have := HTT.out; omega, wrdL_two, List.map_append]
          have h1 := let_a i
          have h2 := let_b i
          rw [HSS.out.1, HTT.out] at h1 h2
          rw [← h1, ← h2]
          exact hown3)
        have HB3 := Lib.hid (show Below w.heap.size w w3 from ((HI.out.2.alloc HWZ.out _).drew).grown hg3 (by have := HWZ.out; simp; omega) (fun q hq => (World.ownsRow.lt HI.out.1 q hq).1))
        have hT2 : T + 2 = 2 * (i + 1) + 1 := by have := HTT.out; omega
        have HT2 := Lib.hid hT2
        clear hown3 hg3 hat hlt1 hnw hT2
        go_wp2_with fail
        go_roundw
        case rel => exact ⟨i + 1, by have := HKN.out; have := HTT.out; omega, by go_num, by rw [HT2.out]; exact Lib.hid ⟨HO3.out, HB3.out⟩⟩
        case measure => have := HKN.out; have := HTT.out; simp [intOf]; omega
    · have hno : ¬ (T : Int) ≤ (n : Int) := by omega
      have hcp : n + 1 ≤ cap := by omega
      have HKN := Lib.hid (show n < T by omega)
      have HHG := Lib.hid (show g < wr.heap.size from (Array.getElem?_eq_some_iff.1 hgh).1)
      have hcpi : (n : Int) + 1 ≤ (cap : Int) := by omega
      have hcpn : (n : Int) ≤ (cap : Int) := by omega
      have hn1 : (0 : Int) ≤ (n : Int) := by omega
      clear hlt hin hT hgh hcs hcm hnc hgw
      cases ne
      · go_wp2_with fail
        go_ret
        exact ⟨⟨_, rfl, wrd_lst (off := 0) HCL.out HHG.out (by have := HKN.out; omega) (by omega)⟩, HI.out.2⟩
      · go_wp2_with fail
        · have hn0' : n = 0 := by omega
          go_ret
          refine ⟨⟨_, rfl, ?_⟩, HI.out.2⟩
          subst hn0'
          exact ⟨some ⟨g, 0, none⟩, 0, rfl, by simp, fun i a h => by simp at h⟩
        · go_ret
          exact ⟨⟨_, rfl, wrd_lst (off := 1) HCL.out HHG.out (by have := HKN.out; omega) (by omega)⟩, HI.out.2⟩

end Go.Proofs.YthnlkijkgnmbhaaDoor
