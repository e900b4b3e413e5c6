/-
  ints, texts and table of the reference. Nothing is assumed.
-/
import Derived.Test.YthnlkijkgnmbhaaDoorDmMp
import Derived.Deep.RegionLaw
namespace Go.Proofs.YthnlkijkgnmbhaaDoor
open Go.RowKit

/-- The box of a value that is being built. -/
def BoxV (w : World) (b : Nat) (t : Int) (v : Value) : Prop := w.heap[b]? = some (.cells #[.int .i64 t, .int .i64 0, .string ⟨#[]⟩, v] 48 (0, 0))
theorem BoxV.keep {w w' : World} {b : Nat} {t : Int} {v : Value} (h : BoxV w b t v) (hb : w'.heap[b]? = w.heap[b]?) : BoxV w' b t v := hb.trans h
theorem BoxV.lt {w : World} {b : Nat} {t : Int} {v : Value} (h : BoxV w b t v) : b < w.heap.size := (Array.getElem?_eq_some_iff.1 h).1
theorem BoxV.set {w : World} {b : Nat} {t : Int} {v : Value} (h : BoxV w b t v) (v' : Value) : BoxV (w.setCell ⟨b, 3, none⟩ v') b t v' := heap_setCell_same w b 3 _ _ v' h
theorem BoxV.cells {w : World} {b : Nat} {t : Int} {v : Value} (h : BoxV w b t v) : w.cell? ⟨b, 0, none⟩ = some (.int .i64 t) ∧ w.cell? ⟨b, 1, none⟩ = some (.int .i64 0) ∧ w.cell? ⟨b, 2, none⟩ = some (.string ⟨#[]⟩) ∧ w.cell? ⟨b, 3, none⟩ = some v := by
  unfold World.cell?
  rw [show w.heap[b]? = _ from h]
  exact ⟨rfl, rfl, rfl, rfl⟩
theorem BoxV.frozen {w : World} {b : Nat} {t : Int} {v : Value} (h : BoxV w b t v) (o : Nat) : w.frozen? ⟨b, o, none⟩ = false := by
  unfold World.frozen?
  rw [show w.heap[b]? = _ from h]
  simp
theorem four_keep' {w : World} {n b : Nat} (h : b ≠ n) (x0 x1 x2 x3 : Value) : ((((w.setCell ⟨n, 0, none⟩ x0).setCell ⟨n, 1, none⟩ x1).setCell ⟨n, 2, none⟩ x2).setCell ⟨n, 3, none⟩ x3).heap[b]? = w.heap[b]? :=
  (heap_setCell_other _ _ _ _ h).trans ((heap_setCell_other _ _ _ _ h).trans ((heap_setCell_other _ _ _ _ h).trans (heap_setCell_other _ _ _ _ h)))
theorem cell_ext (c : UInt8) (d : Nat) (hc : (c.toNat : Int) - 97 = (d : Int)) (hd : d < 2) : (⟨#[97]⟩ : ByteArray).extract 0 d = cellB c := by
  unfold cellB
  have h : d = 0 ∨ d = 1 := by omega
  rcases h with rfl | rfl
  · rw [if_pos (by omega)]; rfl
  · rw [if_neg (by omega)]; rfl
theorem str_one (l : List UInt8) (k : Nat) (h : k < l.length) : (strB l).extract k (k + 1) = strB [l[k]] := by
  apply ByteArray.ext
  simp [strB]
  rw [List.drop_eq_getElem_cons h]
  rfl

set_option maxRecDepth 100000 in
set_option maxHeartbeats 3200000 in
theorem rints_any (l : List UInt8) (hl : l.length ≤ 1000) (hm : ∀ c, c ∈ l → c = 97 ∨ c = 98) (w : World) : Calls Tryd.prog 52 #[.string (strB l)] w fun e w' => (∃ sl, e = .returned (.agg #[.int .i64 5, .int .i64 0, .string ⟨#[]⟩, sl]) ∧ RepS w' (fun b => w.heap.size ≤ b ∧ b < w'.heap.size) sl (l.map fun c => V.mk 2 ((c.toNat : Int) - 97) ⟨#[]⟩ [])) ∧ Below w.heap.size w w' := by
  have HM := Lib.hid hm
  clear hm
  obtain ⟨s, hs⟩ : ∃ s, strB l = s := ⟨_, rfl⟩
  have hsz : s.size = l.length := by rw [← hs]; exact strB_size l
  have hat : ∀ k (h : k < s.size) (h' : k < l.length), s[k]'h = l[k] := by subst hs; exact fun k h h' => strB_at l k h h'
  have hex : ∀ k (h' : k < l.length), s.extract k (k + 1) = strB [l[k]] := by subst hs; exact fun k h' => str_one l k h'
  obtain ⟨N, hN⟩ : ∃ N, l.length = N := ⟨_, rfl⟩
  have hsN : (s.size : Int) = (N : Int) := by omega
  have hN1 : (N : Int) ≤ 1000 := by omega
  obtain ⟨j0, hj, hy0, hy1, hy2⟩ := info_parts infoValue
  rw [hs]
  have HS := Lib.hid (And.intro hsz (And.intro hN (And.intro hat hex)))
  clear hs hsz hat hN hex
  go_enter Tryd.func52, Tryd.ntmps52
  go_wp2_with fail
  obtain ⟨W0, hW0⟩ : ∃ W0, W0 = (w.alloc (.cells #[.int .i64 0, .int .i64 0, .string ⟨#[]⟩, .slice none 0 0] 48)).alloc (.cells #[.int .i64 5, .int .i64 0, .string ⟨#[]⟩, .slice none 0 0] 48) := ⟨_, rfl⟩
  have hbW : Below w.heap.size w W0 := by rw [hW0]; exact below2 _ _ _
  have hsW : W0.heap.size = w.heap.size + 2 := by rw [hW0]; simp
  have hbx0 : BoxV W0 (w.heap.size + 1) 5 (.slice none 0 0) := by
    rw [hW0]
    have h := heap_alloc_new (w.alloc (.cells #[.int .i64 0, .int .i64 0, .string ⟨#[]⟩, .slice none 0 0] 48)) (.cells #[.int .i64 5, .int .i64 0, .string ⟨#[]⟩, .slice none 0 0] 48)
    rw [World.size_alloc] at h
    exact h
  have hrb0 : BoxV W0 w.heap.size 0 (.slice none 0 0) := by
    rw [hW0]
    exact (Below.heap_alloc _ _ _ (by simp)).trans (heap_alloc_new w _)
  rw [← hW0]
  have HBW := Lib.hid hbW
  have HBX0 := Lib.hid hbx0
  have HRB0 := Lib.hid hrb0
  have HSW := Lib.hid hsW
  clear hW0 hbW hbx0 hrb0 hsW
  go_wp2_with fail
  go_loopw [4] (fun iv wr => ∃ (k : Nat) (v : Value), k ≤ N ∧ iv = .int .i64 k ∧ Hid (Acc encV 48 wr 0 (w.heap.size + 2) v ((l.take k).map fun c => V.mk 2 ((c.toNat : Int) - 97) ⟨#[]⟩ [])) ∧ Hid (BoxV wr (w.heap.size + 1) 5 v) ∧ Hid (Below (w.heap.size + 1) W0 wr)) (fun iv _ => N - (intOf iv).toNat)
  case atStart => exact ⟨0, .slice none 0 0, Nat.zero_le _, rfl, Lib.hid (Acc.nil _ _ _ _ _), HBX0, Lib.hid (Below.refl _ _)⟩
  case round =>
    obtain ⟨k, v, hk, rfl, HA, HBX, HBL⟩ := hrel
    obtain ⟨ao, cp, hvf⟩ := HA.out.form
    rw [List.length_map, List.length_take, Nat.min_eq_left (by rw [HS.out.2.1]; exact hk)] at hvf
    subst hvf
    by_cases hlt : k < N
    · have hki : (k : Int) < (N : Int) := by omega
      have hks : (k : Int) < (s.size : Int) := by omega
      have hksn : k < s.size := by omega
      have hk0 : (0 : Int) ≤ (k : Int) := by omega
      have hkl : k < l.length := by rw [HS.out.2.1]; exact hlt
      obtain ⟨c, hc⟩ : ∃ c, l[k] = c := ⟨_, rfl⟩
      have hcm := HM.out c (by rw [← hc]; exact List.getElem_mem hkl)
      have hsk : s[k]'hksn = c := by rw [HS.out.2.2.1 k hksn hkl, hc]
      obtain ⟨d, hd⟩ : ∃ d : Nat, (c.toNat : Int) - 97 = (d : Int) ∧ d < 2 := by
        rcases hcm with rfl | rfl
        · exact ⟨0, rfl, by omega⟩
        · exact ⟨1, rfl, by omega⟩
      obtain ⟨hcd, hd2⟩ := hd
      have hu8 : IntKind.u8.wrap (d : Int) = (d : Int) := by
        show (d : Int) % 256 = d
        omega
      have hwi : IntKind.i64.wrap (d : Int) = (d : Int) := IntWalk.i64_in _ (by omega)
      have hd0 : (0 : Int) ≤ (d : Int) := by omega
      have hd1 : (d : Int) ≤ 1 := by omega

      have HTK := Lib.hid (show (l.take (k + 1)).map (fun c => V.mk 2 ((c.toNat : Int) - 97) ⟨#[]⟩ []) = (l.take k).map (fun c => V.mk 2 ((c.toNat : Int) - 97) ⟨#[]⟩ []) ++ [V.mk 2 (d : Int) ⟨#[]⟩ []] from by rw [List.take_succ_eq_append_getElem hkl, hc, List.map_append]; simp only [List.map_cons, List.map_nil]; rw [hcd])
      have HKN := Lib.hid (show k + 1 ≤ N from hlt)
      have HSR := Lib.hid (show w.heap.size + 2 ≤ wr.heap.size from by have h1 := HSW.out; have h2 := HBL.out.size; omega)
      have hv1 := HBX.out.cells.2.2.2
      have HF := Lib.hid (fun w' => (show Calls Tryd.prog 48 #[.int .i64 (d : Int)] w' fun e w9 => e = .returned (.agg #[.int .i64 2, .int .i64 ((c.toNat : Int) - 97), .string ⟨#[]⟩, .slice none 0 0]) ∧ Below w'.heap.size w' w9 from by rw [← hcd]; exact (refOfInt_any _ w').mono fun e w9 ⟨h1, h2⟩ => ⟨h1, by rw [h2]; exact below1 _ _⟩))
      clear hc hkl hlt hcm
      go_wp2_with fail
      go_region_law (first | (refine Acc.step (E := encV) (e := 48) Tryd.underlying33 hj hy0 hy1 hy2 rfl (by decide) (by rfl) _ _ (by rfl) 0 (w.heap.size + 2) (.slice ao k cp) ((l.take k).map fun c => V.mk 2 ((c.toNat : Int) - 97) ⟨#[]⟩ []) (by rfl) (HA2.out.later (below1 _ _)) ⟨w2.heap.size, 0, none⟩ 1 (V.mk 2 (d : Int) ⟨#[]⟩ []) (Value.slice none 0 0) (by rfl) rfl (fun j u hu => new_cells w2 (V.cs (V.mk 2 (d : Int) ⟨#[]⟩ [], (Value.slice none 0 0))) _ j u hu) RepS.nil (by rw [List.length_map, List.length_take]; omega) (by have := HB2.out.size; have := HSR.out; simp; omega) ?_; intro v3 w3 hA3 hg3; obtain ⟨o3, c3, hvf3⟩ := hA3.form; rw [List.length_append, List.length_map, List.length_take, Nat.min_eq_left (by rw [HS.out.2.1]; exact hk), List.length_singleton] at hvf3; subst hvf3; have HG3 := Lib.hid (And.intro hA3 hg3); have hbx3 := hg3.block (w.heap.size + 1) (by have := HB2.out.size; have := HSR.out; simp; omega) (fun e => by have := (HA.out.lt _ e.symm).1; omega); have HBX3 := Lib.hid (show BoxV w3 (w.heap.size + 1) 5 (.slice ao k cp) from hbx3.trans ((Below.heap_alloc _ _ _ (by have := HB2.out.size; have := HSR.out; omega)).trans ((HB2.out.block _ (by have := HSR.out; omega)).trans HBX.out))); have hc3 := HBX3.out.cells.2.2.2; have hz3 := HBX3.out.frozen 3; clear hA3 hg3 hbx3) | (go_simp; go_at_call 48; refine (HF.out wr.drew).mono ?_; rintro e w2 ⟨rfl, hb2⟩; have hb2' := (below_drewN wr wr.heap.size 1).trans hb2; have HB2 := Lib.hid hb2'; have HA2 := Lib.hid (HA.out.later hb2'); have hv12 := (hb2'.cell (p := ⟨w.heap.size + 1, 3, none⟩) (by have := HSR.out; simp; omega)).trans hv1; have hv13 : ∀ ob, (w2.alloc ob).cell? ⟨w.heap.size + 1, 3, none⟩ = some (.slice ao k cp) := (fun ob => ((below1 w2 ob).cell (p := ⟨w.heap.size + 1, 3, none⟩) (by have := HB2.out.size; have := HSR.out; simp; omega)).trans hv12); clear hb2 hb2'))
      all_goals
        have HZ3 := Lib.hid (And.intro hc3 hz3)
        clear hc3 hz3 hv12 hv13 hv1
        go_wp2_with fail
        go_roundw
        case rel =>
          refine ⟨k + 1, .slice o3 (k + 1) c3, HKN.out, by go_num, Lib.hid (by rw [HTK.out]; exact HG3.out.1.setCell (Nat.zero_le _) (by omega)), Lib.hid (HBX3.out.set _), Lib.hid ?_⟩
          exact (((HBL.out.trans (HB2.out.mono (by have := HSR.out; omega))).alloc (by have := HB2.out.size; have := HSR.out; omega) _).grown HG3.out.2 (by have := HB2.out.size; have := HSR.out; simp; omega) (fun q hq => by have := (HA.out.lt q hq).1; omega)).setCell (p := ⟨w.heap.size + 1, 3, none⟩) (Nat.le_refl _) _
        case measure => have := HKN.out; simp [intOf]; omega
    · have hkN : k = N := by omega
      subst hkN
      have HRB := Lib.hid (show BoxV wr w.heap.size 0 (.slice none 0 0) from (HBL.out.block _ (Nat.lt_succ_self _)).trans HRB0.out)
      obtain ⟨x0, x1, x2, x3⟩ := HBX.out.cells
      obtain ⟨r0, r1, r2, r3⟩ := HRB.out.cells
      have z0 := HRB.out.frozen 0
      have z1 := HRB.out.frozen 1
      have z2 := HRB.out.frozen 2
      have z3 := HRB.out.frozen 3
      have HSR := Lib.hid (show w.heap.size + 2 ≤ wr.heap.size from by have h1 := HSW.out; have h2 := HBL.out.size; omega)
      go_wp2_with fail
      refine bodyPost_ret (v := .agg #[.int .i64 5, .int .i64 0, .string ⟨#[]⟩, .slice ao k cp]) (by simp [results, Tryd.results52, go_sem, *]) rfl ?_
      have hA := HA.out
      rw [List.take_of_length_le (by rw [HS.out.2.1]; exact Nat.le_refl _)] at hA
      refine ⟨⟨.slice ao k cp, rfl, (hA.values (by rw [List.length_map, HS.out.2.1]; omega)).keep (fun b hb => ⟨?_, ?_⟩) (fun b hb => four_keep' (by have := hb.1; omega) _ _ _ _)⟩, ?_⟩
      · have h1 := hb.1
        omega
      · have h1 := hb.2
        simp only [World.size_setCell]
        exact h1
      · have h := HBW.out.trans (HBL.out.mono (Nat.le_succ _))
        exact (((h.setCell (p := ⟨w.heap.size, 0, none⟩) (Nat.le_refl _) _).setCell (p := ⟨w.heap.size, 1, none⟩) (Nat.le_refl _) _).setCell (p := ⟨w.heap.size, 2, none⟩) (Nat.le_refl _) _).setCell (p := ⟨w.heap.size, 3, none⟩) (Nat.le_refl _) _

set_option maxRecDepth 100000 in
set_option maxHeartbeats 3200000 in
theorem rtexts_any (l : List UInt8) (hl : l.length ≤ 1000) (hm : ∀ c, c ∈ l → c = 97 ∨ c = 98) (w : World) : Calls Tryd.prog 53 #[.string (strB l)] w fun e w' => (∃ sl, e = .returned (.agg #[.int .i64 6, .int .i64 0, .string ⟨#[]⟩, sl]) ∧ RepS w' (fun b => w.heap.size ≤ b ∧ b < w'.heap.size) sl (l.map fun c => V.mk 3 0 (cellB c) [])) ∧ Below w.heap.size w w' := by
  have HM := Lib.hid hm
  clear hm
  obtain ⟨s, hs⟩ : ∃ s, strB l = s := ⟨_, rfl⟩
  have hsz : s.size = l.length := by rw [← hs]; exact strB_size l
  have hat : ∀ k (h : k < s.size) (h' : k < l.length), s[k]'h = l[k] := by subst hs; exact fun k h h' => strB_at l k h h'
  have hex : ∀ k (h' : k < l.length), s.extract k (k + 1) = strB [l[k]] := by subst hs; exact fun k h' => str_one l k h'
  obtain ⟨N, hN⟩ : ∃ N, l.length = N := ⟨_, rfl⟩
  have hsN : (s.size : Int) = (N : Int) := by omega
  have hN1 : (N : Int) ≤ 1000 := by omega
  obtain ⟨j0, hj, hy0, hy1, hy2⟩ := info_parts infoValue
  rw [hs]
  have HS := Lib.hid (And.intro hsz (And.intro hN (And.intro hat hex)))
  clear hs hsz hat hN hex
  go_enter Tryd.func53, Tryd.ntmps53
  go_wp2_with fail
  obtain ⟨W0, hW0⟩ : ∃ W0, W0 = (w.alloc (.cells #[.int .i64 0, .int .i64 0, .string ⟨#[]⟩, .slice none 0 0] 48)).alloc (.cells #[.int .i64 6, .int .i64 0, .string ⟨#[]⟩, .slice none 0 0] 48) := ⟨_, rfl⟩
  have hbW : Below w.heap.size w W0 := by rw [hW0]; exact below2 _ _ _
  have hsW : W0.heap.size = w.heap.size + 2 := by rw [hW0]; simp
  have hbx0 : BoxV W0 (w.heap.size + 1) 6 (.slice none 0 0) := by
    rw [hW0]
    have h := heap_alloc_new (w.alloc (.cells #[.int .i64 0, .int .i64 0, .string ⟨#[]⟩, .slice none 0 0] 48)) (.cells #[.int .i64 6, .int .i64 0, .string ⟨#[]⟩, .slice none 0 0] 48)
    rw [World.size_alloc] at h
    exact h
  have hrb0 : BoxV W0 w.heap.size 0 (.slice none 0 0) := by
    rw [hW0]
    exact (Below.heap_alloc _ _ _ (by simp)).trans (heap_alloc_new w _)
  rw [← hW0]
  have HBW := Lib.hid hbW
  have HBX0 := Lib.hid hbx0
  have HRB0 := Lib.hid hrb0
  have HSW := Lib.hid hsW
  clear hW0 hbW hbx0 hrb0 hsW
  go_wp2_with fail
  go_loopw [4] (fun iv wr => ∃ (k : Nat) (v : Value), k ≤ N ∧ iv = .int .i64 k ∧ Hid (Acc encV 48 wr 0 (w.heap.size + 2) v ((l.take k).map fun c => V.mk 3 0 (cellB c) [])) ∧ Hid (BoxV wr (w.heap.size + 1) 6 v) ∧ Hid (Below (w.heap.size + 1) W0 wr)) (fun iv _ => N - (intOf iv).toNat)
  case atStart => exact ⟨0, .slice none 0 0, Nat.zero_le _, rfl, Lib.hid (Acc.nil _ _ _ _ _), HBX0, Lib.hid (Below.refl _ _)⟩
  case round =>
    obtain ⟨k, v, hk, rfl, HA, HBX, HBL⟩ := hrel
    obtain ⟨ao, cp, hvf⟩ := HA.out.form
    rw [List.length_map, List.length_take, Nat.min_eq_left (by rw [HS.out.2.1]; exact hk)] at hvf
    subst hvf
    by_cases hlt : k < N
    · have hki : (k : Int) < (N : Int) := by omega
      have hks : (k : Int) < (s.size : Int) := by omega
      have hksn : k < s.size := by omega
      have hk0 : (0 : Int) ≤ (k : Int) := by omega
      have hkl : k < l.length := by rw [HS.out.2.1]; exact hlt
      obtain ⟨c, hc⟩ : ∃ c, l[k] = c := ⟨_, rfl⟩
      have hcm := HM.out c (by rw [← hc]; exact List.getElem_mem hkl)
      have hsk : s[k]'hksn = c := by rw [HS.out.2.2.1 k hksn hkl, hc]
      obtain ⟨d, hd⟩ : ∃ d : Nat, (c.toNat : Int) - 97 = (d : Int) ∧ d < 2 := by
        rcases hcm with rfl | rfl
        · exact ⟨0, rfl, by omega⟩
        · exact ⟨1, rfl, by omega⟩
      obtain ⟨hcd, hd2⟩ := hd
      have hu8 : IntKind.u8.wrap (d : Int) = (d : Int) := by
        show (d : Int) % 256 = d
        omega
      have hwi : IntKind.i64.wrap (d : Int) = (d : Int) := IntWalk.i64_in _ (by omega)
      have hd0 : (0 : Int) ≤ (d : Int) := by omega
      have hd1 : (d : Int) ≤ 1 := by omega

      have HTK := Lib.hid (show (l.take (k + 1)).map (fun c => V.mk 3 0 (cellB c) []) = (l.take k).map (fun c => V.mk 3 0 (cellB c) []) ++ [V.mk 3 0 (cellB c) []] from by rw [List.take_succ_eq_append_getElem hkl, hc, List.map_append]; simp only [List.map_cons, List.map_nil]; skip)
      have HKN := Lib.hid (show k + 1 ≤ N from hlt)
      have HSR := Lib.hid (show w.heap.size + 2 ≤ wr.heap.size from by have h1 := HSW.out; have h2 := HBL.out.size; omega)
      have hv1 := HBX.out.cells.2.2.2
      have HF := Lib.hid (fun w' => (show Calls Tryd.prog 50 #[.string ((⟨#[97]⟩ : ByteArray).extract 0 d)] w' fun e w9 => e = .returned (.agg #[.int .i64 3, .int .i64 0, .string (cellB c), .slice none 0 0]) ∧ Below w'.heap.size w' w9 from by rw [cell_ext c d hcd hd2]; exact refOfText_any _ w'))
      clear hc hkl hlt hcm
      go_wp2_with fail
      go_region_law (first | (refine Acc.step (E := encV) (e := 48) Tryd.underlying33 hj hy0 hy1 hy2 rfl (by decide) (by rfl) _ _ (by rfl) 0 (w.heap.size + 2) (.slice ao k cp) ((l.take k).map fun c => V.mk 3 0 (cellB c) []) (by rfl) (HA2.out.later (below1 _ _)) ⟨w2.heap.size, 0, none⟩ 1 (V.mk 3 0 (cellB c) []) (Value.slice none 0 0) (by rfl) rfl (fun j u hu => new_cells w2 (V.cs (V.mk 3 0 (cellB c) [], (Value.slice none 0 0))) _ j u hu) RepS.nil (by rw [List.length_map, List.length_take]; omega) (by have := HB2.out.size; have := HSR.out; simp; omega) ?_; intro v3 w3 hA3 hg3; obtain ⟨o3, c3, hvf3⟩ := hA3.form; rw [List.length_append, List.length_map, List.length_take, Nat.min_eq_left (by rw [HS.out.2.1]; exact hk), List.length_singleton] at hvf3; subst hvf3; have HG3 := Lib.hid (And.intro hA3 hg3); have hbx3 := hg3.block (w.heap.size + 1) (by have := HB2.out.size; have := HSR.out; simp; omega) (fun e => by have := (HA.out.lt _ e.symm).1; omega); have HBX3 := Lib.hid (show BoxV w3 (w.heap.size + 1) 6 (.slice ao k cp) from hbx3.trans ((Below.heap_alloc _ _ _ (by have := HB2.out.size; have := HSR.out; omega)).trans ((HB2.out.block _ (by have := HSR.out; omega)).trans HBX.out))); have hc3 := HBX3.out.cells.2.2.2; have hz3 := HBX3.out.frozen 3; clear hA3 hg3 hbx3) | (go_simp; go_at_call 50; refine (HF.out wr.drew).mono ?_; rintro e w2 ⟨rfl, hb2⟩; have hb2' := (below_drewN wr wr.heap.size 1).trans hb2; have HB2 := Lib.hid hb2'; have HA2 := Lib.hid (HA.out.later hb2'); have hv12 := (hb2'.cell (p := ⟨w.heap.size + 1, 3, none⟩) (by have := HSR.out; simp; omega)).trans hv1; have hv13 : ∀ ob, (w2.alloc ob).cell? ⟨w.heap.size + 1, 3, none⟩ = some (.slice ao k cp) := (fun ob => ((below1 w2 ob).cell (p := ⟨w.heap.size + 1, 3, none⟩) (by have := HB2.out.size; have := HSR.out; simp; omega)).trans hv12); clear hb2 hb2'))
      all_goals
        have HZ3 := Lib.hid (And.intro hc3 hz3)
        clear hc3 hz3 hv12 hv13 hv1
        go_wp2_with fail
        go_roundw
        case rel =>
          refine ⟨k + 1, .slice o3 (k + 1) c3, HKN.out, by go_num, Lib.hid (by rw [HTK.out]; exact HG3.out.1.setCell (Nat.zero_le _) (by omega)), Lib.hid (HBX3.out.set _), Lib.hid ?_⟩
          exact (((HBL.out.trans (HB2.out.mono (by have := HSR.out; omega))).alloc (by have := HB2.out.size; have := HSR.out; omega) _).grown HG3.out.2 (by have := HB2.out.size; have := HSR.out; simp; omega) (fun q hq => by have := (HA.out.lt q hq).1; omega)).setCell (p := ⟨w.heap.size + 1, 3, none⟩) (Nat.le_refl _) _
        case measure => have := HKN.out; simp [intOf]; omega
    · have hkN : k = N := by omega
      subst hkN
      have HRB := Lib.hid (show BoxV wr w.heap.size 0 (.slice none 0 0) from (HBL.out.block _ (Nat.lt_succ_self _)).trans HRB0.out)
      obtain ⟨x0, x1, x2, x3⟩ := HBX.out.cells
      obtain ⟨r0, r1, r2, r3⟩ := HRB.out.cells
      have z0 := HRB.out.frozen 0
      have z1 := HRB.out.frozen 1
      have z2 := HRB.out.frozen 2
      have z3 := HRB.out.frozen 3
      have HSR := Lib.hid (show w.heap.size + 2 ≤ wr.heap.size from by have h1 := HSW.out; have h2 := HBL.out.size; omega)
      go_wp2_with fail
      refine bodyPost_ret (v := .agg #[.int .i64 6, .int .i64 0, .string ⟨#[]⟩, .slice ao k cp]) (by simp [results, Tryd.results53, go_sem, *]) rfl ?_
      have hA := HA.out
      rw [List.take_of_length_le (by rw [HS.out.2.1]; exact Nat.le_refl _)] at hA
      refine ⟨⟨.slice ao k cp, rfl, (hA.values (by rw [List.length_map, HS.out.2.1]; omega)).keep (fun b hb => ⟨?_, ?_⟩) (fun b hb => four_keep' (by have := hb.1; omega) _ _ _ _)⟩, ?_⟩
      · have h1 := hb.1
        omega
      · have h1 := hb.2
        simp only [World.size_setCell]
        exact h1
      · have h := HBW.out.trans (HBL.out.mono (Nat.le_succ _))
        exact (((h.setCell (p := ⟨w.heap.size, 0, none⟩) (Nat.le_refl _) _).setCell (p := ⟨w.heap.size, 1, none⟩) (Nat.le_refl _) _).setCell (p := ⟨w.heap.size, 2, none⟩) (Nat.le_refl _) _).setCell (p := ⟨w.heap.size, 3, none⟩) (Nat.le_refl _) _

set_option maxRecDepth 100000 in
set_option maxHeartbeats 3200000 in
theorem rtable_any (l : List UInt8) (hl : l.length ≤ 1000) (hm : ∀ c, c ∈ l → c = 97 ∨ c = 98) (w : World) : Calls Tryd.prog 54 #[.string (strB l)] w fun e w' => (∃ sl, e = .returned (.agg #[.int .i64 7, .int .i64 0, .string ⟨#[]⟩, sl]) ∧ RepS w' (fun b => w.heap.size ≤ b ∧ b < w'.heap.size) sl (l.map fun c => V.mk 6 0 ⟨#[]⟩ [V.mk 3 0 (cellB c) []])) ∧ Below w.heap.size w w' := by
  have HM := Lib.hid hm
  clear hm
  obtain ⟨s, hs⟩ : ∃ s, strB l = s := ⟨_, rfl⟩
  have hsz : s.size = l.length := by rw [← hs]; exact strB_size l
  have hat : ∀ k (h : k < s.size) (h' : k < l.length), s[k]'h = l[k] := by subst hs; exact fun k h h' => strB_at l k h h'
  have hex : ∀ k (h' : k < l.length), s.extract k (k + 1) = strB [l[k]] := by subst hs; exact fun k h' => str_one l k h'
  obtain ⟨N, hN⟩ : ∃ N, l.length = N := ⟨_, rfl⟩
  have hsN : (s.size : Int) = (N : Int) := by omega
  have hN1 : (N : Int) ≤ 1000 := by omega
  obtain ⟨j0, hj, hy0, hy1, hy2⟩ := info_parts infoValue
  rw [hs]
  have HS := Lib.hid (And.intro hsz (And.intro hN (And.intro hat hex)))
  clear hs hsz hat hN hex
  go_enter Tryd.func54, Tryd.ntmps54
  go_wp2_with fail
  obtain ⟨W0, hW0⟩ : ∃ W0, W0 = (w.alloc (.cells #[.int .i64 0, .int .i64 0, .string ⟨#[]⟩, .slice none 0 0] 48)).alloc (.cells #[.int .i64 7, .int .i64 0, .string ⟨#[]⟩, .slice none 0 0] 48) := ⟨_, rfl⟩
  have hbW : Below w.heap.size w W0 := by rw [hW0]; exact below2 _ _ _
  have hsW : W0.heap.size = w.heap.size + 2 := by rw [hW0]; simp
  have hbx0 : BoxV W0 (w.heap.size + 1) 7 (.slice none 0 0) := by
    rw [hW0]
    have h := heap_alloc_new (w.alloc (.cells #[.int .i64 0, .int .i64 0, .string ⟨#[]⟩, .slice none 0 0] 48)) (.cells #[.int .i64 7, .int .i64 0, .string ⟨#[]⟩, .slice none 0 0] 48)
    rw [World.size_alloc] at h
    exact h
  have hrb0 : BoxV W0 w.heap.size 0 (.slice none 0 0) := by
    rw [hW0]
    exact (Below.heap_alloc _ _ _ (by simp)).trans (heap_alloc_new w _)
  rw [← hW0]
  have HBW := Lib.hid hbW
  have HBX0 := Lib.hid hbx0
  have HRB0 := Lib.hid hrb0
  have HSW := Lib.hid hsW
  clear hW0 hbW hbx0 hrb0 hsW
  go_wp2_with fail
  go_loopw [4] (fun iv wr => ∃ (k : Nat) (v : Value), k ≤ N ∧ iv = .int .i64 k ∧ Hid (Acc encV 48 wr 0 (w.heap.size + 2) v ((l.take k).map fun c => V.mk 6 0 ⟨#[]⟩ [V.mk 3 0 (cellB c) []])) ∧ Hid (BoxV wr (w.heap.size + 1) 7 v) ∧ Hid (Below (w.heap.size + 1) W0 wr)) (fun iv _ => N - (intOf iv).toNat)
  case atStart => exact ⟨0, .slice none 0 0, Nat.zero_le _, rfl, Lib.hid (Acc.nil _ _ _ _ _), HBX0, Lib.hid (Below.refl _ _)⟩
  case round =>
    obtain ⟨k, v, hk, rfl, HA, HBX, HBL⟩ := hrel
    obtain ⟨ao, cp, hvf⟩ := HA.out.form
    rw [List.length_map, List.length_take, Nat.min_eq_left (by rw [HS.out.2.1]; exact hk)] at hvf
    subst hvf
    by_cases hlt : k < N
    · have hki : (k : Int) < (N : Int) := by omega
      have hks : (k : Int) < (s.size : Int) := by omega
      have hksn : k < s.size := by omega
      have hk0 : (0 : Int) ≤ (k : Int) := by omega
      have hkl : k < l.length := by rw [HS.out.2.1]; exact hlt
      obtain ⟨c, hc⟩ : ∃ c, l[k] = c := ⟨_, rfl⟩
      have hcm := HM.out c (by rw [← hc]; exact List.getElem_mem hkl)
      obtain ⟨j, hjk⟩ : ∃ j, j = k + 1 := ⟨_, rfl⟩
      have hji : (k : Int) + 1 = (j : Int) := by omega
      obtain ⟨sc, hsc⟩ : ∃ sc, strB [c] = sc := ⟨_, rfl⟩
      have hxs : s.extract k j = sc := by rw [hjk, HS.out.2.2.2 k hkl, hc, hsc]
      have hjs : (j : Int) ≤ (N : Int) := by omega
      have hjw : IntKind.i64.wrap (j : Int) = (j : Int) := IntWalk.i64_in _ (by omega)
      have hj0 : (0 : Int) ≤ (j : Int) := by omega
      have hkj : (k : Int) ≤ (j : Int) := by omega
      have HJK := Lib.hid hjk
      clear hjk

      have HTK := Lib.hid (show (l.take (k + 1)).map (fun c => V.mk 6 0 ⟨#[]⟩ [V.mk 3 0 (cellB c) []]) = (l.take k).map (fun c => V.mk 6 0 ⟨#[]⟩ [V.mk 3 0 (cellB c) []]) ++ [V.mk 6 0 ⟨#[]⟩ [V.mk 3 0 (cellB c) []]] from by rw [List.take_succ_eq_append_getElem hkl, hc, List.map_append]; simp only [List.map_cons, List.map_nil]; skip)
      have HKN := Lib.hid (show k + 1 ≤ N from hlt)
      have HSR := Lib.hid (show w.heap.size + 2 ≤ wr.heap.size from by have h1 := HSW.out; have h2 := HBL.out.size; omega)
      have hv1 := HBX.out.cells.2.2.2
      have HF := Lib.hid (fun w' => (show Calls Tryd.prog 53 #[.string sc] w' fun e w9 => (∃ oz cz, e = .returned (.agg #[.int .i64 6, .int .i64 0, .string ⟨#[]⟩, .slice oz 1 cz]) ∧ RepS w9 (fun b => w'.heap.size ≤ b ∧ b < w9.heap.size) (.slice oz 1 cz) [V.mk 3 0 (cellB c) []]) ∧ Below w'.heap.size w' w9 from by rw [← hsc]; exact (rtexts_any [c] (by simp) (fun x hx => by rw [List.mem_singleton] at hx; subst hx; exact hcm) w').mono fun e w9 ⟨⟨sl, h1, h2⟩, h3⟩ => by obtain ⟨oz, cz, rfl, _⟩ := h2.form; exact ⟨⟨oz, cz, h1, h2⟩, h3⟩))
      clear hc hkl hlt hcm hsc
      go_wp2_with fail
      go_region_law (first | (refine Acc.step (E := encV) (e := 48) Tryd.underlying33 hj hy0 hy1 hy2 rfl (by decide) (by rfl) _ _ (by rfl) 0 (w.heap.size + 2) (.slice ao k cp) ((l.take k).map fun c => V.mk 6 0 ⟨#[]⟩ [V.mk 3 0 (cellB c) []]) (by rfl) (HA2.out.later (below1 _ _)) ⟨w2.heap.size, 0, none⟩ 1 (V.mk 6 0 ⟨#[]⟩ [V.mk 3 0 (cellB c) []]) (Value.slice oz 1 cz) (by rfl) rfl (fun j u hu => new_cells w2 (V.cs (V.mk 6 0 ⟨#[]⟩ [V.mk 3 0 (cellB c) []], (Value.slice oz 1 cz))) _ j u hu) (HRP.out.keep (fun b hb => ⟨.inr (by have := hb.1; have := HSR.out; omega), by have := hb.2; simp; omega, fun e => by have := (HA.out.lt b e).2; have := hb.1; omega⟩) (fun b hb => (below1 w2 _).block b hb.2)) (by rw [List.length_map, List.length_take]; omega) (by have := HB2.out.size; have := HSR.out; simp; omega) ?_; intro v3 w3 hA3 hg3; obtain ⟨o3, c3, hvf3⟩ := hA3.form; rw [List.length_append, List.length_map, List.length_take, Nat.min_eq_left (by rw [HS.out.2.1]; exact hk), List.length_singleton] at hvf3; subst hvf3; have HG3 := Lib.hid (And.intro hA3 hg3); have hbx3 := hg3.block (w.heap.size + 1) (by have := HB2.out.size; have := HSR.out; simp; omega) (fun e => by have := (HA.out.lt _ e.symm).1; omega); have HBX3 := Lib.hid (show BoxV w3 (w.heap.size + 1) 7 (.slice ao k cp) from hbx3.trans ((Below.heap_alloc _ _ _ (by have := HB2.out.size; have := HSR.out; omega)).trans ((HB2.out.block _ (by have := HSR.out; omega)).trans HBX.out))); have hc3 := HBX3.out.cells.2.2.2; have hz3 := HBX3.out.frozen 3; clear hA3 hg3 hbx3) | (go_simp; go_at_call 53; refine (HF.out wr.drew).mono ?_; rintro e w2 ⟨⟨oz, cz, rfl, hrp⟩, hb2⟩; have HRP := Lib.hid (show RepS w2 (fun b => wr.heap.size ≤ b ∧ b < w2.heap.size) (.slice oz 1 cz) [V.mk 3 0 (cellB c) []] from hrp); clear hrp; have hb2' := (below_drewN wr wr.heap.size 1).trans hb2; have HB2 := Lib.hid hb2'; have HA2 := Lib.hid (HA.out.later hb2'); have hv12 := (hb2'.cell (p := ⟨w.heap.size + 1, 3, none⟩) (by have := HSR.out; simp; omega)).trans hv1; have hv13 : ∀ ob, (w2.alloc ob).cell? ⟨w.heap.size + 1, 3, none⟩ = some (.slice ao k cp) := (fun ob => ((below1 w2 ob).cell (p := ⟨w.heap.size + 1, 3, none⟩) (by have := HB2.out.size; have := HSR.out; simp; omega)).trans hv12); clear hb2 hb2'))
      all_goals
        have HZ3 := Lib.hid (And.intro hc3 hz3)
        clear hc3 hz3 hv12 hv13 hv1
        go_wp2_with fail
        go_roundw
        case rel =>
          refine ⟨k + 1, .slice o3 (k + 1) c3, HKN.out, by go_num, Lib.hid (by rw [HTK.out]; exact HG3.out.1.setCell (Nat.zero_le _) (by omega)), Lib.hid (HBX3.out.set _), Lib.hid ?_⟩
          exact (((HBL.out.trans (HB2.out.mono (by have := HSR.out; omega))).alloc (by have := HB2.out.size; have := HSR.out; omega) _).grown HG3.out.2 (by have := HB2.out.size; have := HSR.out; simp; omega) (fun q hq => by have := (HA.out.lt q hq).1; omega)).setCell (p := ⟨w.heap.size + 1, 3, none⟩) (Nat.le_refl _) _
        case measure => have := HKN.out; simp [intOf]; omega
    · have hkN : k = N := by omega
      subst hkN
      have HRB := Lib.hid (show BoxV wr w.heap.size 0 (.slice none 0 0) from (HBL.out.block _ (Nat.lt_succ_self _)).trans HRB0.out)
      obtain ⟨x0, x1, x2, x3⟩ := HBX.out.cells
      obtain ⟨r0, r1, r2, r3⟩ := HRB.out.cells
      have z0 := HRB.out.frozen 0
      have z1 := HRB.out.frozen 1
      have z2 := HRB.out.frozen 2
      have z3 := HRB.out.frozen 3
      have HSR := Lib.hid (show w.heap.size + 2 ≤ wr.heap.size from by have h1 := HSW.out; have h2 := HBL.out.size; omega)
      go_wp2_with fail
      refine bodyPost_ret (v := .agg #[.int .i64 7, .int .i64 0, .string ⟨#[]⟩, .slice ao k cp]) (by simp [results, Tryd.results54, go_sem, *]) rfl ?_
      have hA := HA.out
      rw [List.take_of_length_le (by rw [HS.out.2.1]; exact Nat.le_refl _)] at hA
      refine ⟨⟨.slice ao k cp, rfl, (hA.values (by rw [List.length_map, HS.out.2.1]; omega)).keep (fun b hb => ⟨?_, ?_⟩) (fun b hb => four_keep' (by have := hb.1; omega) _ _ _ _)⟩, ?_⟩
      · have h1 := hb.1
        omega
      · have h1 := hb.2
        simp only [World.size_setCell]
        exact h1
      · have h := HBW.out.trans (HBL.out.mono (Nat.le_succ _))
        exact (((h.setCell (p := ⟨w.heap.size, 0, none⟩) (Nat.le_refl _) _).setCell (p := ⟨w.heap.size, 1, none⟩) (Nat.le_refl _) _).setCell (p := ⟨w.heap.size, 2, none⟩) (Nat.le_refl _) _).setCell (p := ⟨w.heap.size, 3, none⟩) (Nat.le_refl _) _

end Go.Proofs.YthnlkijkgnmbhaaDoor
