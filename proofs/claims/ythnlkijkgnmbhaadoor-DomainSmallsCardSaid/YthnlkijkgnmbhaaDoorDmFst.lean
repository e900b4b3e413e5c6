/-
  The first values of package domain for the types that have texts and lists. Nothing is assumed.
-/
import Derived.Test.YthnlkijkgnmbhaaDoorDmMp
namespace Go.Proofs.YthnlkijkgnmbhaaDoor
open Go.RowKit

theorem letL_le {i : Nat} (h : i ≤ 100) : (letL (i + 2)).length ≤ 10 ∧ (letL (i + 1)).length ≤ 10 := by
  have h1 := log2_lt (i + 2) (by omega)
  have h2 := log2_lt (i + 1) (by omega)
  unfold lenN at h1 h2
  rw [if_neg (by omega)] at h1 h2
  rw [letL_len, letL_len]
  omega
theorem four_keep {w : World} {n b : Nat} (h : b ≠ n) (x0 x1 x2 x3 : Value) : ((((w.setCell ⟨n, 0, none⟩ x0).setCell ⟨n, 1, none⟩ x1).setCell ⟨n, 2, none⟩ x2).setCell ⟨n, 3, none⟩ x3).heap[b]? = w.heap[b]? :=
  (heap_setCell_other _ _ _ _ h).trans ((heap_setCell_other _ _ _ _ h).trans ((heap_setCell_other _ _ _ _ h).trans (heap_setCell_other _ _ _ _ h)))

set_option maxRecDepth 100000 in
set_option maxHeartbeats 1600000 in
theorem fstText_any : FstC 3 fText 65 := by
  intro i w hi
  have HL := Lib.hid (fun w' => letters_any i (by omega) w')
  obtain ⟨s, hs⟩ : ∃ s, strB (letL (i + 1)) = s := ⟨_, rfl⟩
  have HE := Lib.hid (show fText i = .mk 3 0 s [] by rw [← hs]; rfl)
  rw [hs] at HL
  rw [HE.out]
  clear hs
  go_enter Tryd.func44, Tryd.ntmps44
  go_wp2_with fail
  refine (HL.out _).mono ?_
  rintro e w5 ⟨rfl, hb5⟩
  have HB5 := Lib.hid (show Below (w.heap.size + 1) (w.alloc (.cells #[.int .i64 0, .int .i64 0, .string ⟨#[]⟩, .slice none 0 0] 48)) w5 from hb5.mono (by simp))
  clear hb5
  go_wp2_with fail
  refine (ofText_any s _).mono ?_
  rintro e w9 ⟨rfl, hb9⟩
  have HBZ := Lib.hid (show Below (w.heap.size + 1) (w.alloc (.cells #[.int .i64 0, .int .i64 0, .string ⟨#[]⟩, .slice none 0 0] 48)) w9 from HB5.out.trans (hb9.mono (by have := HB5.out.size; simp at this; omega)))
  clear hb9
  have hbz : Below (w.heap.size + 1) (w.alloc (.cells #[.int .i64 0, .int .i64 0, .string ⟨#[]⟩, .slice none 0 0] 48)) w9 := HBZ.out
  obtain ⟨x0, x1, x2, x3⟩ := box_later hbz
  have z0 := (hbz.frozen (p := ⟨w.heap.size, 0, none⟩) (Nat.lt_succ_self _)).trans (box_frozen w 0)
  have z1 := (hbz.frozen (p := ⟨w.heap.size, 1, none⟩) (Nat.lt_succ_self _)).trans (box_frozen w 1)
  have z2 := (hbz.frozen (p := ⟨w.heap.size, 2, none⟩) (Nat.lt_succ_self _)).trans (box_frozen w 2)
  have z3 := (hbz.frozen (p := ⟨w.heap.size, 3, none⟩) (Nat.lt_succ_self _)).trans (box_frozen w 3)
  clear hbz
  go_wp2_with fail
  refine bodyPost_ret (v := .agg #[.int .i64 3, .int .i64 0, .string s, .slice none 0 0]) (by simp [results, Tryd.results44, go_sem, *]) rfl ?_
  refine ⟨⟨.slice none 0 0, rfl, RepS.empty _ _⟩, ?_⟩
  exact (below1 w _).trans (((((HBZ.out.mono (Nat.le_succ _)).setCell (p := ⟨w.heap.size, _, none⟩) (Nat.le_refl _) _).setCell (p := ⟨w.heap.size, _, none⟩) (Nat.le_refl _) _).setCell (p := ⟨w.heap.size, _, none⟩) (Nat.le_refl _) _).setCell (p := ⟨w.heap.size, _, none⟩) (Nat.le_refl _) _)

set_option maxRecDepth 100000 in
set_option maxHeartbeats 1600000 in
theorem fstPat_any : FstC 8 fPat 65 := by
  intro i w hi
  obtain ⟨j, hj⟩ : ∃ j : Nat, j = i + 1 := ⟨_, rfl⟩
  have hji : (i : Int) + 1 = (j : Int) := by omega
  have HJ := Lib.hid hj
  have HL := Lib.hid (fun w' => letters_any j (by omega) w')
  obtain ⟨s, hs⟩ : ∃ s, strB (letL (j + 1)) = s := ⟨_, rfl⟩
  have HE := Lib.hid (show fPat i = .mk 8 0 s [] by rw [← hs, HJ.out]; rfl)
  rw [hs] at HL
  rw [HE.out]
  clear hs hj
  go_enter Tryd.func44, Tryd.ntmps44
  go_wp2_with fail
  refine (HL.out _).mono ?_
  rintro e w5 ⟨rfl, hb5⟩
  have HB5 := Lib.hid (show Below (w.heap.size + 1) (w.alloc (.cells #[.int .i64 0, .int .i64 0, .string ⟨#[]⟩, .slice none 0 0] 48)) w5 from hb5.mono (by simp))
  clear hb5
  go_wp2_with fail
  refine (ofPattern_any s _).mono ?_
  rintro e w9 ⟨rfl, hb9⟩
  have HBZ := Lib.hid (show Below (w.heap.size + 1) (w.alloc (.cells #[.int .i64 0, .int .i64 0, .string ⟨#[]⟩, .slice none 0 0] 48)) w9 from HB5.out.trans (hb9.mono (by have := HB5.out.size; simp at this; omega)))
  clear hb9
  have hbz : Below (w.heap.size + 1) (w.alloc (.cells #[.int .i64 0, .int .i64 0, .string ⟨#[]⟩, .slice none 0 0] 48)) w9 := HBZ.out
  obtain ⟨x0, x1, x2, x3⟩ := box_later hbz
  have z0 := (hbz.frozen (p := ⟨w.heap.size, 0, none⟩) (Nat.lt_succ_self _)).trans (box_frozen w 0)
  have z1 := (hbz.frozen (p := ⟨w.heap.size, 1, none⟩) (Nat.lt_succ_self _)).trans (box_frozen w 1)
  have z2 := (hbz.frozen (p := ⟨w.heap.size, 2, none⟩) (Nat.lt_succ_self _)).trans (box_frozen w 2)
  have z3 := (hbz.frozen (p := ⟨w.heap.size, 3, none⟩) (Nat.lt_succ_self _)).trans (box_frozen w 3)
  clear hbz
  go_wp2_with fail
  refine bodyPost_ret (v := .agg #[.int .i64 8, .int .i64 0, .string s, .slice none 0 0]) (by simp [results, Tryd.results44, go_sem, *]) rfl ?_
  refine ⟨⟨.slice none 0 0, rfl, RepS.empty _ _⟩, ?_⟩
  exact (below1 w _).trans (((((HBZ.out.mono (Nat.le_succ _)).setCell (p := ⟨w.heap.size, _, none⟩) (Nat.le_refl _) _).setCell (p := ⟨w.heap.size, _, none⟩) (Nat.le_refl _) _).setCell (p := ⟨w.heap.size, _, none⟩) (Nat.le_refl _) _).setCell (p := ⟨w.heap.size, _, none⟩) (Nat.le_refl _) _)

set_option maxRecDepth 100000 in
set_option maxHeartbeats 1600000 in
theorem fstInts_any : FstC 5 fInts 65 := by
  intro i w hi
  have HL := Lib.hid (fun w' => letters_any i (by omega) w')
  obtain ⟨L, hL⟩ : ∃ L, letL (i + 1) = L := ⟨_, rfl⟩
  have hL10 : L.length ≤ 10 := by rw [← hL]; exact (letL_le (by omega)).2
  have HM := Lib.hid (fun w' => mappedInts_any L (by omega) (by rw [← hL]; exact letL_mem) w')
  obtain ⟨zs, hzs⟩ : ∃ zs, (L.map fun c => (c.toNat : Int) - 97) = zs := ⟨_, rfl⟩
  rw [hzs] at HM
  have HE := Lib.hid (show fInts i = .mk 5 0 ⟨#[]⟩ (zs.map fun z => V.mk 2 z ⟨#[]⟩ []) by rw [← hzs, ← hL, List.map_map]; rfl)
  have HLL := Lib.hid (show zs.length ≤ 10 from by rw [← hzs, List.length_map]; exact hL10)
  have HZZ := Lib.hid hzs
  have HLM := Lib.hid (show (zs.map (fun z => V.mk 2 z ⟨#[]⟩ [])).length = zs.length from List.length_map _)
  rw [hL] at HL
  rw [HE.out]
  clear hL hL10 hzs
  obtain ⟨s, hs⟩ : ∃ s, strB L = s := ⟨_, rfl⟩
  rw [hs] at HL HM
  clear hs
  go_enter Tryd.func44, Tryd.ntmps44
  go_wp2_with fail
  refine (HL.out _).mono ?_
  rintro e w5 ⟨rfl, hb5⟩
  have hb5' : Below (w.heap.size + 1) (w.alloc (.cells #[.int .i64 0, .int .i64 0, .string ⟨#[]⟩, .slice none 0 0] 48)) w5 := hb5.mono (by simp)
  have H55 := Lib.hid hb5'
  clear hb5 hb5'
  go_wp2_with fail
  refine (HM.out _).mono ?_
  rintro e w8 ⟨⟨sl, rfl, hls⟩, hb8⟩
  have HB5 := Lib.hid (show Below (w.heap.size + 1) (w.alloc (.cells #[.int .i64 0, .int .i64 0, .string ⟨#[]⟩, .slice none 0 0] 48)) w8 from H55.out.trans (hb8.mono (by have := H55.out.size; simp at this; omega)))
  have HLS := Lib.hid hls
  obtain ⟨osl, csl, hsl, _⟩ := id hls
  subst hsl
  clear hls hb8
  go_wp2_with fail
  refine (ofInts_any _ _ _ _ HLS.out (Nat.le_refl _) (by have := HLL.out; omega)).mono ?_
  rintro e w9 ⟨⟨oz, cz, he, hrz⟩, hb9⟩
  have he2 : e = .returned (.agg #[.int .i64 5, .int .i64 0, .string ⟨#[]⟩, .slice oz zs.length cz]) := he.trans (by rw [← HLM.out]; rfl)
  clear he
  subst he2
  have HRZ := Lib.hid hrz
  have hs8 := hb9.size
  clear hrz
  have HBZ := Lib.hid (show Below (w.heap.size + 1) (w.alloc (.cells #[.int .i64 0, .int .i64 0, .string ⟨#[]⟩, .slice none 0 0] 48)) w9 from HB5.out.trans (hb9.mono (by have := HB5.out.size; simp at this; omega)))
  clear hb9
  have hbz : Below (w.heap.size + 1) (w.alloc (.cells #[.int .i64 0, .int .i64 0, .string ⟨#[]⟩, .slice none 0 0] 48)) w9 := HBZ.out
  obtain ⟨x0, x1, x2, x3⟩ := box_later hbz
  have z0 := (hbz.frozen (p := ⟨w.heap.size, 0, none⟩) (Nat.lt_succ_self _)).trans (box_frozen w 0)
  have z1 := (hbz.frozen (p := ⟨w.heap.size, 1, none⟩) (Nat.lt_succ_self _)).trans (box_frozen w 1)
  have z2 := (hbz.frozen (p := ⟨w.heap.size, 2, none⟩) (Nat.lt_succ_self _)).trans (box_frozen w 2)
  have z3 := (hbz.frozen (p := ⟨w.heap.size, 3, none⟩) (Nat.lt_succ_self _)).trans (box_frozen w 3)
  clear hbz
  go_wp2_with fail
  refine bodyPost_ret (v := .agg #[.int .i64 5, .int .i64 0, .string ⟨#[]⟩, .slice oz zs.length cz]) (by simp [results, Tryd.results44, go_sem, *]) rfl ?_
  have HRY := Lib.hid (show RepS w9 (Btw w8.heap.size w9.heap.size) (.slice oz zs.length cz) (zs.map fun z => V.mk 2 z ⟨#[]⟩ []) from by
    have h := HRZ.out
    rw [← HLM.out]
    exact h)
  refine ⟨⟨.slice oz zs.length cz, rfl, HRY.out.keep (fun b hb => ⟨?_, ?_⟩) (fun b hb => four_keep (by have := hb.1; have := HB5.out.size; simp at this; omega) _ _ _ _)⟩, ?_⟩
  · have h1 := hb.1
    have h2 := HB5.out.size
    rw [World.size_alloc] at h2
    omega
  · have h1 := hb.2
    simp only [World.size_setCell]
    exact h1
  exact (below1 w _).trans (((((HBZ.out.mono (Nat.le_succ _)).setCell (p := ⟨w.heap.size, _, none⟩) (Nat.le_refl _) _).setCell (p := ⟨w.heap.size, _, none⟩) (Nat.le_refl _) _).setCell (p := ⟨w.heap.size, _, none⟩) (Nat.le_refl _) _).setCell (p := ⟨w.heap.size, _, none⟩) (Nat.le_refl _) _)

set_option maxRecDepth 100000 in
set_option maxHeartbeats 1600000 in
theorem fstTexts_any : FstC 6 fTexts 65 := by
  intro i w hi
  have HL := Lib.hid (fun w' => letters_any i (by omega) w')
  obtain ⟨L, hL⟩ : ∃ L, letL (i + 1) = L := ⟨_, rfl⟩
  have hL10 : L.length ≤ 10 := by rw [← hL]; exact (letL_le (by omega)).2
  have HM := Lib.hid (fun w' => mappedStrs_any L (by omega) w')
  obtain ⟨zs, hzs⟩ : ∃ zs, (L.map fun c => cellB c) = zs := ⟨_, rfl⟩
  rw [hzs] at HM
  have HE := Lib.hid (show fTexts i = .mk 6 0 ⟨#[]⟩ (zs.map fun z => V.mk 3 0 z []) by rw [← hzs, ← hL, List.map_map]; rfl)
  have HLL := Lib.hid (show zs.length ≤ 10 from by rw [← hzs, List.length_map]; exact hL10)
  have HZZ := Lib.hid hzs
  have HLM := Lib.hid (show (zs.map (fun z => V.mk 3 0 z [])).length = zs.length from List.length_map _)
  rw [hL] at HL
  rw [HE.out]
  clear hL hL10 hzs
  obtain ⟨s, hs⟩ : ∃ s, strB L = s := ⟨_, rfl⟩
  rw [hs] at HL HM
  clear hs
  go_enter Tryd.func44, Tryd.ntmps44
  go_wp2_with fail
  refine (HL.out _).mono ?_
  rintro e w5 ⟨rfl, hb5⟩
  have hb5' : Below (w.heap.size + 1) (w.alloc (.cells #[.int .i64 0, .int .i64 0, .string ⟨#[]⟩, .slice none 0 0] 48)) w5 := hb5.mono (by simp)
  have H55 := Lib.hid hb5'
  clear hb5 hb5'
  go_wp2_with fail
  refine (HM.out _).mono ?_
  rintro e w8 ⟨⟨sl, rfl, hls⟩, hb8⟩
  have HB5 := Lib.hid (show Below (w.heap.size + 1) (w.alloc (.cells #[.int .i64 0, .int .i64 0, .string ⟨#[]⟩, .slice none 0 0] 48)) w8 from H55.out.trans (hb8.mono (by have := H55.out.size; simp at this; omega)))
  have HLS := Lib.hid hls
  obtain ⟨osl, csl, hsl, _⟩ := id hls
  subst hsl
  clear hls hb8
  go_wp2_with fail
  refine (ofTexts_any _ _ _ _ HLS.out (Nat.le_refl _) (by have := HLL.out; omega)).mono ?_
  rintro e w9 ⟨⟨oz, cz, he, hrz⟩, hb9⟩
  have he2 : e = .returned (.agg #[.int .i64 6, .int .i64 0, .string ⟨#[]⟩, .slice oz zs.length cz]) := he.trans (by rw [← HLM.out]; rfl)
  clear he
  subst he2
  have HRZ := Lib.hid hrz
  have hs8 := hb9.size
  clear hrz
  have HBZ := Lib.hid (show Below (w.heap.size + 1) (w.alloc (.cells #[.int .i64 0, .int .i64 0, .string ⟨#[]⟩, .slice none 0 0] 48)) w9 from HB5.out.trans (hb9.mono (by have := HB5.out.size; simp at this; omega)))
  clear hb9
  have hbz : Below (w.heap.size + 1) (w.alloc (.cells #[.int .i64 0, .int .i64 0, .string ⟨#[]⟩, .slice none 0 0] 48)) w9 := HBZ.out
  obtain ⟨x0, x1, x2, x3⟩ := box_later hbz
  have z0 := (hbz.frozen (p := ⟨w.heap.size, 0, none⟩) (Nat.lt_succ_self _)).trans (box_frozen w 0)
  have z1 := (hbz.frozen (p := ⟨w.heap.size, 1, none⟩) (Nat.lt_succ_self _)).trans (box_frozen w 1)
  have z2 := (hbz.frozen (p := ⟨w.heap.size, 2, none⟩) (Nat.lt_succ_self _)).trans (box_frozen w 2)
  have z3 := (hbz.frozen (p := ⟨w.heap.size, 3, none⟩) (Nat.lt_succ_self _)).trans (box_frozen w 3)
  clear hbz
  go_wp2_with fail
  refine bodyPost_ret (v := .agg #[.int .i64 6, .int .i64 0, .string ⟨#[]⟩, .slice oz zs.length cz]) (by simp [results, Tryd.results44, go_sem, *]) rfl ?_
  have HRY := Lib.hid (show RepS w9 (Btw w8.heap.size w9.heap.size) (.slice oz zs.length cz) (zs.map fun z => V.mk 3 0 z []) from by
    have h := HRZ.out
    rw [← HLM.out]
    exact h)
  refine ⟨⟨.slice oz zs.length cz, rfl, HRY.out.keep (fun b hb => ⟨?_, ?_⟩) (fun b hb => four_keep (by have := hb.1; have := HB5.out.size; simp at this; omega) _ _ _ _)⟩, ?_⟩
  · have h1 := hb.1
    have h2 := HB5.out.size
    rw [World.size_alloc] at h2
    omega
  · have h1 := hb.2
    simp only [World.size_setCell]
    exact h1
  exact (below1 w _).trans (((((HBZ.out.mono (Nat.le_succ _)).setCell (p := ⟨w.heap.size, _, none⟩) (Nat.le_refl _) _).setCell (p := ⟨w.heap.size, _, none⟩) (Nat.le_refl _) _).setCell (p := ⟨w.heap.size, _, none⟩) (Nat.le_refl _) _).setCell (p := ⟨w.heap.size, _, none⟩) (Nat.le_refl _) _)

set_option maxRecDepth 100000 in
set_option maxHeartbeats 1600000 in
theorem fstTable_any : FstC 7 fTable 65 := by
  intro i w hi
  have HL := Lib.hid (fun w' => letters_any i (by omega) w')
  obtain ⟨L, hL⟩ : ∃ L, letL (i + 1) = L := ⟨_, rfl⟩
  have hL10 : L.length ≤ 10 := by rw [← hL]; exact (letL_le (by omega)).2
  have HM := Lib.hid (fun w' => mappedRows_any L (by omega) w')
  obtain ⟨zs, hzs⟩ : ∃ zs, (L.map fun c => [cellB c]) = zs := ⟨_, rfl⟩
  rw [hzs] at HM
  have HE := Lib.hid (show fTable i = .mk 7 0 ⟨#[]⟩ (zs.map rowV) by rw [← hzs, ← hL, List.map_map]; rfl)
  have HLL := Lib.hid (show zs.length ≤ 10 from by rw [← hzs, List.length_map]; exact hL10)
  have HZZ := Lib.hid hzs
  have HLM := Lib.hid (show (zs.map (rowV)).length = zs.length from List.length_map _)
  rw [hL] at HL
  rw [HE.out]
  clear hL hL10 hzs
  obtain ⟨s, hs⟩ : ∃ s, strB L = s := ⟨_, rfl⟩
  rw [hs] at HL HM
  clear hs
  go_enter Tryd.func44, Tryd.ntmps44
  go_wp2_with fail
  refine (HL.out _).mono ?_
  rintro e w5 ⟨rfl, hb5⟩
  have hb5' : Below (w.heap.size + 1) (w.alloc (.cells #[.int .i64 0, .int .i64 0, .string ⟨#[]⟩, .slice none 0 0] 48)) w5 := hb5.mono (by simp)
  have H55 := Lib.hid hb5'
  clear hb5 hb5'
  go_wp2_with fail
  refine (HM.out _).mono ?_
  rintro e w8 ⟨⟨sl, rfl, hls⟩, hb8⟩
  have HB5 := Lib.hid (show Below (w.heap.size + 1) (w.alloc (.cells #[.int .i64 0, .int .i64 0, .string ⟨#[]⟩, .slice none 0 0] 48)) w8 from H55.out.trans (hb8.mono (by have := H55.out.size; simp at this; omega)))
  have HLS := Lib.hid hls
  obtain ⟨osl, csl, hsl, _⟩ := id hls
  subst hsl
  clear hls hb8
  go_wp2_with fail
  refine (ofTable_any _ _ _ _ HLS.out (Nat.le_refl _) (by have := HLL.out; omega) (by intro r hr; have hz := HZZ.out; rw [← hz] at hr; obtain ⟨c, _, rfl⟩ := List.mem_map.1 hr; simp)).mono ?_
  rintro e w9 ⟨⟨oz, cz, he, hrz⟩, hb9⟩
  have he2 : e = .returned (.agg #[.int .i64 7, .int .i64 0, .string ⟨#[]⟩, .slice oz zs.length cz]) := he.trans (by rw [← HLM.out]; rfl)
  clear he
  subst he2
  have HRZ := Lib.hid hrz
  have hs8 := hb9.size
  clear hrz
  have HBZ := Lib.hid (show Below (w.heap.size + 1) (w.alloc (.cells #[.int .i64 0, .int .i64 0, .string ⟨#[]⟩, .slice none 0 0] 48)) w9 from HB5.out.trans (hb9.mono (by have := HB5.out.size; simp at this; omega)))
  clear hb9
  have hbz : Below (w.heap.size + 1) (w.alloc (.cells #[.int .i64 0, .int .i64 0, .string ⟨#[]⟩, .slice none 0 0] 48)) w9 := HBZ.out
  obtain ⟨x0, x1, x2, x3⟩ := box_later hbz
  have z0 := (hbz.frozen (p := ⟨w.heap.size, 0, none⟩) (Nat.lt_succ_self _)).trans (box_frozen w 0)
  have z1 := (hbz.frozen (p := ⟨w.heap.size, 1, none⟩) (Nat.lt_succ_self _)).trans (box_frozen w 1)
  have z2 := (hbz.frozen (p := ⟨w.heap.size, 2, none⟩) (Nat.lt_succ_self _)).trans (box_frozen w 2)
  have z3 := (hbz.frozen (p := ⟨w.heap.size, 3, none⟩) (Nat.lt_succ_self _)).trans (box_frozen w 3)
  clear hbz
  go_wp2_with fail
  refine bodyPost_ret (v := .agg #[.int .i64 7, .int .i64 0, .string ⟨#[]⟩, .slice oz zs.length cz]) (by simp [results, Tryd.results44, go_sem, *]) rfl ?_
  have HRY := Lib.hid (show RepS w9 (Btw w8.heap.size w9.heap.size) (.slice oz zs.length cz) (zs.map rowV) from by
    have h := HRZ.out
    rw [← HLM.out]
    exact h)
  refine ⟨⟨.slice oz zs.length cz, rfl, HRY.out.keep (fun b hb => ⟨?_, ?_⟩) (fun b hb => four_keep (by have := hb.1; have := HB5.out.size; simp at this; omega) _ _ _ _)⟩, ?_⟩
  · have h1 := hb.1
    have h2 := HB5.out.size
    rw [World.size_alloc] at h2
    omega
  · have h1 := hb.2
    simp only [World.size_setCell]
    exact h1
  exact (below1 w _).trans (((((HBZ.out.mono (Nat.le_succ _)).setCell (p := ⟨w.heap.size, _, none⟩) (Nat.le_refl _) _).setCell (p := ⟨w.heap.size, _, none⟩) (Nat.le_refl _) _).setCell (p := ⟨w.heap.size, _, none⟩) (Nat.le_refl _) _).setCell (p := ⟨w.heap.size, _, none⟩) (Nat.le_refl _) _)

end Go.Proofs.YthnlkijkgnmbhaaDoor
