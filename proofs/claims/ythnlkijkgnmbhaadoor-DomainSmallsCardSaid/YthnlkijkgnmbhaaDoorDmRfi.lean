/-
  First of the reference, for each type. Nothing is assumed.
-/
import Derived.Test.YthnlkijkgnmbhaaDoorDmLis
import Derived.Test.YthnlkijkgnmbhaaDoorDmWrd
import Derived.Test.YthnlkijkgnmbhaaDoorDmFst
namespace Go.Proofs.YthnlkijkgnmbhaaDoor
open Go.RowKit

/-- What First returns for a type. -/
def RFst (t : Int) (n : Nat) : Prop := ∀ w : World, Calls Tryd.prog 31 #[.int .i64 t, .int .i64 (n : Int)] w fun e w' => (∃ v, e = .returned v ∧ RepS w' (fun b => w.heap.size ≤ b ∧ b < w'.heap.size) v (axOf n t)) ∧ Below w.heap.size w w'
theorem axOf_eq (n : Nat) (t : Int) (h : t ≠ 1) : axOf n t = (List.range n).map (fstOf t) := by
  unfold axOf cntOf
  rw [if_neg h]
theorem lst_at {w : World} {sl : Value} {l : List ByteArray} (h : LStrs w w.heap.size sl l) {oa : Option Addr} {n c : Nat} (hs : sl = .slice oa n c) {i : Nat} {a : ByteArray} (ha : l[i]? = some a) : ∃ (b off : Nat), oa = some ⟨b, off, none⟩ ∧ b < w.heap.size ∧ w.cell? ⟨b, off + i, none⟩ = some (.string a) := by
  obtain ⟨oa', cap, he, _, hel⟩ := h
  rw [he] at hs
  cases hs
  obtain ⟨b, off, c', h1, h2, h3, h4⟩ := hel i a ha
  cases h4
  exact ⟨b, off, h1, h2, h3⟩

set_option maxRecDepth 100000 in
set_option maxHeartbeats 3200000 in
theorem rfst3 (n : Nat) (hn : n ≤ 64) : RFst 3 n := by
  intro w
  rw [axOf_eq n 3 (by decide)]
  have HWD := Lib.hid (words_any n (by omega) false w)
  obtain ⟨i0, hi, hz0, hz1, hz2⟩ := info_parts infoValue
  have hn0 : (n : Int) ≤ 64 := by omega
  go_enter Tryd.func31, Tryd.ntmps31
  go_wp2_with fail
  refine HWD.out.mono ?_
  clear HWD
  rintro e w1 ⟨⟨sl, rfl, hls⟩, hb1⟩
  obtain ⟨ol, cl, hsl, _⟩ := id hls
  rw [List.length_map, List.length_range] at hsl
  subst hsl
  have HLS := Lib.hid hls
  have HB1 := Lib.hid hb1
  clear hls hb1
  go_wp2_with fail
  go_loopw [7, 5] (fun iv v wr => ∃ i : Nat, i ≤ n ∧ iv = .int .i64 i ∧ Hid (Acc encV 48 wr 0 w1.heap.size v ((List.range i).map (fstOf 3))) ∧ Hid (Below w1.heap.size w1 wr)) (fun iv _ _ => n - (intOf iv).toNat)
  case atStart => exact ⟨0, Nat.zero_le _, rfl, Lib.hid (Acc.nil _ _ _ _ _), Lib.hid (Below.refl _ _)⟩
  case round =>
    obtain ⟨i, hin, rfl, HA, HBL⟩ := hrel
    obtain ⟨ao, cp, hvf⟩ := HA.out.form
    rw [List.length_map, List.length_range] at hvf
    subst hvf
    by_cases hlt : i < n
    · have hki : (i : Int) < (n : Int) := by omega
      have hk0 : (0 : Int) ≤ (i : Int) := by omega
      obtain ⟨s, hs⟩ : ∃ s, strB (letL (i + 1)) = s := ⟨_, rfl⟩
      obtain ⟨b, off, rfl, hb, hc⟩ := lst_at HLS.out rfl (i := i) (a := s) (by rw [List.getElem?_map, List.getElem?_range hlt]; simp; exact hs)
      rw [← HBL.out.cell (p := ⟨b, _, none⟩) hb] at hc
      have HSS := Lib.hid hs
      clear hs hb
      have HF := Lib.hid (fun w' => refOfText_any s w')
      have HKN := Lib.hid (show i + 1 ≤ n from hlt)
      have HWZ := Lib.hid HBL.out.size
      have HEQ := Lib.hid (show fstOf 3 i = V.mk 3 0 s [] from by rw [← HSS.out]; rfl)
      clear hlt
      go_wp2_with (first | (go_at_call 50; refine (HF.out _).mono ?_; rintro e w2 ⟨rfl, hb2⟩; have HB2 := Lib.hid hb2; have HA2 := Lib.hid (HA.out.later hb2); clear hb2) | (at_builtin; refine Acc.append (E := encV) (e := 48) Tryd.underlying33 hi hz0 hz1 hz2 rfl (by decide) (by rfl) _ _ (by rfl) 0 w1.heap.size (.slice ao i cp) ((List.range i).map (fstOf 3)) (by rfl) (HA2.out.later (below1 _ _)) ⟨w2.heap.size, 0, none⟩ 1 (V.mk 3 0 s []) (Value.slice none 0 0) (by rfl) rfl (fun j u hu => new_cells w2 (V.cs (V.mk 3 0 s [], (Value.slice none 0 0))) _ j u hu) RepS.nil (by rw [List.length_map, List.length_range]; omega) (by have := HB2.out.size; have := HWZ.out; simp; omega) ?_; intro v3 w3 hA3 hg3; obtain ⟨o3, c3, hvf3⟩ := hA3.form; rw [List.length_append, List.length_map, List.length_range, List.length_singleton] at hvf3; subst hvf3; have HG3 := Lib.hid (And.intro hA3 hg3); clear hA3 hg3))
      go_roundw
      case rel =>
        refine ⟨i + 1, HKN.out, by go_num, Lib.hid ?_, Lib.hid (((HBL.out.trans (HB2.out.mono HWZ.out)).alloc (by have := HB2.out.size; have := HWZ.out; omega) _).grown HG3.out.2 (by have := HB2.out.size; have := HWZ.out; simp; omega) (fun q hq => (HA.out.lt q hq).1))⟩
        rw [range_snoc, HEQ.out]
        exact HG3.out.1
      case measure => have := HKN.out; simp [intOf]; omega
    · have hkN : i = n := by omega
      subst hkN
      go_wp2_with fail
      go_ret
      refine ⟨⟨_, rfl, (HA.out.values (by rw [List.length_map, List.length_range]; omega)).keep (fun b hb => ⟨?_, hb.2⟩) (fun _ _ => rfl)⟩, HB1.out.trans (HBL.out.mono HB1.out.size)⟩
      have h1 := hb.1
      have h2 := HB1.out.size
      omega

set_option maxRecDepth 100000 in
set_option maxHeartbeats 3200000 in
theorem rfst8 (n : Nat) (hn : n ≤ 64) : RFst 8 n := by
  intro w
  rw [axOf_eq n 8 (by decide)]
  have HWD := Lib.hid (words_any n (by omega) true w)
  obtain ⟨i0, hi, hz0, hz1, hz2⟩ := info_parts infoValue
  have hn0 : (n : Int) ≤ 64 := by omega
  go_enter Tryd.func31, Tryd.ntmps31
  go_wp2_with fail
  refine HWD.out.mono ?_
  clear HWD
  rintro e w1 ⟨⟨sl, rfl, hls⟩, hb1⟩
  obtain ⟨ol, cl, hsl, _⟩ := id hls
  rw [List.length_map, List.length_range] at hsl
  subst hsl
  have HLS := Lib.hid hls
  have HB1 := Lib.hid hb1
  clear hls hb1
  go_wp2_with fail
  go_loopw [7, 5] (fun iv v wr => ∃ i : Nat, i ≤ n ∧ iv = .int .i64 i ∧ Hid (Acc encV 48 wr 0 w1.heap.size v ((List.range i).map (fstOf 8))) ∧ Hid (Below w1.heap.size w1 wr)) (fun iv _ _ => n - (intOf iv).toNat)
  case atStart => exact ⟨0, Nat.zero_le _, rfl, Lib.hid (Acc.nil _ _ _ _ _), Lib.hid (Below.refl _ _)⟩
  case round =>
    obtain ⟨i, hin, rfl, HA, HBL⟩ := hrel
    obtain ⟨ao, cp, hvf⟩ := HA.out.form
    rw [List.length_map, List.length_range] at hvf
    subst hvf
    by_cases hlt : i < n
    · have hki : (i : Int) < (n : Int) := by omega
      have hk0 : (0 : Int) ≤ (i : Int) := by omega
      obtain ⟨s, hs⟩ : ∃ s, strB (letL (i + 2)) = s := ⟨_, rfl⟩
      obtain ⟨b, off, rfl, hb, hc⟩ := lst_at HLS.out rfl (i := i) (a := s) (by rw [List.getElem?_map, List.getElem?_range hlt]; simp; exact hs)
      rw [← HBL.out.cell (p := ⟨b, _, none⟩) hb] at hc
      have HSS := Lib.hid hs
      clear hs hb
      have HF := Lib.hid (fun w' => (show Calls Tryd.prog 51 #[.string s] w' fun e w9 => e = .returned (.agg #[.int .i64 8, .int .i64 0, .string s, .slice none 0 0]) ∧ Below w'.heap.size w' w9 from (refOfPattern_any s w').mono fun e w9 ⟨h1, h2⟩ => ⟨h1, by rw [h2]; exact below1 _ _⟩))
      have HKN := Lib.hid (show i + 1 ≤ n from hlt)
      have HWZ := Lib.hid HBL.out.size
      have HEQ := Lib.hid (show fstOf 8 i = V.mk 8 0 s [] from by rw [← HSS.out]; rfl)
      clear hlt
      go_wp2_with (first | (go_at_call 51; refine (HF.out _).mono ?_; rintro e w2 ⟨rfl, hb2⟩; have HB2 := Lib.hid hb2; have HA2 := Lib.hid (HA.out.later hb2); clear hb2) | (at_builtin; refine Acc.append (E := encV) (e := 48) Tryd.underlying33 hi hz0 hz1 hz2 rfl (by decide) (by rfl) _ _ (by rfl) 0 w1.heap.size (.slice ao i cp) ((List.range i).map (fstOf 8)) (by rfl) (HA2.out.later (below1 _ _)) ⟨w2.heap.size, 0, none⟩ 1 (V.mk 8 0 s []) (Value.slice none 0 0) (by rfl) rfl (fun j u hu => new_cells w2 (V.cs (V.mk 8 0 s [], (Value.slice none 0 0))) _ j u hu) RepS.nil (by rw [List.length_map, List.length_range]; omega) (by have := HB2.out.size; have := HWZ.out; simp; omega) ?_; intro v3 w3 hA3 hg3; obtain ⟨o3, c3, hvf3⟩ := hA3.form; rw [List.length_append, List.length_map, List.length_range, List.length_singleton] at hvf3; subst hvf3; have HG3 := Lib.hid (And.intro hA3 hg3); clear hA3 hg3))
      go_roundw
      case rel =>
        refine ⟨i + 1, HKN.out, by go_num, Lib.hid ?_, Lib.hid (((HBL.out.trans (HB2.out.mono HWZ.out)).alloc (by have := HB2.out.size; have := HWZ.out; omega) _).grown HG3.out.2 (by have := HB2.out.size; have := HWZ.out; simp; omega) (fun q hq => (HA.out.lt q hq).1))⟩
        rw [range_snoc, HEQ.out]
        exact HG3.out.1
      case measure => have := HKN.out; simp [intOf]; omega
    · have hkN : i = n := by omega
      subst hkN
      go_wp2_with fail
      go_ret
      refine ⟨⟨_, rfl, (HA.out.values (by rw [List.length_map, List.length_range]; omega)).keep (fun b hb => ⟨?_, hb.2⟩) (fun _ _ => rfl)⟩, HB1.out.trans (HBL.out.mono HB1.out.size)⟩
      have h1 := hb.1
      have h2 := HB1.out.size
      omega

set_option maxRecDepth 100000 in
set_option maxHeartbeats 3200000 in
theorem rfst5 (n : Nat) (hn : n ≤ 64) : RFst 5 n := by
  intro w
  rw [axOf_eq n 5 (by decide)]
  have HWD := Lib.hid (words_any n (by omega) false w)
  obtain ⟨i0, hi, hz0, hz1, hz2⟩ := info_parts infoValue
  have hn0 : (n : Int) ≤ 64 := by omega
  go_enter Tryd.func31, Tryd.ntmps31
  go_wp2_with fail
  refine HWD.out.mono ?_
  clear HWD
  rintro e w1 ⟨⟨sl, rfl, hls⟩, hb1⟩
  obtain ⟨ol, cl, hsl, _⟩ := id hls
  rw [List.length_map, List.length_range] at hsl
  subst hsl
  have HLS := Lib.hid hls
  have HB1 := Lib.hid hb1
  clear hls hb1
  go_wp2_with fail
  go_loopw [7, 5] (fun iv v wr => ∃ i : Nat, i ≤ n ∧ iv = .int .i64 i ∧ Hid (Acc encV 48 wr 0 w1.heap.size v ((List.range i).map (fstOf 5))) ∧ Hid (Below w1.heap.size w1 wr)) (fun iv _ _ => n - (intOf iv).toNat)
  case atStart => exact ⟨0, Nat.zero_le _, rfl, Lib.hid (Acc.nil _ _ _ _ _), Lib.hid (Below.refl _ _)⟩
  case round =>
    obtain ⟨i, hin, rfl, HA, HBL⟩ := hrel
    obtain ⟨ao, cp, hvf⟩ := HA.out.form
    rw [List.length_map, List.length_range] at hvf
    subst hvf
    by_cases hlt : i < n
    · have hki : (i : Int) < (n : Int) := by omega
      have hk0 : (0 : Int) ≤ (i : Int) := by omega
      obtain ⟨s, hs⟩ : ∃ s, strB (letL (i + 1)) = s := ⟨_, rfl⟩
      obtain ⟨b, off, rfl, hb, hc⟩ := lst_at HLS.out rfl (i := i) (a := s) (by rw [List.getElem?_map, List.getElem?_range hlt]; simp; exact hs)
      rw [← HBL.out.cell (p := ⟨b, _, none⟩) hb] at hc
      have HSS := Lib.hid hs
      clear hs hb
      obtain ⟨L, hL⟩ : ∃ L, ((letL (i + 1)).map fun c => V.mk 2 ((c.toNat : Int) - 97) ⟨#[]⟩ []) = L := ⟨_, rfl⟩
      obtain ⟨NL, hNL⟩ : ∃ NL, L.length = NL := ⟨_, rfl⟩
      have HLL := Lib.hid (And.intro hL hNL)
      clear hL hNL
      have HF := Lib.hid (fun w' => (show Calls Tryd.prog 52 #[.string s] w' fun e w9 => (∃ oz cz, e = .returned (.agg #[.int .i64 5, .int .i64 0, .string ⟨#[]⟩, .slice oz NL cz]) ∧ RepS w9 (fun b => w'.heap.size ≤ b ∧ b < w9.heap.size) (.slice oz NL cz) L) ∧ Below w'.heap.size w' w9 from by rw [← HSS.out]; exact (rints_any (letL (i + 1)) (by have := (letL_le (i := i) (by omega)).2; omega) letL_mem w').mono fun e w9 ⟨⟨sl, h1, h2⟩, h3⟩ => by rw [HLL.out.1] at h2; obtain ⟨oz, cz, hz, _⟩ := h2.form; rw [HLL.out.2] at hz; subst hz; exact ⟨⟨oz, cz, h1, h2⟩, h3⟩))
      have HKN := Lib.hid (show i + 1 ≤ n from hlt)
      have HWZ := Lib.hid HBL.out.size
      have HEQ := Lib.hid (show fstOf 5 i = V.mk 5 0 ⟨#[]⟩ L from by rw [← HLL.out.1]; rfl)
      clear hlt
      go_wp2_with (first | (go_at_call 52; refine (HF.out _).mono ?_; rintro e w2 ⟨⟨oz, cz, rfl, hrp⟩, hb2⟩; have HRP := Lib.hid (show RepS w2 (fun b => wr.heap.size ≤ b ∧ b < w2.heap.size) (.slice oz NL cz) L from hrp); clear hrp; have HB2 := Lib.hid hb2; have HA2 := Lib.hid (HA.out.later hb2); clear hb2) | (at_builtin; refine Acc.append (E := encV) (e := 48) Tryd.underlying33 hi hz0 hz1 hz2 rfl (by decide) (by rfl) _ _ (by rfl) 0 w1.heap.size (.slice ao i cp) ((List.range i).map (fstOf 5)) (by rfl) (HA2.out.later (below1 _ _)) ⟨w2.heap.size, 0, none⟩ 1 (V.mk 5 0 ⟨#[]⟩ L) (Value.slice oz NL cz) (by rfl) rfl (fun j u hu => new_cells w2 (V.cs (V.mk 5 0 ⟨#[]⟩ L, (Value.slice oz NL cz))) _ j u hu) (HRP.out.keep (fun b hb => ⟨.inr (by have := hb.1; have := HWZ.out; omega), by have := hb.2; simp; omega, fun e => by have := (HA.out.lt b e).2; have := hb.1; omega⟩) (fun b hb => (below1 w2 _).block b hb.2)) (by rw [List.length_map, List.length_range]; omega) (by have := HB2.out.size; have := HWZ.out; simp; omega) ?_; intro v3 w3 hA3 hg3; obtain ⟨o3, c3, hvf3⟩ := hA3.form; rw [List.length_append, List.length_map, List.length_range, List.length_singleton] at hvf3; subst hvf3; have HG3 := Lib.hid (And.intro hA3 hg3); clear hA3 hg3))
      go_roundw
      case rel =>
        refine ⟨i + 1, HKN.out, by go_num, Lib.hid ?_, Lib.hid (((HBL.out.trans (HB2.out.mono HWZ.out)).alloc (by have := HB2.out.size; have := HWZ.out; omega) _).grown HG3.out.2 (by have := HB2.out.size; have := HWZ.out; simp; omega) (fun q hq => (HA.out.lt q hq).1))⟩
        rw [range_snoc, HEQ.out]
        exact HG3.out.1
      case measure => have := HKN.out; simp [intOf]; omega
    · have hkN : i = n := by omega
      subst hkN
      go_wp2_with fail
      go_ret
      refine ⟨⟨_, rfl, (HA.out.values (by rw [List.length_map, List.length_range]; omega)).keep (fun b hb => ⟨?_, hb.2⟩) (fun _ _ => rfl)⟩, HB1.out.trans (HBL.out.mono HB1.out.size)⟩
      have h1 := hb.1
      have h2 := HB1.out.size
      omega

set_option maxRecDepth 100000 in
set_option maxHeartbeats 3200000 in
theorem rfst6 (n : Nat) (hn : n ≤ 64) : RFst 6 n := by
  intro w
  rw [axOf_eq n 6 (by decide)]
  have HWD := Lib.hid (words_any n (by omega) false w)
  obtain ⟨i0, hi, hz0, hz1, hz2⟩ := info_parts infoValue
  have hn0 : (n : Int) ≤ 64 := by omega
  go_enter Tryd.func31, Tryd.ntmps31
  go_wp2_with fail
  refine HWD.out.mono ?_
  clear HWD
  rintro e w1 ⟨⟨sl, rfl, hls⟩, hb1⟩
  obtain ⟨ol, cl, hsl, _⟩ := id hls
  rw [List.length_map, List.length_range] at hsl
  subst hsl
  have HLS := Lib.hid hls
  have HB1 := Lib.hid hb1
  clear hls hb1
  go_wp2_with fail
  go_loopw [7, 5] (fun iv v wr => ∃ i : Nat, i ≤ n ∧ iv = .int .i64 i ∧ Hid (Acc encV 48 wr 0 w1.heap.size v ((List.range i).map (fstOf 6))) ∧ Hid (Below w1.heap.size w1 wr)) (fun iv _ _ => n - (intOf iv).toNat)
  case atStart => exact ⟨0, Nat.zero_le _, rfl, Lib.hid (Acc.nil _ _ _ _ _), Lib.hid (Below.refl _ _)⟩
  case round =>
    obtain ⟨i, hin, rfl, HA, HBL⟩ := hrel
    obtain ⟨ao, cp, hvf⟩ := HA.out.form
    rw [List.length_map, List.length_range] at hvf
    subst hvf
    by_cases hlt : i < n
    · have hki : (i : Int) < (n : Int) := by omega
      have hk0 : (0 : Int) ≤ (i : Int) := by omega
      obtain ⟨s, hs⟩ : ∃ s, strB (letL (i + 1)) = s := ⟨_, rfl⟩
      obtain ⟨b, off, rfl, hb, hc⟩ := lst_at HLS.out rfl (i := i) (a := s) (by rw [List.getElem?_map, List.getElem?_range hlt]; simp; exact hs)
      rw [← HBL.out.cell (p := ⟨b, _, none⟩) hb] at hc
      have HSS := Lib.hid hs
      clear hs hb
      obtain ⟨L, hL⟩ : ∃ L, ((letL (i + 1)).map fun c => V.mk 3 0 (cellB c) []) = L := ⟨_, rfl⟩
      obtain ⟨NL, hNL⟩ : ∃ NL, L.length = NL := ⟨_, rfl⟩
      have HLL := Lib.hid (And.intro hL hNL)
      clear hL hNL
      have HF := Lib.hid (fun w' => (show Calls Tryd.prog 53 #[.string s] w' fun e w9 => (∃ oz cz, e = .returned (.agg #[.int .i64 6, .int .i64 0, .string ⟨#[]⟩, .slice oz NL cz]) ∧ RepS w9 (fun b => w'.heap.size ≤ b ∧ b < w9.heap.size) (.slice oz NL cz) L) ∧ Below w'.heap.size w' w9 from by rw [← HSS.out]; exact (rtexts_any (letL (i + 1)) (by have := (letL_le (i := i) (by omega)).2; omega) letL_mem w').mono fun e w9 ⟨⟨sl, h1, h2⟩, h3⟩ => by rw [HLL.out.1] at h2; obtain ⟨oz, cz, hz, _⟩ := h2.form; rw [HLL.out.2] at hz; subst hz; exact ⟨⟨oz, cz, h1, h2⟩, h3⟩))
      have HKN := Lib.hid (show i + 1 ≤ n from hlt)
      have HWZ := Lib.hid HBL.out.size
      have HEQ := Lib.hid (show fstOf 6 i = V.mk 6 0 ⟨#[]⟩ L from by rw [← HLL.out.1]; rfl)
      clear hlt
      go_wp2_with (first | (go_at_call 53; refine (HF.out _).mono ?_; rintro e w2 ⟨⟨oz, cz, rfl, hrp⟩, hb2⟩; have HRP := Lib.hid (show RepS w2 (fun b => wr.heap.size ≤ b ∧ b < w2.heap.size) (.slice oz NL cz) L from hrp); clear hrp; have HB2 := Lib.hid hb2; have HA2 := Lib.hid (HA.out.later hb2); clear hb2) | (at_builtin; refine Acc.append (E := encV) (e := 48) Tryd.underlying33 hi hz0 hz1 hz2 rfl (by decide) (by rfl) _ _ (by rfl) 0 w1.heap.size (.slice ao i cp) ((List.range i).map (fstOf 6)) (by rfl) (HA2.out.later (below1 _ _)) ⟨w2.heap.size, 0, none⟩ 1 (V.mk 6 0 ⟨#[]⟩ L) (Value.slice oz NL cz) (by rfl) rfl (fun j u hu => new_cells w2 (V.cs (V.mk 6 0 ⟨#[]⟩ L, (Value.slice oz NL cz))) _ j u hu) (HRP.out.keep (fun b hb => ⟨.inr (by have := hb.1; have := HWZ.out; omega), by have := hb.2; simp; omega, fun e => by have := (HA.out.lt b e).2; have := hb.1; omega⟩) (fun b hb => (below1 w2 _).block b hb.2)) (by rw [List.length_map, List.length_range]; omega) (by have := HB2.out.size; have := HWZ.out; simp; omega) ?_; intro v3 w3 hA3 hg3; obtain ⟨o3, c3, hvf3⟩ := hA3.form; rw [List.length_append, List.length_map, List.length_range, List.length_singleton] at hvf3; subst hvf3; have HG3 := Lib.hid (And.intro hA3 hg3); clear hA3 hg3))
      go_roundw
      case rel =>
        refine ⟨i + 1, HKN.out, by go_num, Lib.hid ?_, Lib.hid (((HBL.out.trans (HB2.out.mono HWZ.out)).alloc (by have := HB2.out.size; have := HWZ.out; omega) _).grown HG3.out.2 (by have := HB2.out.size; have := HWZ.out; simp; omega) (fun q hq => (HA.out.lt q hq).1))⟩
        rw [range_snoc, HEQ.out]
        exact HG3.out.1
      case measure => have := HKN.out; simp [intOf]; omega
    · have hkN : i = n := by omega
      subst hkN
      go_wp2_with fail
      go_ret
      refine ⟨⟨_, rfl, (HA.out.values (by rw [List.length_map, List.length_range]; omega)).keep (fun b hb => ⟨?_, hb.2⟩) (fun _ _ => rfl)⟩, HB1.out.trans (HBL.out.mono HB1.out.size)⟩
      have h1 := hb.1
      have h2 := HB1.out.size
      omega

set_option maxRecDepth 100000 in
set_option maxHeartbeats 3200000 in
theorem rfst7 (n : Nat) (hn : n ≤ 64) : RFst 7 n := by
  intro w
  rw [axOf_eq n 7 (by decide)]
  have HWD := Lib.hid (words_any n (by omega) false w)
  obtain ⟨i0, hi, hz0, hz1, hz2⟩ := info_parts infoValue
  have hn0 : (n : Int) ≤ 64 := by omega
  go_enter Tryd.func31, Tryd.ntmps31
  go_wp2_with fail
  refine HWD.out.mono ?_
  clear HWD
  rintro e w1 ⟨⟨sl, rfl, hls⟩, hb1⟩
  obtain ⟨ol, cl, hsl, _⟩ := id hls
  rw [List.length_map, List.length_range] at hsl
  subst hsl
  have HLS := Lib.hid hls
  have HB1 := Lib.hid hb1
  clear hls hb1
  go_wp2_with fail
  go_loopw [7, 5] (fun iv v wr => ∃ i : Nat, i ≤ n ∧ iv = .int .i64 i ∧ Hid (Acc encV 48 wr 0 w1.heap.size v ((List.range i).map (fstOf 7))) ∧ Hid (Below w1.heap.size w1 wr)) (fun iv _ _ => n - (intOf iv).toNat)
  case atStart => exact ⟨0, Nat.zero_le _, rfl, Lib.hid (Acc.nil _ _ _ _ _), Lib.hid (Below.refl _ _)⟩
  case round =>
    obtain ⟨i, hin, rfl, HA, HBL⟩ := hrel
    obtain ⟨ao, cp, hvf⟩ := HA.out.form
    rw [List.length_map, List.length_range] at hvf
    subst hvf
    by_cases hlt : i < n
    · have hki : (i : Int) < (n : Int) := by omega
      have hk0 : (0 : Int) ≤ (i : Int) := by omega
      obtain ⟨s, hs⟩ : ∃ s, strB (letL (i + 1)) = s := ⟨_, rfl⟩
      obtain ⟨b, off, rfl, hb, hc⟩ := lst_at HLS.out rfl (i := i) (a := s) (by rw [List.getElem?_map, List.getElem?_range hlt]; simp; exact hs)
      rw [← HBL.out.cell (p := ⟨b, _, none⟩) hb] at hc
      have HSS := Lib.hid hs
      clear hs hb
      obtain ⟨L, hL⟩ : ∃ L, ((letL (i + 1)).map fun c => V.mk 6 0 ⟨#[]⟩ [V.mk 3 0 (cellB c) []]) = L := ⟨_, rfl⟩
      obtain ⟨NL, hNL⟩ : ∃ NL, L.length = NL := ⟨_, rfl⟩
      have HLL := Lib.hid (And.intro hL hNL)
      clear hL hNL
      have HF := Lib.hid (fun w' => (show Calls Tryd.prog 54 #[.string s] w' fun e w9 => (∃ oz cz, e = .returned (.agg #[.int .i64 7, .int .i64 0, .string ⟨#[]⟩, .slice oz NL cz]) ∧ RepS w9 (fun b => w'.heap.size ≤ b ∧ b < w9.heap.size) (.slice oz NL cz) L) ∧ Below w'.heap.size w' w9 from by rw [← HSS.out]; exact (rtable_any (letL (i + 1)) (by have := (letL_le (i := i) (by omega)).2; omega) letL_mem w').mono fun e w9 ⟨⟨sl, h1, h2⟩, h3⟩ => by rw [HLL.out.1] at h2; obtain ⟨oz, cz, hz, _⟩ := h2.form; rw [HLL.out.2] at hz; subst hz; exact ⟨⟨oz, cz, h1, h2⟩, h3⟩))
      have HKN := Lib.hid (show i + 1 ≤ n from hlt)
      have HWZ := Lib.hid HBL.out.size
      have HEQ := Lib.hid (show fstOf 7 i = V.mk 7 0 ⟨#[]⟩ L from by rw [← HLL.out.1]; rfl)
      clear hlt
      go_wp2_with (first | (go_at_call 54; refine (HF.out _).mono ?_; rintro e w2 ⟨⟨oz, cz, rfl, hrp⟩, hb2⟩; have HRP := Lib.hid (show RepS w2 (fun b => wr.heap.size ≤ b ∧ b < w2.heap.size) (.slice oz NL cz) L from hrp); clear hrp; have HB2 := Lib.hid hb2; have HA2 := Lib.hid (HA.out.later hb2); clear hb2) | (at_builtin; refine Acc.append (E := encV) (e := 48) Tryd.underlying33 hi hz0 hz1 hz2 rfl (by decide) (by rfl) _ _ (by rfl) 0 w1.heap.size (.slice ao i cp) ((List.range i).map (fstOf 7)) (by rfl) (HA2.out.later (below1 _ _)) ⟨w2.heap.size, 0, none⟩ 1 (V.mk 7 0 ⟨#[]⟩ L) (Value.slice oz NL cz) (by rfl) rfl (fun j u hu => new_cells w2 (V.cs (V.mk 7 0 ⟨#[]⟩ L, (Value.slice oz NL cz))) _ j u hu) (HRP.out.keep (fun b hb => ⟨.inr (by have := hb.1; have := HWZ.out; omega), by have := hb.2; simp; omega, fun e => by have := (HA.out.lt b e).2; have := hb.1; omega⟩) (fun b hb => (below1 w2 _).block b hb.2)) (by rw [List.length_map, List.length_range]; omega) (by have := HB2.out.size; have := HWZ.out; simp; omega) ?_; intro v3 w3 hA3 hg3; obtain ⟨o3, c3, hvf3⟩ := hA3.form; rw [List.length_append, List.length_map, List.length_range, List.length_singleton] at hvf3; subst hvf3; have HG3 := Lib.hid (And.intro hA3 hg3); clear hA3 hg3))
      go_roundw
      case rel =>
        refine ⟨i + 1, HKN.out, by go_num, Lib.hid ?_, Lib.hid (((HBL.out.trans (HB2.out.mono HWZ.out)).alloc (by have := HB2.out.size; have := HWZ.out; omega) _).grown HG3.out.2 (by have := HB2.out.size; have := HWZ.out; simp; omega) (fun q hq => (HA.out.lt q hq).1))⟩
        rw [range_snoc, HEQ.out]
        exact HG3.out.1
      case measure => have := HKN.out; simp [intOf]; omega
    · have hkN : i = n := by omega
      subst hkN
      go_wp2_with fail
      go_ret
      refine ⟨⟨_, rfl, (HA.out.values (by rw [List.length_map, List.length_range]; omega)).keep (fun b hb => ⟨?_, hb.2⟩) (fun _ _ => rfl)⟩, HB1.out.trans (HBL.out.mono HB1.out.size)⟩
      have h1 := hb.1
      have h2 := HB1.out.size
      omega

set_option maxRecDepth 100000 in
set_option maxHeartbeats 3200000 in
theorem rfst4 (n : Nat) (hn : n ≤ 64) : RFst 4 n := by
  intro w
  rw [axOf_eq n 4 (by decide)]
  have HWD := Lib.hid (words_any n (by omega) false w)
  obtain ⟨i0, hi, hz0, hz1, hz2⟩ := info_parts infoValue
  have hn0 : (n : Int) ≤ 64 := by omega
  go_enter Tryd.func31, Tryd.ntmps31
  go_wp2_with fail
  refine HWD.out.mono ?_
  clear HWD
  rintro e w1 ⟨⟨sl, rfl, hls⟩, hb1⟩
  obtain ⟨ol, cl, hsl, _⟩ := id hls
  rw [List.length_map, List.length_range] at hsl
  subst hsl
  have HLS := Lib.hid hls
  have HB1 := Lib.hid hb1
  clear hls hb1
  go_wp2_with fail
  go_loopw [7, 5] (fun iv v wr => ∃ i : Nat, i ≤ n ∧ iv = .int .i64 i ∧ Hid (Acc encV 48 wr 0 w1.heap.size v ((List.range i).map (fstOf 4))) ∧ Hid (Below w1.heap.size w1 wr)) (fun iv _ _ => n - (intOf iv).toNat)
  case atStart => exact ⟨0, Nat.zero_le _, rfl, Lib.hid (Acc.nil _ _ _ _ _), Lib.hid (Below.refl _ _)⟩
  case round =>
    obtain ⟨i, hin, rfl, HA, HBL⟩ := hrel
    obtain ⟨ao, cp, hvf⟩ := HA.out.form
    rw [List.length_map, List.length_range] at hvf
    subst hvf
    by_cases hlt : i < n
    · have hki : (i : Int) < (n : Int) := by omega
      have hk0 : (0 : Int) ≤ (i : Int) := by omega
      have HF := Lib.hid (fun w' => refOfBits_any (i : Int) w')
      have HKN := Lib.hid (show i + 1 ≤ n from hlt)
      have HWZ := Lib.hid HBL.out.size
      have HEQ := Lib.hid (show fstOf 4 i = V.mk 4 (i : Int) ⟨#[]⟩ [] from rfl)
      clear hlt
      go_wp2_with (first | (go_at_call 49; refine (HF.out _).mono ?_; rintro e w2 ⟨rfl, hb2⟩; have HB2 := Lib.hid hb2; have HA2 := Lib.hid (HA.out.later hb2); clear hb2) | (at_builtin; refine Acc.append (E := encV) (e := 48) Tryd.underlying33 hi hz0 hz1 hz2 rfl (by decide) (by rfl) _ _ (by rfl) 0 w1.heap.size (.slice ao i cp) ((List.range i).map (fstOf 4)) (by rfl) (HA2.out.later (below1 _ _)) ⟨w2.heap.size, 0, none⟩ 1 (V.mk 4 (i : Int) ⟨#[]⟩ []) (Value.slice none 0 0) (by rfl) rfl (fun j u hu => new_cells w2 (V.cs (V.mk 4 (i : Int) ⟨#[]⟩ [], (Value.slice none 0 0))) _ j u hu) RepS.nil (by rw [List.length_map, List.length_range]; omega) (by have := HB2.out.size; have := HWZ.out; simp; omega) ?_; intro v3 w3 hA3 hg3; obtain ⟨o3, c3, hvf3⟩ := hA3.form; rw [List.length_append, List.length_map, List.length_range, List.length_singleton] at hvf3; subst hvf3; have HG3 := Lib.hid (And.intro hA3 hg3); clear hA3 hg3))
      go_roundw
      case rel =>
        refine ⟨i + 1, HKN.out, by go_num, Lib.hid ?_, Lib.hid (((HBL.out.trans (HB2.out.mono HWZ.out)).alloc (by have := HB2.out.size; have := HWZ.out; omega) _).grown HG3.out.2 (by have := HB2.out.size; have := HWZ.out; simp; omega) (fun q hq => (HA.out.lt q hq).1))⟩
        rw [range_snoc, HEQ.out]
        exact HG3.out.1
      case measure => have := HKN.out; simp [intOf]; omega
    · have hkN : i = n := by omega
      subst hkN
      go_wp2_with fail
      go_ret
      refine ⟨⟨_, rfl, (HA.out.values (by rw [List.length_map, List.length_range]; omega)).keep (fun b hb => ⟨?_, hb.2⟩) (fun _ _ => rfl)⟩, HB1.out.trans (HBL.out.mono HB1.out.size)⟩
      have h1 := hb.1
      have h2 := HB1.out.size
      omega

set_option maxRecDepth 100000 in
set_option maxHeartbeats 3200000 in
theorem rfst2 (n : Nat) (hn : n ≤ 64) : RFst 2 n := by
  intro w
  rw [axOf_eq n 2 (by decide)]
  have HWD := Lib.hid (words_any n (by omega) false w)
  obtain ⟨i0, hi, hz0, hz1, hz2⟩ := info_parts infoValue
  have hn0 : (n : Int) ≤ 64 := by omega
  go_enter Tryd.func31, Tryd.ntmps31
  go_wp2_with fail
  refine HWD.out.mono ?_
  clear HWD
  rintro e w1 ⟨⟨sl, rfl, hls⟩, hb1⟩
  obtain ⟨ol, cl, hsl, _⟩ := id hls
  rw [List.length_map, List.length_range] at hsl
  subst hsl
  have HLS := Lib.hid hls
  have HB1 := Lib.hid hb1
  clear hls hb1
  go_wp2_with fail
  go_loopw [7, 5] (fun iv v wr => ∃ i : Nat, i ≤ n ∧ iv = .int .i64 i ∧ Hid (Acc encV 48 wr 0 w1.heap.size v ((List.range i).map (fstOf 2))) ∧ Hid (Below w1.heap.size w1 wr)) (fun iv _ _ => n - (intOf iv).toNat)
  case atStart => exact ⟨0, Nat.zero_le _, rfl, Lib.hid (Acc.nil _ _ _ _ _), Lib.hid (Below.refl _ _)⟩
  case round =>
    obtain ⟨i, hin, rfl, HA, HBL⟩ := hrel
    obtain ⟨ao, cp, hvf⟩ := HA.out.form
    rw [List.length_map, List.length_range] at hvf
    subst hvf
    by_cases hlt : i < n
    · have hki : (i : Int) < (n : Int) := by omega
      have hk0 : (0 : Int) ≤ (i : Int) := by omega
      obtain ⟨r, hr⟩ : ∃ r, i % 2 = r := ⟨_, rfl⟩
      obtain ⟨q, hq⟩ : ∃ q, (i + 1) / 2 = q := ⟨_, rfl⟩
      have hrem : Int.tmod (i : Int) 2 = (r : Int) := by rw [← hr]; rfl
      have hquo : ((i : Int) + 1) / 2 = (q : Int) := by rw [← hq]; omega
      have hr2 : r < 2 := by omega
      have hq2 : q ≤ 40 := by omega
      obtain ⟨z, hz⟩ : ∃ z, altI i = z := ⟨_, rfl⟩
      have hzz : wrap64 ((q : Int) * (2 * (r : Int) - 1)) = z := by
        have h01 : r = 0 ∨ r = 1 := by omega
        rcases h01 with h0 | h0
        · have e : altI i = -((i / 2 : Nat) : Int) := if_pos (by omega)
          subst h0
          rw [← hz, e, show (q : Int) * (2 * ((0 : Nat) : Int) - 1) = -(q : Int) by omega, show i / 2 = q by omega]
          exact IntWalk.wrap64_in _ (by omega)
        · have e : altI i = (((i + 1) / 2 : Nat) : Int) := if_neg (by omega)
          subst h0
          rw [← hz, e, show (q : Int) * (2 * ((1 : Nat) : Int) - 1) = (q : Int) by omega, hq]
          exact IntWalk.wrap64_in _ (by omega)
      have HZZ := Lib.hid hz
      have HRQ := Lib.hid (And.intro hr hq)
      clear hr hq hz
      have HF := Lib.hid (fun w' => (show Calls Tryd.prog 48 #[.int .i64 z] w' fun e w9 => e = .returned (.agg #[.int .i64 2, .int .i64 z, .string ⟨#[]⟩, .slice none 0 0]) ∧ Below w'.heap.size w' w9 from (refOfInt_any z w').mono fun e w9 ⟨h1, h2⟩ => ⟨h1, by rw [h2]; exact below1 _ _⟩))
      have HKN := Lib.hid (show i + 1 ≤ n from hlt)
      have HWZ := Lib.hid HBL.out.size
      have HEQ := Lib.hid (show fstOf 2 i = V.mk 2 z ⟨#[]⟩ [] from by rw [← HZZ.out]; rfl)
      clear hlt
      go_wp2_with (first | (go_at_call 48; refine (HF.out _).mono ?_; rintro e w2 ⟨rfl, hb2⟩; have HB2 := Lib.hid hb2; have HA2 := Lib.hid (HA.out.later hb2); clear hb2) | (at_builtin; refine Acc.append (E := encV) (e := 48) Tryd.underlying33 hi hz0 hz1 hz2 rfl (by decide) (by rfl) _ _ (by rfl) 0 w1.heap.size (.slice ao i cp) ((List.range i).map (fstOf 2)) (by rfl) (HA2.out.later (below1 _ _)) ⟨w2.heap.size, 0, none⟩ 1 (V.mk 2 z ⟨#[]⟩ []) (Value.slice none 0 0) (by rfl) rfl (fun j u hu => new_cells w2 (V.cs (V.mk 2 z ⟨#[]⟩ [], (Value.slice none 0 0))) _ j u hu) RepS.nil (by rw [List.length_map, List.length_range]; omega) (by have := HB2.out.size; have := HWZ.out; simp; omega) ?_; intro v3 w3 hA3 hg3; obtain ⟨o3, c3, hvf3⟩ := hA3.form; rw [List.length_append, List.length_map, List.length_range, List.length_singleton] at hvf3; subst hvf3; have HG3 := Lib.hid (And.intro hA3 hg3); clear hA3 hg3))
      go_roundw
      case rel =>
        refine ⟨i + 1, HKN.out, by go_num, Lib.hid ?_, Lib.hid (((HBL.out.trans (HB2.out.mono HWZ.out)).alloc (by have := HB2.out.size; have := HWZ.out; omega) _).grown HG3.out.2 (by have := HB2.out.size; have := HWZ.out; simp; omega) (fun q hq => (HA.out.lt q hq).1))⟩
        rw [range_snoc, HEQ.out]
        exact HG3.out.1
      case measure => have := HKN.out; simp [intOf]; omega
    · have hkN : i = n := by omega
      subst hkN
      go_wp2_with fail
      go_ret
      refine ⟨⟨_, rfl, (HA.out.values (by rw [List.length_map, List.length_range]; omega)).keep (fun b hb => ⟨?_, hb.2⟩) (fun _ _ => rfl)⟩, HB1.out.trans (HBL.out.mono HB1.out.size)⟩
      have h1 := hb.1
      have h2 := HB1.out.size
      omega

set_option maxRecDepth 100000 in
set_option maxHeartbeats 3200000 in
theorem rfst1 (n : Nat) (hn : n ≤ 64) : RFst 1 n := by
  intro w
  rw [show axOf n 1 = (List.range (min n 2)).map (fstOf 1) from rfl]
  have HWD := Lib.hid (words_any n (by omega) false w)
  obtain ⟨i0, hi, hz0, hz1, hz2⟩ := info_parts infoValue
  have hn0 : (n : Int) ≤ 64 := by omega
  go_enter Tryd.func31, Tryd.ntmps31
  go_wp2_with fail
  refine HWD.out.mono ?_
  clear HWD
  rintro e w1 ⟨⟨sl, rfl, hls⟩, hb1⟩
  obtain ⟨ol, cl, hsl, _⟩ := id hls
  rw [List.length_map, List.length_range] at hsl
  subst hsl
  have HB1 := Lib.hid hb1
  clear hls hb1
  go_wp2_with fail
  go_loopw [7, 5] (fun iv v wr => ∃ (i m : Nat), i ≤ n ∧ iv = .int .i64 i ∧ Hid (m = min i 2) ∧ Hid (Acc encV 48 wr 0 w1.heap.size v ((List.range m).map (fstOf 1))) ∧ Hid (Below w1.heap.size w1 wr)) (fun iv _ _ => n - (intOf iv).toNat)
  case atStart => exact ⟨0, 0, Nat.zero_le _, rfl, Lib.hid rfl, Lib.hid (Acc.nil _ _ _ _ _), Lib.hid (Below.refl _ _)⟩
  case round =>
    obtain ⟨i, m, hin, rfl, HM, HA, HBL⟩ := hrel
    obtain ⟨ao, cp, hvf⟩ := HA.out.form
    rw [List.length_map, List.length_range] at hvf
    subst hvf
    by_cases hlt : i < n
    · have hki : (i : Int) < (n : Int) := by omega
      have hk0 : (0 : Int) ≤ (i : Int) := by omega
      have HKN := Lib.hid (show i + 1 ≤ n from hlt)
      have HWZ := Lib.hid HBL.out.size
      by_cases h2 : (i : Int) < 2
      · have hmi : m = i := by have := HM.out; omega
        subst hmi
        obtain ⟨b, hb⟩ : ∃ b : Bool, ((m : Int) == 1) = b := ⟨_, rfl⟩
        obtain ⟨z, hz⟩ : ∃ z : Int, (if b = true then (1 : Int) else 0) = z := ⟨_, rfl⟩
        have HF := Lib.hid (fun w' => (show Calls Tryd.prog 47 #[.bool b] w' fun e w9 => e = .returned (.agg #[.int .i64 1, .int .i64 z, .string ⟨#[]⟩, .slice none 0 0]) ∧ Below w'.heap.size w' w9 from by rw [← hz]; exact refOfBool_any b w'))
        have HEQ := Lib.hid (show fstOf 1 m = V.mk 1 z ⟨#[]⟩ [] from by
          rw [← hz, ← hb]
          have h01 : m = 0 ∨ m = 1 := by omega
          rcases h01 with rfl | rfl <;> rfl)
        have HM2 := Lib.hid (show m + 1 = min (m + 1) 2 from by omega)
        have hmi2 : (m : Int) ≤ 2 := by omega
        clear hlt hz
        go_wp2_with (first | (go_at_call 47; refine (HF.out _).mono ?_; rintro e w2 ⟨rfl, hb2⟩; have HB2 := Lib.hid hb2; have HA2 := Lib.hid (HA.out.later hb2); clear hb2) | (at_builtin; refine Acc.append (E := encV) (e := 48) Tryd.underlying33 hi hz0 hz1 hz2 rfl (by decide) (by rfl) _ _ (by rfl) 0 w1.heap.size (.slice ao m cp) ((List.range m).map (fstOf 1)) (by rfl) (HA2.out.later (below1 _ _)) ⟨w2.heap.size, 0, none⟩ 1 (V.mk 1 z ⟨#[]⟩ []) (Value.slice none 0 0) (by rfl) rfl (fun j u hu => new_cells w2 (V.cs (V.mk 1 z ⟨#[]⟩ [], (Value.slice none 0 0))) _ j u hu) RepS.nil (by rw [List.length_map, List.length_range]; omega) (by have := HB2.out.size; have := HWZ.out; simp; omega) ?_; intro v3 w3 hA3 hg3; obtain ⟨o3, c3, hvf3⟩ := hA3.form; rw [List.length_append, List.length_map, List.length_range, List.length_singleton] at hvf3; subst hvf3; have HG3 := Lib.hid (And.intro hA3 hg3); clear hA3 hg3))
        go_roundw
        case rel =>
          refine ⟨m + 1, m + 1, HKN.out, by go_num, HM2, Lib.hid ?_, Lib.hid (((HBL.out.trans (HB2.out.mono HWZ.out)).alloc (by have := HB2.out.size; have := HWZ.out; omega) _).grown HG3.out.2 (by have := HB2.out.size; have := HWZ.out; simp; omega) (fun q hq => (HA.out.lt q hq).1))⟩
          rw [range_snoc, HEQ.out]
          exact HG3.out.1
        case measure => have := HKN.out; simp [intOf]; omega
      · have HM2 := Lib.hid (show m = min (i + 1) 2 from by have := HM.out; omega)
        clear hlt
        go_wp2_with fail
        go_roundw
        case rel => exact ⟨i + 1, m, HKN.out, by go_num, HM2, HA, HBL⟩
        case measure => have := HKN.out; simp [intOf]; omega
    · have hkN : i = n := by omega
      subst hkN
      have HM2 := Lib.hid HM.out
      go_wp2_with fail
      go_ret
      rw [← HM2.out]
      refine ⟨⟨_, rfl, (HA.out.values (by rw [List.length_map, List.length_range]; have := HM2.out; omega)).keep (fun b hb => ⟨?_, hb.2⟩) (fun _ _ => rfl)⟩, HB1.out.trans (HBL.out.mono HB1.out.size)⟩
      have h1 := hb.1
      have h2 := HB1.out.size
      omega

end Go.Proofs.YthnlkijkgnmbhaaDoor
