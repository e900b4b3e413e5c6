/-
  The walk of PositionParts. Nothing is assumed.
-/
import Derived.Test.YtbogiigdadljpaaDoorPtAlive
namespace Go.Proofs.YtbogiigdadljpaaDoor
open Go.RowKit Go.Shelf

/-- The sum of the lengths of matches. -/
def sumM : List (Nat × Nat) → Nat
  | [] => 0
  | x :: r => (x.2 - x.1) + sumM r
theorem sumM_snoc (x : Nat × Nat) : ∀ l : List (Nat × Nat), sumM (l ++ [x]) = sumM l + (x.2 - x.1)
  | [] => by simp [sumM]
  | y :: r => by simp [sumM, sumM_snoc x r]; omega
theorem sumM_take : ∀ (l : List (Nat × Nat)) (k : Nat), sumM (l.take k) ≤ sumM l
  | [], k => by simp [sumM]
  | x :: r, 0 => Nat.zero_le _
  | x :: r, k + 1 => by have := sumM_take r k; show (x.2 - x.1) + sumM (r.take k) ≤ (x.2 - x.1) + sumM r; omega
theorem matS_len (p s : ByteArray) : (matS p s).length ≤ s.size + 1 := by
  have h : ∀ t : PT, (matT t s.data.toList).length ≤ s.size + 1 := fun t => by
    rw [← matT_eq]
    exact matL_len _ _ _ _ _
  unfold matS
  split
  · exact Nat.zero_le _
  · split
    · exact Nat.zero_le _
    · exact h _
theorem outE_sum (s : ByteArray) : ∀ (l : List (Nat × Nat)) (a : Nat), InOrd s.size a l → (outE s a l).length + sumM l + a = endE a l
  | [], a, _ => by simp [outE, endE, sumM]
  | x :: r, a, h => by
    have h1 := outE_sum s r x.2 h.2.2.2
    have h2 : (s.extract a x.1).size = x.1 - a := by
      rw [ByteArray.size_extract, Nat.min_eq_left (by have := h.2.1; have := h.2.2.1; omega)]
    have h3 : (s.extract a x.1).data.toList.length = x.1 - a := by rw [← h2]; exact Array.length_toList
    show ((s.extract a x.1).data.toList ++ outE s x.2 r).length + ((x.2 - x.1) + sumM r) + a = endE x.2 r
    rw [List.length_append, h3]
    have := h.1
    have := h.2.1
    omega
theorem era_len (p s : ByteArray) : (eraS p s).length + sumM (matS p s) = s.size := by
  have ho := matS_ord p s
  have h1 := outE_sum s (matS p s) 0 ho
  have h2 := (outE_len s (matS p s) 0 ho).2 (Nat.zero_le _)
  have h3 : (s.extract (endE 0 (matS p s)) s.size).data.toList.length = s.size - endE 0 (matS p s) := by
    have : (s.extract (endE 0 (matS p s)) s.size).size = s.size - endE 0 (matS p s) := by rw [ByteArray.size_extract, Nat.min_self]
    rw [← this]; exact Array.length_toList
  unfold eraS
  rw [List.length_append, h3]
  omega
theorem era_none (p s : ByteArray) (h : matS p s = []) : str (eraS p s) = s := by
  unfold eraS
  rw [h]
  show (⟨([] ++ (s.extract 0 s.size).data.toList).toArray⟩ : ByteArray) = s
  simp

theorem erase_any (p s : ByteArray) (w : World) (hA : AL w) (hs : s.size ≤ 1000) :
    Calls Tryd.prog 20 #[.string p, .string s] w fun e w' =>
      ((errP p ≠ 0 ∧ e = .returned (.tuple #[.string ⟨#[]⟩, .int .i64 (errP p)])) ∨ (errP p = 0 ∧ e = .returned (.tuple #[.string (str (eraS p s)), .int .i64 0]))) ∧ Below w.heap.size w w' := callsIn_wide.1 (erase_in 10 (Nat.le_refl _) p s w hA hs)

set_option maxRecDepth 100000 in
set_option maxHeartbeats 3200000 in
theorem law_parts (p s : ByteArray) (w : World) (hA : AL w) : Calls Tryd.prog 8 #[.string p, .string s] w fun e w' => e = .returned (.bool true) ∧ Below w.heap.size w w' := by
  by_cases hbig : 80 < s.size
  · have HA := Lib.hid (alive_any w hA)
    have hbI : (80 : Int) < (s.size : Int) := by omega
    go_enter Tryd.func8, Tryd.ntmps8
    go_wp2_with fail
    refine HA.out.mono ?_
    rintro e w1 ⟨rfl, hb⟩
    go_wp2_with fail
    go_ret
    exact ⟨rfl, hb⟩
  have hs : s.size ≤ 80 := by omega
  have hsI : (s.size : Int) ≤ 80 := by omega
  have HM := Lib.hid (matches_all p s w hA (by omega))
  go_enter Tryd.func8, Tryd.ntmps8
  go_wp2_with fail
  refine HM.out.mono ?_
  rintro e w1 ⟨⟨hne, rfl⟩ | ⟨h0, vv, rfl, hr⟩, hb1⟩
  · have hA1 := hA.later hb1
    have HE := Lib.hid (erase_any p s w1 hA1 (by omega))
    have HB1 := Lib.hid hb1
    clear HM hb1
    go_wp2_with fail
    refine HE.out.mono ?_
    rintro e w2 ⟨⟨_, rfl⟩ | ⟨h0, _⟩, hb2⟩
    · have HA2 := Lib.hid (alive_any w2 (hA1.later hb2))
      have HB2 := Lib.hid hb2
      clear hA hA1 HE hb2
      go_wp2_with fail
      refine HA2.out.mono ?_
      rintro e w3 ⟨rfl, hb3⟩
      go_wp2_with fail
      go_ret
      exact ⟨rfl, (HB1.out.trans (HB2.out.mono HB1.out.size)).trans (hb3.mono (Nat.le_trans HB1.out.size HB2.out.size))⟩
    · exact absurd h0 hne
  · have hA1 := hA.later hb1
    have hm := MRow.reads hr
    have HE := Lib.hid (erase_any p s w1 hA1 (by omega))
    have HB1 := Lib.hid hb1
    obtain ⟨oa, cap, rfl, _⟩ := id hm
    clear HM hb1 hr
    go_wp2_with fail
    refine HE.out.mono ?_
    rintro e w2 ⟨⟨hne, _⟩ | ⟨_, rfl⟩, hb2⟩
    · exact absurd h0 hne
    · have HM2 := Lib.hid (hm.later hb2)
      have hA2 := hA1.later hb2
      have HB2 := Lib.hid hb2
      clear hA hA1 HE hb2 hm
      have hel := era_len p s
      have hsz : (str (eraS p s)).size = (eraS p s).length := by show (eraS p s).toArray.size = _; simp
      have HEL := Lib.hid hel
      clear hel
      go_wp2_with fail
      go_loopw [9, 44] (fun v9 v wr => ∃ i N : Nat, v9 = .int .i64 (N : Int) ∧ v = .int .i64 (i : Int) ∧ i ≤ (matS p s).length ∧ Hid (N = (eraS p s).length + sumM ((matS p s).take i)) ∧ N ≤ 80 ∧ Below w2.heap.size w2 wr) (fun _ v _ => (matS p s).length - (intOf v).toNat)
      case atStart => exact ⟨0, (eraS p s).length, rfl, rfl, Nat.zero_le _, Lib.hid rfl, by have := HEL.out; omega, Below.refl _ _⟩
      case round =>
        obtain ⟨i, N, rfl, rfl, hi, HN, hN8, hbr⟩ := hrel
        have hml := matS_len p s
        by_cases hlt : i < (matS p s).length
        · obtain ⟨x, hx⟩ : ∃ x, (matS p s)[i]? = some x := ⟨_, List.getElem?_eq_getElem hlt⟩
          have hmem := InOrd.mem (matS_ord p s) x (List.mem_of_getElem? hx)
          obtain ⟨oa', cap', e0, hel⟩ := HM2.out.later hbr
          obtain ⟨g, off, h1, c1, c2⟩ := hel i x hx
          cases e0
          subst h1
          clear hel
          have hiI : (i : Int) < ((matS p s).length : Int) := by omega
          have HN2 : Hid (N + (x.2 - x.1) = (eraS p s).length + sumM ((matS p s).take (i + 1))) := Lib.hid (by
            rw [HN.out, List.take_add_one, hx]
            show _ = _ + sumM (_ ++ [x])
            rw [sumM_snoc]; omega)
          have hle : N + (x.2 - x.1) ≤ 80 := by
            have h1 := HN2.out
            have h2 := HEL.out
            have h3 : sumM ((matS p s).take (i + 1)) ≤ sumM (matS p s) := sumM_take _ _
            omega
          obtain ⟨M, hM⟩ : ∃ M : Nat, M = N + (x.2 - x.1) := ⟨_, rfl⟩
          have hw1 : IntKind.i64.wrap ((x.2 : Int) - (x.1 : Int)) = (x.2 : Int) - (x.1 : Int) := IntWalk.i64_in _ (by omega)
          have hw2 : IntKind.i64.wrap ((N : Int) + ((x.2 : Int) - (x.1 : Int))) = (M : Int) := by rw [IntWalk.i64_in _ (by omega)]; omega
          rw [← hM] at HN2 hle
          clear hM HN
          go_wp2_with fail
          go_roundw
          case rel => exact ⟨i + 1, M, rfl, by go_num, hlt, HN2, hle, hbr.trans ((below1 _ _).mono hbr.size)⟩
          case measure => simp [intOf]; omega
        · have hge : ¬ ((i : Int) < ((matS p s).length : Int)) := by omega
          obtain rfl : i = (matS p s).length := by omega
          have HA3 := Lib.hid (alive_any wr (hA2.later hbr))
          have hNs : N = s.size := by
            have h1 := HN.out
            have h2 := HEL.out
            rw [List.take_length] at h1
            omega
          have HN3 := Lib.hid hNs
          have HBR := Lib.hid hbr
          clear HN HM2 hNs hbr
          by_cases hz : matS p s = []
          · have hts : str (eraS p s) = s := era_none p s hz
            have hl0 : (matS p s).length = 0 := by rw [hz]; rfl
            have HN4 : N = s.size := HN3.out
            rw [hts, hl0]
            subst HN4
            clear HN3 HEL hts
            go_wp2_with fail
            refine HA3.out.mono ?_
            rintro e w3 ⟨rfl, hb3⟩
            go_wp2_with fail
            go_ret
            exact ⟨rfl, ((HB1.out.trans (HB2.out.mono HB1.out.size)).trans (HBR.out.mono (Nat.le_trans HB1.out.size HB2.out.size))).trans (hb3.mono (Nat.le_trans HB1.out.size (Nat.le_trans HB2.out.size HBR.out.size)))⟩
          · have hl0 : 0 < (matS p s).length := List.length_pos_iff.2 hz
            have hl1 : (0 : Int) < ((matS p s).length : Int) := by omega
            have HN4 : N = s.size := HN3.out
            subst HN4
            clear HN3 HEL
            go_wp2_with fail
            refine HA3.out.mono ?_
            rintro e w3 ⟨rfl, hb3⟩
            go_wp2_with fail
            go_ret
            exact ⟨rfl, ((HB1.out.trans (HB2.out.mono HB1.out.size)).trans (HBR.out.mono (Nat.le_trans HB1.out.size HB2.out.size))).trans (hb3.mono (Nat.le_trans HB1.out.size (Nat.le_trans HB2.out.size HBR.out.size)))⟩
end Go.Proofs.YtbogiigdadljpaaDoor
