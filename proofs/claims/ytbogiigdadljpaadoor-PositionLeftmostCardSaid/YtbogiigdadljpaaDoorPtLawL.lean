/-
  The walk of PositionLeftmost. Nothing is assumed.
-/
import Derived.Test.YtbogiigdadljpaaDoorPtLawP
import Derived.Test.YtbogiigdadljpaaDoorPtAcc
namespace Go.Proofs.YtbogiigdadljpaaDoor
open Go.RowKit Go.Shelf

theorem extract_size (s : ByteArray) (i j : Nat) : (s.extract i j).size ≤ s.size := by
  rw [ByteArray.size_extract]; omega

set_option maxRecDepth 100000 in
set_option maxHeartbeats 6400000 in
theorem law_leftmost (p s : ByteArray) (w : World) (hA : AL w) : Calls Tryd.prog 6 #[.string p, .string s] w fun e w' => e = .returned (.bool true) ∧ Below w.heap.size w w' := by
  by_cases hbig : 40 < s.size
  · have HA := Lib.hid (alive_any w hA)
    have hbI : (40 : Int) < (s.size : Int) := by omega
    go_enter Tryd.func6, Tryd.ntmps6
    go_wp2_with fail
    refine HA.out.mono ?_
    rintro e w1 ⟨rfl, hb⟩
    go_wp2_with fail
    go_ret
    exact ⟨rfl, hb⟩
  have hs : s.size ≤ 40 := by omega
  have hsI : (s.size : Int) ≤ 40 := by omega
  have HM := Lib.hid (matches_all p s w hA (by omega))
  go_enter Tryd.func6, Tryd.ntmps6
  go_wp2_with fail
  refine HM.out.mono ?_
  rintro e w1 ⟨⟨hne, rfl⟩ | ⟨h0, vv, rfl, hr⟩, hb1⟩
  · have HA2 := Lib.hid (alive_any w1 (hA.later hb1))
    have HB1 := Lib.hid hb1
    clear HM hb1 hA
    go_wp2_with fail
    refine HA2.out.mono ?_
    rintro e w3 ⟨rfl, hb3⟩
    go_wp2_with fail
    go_ret
    exact ⟨rfl, HB1.out.trans (hb3.mono HB1.out.size)⟩
  · have hA1 := hA.later hb1
    have hm := MRow.reads hr
    have HB1 := Lib.hid hb1
    obtain ⟨oa, cap, rfl, _⟩ := id hm
    have HM2 := Lib.hid hm
    have hml := matS_len p s
    have H0 := Lib.hid h0
    have HMt : Hid (∀ (i j : Nat) (V : World), Below w1.heap.size w1 V → Calls Tryd.prog 22 #[.string p, .string (s.extract i j)] V fun e w' => e = .returned (.tuple #[.bool (accS p (s.extract i j)), .int .i64 0]) ∧ Below V.heap.size V w') :=
      Lib.hid (fun i j V hV => match_any p (s.extract i j) V (hA1.later hV) h0 (Nat.le_trans (extract_size s i j) (Nat.le_trans hs (by decide))))
    clear HM hb1 hr hm hA h0
    go_wp2_with fail
    go_loopw [7, 8] (fun v7 v8 wr => ∃ (k a : Nat), v7 = .int .i64 (a : Int) ∧ v8 = .int .i64 (k : Int) ∧ k ≤ (matS p s).length + 1 ∧ a ≤ s.size ∧ Hid (k ≤ (matS p s).length → LM (fun i j => accS p (s.extract i j)) s.size a ((matS p s).drop k) ∧ InOrd s.size a ((matS p s).drop k)) ∧ Hid (Below w1.heap.size w1 wr)) (fun _ v _ => (matS p s).length + 1 - (intOf v).toNat)
    case atStart => exact ⟨0, 0, rfl, rfl, Nat.zero_le _, Nat.zero_le _, Lib.hid (fun _ => ⟨matS_left H0.out s, matS_ord p s⟩), Lib.hid (Below.refl _ _)⟩
    case round =>
      obtain ⟨k, a, rfl, rfl, hk, ha, HL, HBO⟩ := hrel
      obtain ⟨wo, hwo⟩ : ∃ wo : World, wo = wr := ⟨_, rfl⟩
      subst hwo
      by_cases hkl : k ≤ (matS p s).length
      · have hklI : (k : Int) ≤ ((matS p s).length : Int) := by omega
        have hwk1 : IntKind.i64.wrap ((k : Int) + 1) = ((k + 1 : Nat) : Int) := by rw [IntWalk.i64_in _ (by omega)]; omega
        rcases Nat.lt_or_ge k (matS p s).length with hlt | hge
        · have hltI : (k : Int) < ((matS p s).length : Int) := by omega
          have hk0 : (0 : Int) ≤ (k : Int) := by omega
          obtain ⟨x, hx⟩ : ∃ x, (matS p s)[k]? = some x := ⟨_, List.getElem?_eq_getElem hlt⟩
          have hd : (matS p s).drop k = x :: (matS p s).drop (k + 1) := by
            rw [List.drop_eq_getElem_cons hlt]
            rw [List.getElem?_eq_getElem hlt] at hx
            rw [Option.some.inj hx]
          have hl := HL.out hkl
          rw [hd] at hl
          obtain ⟨⟨l1, l2, l3, l4⟩, o1, o2, o3, o4⟩ := hl
          have HA : Hid (∀ i j : Nat, a ≤ i → i ≤ x.1 → i < j → j ≤ s.size → accS p (s.extract i j) = true → i = x.1 ∧ j ≤ x.2) := Lib.hid (fun i j h1 h2 h3 h4 h5 => by
            rcases Nat.lt_or_ge i x.1 with h | h
            · rw [show accS p (s.extract i j) = false from l1 i j h1 h h3 h4] at h5; cases h5
            · obtain rfl : i = x.1 := by omega
              refine ⟨rfl, ?_⟩
              rcases Nat.lt_or_ge x.2 j with h | h
              · rw [show accS p (s.extract x.1 j) = false from l2 j h h4] at h5; cases h5
              · exact h)
          have HNX : Hid (k + 1 ≤ (matS p s).length → LM (fun i j => accS p (s.extract i j)) s.size x.2 ((matS p s).drop (k + 1)) ∧ InOrd s.size x.2 ((matS p s).drop (k + 1))) := Lib.hid (fun _ => ⟨l4, o4⟩)
          obtain ⟨oa', cap', e0, hel⟩ := HM2.out.later HBO.out
          obtain ⟨g, off, h1, c1, c2⟩ := hel k x hx
          cases e0
          subst h1
          have e1 : ∀ m, (wo.drewN m).cell? ⟨g, off + k * 2, none⟩ = some (.int .i64 (x.1 : Int)) := fun _ => c1
          have e2 : ∀ m, (wo.drewN m).cell? ⟨g, off + k * 2 + 1, none⟩ = some (.int .i64 (x.2 : Int)) := fun _ => c2
          have hn1 : ¬ ((x.1 : Int) < (a : Int)) := by omega
          have hn2 : ¬ ((x.2 : Int) ≤ (x.1 : Int)) := by omega
          have hn3 : ¬ ((s.size : Int) < (x.2 : Int)) := by omega
          have hx0 : (0 : Int) ≤ (x.1 : Int) := by omega
          have hx1 : (x.1 : Int) ≤ (x.2 : Int) := by omega
          have hx2 : (x.2 : Int) ≤ (s.size : Int) := by omega
          have HQ0 : Hid (∀ V : World, Below w1.heap.size w1 V → Calls Tryd.prog 22 #[.string p, .string (s.extract x.1 x.2)] V fun e w' => e = .returned (.tuple #[.bool true, .int .i64 0]) ∧ Below V.heap.size V w') := Lib.hid (fun V hV => by
            have h := HMt.out x.1 x.2 V hV
            have h3 : accS p (s.extract x.1 x.2) = true := l3
            rwa [h3] at h)
          clear hel l1 l2 l3 l4 o4 hd HL
          go_wp2_with fail
          go_quiet (fail)
          have HB2 := Lib.hid (HBO.out.trans ((below_drewN wo wo.heap.size nq).mono HBO.out.size))
          have HQ1 := Lib.hid (HQ0.out _ HB2.out)
          clear e1 e2 c1 c2
          go_wp2_with fail
          refine HQ1.out.mono ?_
          rintro e w3 ⟨rfl, hb3⟩
          have HBA := Lib.hid (HB2.out.trans (hb3.mono HB2.out.size))
          clear hb3 HQ1 HQ0
          go_wp2_with fail
          go_loopw [13] (fun v wi => ∃ i : Nat, v = .int .i64 (i : Int) ∧ a ≤ i ∧ i ≤ x.1 + 1 ∧ Hid (Below w1.heap.size w1 wi)) (fun v _ => x.1 + 1 - (intOf v).toNat)
          case atStart => exact ⟨a, rfl, Nat.le_refl _, by omega, HBA⟩
          case round =>
            obtain ⟨i, rfl, hai, hiF, HBI⟩ := hrel
            obtain ⟨wi, hwi⟩ : ∃ wi : World, wi = wr := ⟨_, rfl⟩
            subst hwi
            by_cases hif : i ≤ x.1
            · have hifI : (i : Int) ≤ (x.1 : Int) := by omega
              have hwi1 : IntKind.i64.wrap ((i : Int) + 1) = ((i + 1 : Nat) : Int) := by rw [IntWalk.i64_in _ (by omega)]; omega
              go_wp2_with fail
              go_loopw [14] (fun v wj => ∃ j : Nat, v = .int .i64 (j : Int) ∧ i + 1 ≤ j ∧ j ≤ s.size + 1 ∧ Hid (Below w1.heap.size w1 wj)) (fun v _ => s.size + 1 - (intOf v).toNat)
              case atStart => exact ⟨i + 1, rfl, Nat.le_refl _, by omega, HBI⟩
              case round =>
                obtain ⟨j, rfl, hij, hjn, HBJ⟩ := hrel
                by_cases hjs : j ≤ s.size
                · have hjsI : (j : Int) ≤ (s.size : Int) := by omega
                  have hi0 : (0 : Int) ≤ (i : Int) := by omega
                  have hijI : (i : Int) ≤ (j : Int) := by omega
                  have hwj1 : IntKind.i64.wrap ((j : Int) + 1) = ((j + 1 : Nat) : Int) := by rw [IntWalk.i64_in _ (by omega)]; omega
                  have HQ := Lib.hid (HMt.out i j wr HBJ.out)
                  go_wp2_with fail
                  refine HQ.out.mono ?_
                  rintro e w5 ⟨rfl, hb5⟩
                  have HB5 := Lib.hid (HBJ.out.trans (hb5.mono HBJ.out.size))
                  clear hb5 HQ
                  cases hacc : accS p (s.extract i j)
                  · go_wp2_with fail
                    go_roundw
                    case rel => exact ⟨j + 1, by first | rfl | go_num, by omega, by omega, HB5⟩
                    case measure => simp [intOf]; omega
                  · obtain ⟨he, hjT⟩ := HA.out i j hai hif (by omega) hjs hacc
                    have hnF : ¬ ((i : Int) < (x.1 : Int)) := by omega
                    have hnT : ¬ ((x.2 : Int) < (j : Int)) := by omega
                    clear he hjT
                    go_wp2_with fail
                    go_roundw
                    case rel => exact ⟨j + 1, by first | rfl | go_num, by omega, by omega, HB5⟩
                    case measure => simp [intOf]; omega
                · have hjsI : ¬ ((j : Int) ≤ (s.size : Int)) := by omega
                  go_wp2_with fail
                  go_roundw
                  case rel => exact ⟨i + 1, by first | rfl | go_num, by omega, by omega, HBJ⟩
                  case measure => simp [intOf]; omega
            · have hifI : ¬ ((i : Int) ≤ (x.1 : Int)) := by omega
              go_wp2_with fail
              go_roundw
              case rel => exact ⟨k + 1, x.2, rfl, by first | rfl | go_num, by omega, by omega, HNX, HBI⟩
              case measure => simp [intOf]; omega
        · obtain rfl : k = (matS p s).length := by omega
          have hltI : ¬ (((matS p s).length : Int) < ((matS p s).length : Int)) := by omega
          have hl := HL.out hkl
          rw [List.drop_length] at hl
          have HA : Hid (∀ i j : Nat, a ≤ i → i ≤ s.size → i < j → j ≤ s.size → accS p (s.extract i j) = true → i = s.size ∧ j ≤ s.size) := Lib.hid (fun i j h1 h2 h3 h4 h5 => by
            have h := hl.1 i j h1 h3 h4
            rw [show accS p (s.extract i j) = false from h] at h5
            cases h5)
          have HNX : Hid ((matS p s).length + 1 ≤ (matS p s).length → LM (fun i j => accS p (s.extract i j)) s.size s.size ((matS p s).drop ((matS p s).length + 1)) ∧ InOrd s.size s.size ((matS p s).drop ((matS p s).length + 1))) := Lib.hid (fun h => absurd h (by omega))
          have HBA := HBO
          clear hl HL
          go_wp2_with fail
          go_loopw [13] (fun v wi => ∃ i : Nat, v = .int .i64 (i : Int) ∧ a ≤ i ∧ i ≤ s.size + 1 ∧ Hid (Below w1.heap.size w1 wi)) (fun v _ => s.size + 1 - (intOf v).toNat)
          case atStart => exact ⟨a, rfl, Nat.le_refl _, by omega, HBA⟩
          case round =>
            obtain ⟨i, rfl, hai, hiF, HBI⟩ := hrel
            obtain ⟨wi, hwi⟩ : ∃ wi : World, wi = wr := ⟨_, rfl⟩
            subst hwi
            by_cases hif : i ≤ s.size
            · have hifI : (i : Int) ≤ (s.size : Int) := by omega
              have hwi1 : IntKind.i64.wrap ((i : Int) + 1) = ((i + 1 : Nat) : Int) := by rw [IntWalk.i64_in _ (by omega)]; omega
              go_wp2_with fail
              go_loopw [14] (fun v wj => ∃ j : Nat, v = .int .i64 (j : Int) ∧ i + 1 ≤ j ∧ j ≤ s.size + 1 ∧ Hid (Below w1.heap.size w1 wj)) (fun v _ => s.size + 1 - (intOf v).toNat)
              case atStart => exact ⟨i + 1, rfl, Nat.le_refl _, by omega, HBI⟩
              case round =>
                obtain ⟨j, rfl, hij, hjn, HBJ⟩ := hrel
                by_cases hjs : j ≤ s.size
                · have hjsI : (j : Int) ≤ (s.size : Int) := by omega
                  have hi0 : (0 : Int) ≤ (i : Int) := by omega
                  have hijI : (i : Int) ≤ (j : Int) := by omega
                  have hwj1 : IntKind.i64.wrap ((j : Int) + 1) = ((j + 1 : Nat) : Int) := by rw [IntWalk.i64_in _ (by omega)]; omega
                  have HQ := Lib.hid (HMt.out i j wr HBJ.out)
                  go_wp2_with fail
                  refine HQ.out.mono ?_
                  rintro e w5 ⟨rfl, hb5⟩
                  have HB5 := Lib.hid (HBJ.out.trans (hb5.mono HBJ.out.size))
                  clear hb5 HQ
                  cases hacc : accS p (s.extract i j)
                  · go_wp2_with fail
                    go_roundw
                    case rel => exact ⟨j + 1, by first | rfl | go_num, by omega, by omega, HB5⟩
                    case measure => simp [intOf]; omega
                  · obtain ⟨he, hjT⟩ := HA.out i j hai hif (by omega) hjs hacc
                    exfalso; omega
                · have hjsI : ¬ ((j : Int) ≤ (s.size : Int)) := by omega
                  go_wp2_with fail
                  go_roundw
                  case rel => exact ⟨i + 1, by first | rfl | go_num, by omega, by omega, HBJ⟩
                  case measure => simp [intOf]; omega
            · have hifI : ¬ ((i : Int) ≤ (s.size : Int)) := by omega
              go_wp2_with fail
              go_roundw
              case rel => exact ⟨(matS p s).length + 1, s.size, rfl, by first | rfl | go_num, by omega, by omega, HNX, HBI⟩
              case measure => simp [intOf]
      · have hklI : ¬ ((k : Int) ≤ ((matS p s).length : Int)) := by omega
        have HA2 := Lib.hid (alive_any wo (hA1.later HBO.out))
        have HBR := Lib.hid (HB1.out.trans (HBO.out.mono HB1.out.size))
        clear HM2 HL
        go_wp2_with fail
        refine HA2.out.mono ?_
        rintro e w3 ⟨rfl, hb3⟩
        go_wp2_with fail
        go_ret
        exact ⟨rfl, HBR.out.trans (hb3.mono HBR.out.size)⟩
end Go.Proofs.YtbogiigdadljpaaDoor
