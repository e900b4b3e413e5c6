/-
  The walk of PositionNumbers. Nothing is assumed.
-/
import Derived.Test.YtbogiigdadljpaaDoorPtLawP
import Derived.Test.YtbogiigdadljpaaDoorPtPickL
namespace Go.Proofs.YtbogiigdadljpaaDoor
open Go.RowKit Go.Shelf

/-- The match that a number names, told to its callers. -/
theorem start_some {p s : ByteArray} {k : Int} (hk : -2 ^ 63 ≤ k ∧ k < 2 ^ 63) {w : World} (hA : AL w) (hs : s.size ≤ 1000) (h0 : errP p = 0) {x : Nat × Nat} (hx : pickL (matS p s) k = some x) :
    Calls Tryd.prog 14 #[.string p, .string s, .int .i64 k] w fun e w' => e = .returned (.tuple #[.int .i64 (x.1 : Int), .int .i64 0]) ∧ Below w.heap.size w w' :=
  (start_any p s k hk w hA hs).mono fun e w' ⟨⟨y, m, h1, h2⟩, hb⟩ => by
    obtain ⟨rfl, rfl⟩ := pickR_some h0 h2 hx
    exact ⟨h1, hb⟩
theorem end_some {p s : ByteArray} {k : Int} (hk : -2 ^ 63 ≤ k ∧ k < 2 ^ 63) {w : World} (hA : AL w) (hs : s.size ≤ 1000) (h0 : errP p = 0) {x : Nat × Nat} (hx : pickL (matS p s) k = some x) :
    Calls Tryd.prog 16 #[.string p, .string s, .int .i64 k] w fun e w' => e = .returned (.tuple #[.int .i64 (x.2 : Int), .int .i64 0]) ∧ Below w.heap.size w w' :=
  (end_any p s k hk w hA hs).mono fun e w' ⟨⟨y, m, h1, h2⟩, hb⟩ => by
    obtain ⟨rfl, rfl⟩ := pickR_some h0 h2 hx
    exact ⟨h1, hb⟩
theorem extract_some {p s : ByteArray} {k : Int} (hk : -2 ^ 63 ≤ k ∧ k < 2 ^ 63) {w : World} (hA : AL w) (hs : s.size ≤ 1000) (h0 : errP p = 0) {x : Nat × Nat} (hx : pickL (matS p s) k = some x) :
    Calls Tryd.prog 18 #[.string p, .string s, .int .i64 k] w fun e w' => e = .returned (.tuple #[.string (s.extract x.1 x.2), .int .i64 0]) ∧ Below w.heap.size w w' :=
  (extract_any p s k hk w hA hs).mono fun e w' ⟨⟨y, m, h1, h2⟩, hb⟩ => by
    obtain ⟨rfl, rfl⟩ := pickR_some h0 h2 hx
    exact ⟨h1, hb⟩
theorem start_none {p s : ByteArray} {k : Int} (hk : -2 ^ 63 ≤ k ∧ k < 2 ^ 63) {w : World} (hA : AL w) (hs : s.size ≤ 1000) (h0 : errP p = 0) (hx : pickL (matS p s) k = none) :
    Calls Tryd.prog 14 #[.string p, .string s, .int .i64 k] w fun e w' => e = .returned (.tuple #[.int .i64 0, .int .i64 7]) ∧ Below w.heap.size w w' :=
  (start_any p s k hk w hA hs).mono fun e w' ⟨⟨y, m, h1, h2⟩, hb⟩ => by
    obtain ⟨rfl, rfl⟩ := pickR_none h0 h2 hx
    exact ⟨h1, hb⟩
theorem end_none {p s : ByteArray} {k : Int} (hk : -2 ^ 63 ≤ k ∧ k < 2 ^ 63) {w : World} (hA : AL w) (hs : s.size ≤ 1000) (h0 : errP p = 0) (hx : pickL (matS p s) k = none) :
    Calls Tryd.prog 16 #[.string p, .string s, .int .i64 k] w fun e w' => e = .returned (.tuple #[.int .i64 0, .int .i64 7]) ∧ Below w.heap.size w w' :=
  (end_any p s k hk w hA hs).mono fun e w' ⟨⟨y, m, h1, h2⟩, hb⟩ => by
    obtain ⟨rfl, rfl⟩ := pickR_none h0 h2 hx
    exact ⟨h1, hb⟩

set_option maxRecDepth 100000 in
set_option maxHeartbeats 3200000 in
theorem law_numbers (p s : ByteArray) (w : World) (hA : AL w) : Calls Tryd.prog 7 #[.string p, .string s] w fun e w' => e = .returned (.bool true) ∧ Below w.heap.size w w' := by
  by_cases hbig : 80 < s.size
  · have HA := Lib.hid (alive_any w hA)
    have hbI : (80 : Int) < (s.size : Int) := by omega
    go_enter Tryd.func7, Tryd.ntmps7
    go_wp2_with fail
    refine HA.out.mono ?_
    rintro e w1 ⟨rfl, hb⟩
    go_wp2_with fail
    go_ret
    exact ⟨rfl, hb⟩
  have hs : s.size ≤ 80 := by omega
  have hsI : (s.size : Int) ≤ 80 := by omega
  have HM := Lib.hid (matches_all p s w hA (by omega))
  go_enter Tryd.func7, Tryd.ntmps7
  go_wp2_with fail
  refine HM.out.mono ?_
  rintro e w1 ⟨⟨hne, rfl⟩ | ⟨h0, vv, rfl, hr⟩, hb1⟩
  · have HA2 := Lib.hid (alive_any w1 (hA.later hb1))
    have HB1 := Lib.hid hb1
    clear HM hb1 hA
    go_wp2_with fail
    refine HA2.out.mono ?_
    rintro e w3 ⟨rfl, hb3⟩
    go_wp2_with fail
    go_ret
    exact ⟨rfl, HB1.out.trans (hb3.mono HB1.out.size)⟩
  · have hA1 := hA.later hb1
    have hm := MRow.reads hr
    have HB1 := Lib.hid hb1
    obtain ⟨oa, cap, rfl, _⟩ := id hm
    have HM2 := Lib.hid hm
    have hml := matS_len p s
    have H0 := Lib.hid h0
    have hneg : IntKind.i64.wrap (-((matS p s).length : Int)) = -((matS p s).length : Int) := IntWalk.i64_in _ (by omega)
    clear HM hb1 hr hm hA h0
    go_wp2_with fail
    go_loopw [7] (fun v wr => ∃ k : Int, v = .int .i64 k ∧ -((matS p s).length : Int) ≤ k ∧ k ≤ (matS p s).length ∧ Below w1.heap.size w1 wr) (fun v _ => (((matS p s).length : Int) - intOf v).toNat)
    case atStart => exact ⟨_, rfl, by omega, by omega, Below.refl _ _⟩
    case round =>
      obtain ⟨k, rfl, hk1, hk2, hbr⟩ := hrel
      by_cases hlt : k < ((matS p s).length : Int)
      · obtain ⟨i, hi⟩ : ∃ i : Nat, (i : Int) = if k < 0 then k + ((matS p s).length : Nat) else k := ⟨(if k < 0 then k + ((matS p s).length : Nat) else k).toNat, by split <;> omega⟩
        have hin : i < (matS p s).length := by split at hi <;> omega
        obtain ⟨x, hx⟩ : ∃ x, (matS p s)[i]? = some x := ⟨_, List.getElem?_eq_getElem hin⟩
        have HP : Hid (pickL (matS p s) k = some x) := Lib.hid ((pick_at _ k i hk1 hi).trans hx)
        have hrem : (k + ((matS p s).length : Int)).tmod ((matS p s).length : Int) = (i : Int) := by
          rw [Int.tmod_eq_emod_of_nonneg (by omega)]
          split at hi
          · rw [Int.emod_eq_of_lt (by omega) (by omega)]; omega
          · rw [Int.add_emod_right, Int.emod_eq_of_lt (by omega) (by omega)]; omega
        have hwr : IntKind.i64.wrap (k + ((matS p s).length : Int)) = k + ((matS p s).length : Int) := IntWalk.i64_in _ (by omega)
        have hwi : IntKind.i64.wrap (i : Int) = (i : Int) := IntWalk.i64_in _ (by omega)
        have hn0 : ¬ ((matS p s).length : Int) = 0 := by omega
        have hmem := InOrd.mem (matS_ord p s) x (List.mem_of_getElem? hx)
        have hkk : -2 ^ 63 ≤ k ∧ k < 2 ^ 63 := by omega
        obtain ⟨oa', cap', e0, hel⟩ := HM2.out.later hbr
        obtain ⟨g, off, h1, c1, c2⟩ := hel i x hx
        cases e0
        subst h1
        have hinI : (i : Int) < ((matS p s).length : Int) := by omega
        have hx1 : (x.1 : Int) ≤ (x.2 : Int) := by omega
        have hx2 : (x.2 : Int) ≤ (s.size : Int) := by omega
        have HX := Lib.hid (show ∀ V, Below (wr.heap.size + 1) (wr.alloc (.cells #[.int .i64 (x.1 : Int), .int .i64 (x.2 : Int)] 36)) V → V.cell? ⟨wr.heap.size, 0, none⟩ = some (.int .i64 (x.1 : Int)) ∧ V.cell? ⟨wr.heap.size, 1, none⟩ = some (.int .i64 (x.2 : Int)) from fun V hV =>
          ⟨(hV.cell (p := ⟨wr.heap.size, 0, none⟩) (Nat.lt_succ_self _)).trans (cell_at wr #[.int .i64 (x.1 : Int), .int .i64 (x.2 : Int)] 36 0 _ rfl), (hV.cell (p := ⟨wr.heap.size, 1, none⟩) (Nat.lt_succ_self _)).trans (cell_at wr #[.int .i64 (x.1 : Int), .int .i64 (x.2 : Int)] 36 1 _ rfl)⟩)
        have hb2 := below1 wr (.cells #[.int .i64 (x.1 : Int), .int .i64 (x.2 : Int)] 36)
        have hA2 := (hA1.later hbr).later hb2
        have HS := Lib.hid (start_some hkk hA2 (Nat.le_trans hs (by decide)) H0.out HP.out)
        have HB2 := Lib.hid (hbr.trans (hb2.mono hbr.size))
        clear hel hi hb2
        go_wp2_with fail
        refine HS.out.mono ?_
        rintro e w3 ⟨rfl, hb3⟩
        have hA3 := hA2.later hb3
        have HE := Lib.hid (end_some hkk hA3 (Nat.le_trans hs (by decide)) H0.out HP.out)
        have HB3 := Lib.hid hb3
        clear hb3 HS hA2
        go_wp2_with fail
        refine HE.out.mono ?_
        rintro e w4 ⟨rfl, hb4⟩
        have hA4 := hA3.later hb4
        have HT := Lib.hid (extract_some hkk hA4 (Nat.le_trans hs (by decide)) H0.out HP.out)
        have HB4 := Lib.hid hb4
        clear hb4 HE hA3
        go_wp2_with fail
        refine HT.out.mono ?_
        rintro e w5 ⟨rfl, hb5⟩
        have h34 : Below (wr.heap.size + 1) (wr.alloc (.cells #[.int .i64 (x.1 : Int), .int .i64 (x.2 : Int)] 36)) w5 := by
          have h1 := HB3.out
          rw [World.size_alloc] at h1
          have hz : wr.heap.size + 1 ≤ w3.heap.size := by
            have := h1.size
            rwa [World.size_alloc] at this
          exact (h1.trans (HB4.out.mono hz)).trans (hb5.mono (Nat.le_trans hz HB4.out.size))
        obtain ⟨c3, c4⟩ := HX.out w5 h34
        have HB5 := Lib.hid (HB2.out.trans (h34.mono (Nat.le_trans hbr.size (Nat.le_succ _))))
        clear hb5 HT hA4 h34 HX HB2 HB3 HB4 hbr c1 c2 HM2
        have hpos : ¬ (x.1 : Int) < 0 := by omega
        have hlt2 : ¬ (x.2 : Int) < (x.1 : Int) := by omega
        have hgt2 : ¬ (s.size : Int) < (x.2 : Int) := by omega
        have hk9 : IntKind.i64.wrap (k + 1) = k + 1 := IntWalk.i64_in _ (by omega)
        go_wp2_with fail
        go_roundw
        case rel => exact ⟨k + 1, rfl, by omega, by omega, HB5.out⟩
        case measure => simp [intOf]; omega
      · have hge : ¬ (k < ((matS p s).length : Int)) := hlt
        obtain rfl : k = ((matS p s).length : Int) := by omega
        have hA2 := hA1.later hbr
        have HS := Lib.hid (start_none (k := ((matS p s).length : Int)) (by omega) hA2 (Nat.le_trans hs (by decide)) H0.out (pick_len _))
        have hneg1 : IntKind.i64.wrap (-((matS p s).length : Int) - 1) = -((matS p s).length : Int) - 1 := IntWalk.i64_in _ (by omega)
        have HBR := Lib.hid hbr
        clear hbr HM2
        go_wp2_with fail
        refine HS.out.mono ?_
        rintro e w3 ⟨rfl, hb3⟩
        have hA3 := hA2.later hb3
        have HE := Lib.hid (end_none (k := -((matS p s).length : Int) - 1) (by omega) hA3 (Nat.le_trans hs (by decide)) H0.out (pick_under _))
        have HB3 := Lib.hid hb3
        clear hb3 HS hA2
        go_wp2_with fail
        refine HE.out.mono ?_
        rintro e w4 ⟨rfl, hb4⟩
        have HA4 := Lib.hid (alive_any w4 (hA3.later hb4))
        have HB4 := Lib.hid hb4
        clear hb4 HE hA3
        go_wp2_with fail
        refine HA4.out.mono ?_
        rintro e w5 ⟨rfl, hb5⟩
        go_wp2_with fail
        go_ret
        have h1 := HB1.out.trans (HBR.out.mono HB1.out.size)
        have h2 := h1.trans (HB3.out.mono h1.size)
        have h3 := h2.trans (HB4.out.mono h2.size)
        exact ⟨rfl, h3.trans (hb5.mono h3.size)⟩
end Go.Proofs.YtbogiigdadljpaaDoor
