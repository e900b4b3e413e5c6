/-
  alive of the laws on position. Nothing is assumed.
-/
import Derived.Test.YtbogiigdadljpaaDoorPtSame
namespace Go.Proofs.YtbogiigdadljpaaDoor
open Go.RowKit Go.Shelf

theorem HM.later {w w' : World} {v : Value} {l : List (Nat × Nat)} (h : HM w v l) (hb : Below w.heap.size w w') : HM w' v l := by
  obtain ⟨oa, cap, e, hel⟩ := h
  refine ⟨oa, cap, e, fun i x hx => ?_⟩
  obtain ⟨g, off, h1, h2, h3⟩ := hel i x hx
  have hg : g < w.heap.size := World.block_lt_of_cell? _ _ h2
  exact ⟨g, off, h1, (hb.cell (p := ⟨g, _, none⟩) hg).trans h2, (hb.cell (p := ⟨g, _, none⟩) hg).trans h3⟩
theorem matches_hm (p s : ByteArray) (w : World) (hA : AL w) (hs : s.size ≤ 1000) (h0 : errP p = 0) :
    Calls Tryd.prog 10 #[.string p, .string s] w fun e w' => (∃ oa cap, e = .returned (.tuple #[.slice oa (matS p s).length cap, .int .i64 0]) ∧ HM w' (.slice oa (matS p s).length cap) (matS p s)) ∧ Below w.heap.size w w' :=
  (matches_all p s w hA hs).mono fun e w' ⟨h, hb⟩ => by
    rcases h with ⟨hne, _⟩ | ⟨_, vv, rfl, hr⟩
    · exact absurd h0 hne
    · have hh := MRow.reads hr
      obtain ⟨oa, cap, rfl, _⟩ := id hh
      exact ⟨⟨oa, cap, rfl, hh⟩, hb⟩
theorem pick_neg : pickL (matS pB sA) (-1) = some (4, 5) := by rw [mB]; rfl
set_option maxRecDepth 100000 in
theorem era_ex : str (eraS pB sA) = ⟨#[97, 98]⟩ := by unfold eraS; rw [mB]; kernel_rfl
theorem ex1 (w : World) (hA : AL w) : Calls Tryd.prog 10 #[.string ⟨#[91, 48, 45, 57, 93, 43]⟩, .string ⟨#[97, 49, 50, 98, 51]⟩] w fun e w' => (∃ oa cap, e = .returned (.tuple #[.slice oa 0 cap, .int .i64 0])) ∧ Below w.heap.size w w' := by
  have h := matches_hm pA sA w hA (by decide) eA
  rw [mA] at h
  exact h.mono fun e w' ⟨⟨oa, cap, h1, _⟩, hb⟩ => ⟨⟨oa, cap, h1⟩, hb⟩
theorem ex2 (w : World) (hA : AL w) : Calls Tryd.prog 10 #[.string ⟨#[91, 48, 45, 57, 93, 91, 48, 45, 57, 93, 42]⟩, .string ⟨#[97, 49, 50, 98, 51]⟩] w fun e w' => (∃ oa cap, e = .returned (.tuple #[.slice oa 2 cap, .int .i64 0]) ∧ HM w' (.slice oa 2 cap) [(1, 3), (4, 5)]) ∧ Below w.heap.size w w' := by
  have h := matches_hm pB sA w hA (by decide) eB
  rw [mB] at h
  exact h
theorem ex3 (w : World) (hA : AL w) : Calls Tryd.prog 18 #[.string ⟨#[91, 48, 45, 57, 93, 91, 48, 45, 57, 93, 42]⟩, .string ⟨#[97, 49, 50, 98, 51]⟩, .int .i64 (-1)] w fun e w' => e = .returned (.tuple #[.string ⟨#[51]⟩, .int .i64 0]) ∧ Below w.heap.size w w' :=
  (extract_any pB sA (-1) (by decide) w hA (by decide)).mono fun e w' ⟨⟨x, m, h1, h2⟩, hb⟩ => by
    rcases h2 with ⟨h, _⟩ | ⟨_, ⟨h, rfl⟩ | ⟨h, _⟩⟩
    · exact absurd eB h
    · rw [pick_neg] at h
      cases h
      exact ⟨h1, hb⟩
    · rw [pick_neg] at h
      cases h
theorem ex4 (w : World) (hA : AL w) : Calls Tryd.prog 20 #[.string ⟨#[91, 48, 45, 57, 93, 91, 48, 45, 57, 93, 42]⟩, .string ⟨#[97, 49, 50, 98, 51]⟩] w fun e w' => e = .returned (.tuple #[.string ⟨#[97, 98]⟩, .int .i64 0]) ∧ Below w.heap.size w w' :=
  (callsIn_wide.1 (erase_in 10 (Nat.le_refl _) pB sA w hA (by decide))).mono fun e w' ⟨h, hb⟩ => by
    rcases h with ⟨h, _⟩ | ⟨_, h⟩
    · exact absurd eB h
    · rw [era_ex] at h
      exact ⟨h, hb⟩
theorem ex5 (w : World) (hA : AL w) : Calls Tryd.prog 12 #[.string ⟨#[97, 42]⟩, .string ⟨#[98, 97, 97]⟩] w fun e w' => e = .returned (.tuple #[.int .i64 1, .int .i64 0]) ∧ Below w.heap.size w w' :=
  (count_all pC sC w hA (by decide)).mono fun e w' ⟨h, hb⟩ => by
    rcases h with ⟨h, _⟩ | ⟨_, h⟩
    · exact absurd eC h
    · rw [mC] at h
      exact ⟨h, hb⟩

set_option maxRecDepth 100000 in
set_option maxHeartbeats 3200000 in
theorem alive_any (w : World) (hA : AL w) : Calls Tryd.prog 9 #[] w fun e w' => e = .returned (.bool true) ∧ Below w.heap.size w w' := by
  have H1 := Lib.hid (ex1 w hA)
  go_enter Tryd.func9, Tryd.ntmps9
  go_wp2_with fail
  refine H1.out.mono ?_
  rintro e w1 ⟨⟨oa1, cap1, rfl⟩, hb1⟩
  have hA1 := hA.later hb1
  have H2 := Lib.hid (ex2 w1 hA1)
  have HB1 := Lib.hid hb1
  clear hb1 H1
  go_wp2_with fail
  refine H2.out.mono ?_
  rintro e w2 ⟨⟨oa2, cap2, rfl, hm2⟩, hb2⟩
  have hA2 := hA1.later hb2
  have H3 := Lib.hid (ex3 w2 hA2)
  have HB2 := Lib.hid hb2
  have HM2 := Lib.hid hm2
  clear hb2 H2 hm2
  go_wp2_with fail
  refine H3.out.mono ?_
  rintro e w3 ⟨rfl, hb3⟩
  have hA3 := hA2.later hb3
  have H4 := Lib.hid (ex4 w3 hA3)
  have HB3 := Lib.hid hb3
  clear hb3 H3
  go_wp2_with fail
  refine H4.out.mono ?_
  rintro e w4 ⟨rfl, hb4⟩
  have hA4 := hA3.later hb4
  have H5 := Lib.hid (ex5 w4 hA4)
  have HB4 := Lib.hid hb4
  clear hb4 H4
  go_wp2_with fail
  refine H5.out.mono ?_
  rintro e w5 ⟨rfl, hb5⟩
  have HB5 := Lib.hid hb5
  clear hb5 H5 hA hA1 hA2 hA3 hA4
  have hall : Below w2.heap.size w2 (w5.alloc (.cells #[.int .i64 1, .int .i64 3, .int .i64 4, .int .i64 5] 36)) :=
    ((HB3.out.trans (HB4.out.mono HB3.out.size)).trans (HB5.out.mono (Nat.le_trans HB3.out.size HB4.out.size))).trans ((below1 w5 _).mono (Nat.le_trans HB3.out.size (Nat.le_trans HB4.out.size HB5.out.size)))
  have hlit : HM (w5.alloc (.cells #[.int .i64 1, .int .i64 3, .int .i64 4, .int .i64 5] 36)) (.slice (some ⟨w5.heap.size, 0, none⟩) 2 2) [(1, 3), (4, 5)] := by
    refine ⟨_, _, rfl, fun i x hx => ⟨_, _, rfl, ?_⟩⟩
    match i, hx with
    | 0, hx => cases hx; exact ⟨cell_at w5 #[.int .i64 1, .int .i64 3, .int .i64 4, .int .i64 5] _ 0 _ rfl, cell_at w5 #[.int .i64 1, .int .i64 3, .int .i64 4, .int .i64 5] _ 1 _ rfl⟩
    | 1, hx => cases hx; exact ⟨cell_at w5 #[.int .i64 1, .int .i64 3, .int .i64 4, .int .i64 5] _ 2 _ rfl, cell_at w5 #[.int .i64 1, .int .i64 3, .int .i64 4, .int .i64 5] _ 3 _ rfl⟩
    | i + 2, hx => cases hx
  have HS := Lib.hid (same_same _ _ _ _ (HM2.out.later hall) hlit (by decide))
  have HF : Hid (∀ m, Below w.heap.size w ((w5.alloc (.cells #[.int .i64 1, .int .i64 3, .int .i64 4, .int .i64 5] 36)).drewN m)) := Lib.hid (fun m => (HB1.out.trans (HB2.out.mono HB1.out.size)).trans ((hall.mono (Nat.le_trans HB1.out.size HB2.out.size)).trans (below_drewN _ _ m)))
  clear hall hlit HB1 HB2 HB3 HB4 HB5 HM2
  go_wp2_with fail
  refine HS.out.mono ?_
  rintro e w7 ⟨rfl, m, rfl⟩
  go_wp2_with fail
  go_ret
  exact ⟨rfl, HF.out m⟩
end Go.Proofs.YtbogiigdadljpaaDoor
