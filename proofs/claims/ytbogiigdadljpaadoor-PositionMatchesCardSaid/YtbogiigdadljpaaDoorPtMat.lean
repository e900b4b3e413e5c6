/-
  position.Matches, position.Count: for every pattern, for texts of at most 1000 bytes. Nothing is assumed.
-/
import Derived.Test.YtbogiigdadljpaaDoorPtColl
import Derived.Test.YtbogiigdadljpaaDoorPtLen
namespace Go.Proofs.YtbogiigdadljpaaDoor
open Go.RowKit Go.Shelf

attribute [local go_sem] Oper.semAt_some

theorem matT_eq (t : PT) (s : ByteArray) : matL (buildT t).1 (hopeL (buildT t).1 (buildT t).2 s.data.toList) s.size (s.size + 1) 0 = matT t s.data.toList := by
  unfold matT
  rw [lt_len]

/-- A list of matches as a value. -/
def MRow (w : World) (B : Nat) (vv : Value) (l : List (Nat × Nat)) : Prop := w.ownsRow B 36 2 vv l.length (flatM l)

theorem MRow.mono {w : World} {B B' : Nat} {vv : Value} {l : List (Nat × Nat)} (h : MRow w B vv l) (hb : B' ≤ B) : MRow w B' vv l := by
  rcases h with ⟨h1, h2 | ⟨g, c, cur, h3, h4, h5⟩⟩
  · exact ⟨h1, .inl h2⟩
  · exact ⟨h1, .inr ⟨g, c, cur, h3, Nat.le_trans hb h4, h5⟩⟩
set_option maxRecDepth 100000 in
set_option maxHeartbeats 1600000 in
theorem collect_any (w : World) (bs bm bh g c : Nat) (oa : Option Addr) (cap : Nat) (t : PT) (s : ByteArray) (hs : s.size ≤ 1000) (hI : IsIt w w.heap.size bs bm bh g c oa cap (buildT t).1 (buildT t).2 s) :
    Calls Tryd.prog 24 #[itV bs bm bh] w fun e w' => (∃ vv : Value, e = .returned vv ∧ MRow w' w.heap.size vv (matT t s.data.toList)) ∧ Below w.heap.size w w' := by
  have HC := Lib.hid (callsIn_wide.1 (appendSeq_in 10 (Nat.le_refl _) w bs bm bh g c oa cap _ _ s hs hI))
  rw [matT_eq] at HC
  clear hI
  unfold itV at HC ⊢
  go_enter Tryd.func24, Tryd.ntmps24
  go_wp2_with fail
  refine HC.out.mono ?_
  rintro e w1 ⟨⟨vv, rfl, hr⟩, hb⟩
  go_wp2_with fail
  go_ret
  exact ⟨⟨vv, rfl, hr⟩, hb⟩

theorem length_any (w : World) (bs bm bh g c : Nat) (oa : Option Addr) (cap : Nat) (t : PT) (s : ByteArray) (hs : s.size ≤ 1000) (hI : IsIt w w.heap.size bs bm bh g c oa cap (buildT t).1 (buildT t).2 s) :
    Calls Tryd.prog 27 #[itV bs bm bh] w fun e w' => e = .returned (.int .i64 ((matT t s.data.toList).length : Nat)) ∧ Below w.heap.size w w' := by
  have h := callsIn_wide.1 (length_in 10 (Nat.le_refl _) w bs bm bh g c oa cap _ _ s hs hI)
  rwa [matT_eq] at h

set_option maxRecDepth 100000 in
set_option maxHeartbeats 1600000 in
theorem matches_all (p s : ByteArray) (w : World) (hA : AL w) (hs : s.size ≤ 1000) :
    Calls Tryd.prog 10 #[.string p, .string s] w fun e w' =>
      ((errP p ≠ 0 ∧ e = .returned (.tuple #[.slice none 0 0, .int .i64 (errP p)])) ∨ (errP p = 0 ∧ ∃ vv, e = .returned (.tuple #[vv, .int .i64 0]) ∧ MRow w' w.heap.size vv (matS p s))) ∧ Below w.heap.size w w' := by
  have HF := Lib.hid (find_any p s w hA hs)
  go_enter Tryd.func10, Tryd.ntmps10
  go_wp2_with fail
  refine HF.out.mono ?_
  clear HF
  rintro e w1 ⟨⟨hne, rfl⟩ | ⟨bs, bm, bh, g, c, oa, cap, t, h0, hm, rfl, hI⟩, hb⟩
  · go_wp2_with fail
    go_ret2
    exact ⟨.inl ⟨hne, rfl⟩, hb⟩
  · have HC := Lib.hid (collect_any w1 bs bm bh g c oa cap t s hs hI)
    rw [← hm] at HC
    have HM := Lib.hid hm
    clear hI hm
    unfold itV at HC ⊢
    go_wp2_with fail
    refine HC.out.mono ?_
    rintro e w2 ⟨⟨vv, rfl, hr⟩, hb2⟩
    go_wp2_with fail
    go_ret2
    exact ⟨.inr ⟨h0, _, rfl, MRow.mono hr hb.size⟩, hb.trans (hb2.mono hb.size)⟩

set_option maxRecDepth 100000 in
set_option maxHeartbeats 1600000 in
theorem count_all (p s : ByteArray) (w : World) (hA : AL w) (hs : s.size ≤ 1000) :
    Calls Tryd.prog 12 #[.string p, .string s] w fun e w' =>
      ((errP p ≠ 0 ∧ e = .returned (.tuple #[.int .i64 0, .int .i64 (errP p)])) ∨ (errP p = 0 ∧ e = .returned (.tuple #[.int .i64 ((matS p s).length : Nat), .int .i64 0]))) ∧ Below w.heap.size w w' := by
  have HF := Lib.hid (find_any p s w hA hs)
  go_enter Tryd.func12, Tryd.ntmps12
  go_wp2_with fail
  refine HF.out.mono ?_
  clear HF
  rintro e w1 ⟨⟨hne, rfl⟩ | ⟨bs, bm, bh, g, c, oa, cap, t, h0, hm, rfl, hI⟩, hb⟩
  · go_wp2_with fail
    go_ret2
    exact ⟨.inl ⟨hne, rfl⟩, hb⟩
  · have HC := Lib.hid (length_any w1 bs bm bh g c oa cap t s hs hI)
    rw [← hm] at HC
    have HM := Lib.hid hm
    clear hI hm
    unfold itV at HC ⊢
    go_wp2_with fail
    refine HC.out.mono ?_
    rintro e w2 ⟨rfl, hb2⟩
    go_wp2_with fail
    go_ret2
    exact ⟨.inr ⟨h0, rfl⟩, hb.trans (hb2.mono hb.size)⟩

end Go.Proofs.YtbogiigdadljpaaDoor
