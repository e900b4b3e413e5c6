/-
  position.Start, End, Extract; the matches of a text lie in order. Nothing is assumed.
-/
import Derived.Test.YtbogiigdadljpaaDoorPtNum
namespace Go.Proofs.YtbogiigdadljpaaDoor
open Go.RowKit Go.Shelf

attribute [local go_sem] Oper.semAt_some

/-- Matches in order, from a on, within a text of n bytes, none empty. -/
def InOrd (n : Nat) : Nat → List (Nat × Nat) → Prop
  | _, [] => True
  | a, x :: r => a ≤ x.1 ∧ x.1 < x.2 ∧ x.2 ≤ n ∧ InOrd n x.2 r
theorem InOrd.low {n : Nat} : ∀ {l : List (Nat × Nat)} {a b : Nat}, InOrd n a l → b ≤ a → InOrd n b l
  | [], _, _, _, _ => trivial
  | _ :: _, _, _, h, hb => ⟨Nat.le_trans hb h.1, h.2⟩
theorem InOrd.mem {n : Nat} : ∀ {l : List (Nat × Nat)} {a : Nat}, InOrd n a l → ∀ x ∈ l, a ≤ x.1 ∧ x.1 < x.2 ∧ x.2 ≤ n
  | [], _, _, _, hx => by cases hx
  | y :: r, a, h, x, hx => by
    rcases List.mem_cons.1 hx with rfl | hx
    · exact ⟨h.1, h.2.1, h.2.2.1⟩
    · have := InOrd.mem h.2.2.2 x hx
      have := h.1
      have := h.2.1
      omega
theorem runL_max (ps : List Ps) (H : List Int) (n : Nat) (hl : H.length = n + 1) (hz : H[n]? = some 0) : ∀ k s i, i + k = n → runL ps (H.drop i) s i ≤ n := by
  intro k
  induction k with
  | zero =>
    intro s i hi
    obtain rfl : i = n := by omega
    rw [runL_step ps H i s 0 hz, if_pos (and_zero _)]
    exact Nat.le_refl _
  | succ k ih =>
    intro s i hi
    obtain ⟨x, hx⟩ : ∃ x, H[i]? = some x := ⟨_, List.getElem?_eq_getElem (by omega)⟩
    rw [runL_step ps H i s x hx]
    split
    · omega
    · exact ih _ _ (by omega)
theorem matL_ord (ps : List Ps) (H : List Int) (n : Nat) (hl : H.length = n + 1) (hz : H[n]? = some 0) : ∀ g i a, a ≤ i → InOrd n a (matL ps H n g i) := by
  intro g
  induction g with
  | zero => intro i a _; exact trivial
  | succ g ih =>
    intro i a ha
    by_cases hi : i < n
    · rw [matL_step ps H n g i hi]
      split
      · rename_i h
        exact ⟨ha, h, runL_max ps H n hl hz (n - i) 1 i (by omega), ih _ _ (Nat.le_refl _)⟩
      · exact ih _ _ (by omega)
    · rw [matL_end _ _ _ _ _ hi]
      exact trivial
theorem matS_ord (p s : ByteArray) : InOrd s.size 0 (matS p s) := by
  have h : ∀ t : PT, InOrd s.size 0 (matT t s.data.toList) := fun t => by
    rw [← matT_eq]
    have h1 := hopeL_len (buildT t).1 (buildT t).2 s.data.toList
    have h2 := hope_last (buildT t).1 (buildT t).2 s.data.toList
    rw [lt_len] at h1 h2
    exact matL_ord _ _ _ h1 h2 _ _ _ (Nat.le_refl _)
  unfold matS
  split
  · exact trivial
  · split
    · exact trivial
    · exact h _
theorem pickL_mem {l : List (Nat × Nat)} {k : Int} {x : Nat × Nat} (h : pickL l k = some x) : x ∈ l := by
  have h' : (if 0 ≤ (if k < 0 then k + (l.length : Nat) else k) then l[Int.toNat (if k < 0 then k + (l.length : Nat) else k)]? else none) = some x := h
  generalize (if k < 0 then k + (l.length : Nat) else k) = k' at h'
  by_cases hz : 0 ≤ k'
  · rw [if_pos hz] at h'
    exact List.mem_of_getElem? h'
  · rw [if_neg hz] at h'
    cases h'
theorem pick_in {p s : ByteArray} {k : Int} {x : Nat × Nat} (h : pickL (matS p s) k = some x) : x.1 < x.2 ∧ x.2 ≤ s.size := (InOrd.mem (matS_ord p s) x (pickL_mem h)).2

theorem numbered_any (p s : ByteArray) (k : Int) (hk : -2 ^ 63 ≤ k ∧ k < 2 ^ 63) (w : World) (hA : AL w) (hs : s.size ≤ 1000) :
    Calls Tryd.prog 28 #[.string p, .string s, .int .i64 k] w fun e w' =>
      (∃ (x : Nat × Nat) (m : Int), e = .returned (.tuple #[enM x, .int .i64 m]) ∧ x.1 ≤ x.2 ∧ x.2 ≤ s.size ∧ ((errP p ≠ 0 ∧ m = errP p ∧ x = (0, 0)) ∨ (errP p = 0 ∧ ((pickL (matS p s) k = some x ∧ m = 0) ∨ (pickL (matS p s) k = none ∧ m = 7 ∧ x = (0, 0)))))) ∧ Below w.heap.size w w' := by
  refine (callsIn_wide.1 (numbered_in 10 (Nat.le_refl _) p s k hk w hA hs)).mono ?_
  rintro e w' ⟨⟨h, rfl⟩ | ⟨h, ⟨x, hx, rfl⟩ | ⟨hx, rfl⟩⟩, hb⟩
  · exact ⟨⟨_, _, rfl, Nat.le_refl _, Nat.zero_le _, .inl ⟨h, rfl, rfl⟩⟩, hb⟩
  · exact ⟨⟨_, _, rfl, Nat.le_of_lt (pick_in hx).1, (pick_in hx).2, .inr ⟨h, .inl ⟨hx, rfl⟩⟩⟩, hb⟩
  · exact ⟨⟨_, _, rfl, Nat.le_refl _, Nat.zero_le _, .inr ⟨h, .inr ⟨hx, rfl, rfl⟩⟩⟩, hb⟩

/-- What numbered says of a pattern, a text and a number. -/
def PickR (p s : ByteArray) (k : Int) (x : Nat × Nat) (m : Int) : Prop :=
  (errP p ≠ 0 ∧ m = errP p ∧ x = (0, 0)) ∨ (errP p = 0 ∧ ((pickL (matS p s) k = some x ∧ m = 0) ∨ (pickL (matS p s) k = none ∧ m = 7 ∧ x = (0, 0))))

set_option maxRecDepth 100000 in
set_option maxHeartbeats 1600000 in
theorem start_any (p s : ByteArray) (k : Int) (hk : -2 ^ 63 ≤ k ∧ k < 2 ^ 63) (w : World) (hA : AL w) (hs : s.size ≤ 1000) :
    Calls Tryd.prog 14 #[.string p, .string s, .int .i64 k] w fun e w' =>
      (∃ (x : Nat × Nat) (m : Int), e = .returned (.tuple #[.int .i64 (x.1 : Int), .int .i64 m]) ∧ PickR p s k x m) ∧ Below w.heap.size w w' := by
  have HN := Lib.hid (numbered_any p s k hk w hA hs)
  go_enter Tryd.func14, Tryd.ntmps14
  go_wp2_with fail
  refine HN.out.mono ?_
  rintro e w1 ⟨⟨x, m, rfl, _, _, hr⟩, hb⟩
  have HR := Lib.hid hr
  clear hr HN
  unfold enM
  go_wp2_with fail
  go_ret2
  exact ⟨⟨x, m, rfl, HR.out⟩, hb.trans ((below1 w1 _).mono hb.size)⟩

set_option maxRecDepth 100000 in
set_option maxHeartbeats 1600000 in
theorem end_any (p s : ByteArray) (k : Int) (hk : -2 ^ 63 ≤ k ∧ k < 2 ^ 63) (w : World) (hA : AL w) (hs : s.size ≤ 1000) :
    Calls Tryd.prog 16 #[.string p, .string s, .int .i64 k] w fun e w' =>
      (∃ (x : Nat × Nat) (m : Int), e = .returned (.tuple #[.int .i64 (x.2 : Int), .int .i64 m]) ∧ PickR p s k x m) ∧ Below w.heap.size w w' := by
  have HN := Lib.hid (numbered_any p s k hk w hA hs)
  go_enter Tryd.func16, Tryd.ntmps16
  go_wp2_with fail
  refine HN.out.mono ?_
  rintro e w1 ⟨⟨x, m, rfl, _, _, hr⟩, hb⟩
  have HR := Lib.hid hr
  clear hr HN
  unfold enM
  go_wp2_with fail
  go_ret2
  exact ⟨⟨x, m, rfl, HR.out⟩, hb.trans ((below1 w1 _).mono hb.size)⟩

set_option maxRecDepth 100000 in
set_option maxHeartbeats 1600000 in
theorem extract_any (p s : ByteArray) (k : Int) (hk : -2 ^ 63 ≤ k ∧ k < 2 ^ 63) (w : World) (hA : AL w) (hs : s.size ≤ 1000) :
    Calls Tryd.prog 18 #[.string p, .string s, .int .i64 k] w fun e w' =>
      (∃ (x : Nat × Nat) (m : Int), e = .returned (.tuple #[.string (s.extract x.1 x.2), .int .i64 m]) ∧ PickR p s k x m) ∧ Below w.heap.size w w' := by
  have HN := Lib.hid (numbered_any p s k hk w hA hs)
  go_enter Tryd.func18, Tryd.ntmps18
  go_wp2_with fail
  refine HN.out.mono ?_
  rintro e w1 ⟨⟨x, m, rfl, hx1, hx2, hr⟩, hb⟩
  have HR := Lib.hid hr
  have hi1 : (x.1 : Int) ≤ (x.2 : Int) := by omega
  have hi2 : (x.2 : Int) ≤ (s.size : Int) := by omega
  have hi3 : (0 : Int) ≤ (x.1 : Int) := by omega
  clear hr HN
  unfold enM
  go_wp2_with fail
  go_ret2
  exact ⟨⟨x, m, rfl, HR.out⟩, hb.trans ((below1 w1 _).mono hb.size)⟩

end Go.Proofs.YtbogiigdadljpaaDoor
