/-
  The contracts of Upper and Lower of the package. Nothing is assumed.
-/
import Derived.Test.YtlpmaeemegphiaaDoorStRune
namespace Go.Proofs.YtlpmaeemegphiaaDoor
open Go.RowKit

def up1 (c : UInt8) : UInt8 := if 97 ≤ c.toNat ∧ c.toNat ≤ 122 then UInt8.ofNat (c.toNat - 32) else c
def lo1 (c : UInt8) : UInt8 := if 65 ≤ c.toNat ∧ c.toNat ≤ 90 then UInt8.ofNat (c.toNat + 32) else c
theorem upper_map (l : List UInt8) : upper l = l.map up1 := rfl
theorem lower_map (l : List UInt8) : lower l = l.map lo1 := rfl

theorem up1_hit (c : UInt8) (h1 : 97 ≤ c.toNat) (h2 : c.toNat ≤ 122) : (up1 c).toNat = c.toNat + 65 - 97 := by
  unfold up1
  rw [if_pos ⟨h1, h2⟩]
  simp
  omega
theorem up1_miss (c : UInt8) (h : c.toNat < 97 ∨ 122 < c.toNat) : up1 c = c := by
  unfold up1
  rw [if_neg (by omega)]

theorem upper_get (s : ByteArray) (j : Nat) (hj : j < (upper s.data.toList).length) (hj' : j < s.size) : (upper s.data.toList)[j] = up1 s[j] := by
  simp only [upper_map, List.getElem_map, Array.getElem_toList]
  rfl

set_option maxRecDepth 100000 in
set_option maxHeartbeats 1600000 in
theorem shiftUpper_any (s : ByteArray) (w : World) :
    Calls Tryd.prog 40 #[.string s, .int .i32 97, .int .i32 65] w fun e w' => e = .returned (.string (str (upper s.data.toList))) ∧ Below w.heap.size w w' := by
  have hconv := run_bytes_of_string (P := Tryd.prog) w 9 51 5 s Tryd.underlying9 Tryd.underlying51 Tryd.underlying5
  have hnew := Bytes.new (f := up1) w s (grownCap w s.size 0 5) 5
  have hbel0 : Below w.heap.size w (w.drew.alloc (.cells (bytesRow s (grownCap w s.size 0 5)) 5 ((bytesRow s (grownCap w s.size 0 5)).size, (bytesRow s (grownCap w s.size 0 5)).size + 1))) :=
    ((Below.refl _ _).drew).alloc (Nat.le_refl _) _
  have hsz0 : (w.drew.alloc (.cells (bytesRow s (grownCap w s.size 0 5)) 5 ((bytesRow s (grownCap w s.size 0 5)).size, (bytesRow s (grownCap w s.size 0 5)).size + 1))).heap.size = w.heap.size + 1 := by simp
  generalize grownCap w s.size 0 5 = cap at *
  go_enter Tryd.func40, Tryd.ntmps40
  go_wp2_with fail
  clear hconv
  go_loopw [8] (fun _ wr => ∃ pos : Nat, pos ≤ s.size ∧ wr.heap[w.heap.size + 1]? = some (.stringIter s pos) ∧ Hid (Bytes up1 wr w.heap.size s pos) ∧ Below w.heap.size w wr) (fun _ wr => s.size - wr.iterPos (w.heap.size + 1))
  case atStart =>
    refine ⟨0, Nat.zero_le _, ?_, hnew.of_block ?_, hbel0.alloc (by rw [hsz0]; omega) _⟩
    · rw [← hsz0]; exact World.iter_heap _ _ _
    · show (Array.push _ _)[w.heap.size]? = _
      rw [Array.getElem?_push, if_neg (by intro e; simp at e)]
      rfl
  case round =>
    obtain ⟨pos, hpos, hit, HB, hbel⟩ := hrel
    have hip : wr.iterPos (w.heap.size + 1) = pos := by simp [World.iterPos, hit]
    clear hnew hbel0 hsz0
    by_cases hlt : pos < s.size
    · obtain ⟨r1, r2, r3⟩ := rune_conts s pos hlt
      have hnext := fun ty => Lib.run_next_any_at (P := Tryd.prog) wr (w.heap.size + 1) s pos ty hit hlt
      have hit2 := Lib.iterAt_heap wr (w.heap.size + 1) s pos (pos + (Utf8.decode s pos).2) hit
      have HB2 : Hid (Bytes up1 (wr.iterAt (w.heap.size + 1) s (pos + (Utf8.decode s pos).2)) w.heap.size s pos) := Lib.hid (HB.out.of_block (Lib.iterAt_other _ _ _ _ _ (by omega)))
      have hbel2 : Below w.heap.size w (wr.iterAt (w.heap.size + 1) s (pos + (Utf8.decode s pos).2)) := Lib.below_iterAt hbel (by omega) _ _
      have hip2 : (wr.iterAt (w.heap.size + 1) s (pos + (Utf8.decode s pos).2)).iterPos (w.heap.size + 1) = pos + (Utf8.decode s pos).2 := by simp [World.iterPos, hit2]
      have hlow : (s[pos]'hlt).toNat < 128 → (Utf8.decode s pos).1 = (s[pos]'hlt).toNat ∧ (Utf8.decode s pos).2 = 1 := fun h => by rw [decode_ascii s pos hlt h]; exact ⟨rfl, rfl⟩
      have hhigh : 128 ≤ (s[pos]'hlt).toNat → 128 ≤ (Utf8.decode s pos).1 := fun h => (decode_high s pos hlt h).1
      have hle := decode_le s pos
      have hmiss : (97 ≤ (s[pos]'hlt).toNat ∧ (s[pos]'hlt).toNat ≤ 122) ∨ Bytes up1 (wr.iterAt (w.heap.size + 1) s (pos + (Utf8.decode s pos).2)) w.heap.size s (pos + (Utf8.decode s pos).2) := by
        by_cases hl : 97 ≤ (s[pos]'hlt).toNat ∧ (s[pos]'hlt).toNat ≤ 122
        · exact .inl hl
        · refine .inr (HB2.out.skip (by omega) (fun j h1 h2 hj => up1_miss _ ?_))
          rcases Nat.lt_or_ge pos j with h | h
          · have := r3 j h h2 hj
            omega
          · obtain rfl : j = pos := by omega
            omega
      have HM := Lib.hid hmiss; clear hmiss r3
      obtain ⟨c, hc⟩ : ∃ c : Nat, (s[pos]'hlt).toNat = c := ⟨_, rfl⟩
      have hcell := HB2.out.cell pos hlt
      rw [if_neg (Nat.lt_irrefl _)] at hcell
      have HC := Lib.hid hc
      rw [hc] at hlow hhigh hcell
      obtain ⟨hcell1, hcell2⟩ := hcell
      have HBU := Lib.hid (up1_hit (s[pos]'hlt))
      clear hc
      generalize (Utf8.decode s pos).1 = r at *
      generalize (Utf8.decode s pos).2 = k at *
      generalize wr.iterAt (w.heap.size + 1) s (pos + k) = W1 at *
      have hpi0 : (0 : Int) ≤ (pos : Int) := by omega
      have hpi1 : (pos : Int) < (s.size : Int) := by omega
      by_cases hl : 97 ≤ c ∧ c ≤ 122
      · obtain ⟨h1, h2⟩ := hl
        obtain ⟨e1, e2⟩ := hlow (by omega)
        subst e1
        subst e2
        clear hlow hhigh hle HM
        go_wp2_with fail
        go_roundw
        case rel =>
          refine ⟨pos + 1, by omega, ?_, HB2.out.store hlt _ ?_, ?_⟩
          · rw [setCell_other _ _ _ _ _ (by omega)]; exact hit2
          · rw [HBU.out (by rw [HC.out]; exact h1) (by rw [HC.out]; exact h2), HC.out]; omega
          · exact hbel2.setCell (p := ⟨w.heap.size, pos, none⟩) (Nat.le_refl _) _
        case measure => rw [iterPos_of (w := W1.setCell _ _) (s := s) (p := pos + 1) (by rw [setCell_other _ _ _ _ _ (by omega)]; exact hit2), hip]; omega
      · have HB3 : Hid (Bytes up1 W1 w.heap.size s (pos + k)) := Lib.hid (by
          rcases HM.out with h | h
          · rw [HC.out] at h; exact absurd h hl
          · exact h)
        have hr : r < 97 ∨ 122 < r := by
          rcases Nat.lt_or_ge c 128 with h | h
          · have := (hlow h).1; omega
          · have := hhigh h; omega
        clear HM hlow hhigh
        rcases hr with h1 | h1
        · go_wp2_with fail
          go_roundw
          case rel => exact ⟨pos + k, by omega, hit2, HB3, hbel2⟩
          case measure => rw [hip, hip2]; omega
        · have h2 : (97 : Int) ≤ (r : Int) := by omega
          have h3 : ¬ ((r : Int) < 123) := by omega
          go_wp2_with fail
          go_roundw
          case rel => exact ⟨pos + k, by omega, hit2, HB3, hbel2⟩
          case measure => rw [hip, hip2]; omega
    · obtain rfl : pos = s.size := by omega
      have hnext := fun ty => Lib.run_next_end_at (P := Tryd.prog) wr (w.heap.size + 1) s s.size ty hit hlt
      have hback := run_convert_bytes_back (P := Tryd.prog) wr 51 9 5 ⟨w.heap.size, 0, none⟩ cap (upper s.data.toList) Tryd.underlying51 Tryd.underlying5 Tryd.underlying9 (fun j hj => by
        have hj' : j < s.size := by rw [upper_map, List.length_map, Array.length_toList] at hj; exact hj
        have := (HB.out.cell j hj').1
        rw [if_pos hj'] at this
        have ea : (⟨w.heap.size, 0, none⟩ : Addr).add j = ⟨w.heap.size, j, none⟩ := by simp [Addr.add]; exact fun h => h.symm
        rw [ea, this, upper_get s j hj hj'])
      rw [upper_map, List.length_map] at hback
      have hln : s.data.toList.length = s.size := by rw [Array.length_toList]; rfl
      rw [hln, ← upper_map] at hback
      clear hln
      go_wp2_with fail
      go_ret
      exact ⟨rfl, hbel⟩

theorem upper_any (s : ByteArray) (w : World) :
    Calls Tryd.prog 19 #[.string s] w fun e w' => e = .returned (.string (str (upper s.data.toList))) ∧ Below w.heap.size w w' := by
  go_enter Tryd.func19, Tryd.ntmps19
  go_wp2_with fail
  refine (shiftUpper_any s _).mono ?_
  rintro e w1 ⟨rfl, hb⟩
  go_wp2_with fail
  go_ret
  exact ⟨rfl, hb⟩

theorem lo1_hit (c : UInt8) (h1 : 65 ≤ c.toNat) (h2 : c.toNat ≤ 90) : (lo1 c).toNat = c.toNat + 97 - 65 := by
  unfold lo1
  rw [if_pos ⟨h1, h2⟩]
  simp
  omega
theorem lo1_miss (c : UInt8) (h : c.toNat < 65 ∨ 90 < c.toNat) : lo1 c = c := by
  unfold lo1
  rw [if_neg (by omega)]

theorem lower_get (s : ByteArray) (j : Nat) (hj : j < (lower s.data.toList).length) (hj' : j < s.size) : (lower s.data.toList)[j] = lo1 s[j] := by
  simp only [lower_map, List.getElem_map, Array.getElem_toList]
  rfl

set_option maxRecDepth 100000 in
set_option maxHeartbeats 1600000 in
theorem shiftLower_any (s : ByteArray) (w : World) :
    Calls Tryd.prog 40 #[.string s, .int .i32 65, .int .i32 97] w fun e w' => e = .returned (.string (str (lower s.data.toList))) ∧ Below w.heap.size w w' := by
  have hconv := run_bytes_of_string (P := Tryd.prog) w 9 51 5 s Tryd.underlying9 Tryd.underlying51 Tryd.underlying5
  have hnew := Bytes.new (f := lo1) w s (grownCap w s.size 0 5) 5
  have hbel0 : Below w.heap.size w (w.drew.alloc (.cells (bytesRow s (grownCap w s.size 0 5)) 5 ((bytesRow s (grownCap w s.size 0 5)).size, (bytesRow s (grownCap w s.size 0 5)).size + 1))) :=
    ((Below.refl _ _).drew).alloc (Nat.le_refl _) _
  have hsz0 : (w.drew.alloc (.cells (bytesRow s (grownCap w s.size 0 5)) 5 ((bytesRow s (grownCap w s.size 0 5)).size, (bytesRow s (grownCap w s.size 0 5)).size + 1))).heap.size = w.heap.size + 1 := by simp
  generalize grownCap w s.size 0 5 = cap at *
  go_enter Tryd.func40, Tryd.ntmps40
  go_wp2_with fail
  clear hconv
  go_loopw [8] (fun _ wr => ∃ pos : Nat, pos ≤ s.size ∧ wr.heap[w.heap.size + 1]? = some (.stringIter s pos) ∧ Hid (Bytes lo1 wr w.heap.size s pos) ∧ Below w.heap.size w wr) (fun _ wr => s.size - wr.iterPos (w.heap.size + 1))
  case atStart =>
    refine ⟨0, Nat.zero_le _, ?_, hnew.of_block ?_, hbel0.alloc (by rw [hsz0]; omega) _⟩
    · rw [← hsz0]; exact World.iter_heap _ _ _
    · show (Array.push _ _)[w.heap.size]? = _
      rw [Array.getElem?_push, if_neg (by intro e; simp at e)]
      rfl
  case round =>
    obtain ⟨pos, hpos, hit, HB, hbel⟩ := hrel
    have hip : wr.iterPos (w.heap.size + 1) = pos := by simp [World.iterPos, hit]
    clear hnew hbel0 hsz0
    by_cases hlt : pos < s.size
    · obtain ⟨r1, r2, r3⟩ := rune_conts s pos hlt
      have hnext := fun ty => Lib.run_next_any_at (P := Tryd.prog) wr (w.heap.size + 1) s pos ty hit hlt
      have hit2 := Lib.iterAt_heap wr (w.heap.size + 1) s pos (pos + (Utf8.decode s pos).2) hit
      have HB2 : Hid (Bytes lo1 (wr.iterAt (w.heap.size + 1) s (pos + (Utf8.decode s pos).2)) w.heap.size s pos) := Lib.hid (HB.out.of_block (Lib.iterAt_other _ _ _ _ _ (by omega)))
      have hbel2 : Below w.heap.size w (wr.iterAt (w.heap.size + 1) s (pos + (Utf8.decode s pos).2)) := Lib.below_iterAt hbel (by omega) _ _
      have hip2 : (wr.iterAt (w.heap.size + 1) s (pos + (Utf8.decode s pos).2)).iterPos (w.heap.size + 1) = pos + (Utf8.decode s pos).2 := by simp [World.iterPos, hit2]
      have hlow : (s[pos]'hlt).toNat < 128 → (Utf8.decode s pos).1 = (s[pos]'hlt).toNat ∧ (Utf8.decode s pos).2 = 1 := fun h => by rw [decode_ascii s pos hlt h]; exact ⟨rfl, rfl⟩
      have hhigh : 128 ≤ (s[pos]'hlt).toNat → 128 ≤ (Utf8.decode s pos).1 := fun h => (decode_high s pos hlt h).1
      have hle := decode_le s pos
      have hmiss : (65 ≤ (s[pos]'hlt).toNat ∧ (s[pos]'hlt).toNat ≤ 90) ∨ Bytes lo1 (wr.iterAt (w.heap.size + 1) s (pos + (Utf8.decode s pos).2)) w.heap.size s (pos + (Utf8.decode s pos).2) := by
        by_cases hl : 65 ≤ (s[pos]'hlt).toNat ∧ (s[pos]'hlt).toNat ≤ 90
        · exact .inl hl
        · refine .inr (HB2.out.skip (by omega) (fun j h1 h2 hj => lo1_miss _ ?_))
          rcases Nat.lt_or_ge pos j with h | h
          · have := r3 j h h2 hj
            omega
          · obtain rfl : j = pos := by omega
            omega
      have HM := Lib.hid hmiss; clear hmiss r3
      obtain ⟨c, hc⟩ : ∃ c : Nat, (s[pos]'hlt).toNat = c := ⟨_, rfl⟩
      have hcell := HB2.out.cell pos hlt
      rw [if_neg (Nat.lt_irrefl _)] at hcell
      have HC := Lib.hid hc
      rw [hc] at hlow hhigh hcell
      obtain ⟨hcell1, hcell2⟩ := hcell
      have HBU := Lib.hid (lo1_hit (s[pos]'hlt))
      clear hc
      generalize (Utf8.decode s pos).1 = r at *
      generalize (Utf8.decode s pos).2 = k at *
      generalize wr.iterAt (w.heap.size + 1) s (pos + k) = W1 at *
      have hpi0 : (0 : Int) ≤ (pos : Int) := by omega
      have hpi1 : (pos : Int) < (s.size : Int) := by omega
      by_cases hl : 65 ≤ c ∧ c ≤ 90
      · obtain ⟨h1, h2⟩ := hl
        obtain ⟨e1, e2⟩ := hlow (by omega)
        subst e1
        subst e2
        clear hlow hhigh hle HM
        go_wp2_with fail
        go_roundw
        case rel =>
          refine ⟨pos + 1, by omega, ?_, HB2.out.store hlt _ ?_, ?_⟩
          · rw [setCell_other _ _ _ _ _ (by omega)]; exact hit2
          · rw [HBU.out (by rw [HC.out]; exact h1) (by rw [HC.out]; exact h2), HC.out]; omega
          · exact hbel2.setCell (p := ⟨w.heap.size, pos, none⟩) (Nat.le_refl _) _
        case measure => rw [iterPos_of (w := W1.setCell _ _) (s := s) (p := pos + 1) (by rw [setCell_other _ _ _ _ _ (by omega)]; exact hit2), hip]; omega
      · have HB3 : Hid (Bytes lo1 W1 w.heap.size s (pos + k)) := Lib.hid (by
          rcases HM.out with h | h
          · rw [HC.out] at h; exact absurd h hl
          · exact h)
        have hr : r < 65 ∨ 90 < r := by
          rcases Nat.lt_or_ge c 128 with h | h
          · have := (hlow h).1; omega
          · have := hhigh h; omega
        clear HM hlow hhigh
        rcases hr with h1 | h1
        · go_wp2_with fail
          go_roundw
          case rel => exact ⟨pos + k, by omega, hit2, HB3, hbel2⟩
          case measure => rw [hip, hip2]; omega
        · have h2 : (65 : Int) ≤ (r : Int) := by omega
          have h3 : ¬ ((r : Int) < 91) := by omega
          go_wp2_with fail
          go_roundw
          case rel => exact ⟨pos + k, by omega, hit2, HB3, hbel2⟩
          case measure => rw [hip, hip2]; omega
    · obtain rfl : pos = s.size := by omega
      have hnext := fun ty => Lib.run_next_end_at (P := Tryd.prog) wr (w.heap.size + 1) s s.size ty hit hlt
      have hback := run_convert_bytes_back (P := Tryd.prog) wr 51 9 5 ⟨w.heap.size, 0, none⟩ cap (lower s.data.toList) Tryd.underlying51 Tryd.underlying5 Tryd.underlying9 (fun j hj => by
        have hj' : j < s.size := by rw [lower_map, List.length_map, Array.length_toList] at hj; exact hj
        have := (HB.out.cell j hj').1
        rw [if_pos hj'] at this
        have ea : (⟨w.heap.size, 0, none⟩ : Addr).add j = ⟨w.heap.size, j, none⟩ := by simp [Addr.add]; exact fun h => h.symm
        rw [ea, this, lower_get s j hj hj'])
      rw [lower_map, List.length_map] at hback
      have hln : s.data.toList.length = s.size := by rw [Array.length_toList]; rfl
      rw [hln, ← lower_map] at hback
      clear hln
      go_wp2_with fail
      go_ret
      exact ⟨rfl, hbel⟩

theorem lower_any (s : ByteArray) (w : World) :
    Calls Tryd.prog 20 #[.string s] w fun e w' => e = .returned (.string (str (lower s.data.toList))) ∧ Below w.heap.size w w' := by
  go_enter Tryd.func20, Tryd.ntmps20
  go_wp2_with fail
  refine (shiftLower_any s _).mono ?_
  rintro e w1 ⟨rfl, hb⟩
  go_wp2_with fail
  go_ret
  exact ⟨rfl, hb⟩

end Go.Proofs.YtlpmaeemegphiaaDoor
