/-
  The closure of Split of the package. Nothing is assumed.
-/
import Derived.Test.YtampofpllijfhaaTbUnpB
import Derived.Test.YtampofpllijfhaaShelf
namespace Go.Proofs.Ytampofpllijfhaa
open Go.RowKit

def cutA (s by_ : ByteArray) : ByteArray := ⟨(Lib.cut s.data.toList by_.data.toList).1.toArray⟩
def cutB (s by_ : ByteArray) : ByteArray := ⟨(Lib.cut s.data.toList by_.data.toList).2.1.toArray⟩
/-- A row with a divided cell. -/
def splR (c : Nat) (by_ : ByteArray) (r : Row) : Row := r.take c ++ ([cutA ((r[c]?).getD ⟨#[]⟩) by_, cutB ((r[c]?).getD ⟨#[]⟩) by_] ++ r.drop (c + 1))
theorem HoldsS.drop {w : World} {P : Nat → Prop} {n c k b off : Nat} {l : List ByteArray} (h : HoldsS w P (.slice (some ⟨b, off, none⟩) n c) l) (hk : k ≤ n) : HoldsS w P (.slice (some ⟨b, off + k, none⟩) (n - k) (c - k)) (l.drop k) := by
  obtain ⟨h1, h2, h3⟩ := h.len
  refine ⟨_, c - k, by rw [List.length_drop, h1], by simp; omega, by omega, fun i z hz => ?_⟩
  rw [List.getElem?_drop] at hz
  obtain ⟨b', off', he, hp, hcc⟩ := h.at_ hz
  cases he
  exact ⟨b, off + k, rfl, hp, by rw [Nat.add_assoc]; exact hcc⟩
theorem HoldsS.empty (w : World) (P : Nat → Prop) (oa : Option Addr) : HoldsS w P (.slice oa 0 0) [] := ⟨oa, 0, rfl, Nat.le_refl _, by omega, fun i z h => by simp at h⟩
theorem part_three (w : World) (B : Nat) (x y : Value) (r q : Row) (a b : ByteArray) (h : HoldsS w (· < B) x r) (h' : HoldsS w (· < B) y q) (hB : B ≤ w.heap.size) :
    HoldsT ((w.alloc (.cells #[.string a, .string b] 9)).alloc (.cells #[x, .slice (some ⟨w.heap.size, 0, none⟩) 2 2, y] 29)) (· < w.heap.size + 2) (.slice (some ⟨w.heap.size + 1, 0, none⟩) 3 3) [r, [a, b], q] := by
  have hb1 := below1 w (.cells #[.string a, .string b] 9)
  have hb2 := hb1.alloc (by simp : w.heap.size ≤ (w.alloc (.cells #[.string a, .string b] 9)).heap.size) (.cells #[x, .slice (some ⟨w.heap.size, 0, none⟩) 2 2, y] 29)
  refine ⟨_, 3, rfl, Nat.le_refl _, by omega, fun i z hi => ?_⟩
  match i, hi with
  | 0, hi =>
    simp at hi
    subst hi
    exact ⟨_, 0, x, rfl, by omega, by simp, (h.later (hb2.mono hB)).mono (by omega)⟩
  | 1, hi =>
    simp at hi
    subst hi
    refine ⟨_, 0, _, rfl, by omega, by simp; rfl, ⟨_, 2, rfl, Nat.le_refl _, by omega, fun j z hz => ?_⟩⟩
    match j, hz with
    | 0, hz => simp at hz; subst hz; exact ⟨_, 0, rfl, by omega, by simp⟩
    | 1, hz => simp at hz; subst hz; exact ⟨_, 0, rfl, by omega, by simp⟩
    | j + 2, hz => simp at hz
  | 2, hi =>
    simp at hi
    subst hi
    exact ⟨_, 0, y, rfl, by omega, by simp, (h'.later (hb2.mono hB)).mono (by omega)⟩
  | i + 3, hi => simp at hi

set_option maxRecDepth 100000 in
set_option maxHeartbeats 1600000 in
theorem splitOne_any (x : Value) (r : List ByteArray) (c bx by1 : Nat) (sep : ByteArray) (m : Int) (w : World) (B : Nat) (hx : HoldsS w (· < B) x r) (hB : B ≤ w.heap.size) (hc : c < r.length) (hr8 : r.length ≤ 8) (hs : ∀ s ∈ r, s.size ≤ 64)
    (h0 : w.cell? ⟨0, 0, none⟩ = some (.int .i64 m)) (h1 : w.cell? ⟨bx, 0, none⟩ = some (.int .i64 (c : Int))) (h2 : w.cell? ⟨by1, 0, none⟩ = some (.string sep)) :
    Calls Try.prog 71 #[x, .pointer (some ⟨bx, 0, none⟩), .pointer (some ⟨by1, 0, none⟩)] w fun e w' => (∃ v, e = .returned v ∧ HoldsS w' (Btw w.heap.size w'.heap.size) v (splR c sep r)) ∧ Below w.heap.size w w' := by
  have HX := Lib.hid hx
  obtain ⟨oa, ca, rfl, hcap, _⟩ := hx.form
  obtain ⟨b, off, rfl, hb, hcell⟩ := hx.at_ (List.getElem?_eq_getElem hc)
  have hblt := cell_lt h1
  have hylt := cell_lt h2
  have HCUT : Hid (∀ W : World, Below w.heap.size w W → Calls Try.prog 72 #[.string r[c], .string sep] W fun e w' => e = .returned (.tuple #[.string (cutA r[c] sep), .string (cutB r[c] sep), .bool (Lib.cut r[c].data.toList sep.data.toList).2.2]) ∧ ∃ n, w' = W.drewN n) :=
    Lib.hid (fun W hb => Try.strings_Cut r[c] sep m W (by have := hs _ (List.getElem_mem hc); omega) ((hb.cell (p := ⟨0, 0, none⟩) (cell_lt h0)).trans h0))
  have HR : Hid (splR c sep r = [r.take c, [cutA r[c] sep, cutB r[c] sep], r.drop (c + 1)].flatten) := Lib.hid (by unfold splR; simp [hc])
  have hci0 : (0 : Int) ≤ (c : Int) := by omega
  have hci1 : (c : Int) < (r.length : Int) := by omega
  obtain ⟨z1, hz1⟩ : ∃ z, r[c] = z := ⟨_, rfl⟩
  rw [hz1] at HCUT HR hcell
  obtain ⟨CA, hCA⟩ : ∃ CA, cutA z1 sep = CA := ⟨_, rfl⟩
  obtain ⟨CB, hCB⟩ : ∃ CB, cutB z1 sep = CB := ⟨_, rfl⟩
  obtain ⟨CC, hCC⟩ : ∃ CC, (Lib.cut z1.data.toList sep.data.toList).2.2 = CC := ⟨_, rfl⟩
  rw [hCA, hCB] at HCUT HR
  rw [hCC] at HCUT
  clear hx hs h0 hz1 hCA hCB hCC
  go_enter Try.func71, Try.ntmps71
  go_wp2_with fail
  go_region_law (first
    | (go_simp; go_at_call 72; refine (HCUT.out _ (Below.refl _ _).drew).mono ?_; rintro e w1 ⟨rfl, n1, hw1⟩; have HW1 := Lib.hid hw1; clear hw1))
  all_goals
    have hb1 : Below w.heap.size w w1 := by rw [HW1.out]; exact (Below.refl _ _).drew.trans (below_drewN _ _ _)
    have HSZ : Hid (w1.heap.size = w.heap.size) := Lib.hid (by rw [HW1.out]; rfl)
    have k1 := (hb1.cell (p := ⟨bx, 0, none⟩) hblt).trans h1
    have HX1 := Lib.hid (HX.out.later (hb1.mono hB))
    have hbl1 : bx < w1.heap.size := Nat.lt_of_lt_of_le hblt hb1.size
    have k2 : ∀ X : Obj, (w1.alloc X).cell? ⟨bx, 0, none⟩ = some (.int .i64 (c : Int)) := fun X => ((below1 w1 X).cell (p := ⟨bx, 0, none⟩) hbl1).trans k1
    have hB1 : B ≤ w1.heap.size := Nat.le_trans hB hb1.size
    clear HW1 h1 h2 hcell
    obtain ⟨c1, hc1⟩ : ∃ c1, c + 1 = c1 := ⟨_, rfl⟩
    have hc1i : (c : Int) + 1 = (c1 : Int) := by omega
    rw [hc1] at HR
    have hc1l : (c1 : Int) ≤ (r.length : Int) := by omega
    have hc1c : (c1 : Int) ≤ (ca : Int) := by omega
    have hc1z : (0 : Int) ≤ (c1 : Int) := by omega
    have hwr : IntKind.i64.wrap (c1 : Int) = (c1 : Int) := IntWalk.i64_in _ (by omega)
    have hcc : (c : Int) ≤ (ca : Int) := by omega
    have HF8 : Hid ([r.take c, [CA, CB], r.drop c1].flatten.length ≤ 20) := Lib.hid (by simp; omega)
    by_cases hca : ca = c1
    · subst hca
      have HP0 := part_three w1 B _ (.slice (some ⟨b, off, none⟩) 0 0) _ (r.drop ca) CA CB (HX1.out.take (show c ≤ r.length by omega)) (by rw [List.drop_of_length_le (by omega)]; exact HoldsS.empty _ _ _) hB1
      have HP := Lib.hid (HP0.later (Below.refl (w1.heap.size + 2) _).drew)
      have HJ := Lib.hid (joined_any _ [r.take c, [CA, CB], r.drop ca] _ (w1.heap.size + 2) HP.out (by simp [World.drew]) (by have := HF8.out; omega) (by simp))
      obtain ⟨R1, hR1⟩ : ∃ R1, [r.take c, [CA, CB], r.drop ca].flatten = R1 := ⟨_, rfl⟩
      rw [hR1] at HJ HR HF8
      clear hR1
      clear HP0
      go_wp2_with fail
      go_region_law (first
        | (go_simp; go_at_call 53; refine HJ.out.mono ?_; rintro e w2 ⟨⟨g, rfl, hg, ho⟩, hb2⟩))
      all_goals
        have hbW : Below w1.heap.size w1 w2 := ((((below1 w1 _).alloc (by simp) _)).drew).trans (hb2.mono (by simp [World.drew]; omega))
        have HG := Lib.hid hg
        have HO := Lib.hid ho
        clear hg ho hb2
        go_wp2_with fail
        go_ret
        exact ⟨⟨_, rfl, by rw [HR.out]; exact HO.out.holds (P := Btw w.heap.size w2.heap.size) rfl (by have := HF8.out; omega) ⟨by have := HG.out; simp [World.drew] at this; have := HSZ.out; omega, HO.out.lt⟩⟩, hb1.trans (hbW.mono hb1.size)⟩
    · have HP0 := part_three w1 B _ (.slice (some ⟨b, off + c1, none⟩) (r.length - c1) (ca - c1)) _ (r.drop c1) CA CB (HX1.out.take (show c ≤ r.length by omega)) (HX1.out.drop (by omega)) hB1
      have HP := Lib.hid (HP0.later (Below.refl (w1.heap.size + 2) _).drew)
      have HJ := Lib.hid (joined_any _ [r.take c, [CA, CB], r.drop c1] _ (w1.heap.size + 2) HP.out (by simp [World.drew]) (by have := HF8.out; omega) (by simp))
      obtain ⟨R1, hR1⟩ : ∃ R1, [r.take c, [CA, CB], r.drop c1].flatten = R1 := ⟨_, rfl⟩
      rw [hR1] at HJ HR HF8
      clear hR1
      clear HP0
      go_wp2_with fail
      go_region_law (first
        | (go_simp; go_at_call 53; refine HJ.out.mono ?_; rintro e w2 ⟨⟨g, rfl, hg, ho⟩, hb2⟩))
      all_goals
        have hbW : Below w1.heap.size w1 w2 := ((((below1 w1 _).alloc (by simp) _)).drew).trans (hb2.mono (by simp [World.drew]; omega))
        have HG := Lib.hid hg
        have HO := Lib.hid ho
        clear hg ho hb2
        go_wp2_with fail
        go_ret
        exact ⟨⟨_, rfl, by rw [HR.out]; exact HO.out.holds (P := Btw w.heap.size w2.heap.size) rfl (by have := HF8.out; omega) ⟨by have := HG.out; simp [World.drew] at this; have := HSZ.out; omega, HO.out.lt⟩⟩, hb1.trans (hbW.mono hb1.size)⟩

end Go.Proofs.Ytampofpllijfhaa
