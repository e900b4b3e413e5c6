/-
  The walks of the statements' own helper (alive), and of the reference's Size.
-/
import Derived.Test.YtohecojckghedaaDoorNames2
import Derived.Test.YtohecojckghedaaDoorDefault
import Derived.Test.YtohecojckghedaaDoorSmall
import Derived.Test.YtohecojckghedaaDoorSize
import Derived.Test.YtohecojckghedaaDoorRefCheck
import Derived.Test.YtohecojckghedaaDoorRefCompare
import Derived.Lib.QuietBelow
import Derived.BigQuiet
namespace Go.Proofs.YtohecojckghedaaDoor
open Go.RowKit

def vm1 : V := .mk 2 (-1) ⟨#[]⟩ []
def vp1 : V := .mk 2 1 ⟨#[]⟩ []
def vb1 : V := .mk 4 (-1) ⟨#[]⟩ []
theorem cmp_pm : vm1.cmp vp1 = -1 := by rw [V.cmp_eq]; decide
theorem chk_b1 : vb1.chk = 1 := by rw [V.chk_eq]; decide

set_option maxHeartbeats 800000 in
theorem alive_any (w : World) (hN : Names w) : Calls Tryd.prog 21 #[] w fun e w' => e = .returned (.bool true) ∧ Below w.heap.size w w' := by
  go_enter Tryd.func21, Tryd.ntmps21
  go_wp2_with fail
  refine (compare_any vm1 vp1 (.slice none 0 0) (.slice none 0 0) w 0 Rep.nil Rep.nil (Nat.zero_le _)).mono ?_
  rintro e w1 ⟨rfl, hb1⟩
  rw [cmp_pm]
  go_wp2_with fail
  refine (check_any vb1 (.slice none 0 0) w1 0 Rep.nil (Nat.zero_le _)).mono ?_
  rintro e w2 ⟨rfl, hb2⟩
  rw [chk_b1]
  have hb3 : Below w.heap.size w w2 := hb1.trans (hb2.mono hb1.size)
  have hN2 := Lib.hid (hN.later hb3)
  go_wp2_with fail
  refine (typeName_any 2 w2 hN2.out).mono ?_
  rintro e w3 ⟨rfl, rfl⟩
  have ht : tname 2 = ⟨#[105, 110, 116]⟩ := rfl
  rw [ht]
  go_wp2_with fail
  go_ret
  exact ⟨rfl, hb3⟩

set_option maxHeartbeats 800000 in
theorem refSize_any (v : V) : ∀ (sl : Value) (w : World) (B : Nat), Rep w B sl v.l → B ≤ w.heap.size →
    Calls Tryd.prog 26 #[.agg #[.int .i64 v.t, .int .i64 v.n, .string v.s, sl]] w fun e w' => e = .returned (.int .i64 v.size) ∧ Below w.heap.size w w' := by
  induction v using V.ind with
  | h v ih =>
  intro sl w B hrep hB
  obtain ⟨oa, cap, rfl, hlc, hm, hel⟩ := hrep.slice
  go_enter Tryd.func26, Tryd.ntmps26
  go_wp2_with fail
  go_loopw [3, 4] (fun s i wr => ∃ k : Nat, k ≤ v.l.length ∧ i = .int .i64 k ∧ s = .int .i64 (V.sizes 1 (v.l.take k)) ∧ Below (w.heap.size + 1) (w.alloc (.cells #[.int .i64 v.t, .int .i64 v.n, .string v.s, .slice oa v.l.length cap] 24)) wr) (fun _ i _ => v.l.length - (intOf i).toNat)
  case atStart => exact ⟨0, Nat.zero_le _, rfl, rfl, Below.refl _ _⟩
  case round =>
    obtain ⟨k, hk, rfl, rfl, hbel'⟩ := hrel
    have hbel : Below w.heap.size w wr := (below1 _ _).trans (hbel'.mono (by omega))
    obtain ⟨_, _, _, hown⟩ := box_later hbel'
    by_cases hlt : k < v.l.length
    · obtain ⟨b, off, oe, ce, rfl, hb, h0, h1, h2, h3, hr⟩ := hel k _ (List.getElem?_eq_getElem hlt)
      rw [← hbel.cell (p := ⟨b, _, none⟩) (Nat.lt_of_lt_of_le hb hB)] at h0 h1 h2 h3
      have hs := hbel.size
      have hs1 := hbel'.size
      go_wp2_with fail
      refine (ih _ (List.getElem_mem hlt) _ _ B (hr.later (hbel.mono hB)) (by omega)).mono ?_
      rintro e w1 ⟨rfl, hb1⟩
      go_wp2_with fail
      go_roundw
      case rel =>
        refine ⟨k + 1, hlt, by go_num, ?_, hbel'.trans (hb1.mono (by simp at hs1; omega))⟩
        rw [List.take_succ_eq_append_getElem hlt, V.sizes_snoc]
      case measure => simp [intOf]; omega
    · go_wp2_with fail
      go_ret
      obtain rfl : k = v.l.length := by omega
      exact ⟨ret_int (by rw [List.take_length, ← V.size_eq]), hbel⟩

theorem box_at {w w1 : World} {n : Nat} {a b c d : Value} {t : Nat} (hn : w.heap.size = n) (h : Below (n + 1) (w.alloc (.cells #[a, b, c, d] t)) w1) :
    w1.cell? ⟨n, 0, none⟩ = some a ∧ w1.cell? ⟨n, 1, none⟩ = some b ∧ w1.cell? ⟨n, 2, none⟩ = some c ∧ w1.cell? ⟨n, 3, none⟩ = some d := by
  subst hn
  exact box_later h

/-- A boxed value at block n. -/
def Box (w : World) (n : Nat) (v : V) (sl : Value) : Prop :=
  w.cell? ⟨n, 0, none⟩ = some (.int .i64 v.t) ∧ w.cell? ⟨n, 1, none⟩ = some (.int .i64 v.n) ∧ w.cell? ⟨n, 2, none⟩ = some (.string v.s) ∧ w.cell? ⟨n, 3, none⟩ = some sl
theorem Box.later {w w1 : World} {n B : Nat} {v : V} {sl : Value} (h : Box w n v sl) (hb : Below B w w1) (hn : n < B) : Box w1 n v sl := by
  obtain ⟨h0, h1, h2, h3⟩ := h
  exact ⟨(hb.cell (p := ⟨n, _, none⟩) hn).trans h0, (hb.cell (p := ⟨n, _, none⟩) hn).trans h1, (hb.cell (p := ⟨n, _, none⟩) hn).trans h2, (hb.cell (p := ⟨n, _, none⟩) hn).trans h3⟩
theorem Box.new {w : World} {n : Nat} (v : V) (sl : Value) (t : Nat) (hn : w.heap.size = n) : Box (w.alloc (.cells #[.int .i64 v.t, .int .i64 v.n, .string v.s, sl] t)) n v sl :=
  box_at hn (Below.refl _ _)

end Go.Proofs.YtohecojckghedaaDoor
