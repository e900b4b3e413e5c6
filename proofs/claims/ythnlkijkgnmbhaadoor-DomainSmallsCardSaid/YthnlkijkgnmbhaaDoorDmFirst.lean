/-
  alternating; the first values of package domain for the types that have no lists and no texts. Nothing is assumed.
-/
import Derived.Test.YthnlkijkgnmbhaaDoorDmAcc
import Derived.Test.YthnlkijkgnmbhaaDoorDmOf
namespace Go.Proofs.YthnlkijkgnmbhaaDoor
open Go.RowKit

/-- Number i of the sequence 0, 1, -1, 2, -2, .. -/
def altI (i : Nat) : Int := if i % 2 = 0 then -((i / 2 : Nat) : Int) else (((i + 1) / 2 : Nat) : Int)

set_option maxHeartbeats 800000 in
theorem alternating_any (i : Nat) (w : World) (_hi : i ≤ 1000) :
    Calls Tryd.prog 62 #[.int .i64 (i : Int)] w fun e w' => e = .returned (.int .i64 (altI i)) ∧ w = w' := by
  have hq : Int.tmod (i : Int) 2 = ((i % 2 : Nat) : Int) := rfl
  by_cases h : i % 2 = 0
  · have HZ := Lib.hid (show altI i = -((i / 2 : Nat) : Int) from if_pos h)
    have h1 : Int.tmod (i : Int) 2 = 0 := by omega
    clear hq
    go_enter Tryd.func62, Tryd.ntmps62
    go_wp2_with fail
    go_ret
    exact ⟨ret_int (by rw [HZ.out]; omega), rfl⟩
  · have HZ := Lib.hid (show altI i = (((i + 1) / 2 : Nat) : Int) from if_neg h)
    have h1 : Int.tmod (i : Int) 2 = 1 := by omega
    clear hq
    go_enter Tryd.func62, Tryd.ntmps62
    go_wp2_with fail
    go_ret
    exact ⟨ret_int (by rw [HZ.out]; omega), rfl⟩

/-- What firstValue returns for a type, below m. -/
def FstC (t : Int) (fst : Nat → V) (m : Nat) : Prop := ∀ (i : Nat) (w : World), i < m → Calls Tryd.prog 44 #[.int .i64 t, .int .i64 (i : Int)] w fun e w' =>
  (∃ sl, e = .returned (.agg #[.int .i64 (fst i).t, .int .i64 (fst i).n, .string (fst i).s, sl]) ∧ RepS w' (fun b => w.heap.size ≤ b ∧ b < w'.heap.size) sl (fst i).l) ∧ Below w.heap.size w w'

def fBool (i : Nat) : V := .mk 1 (if i = 1 then 1 else 0) ⟨#[]⟩ []
def fInt (i : Nat) : V := .mk 2 (altI i) ⟨#[]⟩ []
def fBits (i : Nat) : V := .mk 4 i ⟨#[]⟩ []

theorem ret_v {a b c d : Int} {s s' : ByteArray} {x : Value} (h : a = b) (h' : c = d) (h'' : s = s') : Ending.returned (.agg #[.int .i64 a, .int .i64 c, .string s, x]) = .returned (.agg #[.int .i64 b, .int .i64 d, .string s', x]) := by rw [h, h', h'']
theorem box_frozen (w : World) : ∀ o : Nat, (w.alloc (.cells #[.int .i64 0, .int .i64 0, .string ⟨#[]⟩, .slice none 0 0] 48)).frozen? ⟨w.heap.size, o, none⟩ = false := fun o => frozen_new w _ _ o

set_option maxRecDepth 100000 in
set_option maxHeartbeats 1600000 in
theorem fstBool_any : FstC 1 fBool 1000 := by
  intro i w hi
  have HB := Lib.hid (fun w' => by
    have h := ofBool_any (decide (i = 1)) w'
    rw [show (if decide (i = 1) = true then (1 : Int) else 0) = (if i = 1 then 1 else 0) by simp] at h
    obtain ⟨nn, hnn⟩ : ∃ nn : Int, nn = (if i = 1 then 1 else 0) := ⟨_, rfl⟩
    rw [← hnn] at h
    exact (hnn ▸ h : Calls Tryd.prog 59 #[.bool (decide (i = 1))] w' fun e w'' => e = .returned (.agg #[.int .i64 1, .int .i64 (if i = 1 then 1 else 0), .string ⟨#[]⟩, .slice none 0 0]) ∧ Below w'.heap.size w' w''))
  have hdec : ((i : Int) == 1) = decide (i = 1) := by
    by_cases h : i = 1
    · subst h; rfl
    · rw [decide_eq_false h, beq_eq_false_iff_ne]; omega
  obtain ⟨nn, hnn⟩ : ∃ nn : Int, (if i = 1 then 1 else 0) = nn := ⟨_, rfl⟩
  have HNN := Lib.hid (show fBool i = .mk 1 nn ⟨#[]⟩ [] by unfold fBool; rw [hnn])
  rw [hnn] at HB
  rw [HNN.out]
  clear hnn
  go_enter Tryd.func44, Tryd.ntmps44
  go_wp2_with fail
  refine (HB.out _).mono ?_
  rintro e w9 ⟨rfl, hb9⟩
  have HBZ := Lib.hid (show Below (w.heap.size + 1) (w.alloc (.cells #[.int .i64 0, .int .i64 0, .string ⟨#[]⟩, .slice none 0 0] 48)) w9 from hb9.mono (by simp))
  clear hb9
  have hbz : Below (w.heap.size + 1) (w.alloc (.cells #[.int .i64 0, .int .i64 0, .string ⟨#[]⟩, .slice none 0 0] 48)) w9 := HBZ.out
  obtain ⟨x0, x1, x2, x3⟩ := box_later hbz
  have z0 := (hbz.frozen (p := ⟨w.heap.size, 0, none⟩) (Nat.lt_succ_self _)).trans (box_frozen w 0)
  have z1 := (hbz.frozen (p := ⟨w.heap.size, 1, none⟩) (Nat.lt_succ_self _)).trans (box_frozen w 1)
  have z2 := (hbz.frozen (p := ⟨w.heap.size, 2, none⟩) (Nat.lt_succ_self _)).trans (box_frozen w 2)
  have z3 := (hbz.frozen (p := ⟨w.heap.size, 3, none⟩) (Nat.lt_succ_self _)).trans (box_frozen w 3)
  clear hbz
  go_wp2_with fail
  refine bodyPost_ret (v := .agg #[.int .i64 1, .int .i64 nn, .string ⟨#[]⟩, .slice none 0 0]) (by simp [results, Tryd.results44, go_sem, *]) rfl ?_
  refine ⟨⟨.slice none 0 0, rfl, RepS.empty _ _⟩, ?_⟩
  exact (below1 w _).trans (((((HBZ.out.mono (Nat.le_succ _)).setCell (p := ⟨w.heap.size, _, none⟩) (Nat.le_refl _) _).setCell (p := ⟨w.heap.size, _, none⟩) (Nat.le_refl _) _).setCell (p := ⟨w.heap.size, _, none⟩) (Nat.le_refl _) _).setCell (p := ⟨w.heap.size, _, none⟩) (Nat.le_refl _) _)

set_option maxRecDepth 100000 in
set_option maxHeartbeats 1600000 in
theorem fstInt_any : FstC 2 fInt 1000 := by
  intro i w hi
  have HA := Lib.hid (fun w' => alternating_any i w' (by omega))
  have HB := Lib.hid (fun w' => ofInt_any (altI i) w')
  go_enter Tryd.func44, Tryd.ntmps44
  go_wp2_with fail
  refine (HA.out _).mono ?_
  rintro e w8 ⟨rfl, hw8⟩
  obtain rfl := hw8.symm
  go_wp2_with fail
  refine (HB.out _).mono ?_
  rintro e w9 ⟨rfl, hb9⟩
  have HBZ := Lib.hid (show Below (w.heap.size + 1) (w.alloc (.cells #[.int .i64 0, .int .i64 0, .string ⟨#[]⟩, .slice none 0 0] 48)) w9 from hb9.mono (by simp))
  clear hb9
  have hbz : Below (w.heap.size + 1) (w.alloc (.cells #[.int .i64 0, .int .i64 0, .string ⟨#[]⟩, .slice none 0 0] 48)) w9 := HBZ.out
  obtain ⟨x0, x1, x2, x3⟩ := box_later hbz
  have z0 := (hbz.frozen (p := ⟨w.heap.size, 0, none⟩) (Nat.lt_succ_self _)).trans (box_frozen w 0)
  have z1 := (hbz.frozen (p := ⟨w.heap.size, 1, none⟩) (Nat.lt_succ_self _)).trans (box_frozen w 1)
  have z2 := (hbz.frozen (p := ⟨w.heap.size, 2, none⟩) (Nat.lt_succ_self _)).trans (box_frozen w 2)
  have z3 := (hbz.frozen (p := ⟨w.heap.size, 3, none⟩) (Nat.lt_succ_self _)).trans (box_frozen w 3)
  clear hbz
  go_wp2_with fail
  refine bodyPost_ret (v := .agg #[.int .i64 2, .int .i64 (altI i), .string ⟨#[]⟩, .slice none 0 0]) (by simp [results, Tryd.results44, go_sem, *]) rfl ?_
  refine ⟨⟨.slice none 0 0, rfl, RepS.empty _ _⟩, ?_⟩
  exact (below1 w _).trans (((((HBZ.out.mono (Nat.le_succ _)).setCell (p := ⟨w.heap.size, _, none⟩) (Nat.le_refl _) _).setCell (p := ⟨w.heap.size, _, none⟩) (Nat.le_refl _) _).setCell (p := ⟨w.heap.size, _, none⟩) (Nat.le_refl _) _).setCell (p := ⟨w.heap.size, _, none⟩) (Nat.le_refl _) _)

set_option maxRecDepth 100000 in
set_option maxHeartbeats 1600000 in
theorem fstBits_any : FstC 4 fBits 1000 := by
  intro i w hi
  have HB := Lib.hid (fun w' => ofBits_any (i : Int) w')
  go_enter Tryd.func44, Tryd.ntmps44
  go_wp2_with fail
  refine (HB.out _).mono ?_
  rintro e w9 ⟨rfl, hb9⟩
  have HBZ := Lib.hid (show Below (w.heap.size + 1) (w.alloc (.cells #[.int .i64 0, .int .i64 0, .string ⟨#[]⟩, .slice none 0 0] 48)) w9 from hb9.mono (by simp))
  clear hb9
  have hbz : Below (w.heap.size + 1) (w.alloc (.cells #[.int .i64 0, .int .i64 0, .string ⟨#[]⟩, .slice none 0 0] 48)) w9 := HBZ.out
  obtain ⟨x0, x1, x2, x3⟩ := box_later hbz
  have z0 := (hbz.frozen (p := ⟨w.heap.size, 0, none⟩) (Nat.lt_succ_self _)).trans (box_frozen w 0)
  have z1 := (hbz.frozen (p := ⟨w.heap.size, 1, none⟩) (Nat.lt_succ_self _)).trans (box_frozen w 1)
  have z2 := (hbz.frozen (p := ⟨w.heap.size, 2, none⟩) (Nat.lt_succ_self _)).trans (box_frozen w 2)
  have z3 := (hbz.frozen (p := ⟨w.heap.size, 3, none⟩) (Nat.lt_succ_self _)).trans (box_frozen w 3)
  clear hbz
  go_wp2_with fail
  refine bodyPost_ret (v := .agg #[.int .i64 4, .int .i64 (i : Int), .string ⟨#[]⟩, .slice none 0 0]) (by simp [results, Tryd.results44, go_sem, *]) rfl ?_
  refine ⟨⟨.slice none 0 0, rfl, RepS.empty _ _⟩, ?_⟩
  exact (below1 w _).trans (((((HBZ.out.mono (Nat.le_succ _)).setCell (p := ⟨w.heap.size, _, none⟩) (Nat.le_refl _) _).setCell (p := ⟨w.heap.size, _, none⟩) (Nat.le_refl _) _).setCell (p := ⟨w.heap.size, _, none⟩) (Nat.le_refl _) _).setCell (p := ⟨w.heap.size, _, none⟩) (Nat.le_refl _) _)

-- end types
end Go.Proofs.YthnlkijkgnmbhaaDoor
