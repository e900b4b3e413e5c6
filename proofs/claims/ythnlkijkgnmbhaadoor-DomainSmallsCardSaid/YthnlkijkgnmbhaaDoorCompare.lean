/-
  The walks of Compare and Equal of the program.
-/
import Derived.Test.YthnlkijkgnmbhaaDoorProg
import Derived.Test.YthnlkijkgnmbhaaDoorRep
import Derived.WalkSpells
import Derived.WalkLawsBesides
import Derived.Lib.Hide
namespace Go.Proofs.YthnlkijkgnmbhaaDoor
open Go.RowKit

set_option maxHeartbeats 400000 in
theorem isNaN_int (a : Int) (w : World) : Calls Tryd.prog 103 #[.int .i64 a] w fun e w' => e = .returned (.bool false) ∧ w = w' := by
  go_enter Tryd.func103, Tryd.ntmps103
  go_wp2_with fail
  go_ret
  exact ⟨rfl, rfl⟩
set_option maxHeartbeats 400000 in
theorem isNaN_int64 (a : Int) (w : World) : Calls Tryd.prog 104 #[.int .i64 a] w fun e w' => e = .returned (.bool false) ∧ w = w' := by
  go_enter Tryd.func104, Tryd.ntmps104
  go_wp2_with fail
  go_ret
  exact ⟨rfl, rfl⟩

set_option maxHeartbeats 400000 in
theorem cmp_int (a b : Int) (w : World) : Calls Tryd.prog 89 #[.int .i64 a, .int .i64 b] w fun e w' => e = .returned (.int .i64 (cmpI a b)) ∧ w = w' := by
  by_cases h1 : a < b
  · have HZ : cmpI a b = -1 := if_pos h1
    rw [HZ]; clear HZ
    go_enter Tryd.func89, Tryd.ntmps89
    go_wp2_with (go_at_call 103; refine (isNaN_int _ _).mono ?_; rintro e w' ⟨rfl, rfl⟩)
    go_ret
    exact ⟨rfl, rfl⟩
  by_cases h2 : b < a
  · have HZ : cmpI a b = 1 := by unfold cmpI; rw [if_neg h1, if_pos h2]
    rw [HZ]; clear HZ
    go_enter Tryd.func89, Tryd.ntmps89
    go_wp2_with (go_at_call 103; refine (isNaN_int _ _).mono ?_; rintro e w' ⟨rfl, rfl⟩)
    go_ret
    exact ⟨rfl, rfl⟩
  · have HZ : cmpI a b = 0 := by unfold cmpI; rw [if_neg h1, if_neg h2]
    rw [HZ]; clear HZ
    go_enter Tryd.func89, Tryd.ntmps89
    go_wp2_with (go_at_call 103; refine (isNaN_int _ _).mono ?_; rintro e w' ⟨rfl, rfl⟩)
    go_ret
    exact ⟨rfl, rfl⟩

set_option maxHeartbeats 400000 in
theorem cmp_int64 (a b : Int) (w : World) : Calls Tryd.prog 90 #[.int .i64 a, .int .i64 b] w fun e w' => e = .returned (.int .i64 (cmpI a b)) ∧ w = w' := by
  by_cases h1 : a < b
  · have HZ : cmpI a b = -1 := if_pos h1
    rw [HZ]; clear HZ
    go_enter Tryd.func90, Tryd.ntmps90
    go_wp2_with (go_at_call 104; refine (isNaN_int64 _ _).mono ?_; rintro e w' ⟨rfl, rfl⟩)
    go_ret
    exact ⟨rfl, rfl⟩
  by_cases h2 : b < a
  · have HZ : cmpI a b = 1 := by unfold cmpI; rw [if_neg h1, if_pos h2]
    rw [HZ]; clear HZ
    go_enter Tryd.func90, Tryd.ntmps90
    go_wp2_with (go_at_call 104; refine (isNaN_int64 _ _).mono ?_; rintro e w' ⟨rfl, rfl⟩)
    go_ret
    exact ⟨rfl, rfl⟩
  · have HZ : cmpI a b = 0 := by unfold cmpI; rw [if_neg h1, if_neg h2]
    rw [HZ]; clear HZ
    go_enter Tryd.func90, Tryd.ntmps90
    go_wp2_with (go_at_call 104; refine (isNaN_int64 _ _).mono ?_; rintro e w' ⟨rfl, rfl⟩)
    go_ret
    exact ⟨rfl, rfl⟩

set_option maxRecDepth 100000 in
set_option maxHeartbeats 1000000 in
theorem cmpString_any (a b : ByteArray) (w : World) : Calls Tryd.prog 105 #[.string a, .string b] w fun e w' => e = .returned (.int .i64 (cmpS a b)) ∧ w = w' := by
  go_enter Tryd.func105, Tryd.ntmps105
  go_wp2_with fail
  rw [run_callFunc_extern Tryd.func111 (by kernel_rfl) (by kernel_rfl) (by kernel_rfl) (e := Extern.BytealgCompare.compare) (by kernel_rfl), Lib.run_compareString]
  simp only [Result.andThen]
  rw [Oper.upon_value]
  go_wp2_with fail
  go_ret
  exact ⟨rfl, rfl⟩

set_option maxHeartbeats 400000 in
theorem strCompare_any (a b : ByteArray) (w : World) : Calls Tryd.prog 91 #[.string a, .string b] w fun e w' => e = .returned (.int .i64 (cmpS a b)) ∧ w = w' := by
  go_enter Tryd.func91, Tryd.ntmps91
  go_wp2_with (go_at_call 105; refine (cmpString_any _ _ _).mono ?_; rintro e w' ⟨rfl, rfl⟩)
  go_ret
  exact ⟨rfl, rfl⟩

def CompareC (a : V) : Prop := ∀ (b : V) (sa sb : Value) (w : World) (B : Nat), Rep w B sa a.l → Rep w B sb b.l → B ≤ w.heap.size →
  Calls Tryd.prog 77 #[.agg #[.int .i64 a.t, .int .i64 a.n, .string a.s, sa], .agg #[.int .i64 b.t, .int .i64 b.n, .string b.s, sb]] w fun e w' =>
    e = .returned (.int .i64 (a.cmp b)) ∧ Below w.heap.size w w'

theorem drop_vs (l : List V) (k : Nat) (h : k < l.length) : l.drop k = l[k] :: l.drop (k + 1) := List.drop_eq_getElem_cons h
theorem neqf {a b : Int} (h : a = b) : (a != b) = false := by subst h; simp
theorem neqt {a b : Int} (h : a ≠ b) : (a != b) = true := bne_iff_ne.2 h

set_option maxRecDepth 100000 in
set_option maxHeartbeats 800000 in
theorem compareFunc_any (l m : List V) (ih : ∀ x, x ∈ l → CompareC x) (sa sb : Value) (w : World) (B : Nat) (hra : Rep w B sa l) (hrb : Rep w B sb m) (hB : B ≤ w.heap.size) :
    Calls Tryd.prog 92 #[sa, sb, .func (.func 77) #[] #[]] w fun e w' => e = .returned (.int .i64 (V.cmps l m)) ∧ Below w.heap.size w w' := by
  obtain ⟨oa, ca, rfl, hlc, hm, hel⟩ := hra.slice
  obtain ⟨ob, cb, rfl, hlc', hm', hel'⟩ := hrb.slice
  go_enter Tryd.func92, Tryd.ntmps92
  go_wp2_with fail
  go_loopw [13] (fun i wr => ∃ k : Nat, k ≤ l.length ∧ k ≤ m.length ∧ i = .int .i64 k ∧ Hid (V.cmps (l.drop k) (m.drop k) = V.cmps l m) ∧ Below w.heap.size w wr) (fun i _ => l.length - (intOf i).toNat)
  case atStart => exact ⟨0, Nat.zero_le _, Nat.zero_le _, rfl, rfl, Below.refl _ _⟩
  case round =>
    obtain ⟨k, hk, hk', rfl, HD, hbel⟩ := hrel
    by_cases hlt : k < l.length
    · obtain ⟨b, off, oe, ce, rfl, hb, h0, h1, h2, h3, hr⟩ := hel k _ (List.getElem?_eq_getElem hlt)
      rw [← hbel.cell (p := ⟨b, _, none⟩) (Nat.lt_of_lt_of_le hb hB)] at h0 h1 h2 h3
      have hs := hbel.size
      have HS := Lib.hid (drop_vs l k hlt)
      by_cases hlt' : k < m.length
      · have HS' := Lib.hid (drop_vs m k hlt')
        obtain ⟨b', off', oe', ce', rfl, hb', g0, g1, g2, g3, hr'⟩ := hel' k _ (List.getElem?_eq_getElem hlt')
        rw [← hbel.cell (p := ⟨b', _, none⟩) (Nat.lt_of_lt_of_le hb' hB)] at g0 g1 g2 g3
        have k0 : ∀ o, (wr.alloc o).cell? ⟨b', off' + k * 4, none⟩ = some (.int .i64 m[k].t) := fun o => (World.cell?_alloc_past _ _ _ (by omega)).trans g0
        have k1 : ∀ o, (wr.alloc o).cell? ⟨b', off' + k * 4 + 1, none⟩ = some (.int .i64 m[k].n) := fun o => (World.cell?_alloc_past _ _ _ (by omega)).trans g1
        have k2 : ∀ o, (wr.alloc o).cell? ⟨b', off' + k * 4 + 2, none⟩ = some (.string m[k].s) := fun o => (World.cell?_alloc_past _ _ _ (by omega)).trans g2
        have k3 : ∀ o, (wr.alloc o).cell? ⟨b', off' + k * 4 + 3, none⟩ = some (.slice oe' m[k].l.length ce') := fun o => (World.cell?_alloc_past _ _ _ (by omega)).trans g3
        go_wp2_with fail
        have hw2 : Below w.heap.size w ((wr.alloc (.cells #[.int .i64 l[k].t, .int .i64 l[k].n, .string l[k].s, .slice oe l[k].l.length ce] 48)).alloc (.cells #[.int .i64 m[k].t, .int .i64 m[k].n, .string m[k].s, .slice oe' m[k].l.length ce'] 48)) :=
          (hbel.alloc hs _).alloc (by simp; omega) _
        refine (ih _ (List.getElem_mem hlt) m[k] _ _ _ B (hr.later (hw2.mono hB)) (hr'.later (hw2.mono hB)) (by simp; omega)).mono ?_
        rintro e w1 ⟨rfl, hb1⟩
        have hb2 : Below w.heap.size w w1 := hw2.trans (hb1.mono (by simp; omega))
        clear hw2
        by_cases hc : l[k].cmp m[k] = 0
        · have fc := neqf hc
          have HC := Lib.hid hc; clear hc
          go_wp2_with fail
          go_roundw
          case rel => exact ⟨k + 1, hlt, hlt', by go_num, by
            have h := HD.out
            rw [HS.out, HS'.out, V.cmps_cons, if_neg (by rw [HC.out]; simp)] at h
            exact h, hb2⟩
          case measure => simp [intOf]; omega
        · have fc := neqt hc
          have HC := Lib.hid hc; clear hc
          go_wp2_with fail
          go_ret
          exact ⟨ret_int (by rw [← HD.out, HS.out, HS'.out, V.cmps_cons, if_pos HC.out]), hb2⟩
      · go_wp2_with fail
        go_ret
        exact ⟨ret_int (by rw [← HD.out, HS.out, List.drop_of_length_le (by omega : m.length ≤ k), V.cmps_cons_nil]), hbel.alloc hs _⟩
    · by_cases hlt' : l.length < m.length
      · go_wp2_with fail
        go_ret
        exact ⟨ret_int (by rw [← HD.out, List.drop_of_length_le (by omega : l.length ≤ k), V.cmps_nil, if_neg (by simp; omega)]), hbel⟩
      · go_wp2_with fail
        go_ret
        exact ⟨ret_int (by rw [← HD.out, List.drop_of_length_le (by omega : l.length ≤ k), V.cmps_nil, if_pos (by simp; omega)]), hbel⟩

set_option maxHeartbeats 1600000 in
theorem compare_any (a : V) : CompareC a := by
  induction a using V.ind with
  | h a ih =>
  intro b sa sb w B hra hrb hB
  obtain ⟨oa, ca, rfl, _, _, _⟩ := hra.slice
  obtain ⟨ob, cb, rfl, _, _, _⟩ := hrb.slice
  have HZ := Lib.hid (V.cmp_eq a b)
  by_cases h1 : cmpI a.t b.t = 0
  · have f1 := neqf h1
    have H1 := Lib.hid h1; clear h1
    by_cases h2 : cmpI a.n b.n = 0
    · have f2 := neqf h2
      have H2 := Lib.hid h2; clear h2
      by_cases h3 : cmpS a.s b.s = 0
      · have f3 := neqf h3
        have H3 := Lib.hid h3; clear h3
        go_enter Tryd.func77, Tryd.ntmps77
        go_wp2_with (first | (go_at_call 89; refine (cmp_int _ _ _).mono ?_; rintro e w' ⟨rfl, rfl⟩) | (go_at_call 90; refine (cmp_int64 _ _ _).mono ?_; rintro e w' ⟨rfl, rfl⟩) | (go_at_call 91; refine (strCompare_any _ _ _).mono ?_; rintro e w' ⟨rfl, rfl⟩))
        refine (compareFunc_any a.l b.l ih _ _ _ B (hra.later ((below2 _ _ _).mono hB)) (hrb.later ((below2 _ _ _).mono hB)) (by simp; omega)).mono ?_
        rintro e w1 ⟨rfl, hb1⟩
        go_wp2_with fail
        go_ret
        exact ⟨ret_int (by rw [HZ.out, if_neg (by rw [H1.out]; simp), if_neg (by rw [H2.out]; simp), if_neg (by rw [H3.out]; simp)]), (below2 _ _ _).trans (hb1.mono (by simp; omega))⟩
      · have f3 := neqt h3
        have H3 := Lib.hid h3; clear h3
        go_enter Tryd.func77, Tryd.ntmps77
        go_wp2_with (first | (go_at_call 89; refine (cmp_int _ _ _).mono ?_; rintro e w' ⟨rfl, rfl⟩) | (go_at_call 90; refine (cmp_int64 _ _ _).mono ?_; rintro e w' ⟨rfl, rfl⟩) | (go_at_call 91; refine (strCompare_any _ _ _).mono ?_; rintro e w' ⟨rfl, rfl⟩))
        go_ret
        exact ⟨ret_int (by rw [HZ.out, if_neg (by rw [H1.out]; simp), if_neg (by rw [H2.out]; simp), if_pos H3.out]), below2 _ _ _⟩
    · have f2 := neqt h2
      have H2 := Lib.hid h2; clear h2
      go_enter Tryd.func77, Tryd.ntmps77
      go_wp2_with (first | (go_at_call 89; refine (cmp_int _ _ _).mono ?_; rintro e w' ⟨rfl, rfl⟩) | (go_at_call 90; refine (cmp_int64 _ _ _).mono ?_; rintro e w' ⟨rfl, rfl⟩))
      go_ret
      exact ⟨ret_int (by rw [HZ.out, if_neg (by rw [H1.out]; simp), if_pos H2.out]), below2 _ _ _⟩
  · have f1 := neqt h1
    have H1 := Lib.hid h1; clear h1
    go_enter Tryd.func77, Tryd.ntmps77
    go_wp2_with (go_at_call 89; refine (cmp_int _ _ _).mono ?_; rintro e w' ⟨rfl, rfl⟩)
    go_ret
    exact ⟨ret_int (by rw [HZ.out, if_pos H1.out]), below2 _ _ _⟩

/-- Equality, as the program has it. -/
def V.eqb (a b : V) : Bool := a.cmp b == 0

set_option maxHeartbeats 400000 in
theorem equal_any (a b : V) (sa sb : Value) (w : World) (B : Nat) (hra : Rep w B sa a.l) (hrb : Rep w B sb b.l) (hB : B ≤ w.heap.size) :
    Calls Tryd.prog 78 #[.agg #[.int .i64 a.t, .int .i64 a.n, .string a.s, sa], .agg #[.int .i64 b.t, .int .i64 b.n, .string b.s, sb]] w fun e w' =>
      e = .returned (.bool (a.eqb b)) ∧ Below w.heap.size w w' := by
  obtain ⟨oa, ca, rfl, _, _, _⟩ := hra.slice
  obtain ⟨ob, cb, rfl, _, _, _⟩ := hrb.slice
  go_enter Tryd.func78, Tryd.ntmps78
  go_wp2_with fail
  refine (compare_any a b _ _ _ B (hra.later ((below2 _ _ _).mono hB)) (hrb.later ((below2 _ _ _).mono hB)) (by simp; omega)).mono ?_
  rintro e w1 ⟨rfl, hb1⟩
  go_wp2_with fail
  go_ret
  exact ⟨ret_bool rfl, (below2 _ _ _).trans (hb1.mono (by simp; omega))⟩

end Go.Proofs.YthnlkijkgnmbhaaDoor
