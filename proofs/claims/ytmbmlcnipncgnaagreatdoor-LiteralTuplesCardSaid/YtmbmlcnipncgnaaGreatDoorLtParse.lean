/-
  Parse, ParseAll and Unquote of the package. Nothing is assumed.
-/
import Derived.Test.YtmbmlcnipncgnaaGreatDoorLtTuple
import Derived.RegionTactic
import Derived.BigRegion
namespace Go.Proofs.YtmbmlcnipncgnaaGreatDoor
open Go.RowKit

/-- What Unquote returns. -/
def RetU (p : List UInt8 × Nat × Int) (e : Ending) : Prop := e = .returned (.tuple #[.string (str p.1), .int .i64 (p.2.1 : Int), .int .i64 p.2.2])
/-- What Parse returns. -/
def RetP (w w' : World) (p : V × Nat × Int) (e : Ending) : Prop := ∃ oe ce, e = .returned (.tuple #[.agg #[.int .i64 p.1.t, .int .i64 p.1.n, .string p.1.s, .slice oe p.1.l.length ce], .int .i64 (p.2.1 : Int), .int .i64 p.2.2]) ∧ RepS w' (Btw w.heap.size w'.heap.size) (.slice oe p.1.l.length ce) p.1.l
/-- What ParseAll returns. -/
def RetA (w w' : World) (p : List V × Nat × Int) (e : Ending) : Prop := ∃ oe ce, e = .returned (.tuple #[.slice oe p.1.length ce, .int .i64 (p.2.1 : Int), .int .i64 p.2.2]) ∧ RepS w' (Btw w.heap.size w'.heap.size) (.slice oe p.1.length ce) p.1
theorem whole_bad {α : Type} (L : List UInt8) (z : α) (i : Nat) : whole L z (.bad i) = (z, i, 8) := rfl
theorem whole_no {α : Type} (L : List UInt8) (z v : α) (i : Nat) (h : i ≠ L.length) : whole L z (.ok v i) = (z, i, 8) := if_neg h
theorem whole_yes {α : Type} (L : List UInt8) (z v : α) (i : Nat) (h : i = L.length) : whole L z (.ok v i) = (v, 0, 0) := if_pos h

theorem below_set4 {w w1 : World} {B g o : Nat} (h : Below B w w1) (hg : B ≤ g) (a b c d : Value) :
    Below B w ((((w1.setCell ⟨g, o, none⟩ a).setCell ⟨g, o + 1, none⟩ b).setCell ⟨g, o + 2, none⟩ c).setCell ⟨g, o + 3, none⟩ d) :=
  (((h.setCell (p := ⟨g, _, none⟩) hg _).setCell (p := ⟨g, _, none⟩) hg _).setCell (p := ⟨g, _, none⟩) hg _).setCell (p := ⟨g, _, none⟩) hg _
theorem blw_drewN {B : Nat} {a w : World} (h : Below B a w) (n : Nat) : Below B a (w.drewN n) := ⟨h.os, h.tape, h.output, h.size, h.block⟩
theorem allL_all (L : List UInt8) : ∀ (g : Nat) (acc : List V) (i : Nat), i ≤ L.length → ∀ l k, allL L g acc i = .ok l k → k = L.length := by
  intro g
  induction g with
  | zero => intro acc i _ l k h; rw [allL] at h; cases h
  | succ g ih =>
    intro acc i hi l k h
    by_cases hl : L.length ≤ i
    · rw [allL_end _ _ _ _ hl] at h
      cases h
      omega
    · rw [allL_more _ _ _ _ hl] at h
      have hb := sepL_bd acc L i hi
      cases hs : sepL acc L i with
      | bad j => rw [hs] at h; cases h
      | ok u j =>
        rw [hs] at hb h
        rw [PR.bind_ok] at h
        have hb2 := oneL_bd L j hb.2
        cases he : oneL L j with
        | bad j2 => rw [he] at h; cases h
        | ok v j2 =>
          rw [he] at hb2 h
          exact ih _ _ hb2.2 _ _ h
set_option maxRecDepth 100000 in
set_option maxHeartbeats 1600000 in
theorem unquote_any (s : ByteArray) (w : World) (hs : s.size ≤ 1000000) :
    Calls Tryz.prog 14 #[.string s] w fun e w' => RetU (unquoteL s.data.toList) e ∧ Below w.heap.size w w' := by
  have hR0 : RD (w.alloc (.cells #[.string s, .int .i64 0] 50)) w.heap.size s 0 := RD.new w s 0 0 rfl
  have HQ : Hid (Calls Tryz.prog 28 #[.pointer (some ⟨w.heap.size, 0, none⟩), .agg #[.int .i64 0, .int .i64 9223372036854775807, .bool true, .slice none 0 0, .int .i64 0, .int .u8 0]] (w.alloc (.cells #[.string s, .int .i64 0] 50)) fun e w' => QuE (qL 0 9223372036854775807 true s.data.toList 0) e ∧ RD w' w.heap.size s (qL 0 9223372036854775807 true s.data.toList 0).fin ∧ Kp (w.alloc (.cells #[.string s, .int .i64 0] 50)).heap.size (Is w.heap.size) (w.alloc (.cells #[.string s, .int .i64 0] 50)) w') :=
    Lib.hid (quoted_any _ w.heap.size 0 9223372036854775807 true s 0 hR0 (Nat.zero_le _) hs (Nat.le_refl _) (by decide) (by decide))
  have hb0 : Below w.heap.size w (w.alloc (.cells #[.string s, .int .i64 0] 50)) := below1 w _
  have hun : unquoteL s.data.toList = whole s.data.toList [] (qL 0 9223372036854775807 true s.data.toList 0) := rfl
  rw [hun]
  generalize qL 0 9223372036854775807 true s.data.toList 0 = r at *
  clear hR0 hun
  cases r with
  | bad k =>
    rw [whole_bad]
    go_enter Tryz.func14, Tryz.ntmps14
    go_wp2_with fail
    refine HQ.out.mono ?_
    rintro e w1 ⟨he, hR1, hk1⟩
    obtain rfl : e = .returned (.tuple #[.string ⟨#[]⟩, .bool false]) := he
    have h1 := RD.at (i := k) hR1
    have HB : Hid (Below w.heap.size w w1) := Lib.hid (hb0.trans (hk1.below (by simp <;> omega) (fun k hk h => by unfold Is at h; omega)))
    clear hR1 hk1 HQ hb0
    go_wp2_with fail
    go_quiet (fail)
    go_wp2_with fail
    refine bodyPost_ret (v := .tuple #[.string ⟨#[]⟩, .int .i64 (k : Int), .int .i64 8]) (by simp [results, Tryz.results14, go_sem, *]) rfl ?_
    exact ⟨rfl, blw_drewN HB.out _⟩
  | ok C k =>
    by_cases hk : k = s.size
    · rw [whole_yes _ _ _ _ (by rw [lt_len]; exact hk)]
      go_enter Tryz.func14, Tryz.ntmps14
      go_wp2_with fail
      refine HQ.out.mono ?_
      rintro e w1 ⟨he, hR1, hk1⟩
      obtain rfl : e = .returned (.tuple #[.string (str C), .bool true]) := he
      have HR1 : Hid (RD w1 w.heap.size s k) := Lib.hid hR1
      have HA := atEnd_any w1 w.heap.size s k HR1.out
      rw [decide_eq_true hk] at HA
      have HA := Lib.hid HA
      have HB : Hid (Below w.heap.size w w1) := Lib.hid (hb0.trans (hk1.below (by simp <;> omega) (fun k hk h => by unfold Is at h; omega)))
      clear hR1 hk1 HQ hb0 hk
      go_wp2_with fail
      refine HA.out.mono ?_
      rintro e w2 ⟨rfl, m1, rfl⟩
      go_wp2_with fail
      refine bodyPost_ret (v := .tuple #[.string (str C), .int .i64 0, .int .i64 0]) (by simp [results, Tryz.results14, go_sem, *]) rfl ?_
      exact ⟨rfl, blw_drewN HB.out _⟩
    · rw [whole_no _ _ _ _ (by rw [lt_len]; exact hk)]
      go_enter Tryz.func14, Tryz.ntmps14
      go_wp2_with fail
      refine HQ.out.mono ?_
      rintro e w1 ⟨he, hR1, hk1⟩
      obtain rfl : e = .returned (.tuple #[.string (str C), .bool true]) := he
      have HR1 : Hid (RD w1 w.heap.size s k) := Lib.hid hR1
      have HA := atEnd_any w1 w.heap.size s k HR1.out
      rw [decide_eq_false hk] at HA
      have HA := Lib.hid HA
      have HB : Hid (Below w.heap.size w w1) := Lib.hid (hb0.trans (hk1.below (by simp <;> omega) (fun k hk h => by unfold Is at h; omega)))
      clear hR1 hk1 HQ hb0 hk
      go_wp2_with fail
      refine HA.out.mono ?_
      rintro e w2 ⟨rfl, m1, hw2⟩
      have h1 : w2.cell? ⟨w.heap.size, 1, none⟩ = some (.int .i64 (k : Int)) := by rw [hw2]; exact HR1.out.at
      have HB2 : Hid (Below w.heap.size w w2) := Lib.hid (by rw [hw2]; exact blw_drewN HB.out _)
      clear hw2 HA HB HR1
      go_wp2_with fail
      go_quiet (fail)
      go_wp2_with fail
      refine bodyPost_ret (v := .tuple #[.string ⟨#[]⟩, .int .i64 (k : Int), .int .i64 8]) (by simp [results, Tryz.results14, go_sem, *]) rfl ?_
      exact ⟨rfl, blw_drewN HB2.out _⟩

set_option maxRecDepth 100000 in
set_option maxHeartbeats 1600000 in
theorem parseAll_any (s : ByteArray) (w : World) (hs : s.size ≤ 1000000) :
    Calls Tryz.prog 8 #[.string s] w fun e w' => RetA w w' (parseAllL s.data.toList) e ∧ Below w.heap.size w w' := by
  have hR0 : RD (w.alloc (.cells #[.string s, .int .i64 0] 50)) w.heap.size s 0 := RD.new w s 0 0 rfl
  have HQ := Lib.hid (tuple_any _ w.heap.size s hR0 hs)
  have hb0 : Below w.heap.size w (w.alloc (.cells #[.string s, .int .i64 0] 50)) := below1 w _
  have hun : parseAllL s.data.toList = whole s.data.toList [] (allL s.data.toList (s.size + 1) [] 0) := by unfold parseAllL; rw [lt_len]
  rw [hun]
  have hend : ∀ l k, allL s.data.toList (s.size + 1) [] 0 = .ok l k → k = s.size := fun l k h => by
    have h1 := allL_all s.data.toList (s.size + 1) [] 0 (Nat.zero_le _) l k h
    rwa [lt_len] at h1
  generalize allL s.data.toList (s.size + 1) [] 0 = r at *
  clear hR0 hun
  cases r with
  | bad k =>
    rw [whole_bad]
    clear hend
    go_enter Tryz.func8, Tryz.ntmps8
    go_wp2_with fail
    refine HQ.out.mono ?_
    rintro e w1 ⟨he, hR1, hk1⟩
    obtain rfl : e = .returned (.tuple #[.slice none 0 0, .bool false]) := he
    have h1 := RD.at (i := k) hR1
    have HB : Hid (Below w.heap.size w w1) := Lib.hid (hb0.trans (hk1.below (by simp <;> omega) (fun k hk h => by unfold Is at h; omega)))
    clear hR1 hk1 HQ hb0
    go_wp2_with fail
    go_quiet (fail)
    go_wp2_with fail
    refine bodyPost_ret (v := .tuple #[.slice none 0 0, .int .i64 (k : Int), .int .i64 8]) (by simp [results, Tryz.results8, go_sem, *]) rfl ?_
    exact ⟨⟨none, 0, rfl, RepS.nil⟩, blw_drewN HB.out _⟩
  | ok l k =>
    rw [whole_yes _ _ _ _ (by rw [lt_len]; exact hend l k rfl)]
    clear hend
    go_enter Tryz.func8, Tryz.ntmps8
    go_wp2_with fail
    refine HQ.out.mono ?_
    rintro e w1 ⟨⟨oe, ce, rfl, hrep⟩, hR1, hk1⟩
    have HB : Hid (Below w.heap.size w w1) := Lib.hid (hb0.trans (hk1.below (by simp <;> omega) (fun k hk h => by unfold Is at h; omega)))
    have HP := Lib.hid (hrep.later (T := Btw w.heap.size w1.heap.size) (fun q hq => ⟨by have := hq.1; simp at this; omega, hq.2⟩) (fun _ _ _ => rfl))
    clear hR1 hk1 HQ hb0 hrep
    go_wp2_with fail
    refine bodyPost_ret (v := .tuple #[.slice oe l.length ce, .int .i64 0, .int .i64 0]) (by simp [results, Tryz.results8, go_sem, *]) rfl ?_
    exact ⟨⟨oe, ce, rfl, HP.out⟩, HB.out⟩

set_option maxRecDepth 100000 in
set_option maxHeartbeats 1600000 in
theorem parse_any (s : ByteArray) (w : World) (hs : s.size ≤ 1000000) :
    Calls Tryz.prog 12 #[.string s] w fun e w' => RetP w w' (parseL s.data.toList) e ∧ Below w.heap.size w w' := by
  have hR0 : RD ((w.alloc (.cells #[.int .i64 0, .int .i64 0, .string ⟨#[]⟩, .slice none 0 0] 34)).alloc (.cells #[.string s, .int .i64 0] 50)) (w.heap.size + 1) s 0 := by
    have := RD.new (w.alloc (.cells #[.int .i64 0, .int .i64 0, .string ⟨#[]⟩, .slice none 0 0] 34)) s 0 0 rfl
    simpa using this
  have HQ := Lib.hid (value_any ((w.alloc (.cells #[.int .i64 0, .int .i64 0, .string ⟨#[]⟩, .slice none 0 0] 34)).alloc (.cells #[.string s, .int .i64 0] 50)) (w.heap.size + 1) s 0 hR0 (Nat.zero_le _) hs)
  have hb0 : Below w.heap.size w ((w.alloc (.cells #[.int .i64 0, .int .i64 0, .string ⟨#[]⟩, .slice none 0 0] 34)).alloc (.cells #[.string s, .int .i64 0] 50)) := below2 w _ _
  have HZ : Hid (Zero4 ((w.alloc (.cells #[.int .i64 0, .int .i64 0, .string ⟨#[]⟩, .slice none 0 0] 34)).alloc (.cells #[.string s, .int .i64 0] 50)) w.heap.size) := Lib.hid (Box4.later (zero4_new w) (below1 _ _) (by simp))
  have hw0 : w.heap.size + 1 < ((w.alloc (.cells #[.int .i64 0, .int .i64 0, .string ⟨#[]⟩, .slice none 0 0] 34)).alloc (.cells #[.string s, .int .i64 0] 50)).heap.size := by simp
  unfold parseL
  generalize oneL s.data.toList 0 = r at *
  clear hR0
  cases r with
  | bad k =>
    rw [whole_bad]
    go_enter Tryz.func12, Tryz.ntmps12
    go_wp2_with fail
    refine HQ.out.mono ?_
    rintro e w1 ⟨he, hR1, hk1⟩
    have hw1 : w.heap.size + 1 < w1.heap.size := Nat.lt_of_lt_of_le hw0 hk1.size
    have HB : Hid (Below w.heap.size w w1) := Lib.hid (hb0.trans (hk1.below (by simp <;> omega) (fun k hk h => by unfold Is at h; omega)))
    have HZ1 : Hid (Zero4 w1 w.heap.size) := Lib.hid (Box4.kp HZ.out hk1 (by simp; omega) (by unfold Is; omega))
    have HR1 := Lib.hid hR1
    clear hR1 hk1 HQ HZ hb0
    obtain ⟨t1, n1, S1, rfl⟩ := he
    have h1 : w1.cell? ⟨w.heap.size + 1, 1, none⟩ = some (.int .i64 (k : Int)) := HR1.out.at
    obtain ⟨c0, c1, c2, c3, cz⟩ := HZ1.out
    have hwl : w.heap.size < w1.heap.size := by omega
    have z0 : ∀ o, (w1.alloc o).cell? ⟨w.heap.size, 0, none⟩ = some (.int .i64 0) := fun o => (cell_alloc_lt w1 o ⟨w.heap.size, 0, none⟩ hwl).trans c0
    have z1 : ∀ o, (w1.alloc o).cell? ⟨w.heap.size, 1, none⟩ = some (.int .i64 0) := fun o => (cell_alloc_lt w1 o ⟨w.heap.size, 1, none⟩ hwl).trans c1
    have z2 : ∀ o, (w1.alloc o).cell? ⟨w.heap.size, 2, none⟩ = some (.string ⟨#[]⟩) := fun o => (cell_alloc_lt w1 o ⟨w.heap.size, 2, none⟩ hwl).trans c2
    have z3 : ∀ o, (w1.alloc o).cell? ⟨w.heap.size, 3, none⟩ = some (.slice none 0 0) := fun o => (cell_alloc_lt w1 o ⟨w.heap.size, 3, none⟩ hwl).trans c3
    have zf : ∀ o k, (w1.alloc o).frozen? ⟨w.heap.size, k, none⟩ = false := fun o k => (frozen_alloc_lt w1 o ⟨w.heap.size, k, none⟩ hwl).trans (cz k)
    have z4 : ∀ o, (w1.alloc o).cell? ⟨w.heap.size + 1, 1, none⟩ = some (.int .i64 (k : Int)) := fun o => (cell_alloc_lt w1 o ⟨w.heap.size + 1, 1, none⟩ hw1).trans h1
    have f0 := cz 0
    have f1 := cz 1
    have f2 := cz 2
    have f3 := cz 3
    clear cz
    go_wp2_with fail
    go_region
    all_goals go_wp2_with fail
    all_goals (refine bodyPost_ret (v := .tuple #[.agg #[.int .i64 0, .int .i64 0, .string ⟨#[]⟩, .slice none 0 0], .int .i64 (k : Int), .int .i64 8]) (by simp [results, Tryz.results12, go_sem, *]) rfl ?_)
    all_goals exact ⟨⟨none, 0, rfl, RepS.nil⟩, ((below_set4 (o := 0) HB.out (Nat.le_refl _) _ _ _ _).alloc (by rw [size4]; omega) _).drew⟩
  | ok v k =>
    by_cases hk : k = s.size
    · rw [whole_yes _ _ _ _ (by rw [lt_len]; exact hk)]
      go_enter Tryz.func12, Tryz.ntmps12
      go_wp2_with fail
      refine HQ.out.mono ?_
      rintro e w1 ⟨he, hR1, hk1⟩
      have hw1 : w.heap.size + 1 < w1.heap.size := Nat.lt_of_lt_of_le hw0 hk1.size
      have HB : Hid (Below w.heap.size w w1) := Lib.hid (hb0.trans (hk1.below (by simp <;> omega) (fun k hk h => by unfold Is at h; omega)))
      have HZ1 : Hid (Zero4 w1 w.heap.size) := Lib.hid (Box4.kp HZ.out hk1 (by simp; omega) (by unfold Is; omega))
      have HR1 := Lib.hid hR1
      clear hR1 hk1 HQ HZ hb0
      obtain ⟨oe, ce, rfl, hrep⟩ := he
      have HP := Lib.hid hrep
      have HAE : Hid (∀ o, Calls Tryz.prog 27 #[.pointer (some ⟨w.heap.size + 1, 0, none⟩)] (w1.alloc o) fun e w' => e = .returned (.bool true) ∧ ∃ m, w' = (w1.alloc o).drewN m) := Lib.hid (fun o => by
        have := atEnd_any (w1.alloc o) (w.heap.size + 1) s k (HR1.out.alloc o)
        rwa [decide_eq_true hk] at this)
      clear hrep hk
      go_wp2_with fail
      refine (HAE.out _).mono ?_
      rintro e w2 ⟨rfl, m1, hw2⟩
      have hbw : Below w1.heap.size w1 w2 := by rw [hw2]; exact blw_drewN (below1 w1 _) m1
      have hsz2 : w1.heap.size ≤ w2.heap.size := hbw.size
      have hnew : w2.heap[w1.heap.size]? = some (.cells #[.int .i64 v.t, .int .i64 v.n, .string v.s, .slice oe v.l.length ce] 34 (0, 0)) := by rw [hw2]; exact heap_new w1 _
      have d0 : w2.cell? ⟨w1.heap.size, 0, none⟩ = some (.int .i64 v.t) := by unfold World.cell?; rw [hnew]; rfl
      have d1 : w2.cell? ⟨w1.heap.size, 1, none⟩ = some (.int .i64 v.n) := by unfold World.cell?; rw [hnew]; rfl
      have d2 : w2.cell? ⟨w1.heap.size, 2, none⟩ = some (.string v.s) := by unfold World.cell?; rw [hnew]; rfl
      have d3 : w2.cell? ⟨w1.heap.size, 3, none⟩ = some (.slice oe v.l.length ce) := by unfold World.cell?; rw [hnew]; rfl
      obtain ⟨c0, c1, c2, c3, cz⟩ := Box4.of_block HZ1.out (hbw.block w.heap.size (by omega))
      have f0 := cz 0
      have f1 := cz 1
      have f2 := cz 2
      have f3 := cz 3
      have HB2 : Hid (Below w.heap.size w w2) := Lib.hid (HB.out.trans (hbw.mono (by omega)))
      have HP2 : Hid (RepS w2 (Btw (w.heap.size + 2) w2.heap.size) (.slice oe v.l.length ce) v.l) := Lib.hid (HP.out.later (fun q hq => ⟨by have := hq.1; simp at this; omega, Nat.lt_of_lt_of_le hq.2 hsz2⟩) (fun q hq o => hbw.cell (p := ⟨q, o, none⟩) hq.2))
      clear hw2 hbw HAE HB HZ1 HR1 cz hnew HP
      go_wp2_with fail
      refine bodyPost_ret (v := .tuple #[.agg #[.int .i64 v.t, .int .i64 v.n, .string v.s, .slice oe v.l.length ce], .int .i64 0, .int .i64 0]) (by simp [results, Tryz.results12, go_sem, *]) rfl ?_
      exact ⟨⟨oe, ce, rfl, rep4 HP2.out (by omega) _ (by omega) _ _ _ _⟩, below_set4 (o := 0) HB2.out (Nat.le_refl _) _ _ _ _⟩
    · rw [whole_no _ _ _ _ (by rw [lt_len]; exact hk)]
      go_enter Tryz.func12, Tryz.ntmps12
      go_wp2_with fail
      refine HQ.out.mono ?_
      rintro e w1 ⟨he, hR1, hk1⟩
      have hw1 : w.heap.size + 1 < w1.heap.size := Nat.lt_of_lt_of_le hw0 hk1.size
      have HB : Hid (Below w.heap.size w w1) := Lib.hid (hb0.trans (hk1.below (by simp <;> omega) (fun k hk h => by unfold Is at h; omega)))
      have HZ1 : Hid (Zero4 w1 w.heap.size) := Lib.hid (Box4.kp HZ.out hk1 (by simp; omega) (by unfold Is; omega))
      have HR1 := Lib.hid hR1
      clear hR1 hk1 HQ HZ hb0
      obtain ⟨oe, ce, rfl, hrep⟩ := he
      have HAE : Hid (∀ o, Calls Tryz.prog 27 #[.pointer (some ⟨w.heap.size + 1, 0, none⟩)] (w1.alloc o) fun e w' => e = .returned (.bool false) ∧ ∃ m, w' = (w1.alloc o).drewN m) := Lib.hid (fun o => by
        have := atEnd_any (w1.alloc o) (w.heap.size + 1) s k (HR1.out.alloc o)
        rwa [decide_eq_false hk] at this)
      clear hrep hk
      go_wp2_with fail
      refine (HAE.out _).mono ?_
      rintro e w2 ⟨rfl, m1, hw2⟩
      have hbw : Below w1.heap.size w1 w2 := by rw [hw2]; exact blw_drewN (below1 w1 _) m1
      have h1 : w2.cell? ⟨w.heap.size + 1, 1, none⟩ = some (.int .i64 (k : Int)) := (hbw.cell (p := ⟨w.heap.size + 1, 1, none⟩) hw1).trans HR1.out.at
      obtain ⟨c0, c1, c2, c3, cz⟩ := Box4.of_block HZ1.out (hbw.block w.heap.size (by omega))
      have f0 := cz 0
      have f1 := cz 1
      have f2 := cz 2
      have f3 := cz 3
      have HB2 : Hid (Below w.heap.size w w2) := Lib.hid (HB.out.trans (hbw.mono (by omega)))
      clear hw2 hbw HAE HB HZ1 HR1 cz
      go_wp2_with fail
      go_region
      all_goals go_wp2_with fail
      all_goals (refine bodyPost_ret (v := .tuple #[.agg #[.int .i64 0, .int .i64 0, .string ⟨#[]⟩, .slice none 0 0], .int .i64 (k : Int), .int .i64 8]) (by simp [results, Tryz.results12, go_sem, *]) rfl ?_)
      all_goals exact ⟨⟨none, 0, rfl, RepS.nil⟩, (below_set4 (o := 0) HB2.out (Nat.le_refl _) _ _ _ _).drew⟩

end Go.Proofs.YtmbmlcnipncgnaaGreatDoor
