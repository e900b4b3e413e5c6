/-
  Parse and Unquote of the reference. Nothing is assumed.
-/
import Derived.Test.YtokhcoocgddodaaDoorLtRefO
namespace Go.Proofs.YtokhcoocgddodaaDoor
open Go.RowKit

theorem qrun_most (least m1 m2 : Nat) (any : Bool) : ∀ (r : List UInt8) (st : QSt) (C : List UInt8) (i : Nat), C.length + r.length ≤ m1 → C.length + r.length ≤ m2 → qrun least m1 any st C r i = qrun least m2 any st C r i
  | [], st, C, i, _, _ => by rw [qrun_nil, qrun_nil]
  | c :: r, st, C, i, h1, h2 => by
    rw [List.length_cons] at h1 h2
    have e : qstep m1 any C c.toNat st = qstep m2 any C c.toNat st := by
      cases st <;> simp only [qstep]
      have a1 : C.length < m1 := by omega
      have a2 : C.length < m2 := by omega
      simp only [a1, a2]
    by_cases h : st.isWhole = true ∧ c.toNat = 34 ∧ least ≤ C.length
    · rw [qrun, if_pos h, qrun, if_pos h]
    · rw [qrun_go _ _ _ _ _ _ _ _ h, qrun_go _ _ _ _ _ _ _ _ h, e]
      cases hq : qstep m2 any C c.toNat st with
      | none => rfl
      | some p =>
        obtain ⟨st', C'⟩ := p
        have := qstep_len hq
        exact qrun_most least m1 m2 any r st' C' (i + 1) (by omega) (by omega)
theorem qL_most (least m1 m2 : Nat) (any : Bool) (L : List UInt8) (i : Nat) (h1 : L.length ≤ m1) (h2 : L.length ≤ m2) : qL least m1 any L i = qL least m2 any L i := by
  rw [qL_at, qL_at]
  split
  · exact qrun_most least m1 m2 any _ _ _ _ (by rw [List.length_drop]; simp; omega) (by rw [List.length_drop]; simp; omega)
  · rfl

set_option maxRecDepth 100000 in
set_option maxHeartbeats 1600000 in
theorem runquote_any (s : ByteArray) (w : World) (hs : s.size ≤ 1000000) :
    Calls Tryd.prog 17 #[.string s] w fun e w' => RetU (unquoteL s.data.toList) e ∧ Below w.heap.size w w' := by
  have hun : unquoteL s.data.toList = whole s.data.toList [] (qL 0 s.size true s.data.toList 0) := by
    unfold unquoteL
    rw [qL_most 0 (2 ^ 63 - 1) s.size true s.data.toList 0 (by rw [lt_len]; omega) (by rw [lt_len]; exact Nat.le_refl _)]
  rw [hun]
  have HC : Hid (Calls Tryd.prog 32 #[.string s, .int .i64 0, .int .i64 0, .int .i64 (s.size : Int), .bool true] w fun e w' => RQuE (qL 0 s.size true s.data.toList 0) e ∧ Below w.heap.size w w') := Lib.hid (rquoted_any s 0 0 s.size true w (Nat.zero_le _) hs (by omega) (by decide))
  have hb := qL_bd 0 s.size true s.data.toList 0 (Nat.zero_le _)
  rw [lt_len] at hb
  generalize qL 0 s.size true s.data.toList 0 = r at *
  clear hun
  cases r with
  | bad k =>
    rw [whole_bad]
    go_enter Tryd.func17, Tryd.ntmps17
    go_wp2_with fail
    refine HC.out.mono ?_
    rintro e w1 ⟨he, hb1⟩
    obtain rfl : e = .returned (.tuple #[.string ⟨#[]⟩, .int .i64 (k : Int), .bool false]) := he
    go_wp2_with fail
    refine bodyPost_ret (v := .tuple #[.string ⟨#[]⟩, .int .i64 (k : Int), .int .i64 8]) (by simp [results, Tryd.results17, go_sem, *]) rfl ?_
    exact ⟨rfl, hb1⟩
  | ok C k =>
    have hk : k ≤ s.size := hb.2
    by_cases hke : k = s.size
    · rw [whole_yes _ _ _ _ (by rw [lt_len]; exact hke)]
      have hlt : ¬ (k : Int) < (s.size : Int) := by omega
      clear hb hke
      go_enter Tryd.func17, Tryd.ntmps17
      go_wp2_with fail
      refine HC.out.mono ?_
      rintro e w1 ⟨he, hb1⟩
      obtain rfl : e = .returned (.tuple #[.string (str C), .int .i64 (k : Int), .bool true]) := he
      go_wp2_with fail
      refine bodyPost_ret (v := .tuple #[.string (str C), .int .i64 0, .int .i64 0]) (by simp [results, Tryd.results17, go_sem, *]) rfl ?_
      exact ⟨rfl, hb1⟩
    · rw [whole_no _ _ _ _ (by rw [lt_len]; exact hke)]
      have hlt : (k : Int) < (s.size : Int) := by omega
      clear hb hke
      go_enter Tryd.func17, Tryd.ntmps17
      go_wp2_with fail
      refine HC.out.mono ?_
      rintro e w1 ⟨he, hb1⟩
      obtain rfl : e = .returned (.tuple #[.string (str C), .int .i64 (k : Int), .bool true]) := he
      go_wp2_with fail
      refine bodyPost_ret (v := .tuple #[.string ⟨#[]⟩, .int .i64 (k : Int), .int .i64 8]) (by simp [results, Tryd.results17, go_sem, *]) rfl ?_
      exact ⟨rfl, hb1⟩

set_option maxRecDepth 100000 in
set_option maxHeartbeats 1600000 in
theorem rparse_any (s : ByteArray) (w : World) (hs : s.size ≤ 1000000) :
    Calls Tryd.prog 14 #[.string s] w fun e w' => RetP w w' (parseL s.data.toList) e ∧ Below w.heap.size w w' := by
  have HZ := Lib.hid (zero4_new w)
  have hb0 : Below w.heap.size w (w.alloc (.cells #[.int .i64 0, .int .i64 0, .string ⟨#[]⟩, .slice none 0 0] 24)) := below1 w _
  have hw0 : w.heap.size < (w.alloc (.cells #[.int .i64 0, .int .i64 0, .string ⟨#[]⟩, .slice none 0 0] 24)).heap.size := by simp
  have HC : Hid (Calls Tryd.prog 29 #[.string s, .int .i64 0] (w.alloc (.cells #[.int .i64 0, .int .i64 0, .string ⟨#[]⟩, .slice none 0 0] 24)) fun e w' => ROutE (w.alloc (.cells #[.int .i64 0, .int .i64 0, .string ⟨#[]⟩, .slice none 0 0] 24)) w' (oneL s.data.toList 0) e ∧ Below (w.alloc (.cells #[.int .i64 0, .int .i64 0, .string ⟨#[]⟩, .slice none 0 0] 24)).heap.size (w.alloc (.cells #[.int .i64 0, .int .i64 0, .string ⟨#[]⟩, .slice none 0 0] 24)) w') := Lib.hid (rone_any s 0 (w.alloc (.cells #[.int .i64 0, .int .i64 0, .string ⟨#[]⟩, .slice none 0 0] 24)) (Nat.zero_le _) hs)
  have hb := oneL_bd s.data.toList 0 (Nat.zero_le _)
  rw [lt_len] at hb
  unfold parseL
  generalize oneL s.data.toList 0 = r at *
  cases r with
  | bad k =>
    rw [whole_bad]
    go_enter Tryd.func14, Tryd.ntmps14
    go_wp2_with fail
    refine HC.out.mono ?_
    rintro e w1 ⟨he, hbc⟩
    have hb1 : Below w.heap.size w w1 := hb0.trans (hbc.mono (by simp))
    obtain ⟨c0, c1, c2, c3, cz⟩ := Box4.later HZ.out hbc hw0
    have f0 := cz 0
    have f1 := cz 1
    have f2 := cz 2
    have f3 := cz 3
    obtain ⟨t1, n1, S1, rfl⟩ := he
    have HB1 := Lib.hid hb1
    have hwl : w.heap.size < w1.heap.size := Nat.lt_of_lt_of_le hw0 hbc.size
    have z0 : ∀ o, (w1.alloc o).cell? ⟨w.heap.size, 0, none⟩ = some (.int .i64 0) := fun o => (cell_alloc_lt w1 o ⟨w.heap.size, 0, none⟩ hwl).trans c0
    have z1 : ∀ o, (w1.alloc o).cell? ⟨w.heap.size, 1, none⟩ = some (.int .i64 0) := fun o => (cell_alloc_lt w1 o ⟨w.heap.size, 1, none⟩ hwl).trans c1
    have z2 : ∀ o, (w1.alloc o).cell? ⟨w.heap.size, 2, none⟩ = some (.string ⟨#[]⟩) := fun o => (cell_alloc_lt w1 o ⟨w.heap.size, 2, none⟩ hwl).trans c2
    have z3 : ∀ o, (w1.alloc o).cell? ⟨w.heap.size, 3, none⟩ = some (.slice none 0 0) := fun o => (cell_alloc_lt w1 o ⟨w.heap.size, 3, none⟩ hwl).trans c3
    clear hbc HC HZ cz hb0 hb1
    go_wp2_with fail
    refine bodyPost_ret (v := .tuple #[.agg #[.int .i64 0, .int .i64 0, .string ⟨#[]⟩, .slice none 0 0], .int .i64 (k : Int), .int .i64 8]) (by simp [results, Tryd.results14, go_sem, *]) rfl ?_
    exact ⟨⟨none, 0, rfl, RepS.nil⟩, (below_set4 (o := 0) HB1.out (Nat.le_refl _) _ _ _ _).alloc (by rw [size4]; omega) _⟩
  | ok v k =>
    have hk : k ≤ s.size := hb.2
    by_cases hke : k = s.size
    · rw [whole_yes _ _ _ _ (by rw [lt_len]; exact hke)]
      have hlt : ¬ (k : Int) < (s.size : Int) := by omega
      clear hb hke
      go_enter Tryd.func14, Tryd.ntmps14
      go_wp2_with fail
      refine HC.out.mono ?_
      rintro e w1 ⟨⟨oe, ce, rfl, hrep⟩, hbc⟩
      have hb1 : Below w.heap.size w w1 := hb0.trans (hbc.mono (by simp))
      obtain ⟨c0, c1, c2, c3, cz⟩ := Box4.later HZ.out hbc hw0
      have f0 := cz 0
      have f1 := cz 1
      have f2 := cz 2
      have f3 := cz 3
      have HB1 := Lib.hid hb1
      have HP2 := Lib.hid hrep
      have hwl : w.heap.size < w1.heap.size := Nat.lt_of_lt_of_le hw0 hbc.size
      clear hbc HC HZ cz hb0 hb1 hrep
      go_wp2_with fail
      refine bodyPost_ret (v := .tuple #[.agg #[.int .i64 v.t, .int .i64 v.n, .string v.s, .slice oe v.l.length ce], .int .i64 0, .int .i64 0]) (by simp [results, Tryd.results14, go_sem, *]) rfl ?_
      refine ⟨⟨oe, ce, rfl, ?_⟩, (below_set4 (o := 0) HB1.out (Nat.le_refl _) _ _ _ _).alloc (by rw [size4]; omega) _⟩
      have h4 := rep4 HP2.out (n := w.heap.size) (by simp) w.heap.size (by simp) (.int .i64 v.t) (.int .i64 v.n) (.string v.s) (.slice oe v.l.length ce)
      exact h4.later (fun q hq => ⟨hq.1, Nat.lt_of_lt_of_le hq.2 (by simp)⟩) (fun q hq o => cell_alloc_lt _ _ ⟨q, o, none⟩ hq.2)
    · rw [whole_no _ _ _ _ (by rw [lt_len]; exact hke)]
      have hlt : (k : Int) < (s.size : Int) := by omega
      clear hb hke
      go_enter Tryd.func14, Tryd.ntmps14
      go_wp2_with fail
      refine HC.out.mono ?_
      rintro e w1 ⟨⟨oe, ce, rfl, hrep⟩, hbc⟩
      have hb1 : Below w.heap.size w w1 := hb0.trans (hbc.mono (by simp))
      obtain ⟨c0, c1, c2, c3, cz⟩ := Box4.later HZ.out hbc hw0
      have f0 := cz 0
      have f1 := cz 1
      have f2 := cz 2
      have f3 := cz 3
      have HB1 := Lib.hid hb1
      have hwl : w.heap.size < w1.heap.size := Nat.lt_of_lt_of_le hw0 hbc.size
      clear hbc HC HZ cz hb0 hb1 hrep
      go_wp2_with fail
      refine bodyPost_ret (v := .tuple #[.agg #[.int .i64 0, .int .i64 0, .string ⟨#[]⟩, .slice none 0 0], .int .i64 (k : Int), .int .i64 8]) (by simp [results, Tryd.results14, go_sem, *]) rfl ?_
      exact ⟨⟨none, 0, rfl, RepS.nil⟩, (below_set4 (o := 0) HB1.out (Nat.le_refl _) _ _ _ _).alloc (by rw [size4]; omega) _⟩

end Go.Proofs.YtokhcoocgddodaaDoor
