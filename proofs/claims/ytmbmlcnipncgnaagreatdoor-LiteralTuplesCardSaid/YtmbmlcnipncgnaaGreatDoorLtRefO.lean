/-
  one of the reference. Nothing is assumed.
-/
import Derived.Test.YtmbmlcnipncgnaaGreatDoorLtRefE
import Derived.Test.YtmbmlcnipncgnaaGreatDoorLtRefL6
import Derived.Test.YtmbmlcnipncgnaaGreatDoorLtBits
import Derived.Test.YtmbmlcnipncgnaaGreatDoorLtValue
namespace Go.Proofs.YtmbmlcnipncgnaaGreatDoor
open Go.RowKit


set_option maxRecDepth 100000 in
set_option maxHeartbeats 1600000 in
theorem rone_text (s : ByteArray) (i : Nat) (w : World) (hi : i ≤ s.size) (hs : s.size ≤ 1000000) (hn116 : pk s.data.toList i ≠ 116) (hn102 : pk s.data.toList i ≠ 102) (hc : pk s.data.toList i = 34) :
    Calls Tryz.prog 23 #[.string s, .int .i64 (i : Int)] w fun e w' => ROutE w w' (textL s.data.toList i) e ∧ Below w.heap.size w w' := by
  have HZ := Lib.hid (zero4_new w)
  have hb0 : Below w.heap.size w (w.alloc (.cells #[.int .i64 0, .int .i64 0, .string ⟨#[]⟩, .slice none 0 0] 34)) := below1 w _
  have hw0 : w.heap.size < (w.alloc (.cells #[.int .i64 0, .int .i64 0, .string ⟨#[]⟩, .slice none 0 0] 34)).heap.size := by simp
  have HPK := Lib.hid (fun w => rat_any s i w)
  have q116 : ((pk s.data.toList i : Int) == 116) = false := ne_byte hn116
  have q102 : ((pk s.data.toList i : Int) == 102) = false := ne_byte hn102
  have q34 : ((pk s.data.toList i : Int) == 34) = true := eq_byte hc
  have HC := Lib.hid (relem3_any s i 0 (w.alloc (.cells #[.int .i64 0, .int .i64 0, .string ⟨#[]⟩, .slice none 0 0] 34)) hi hs)
  clear hn116 hn102 hc
  go_enter Tryz.func23, Tryz.ntmps23
  go_wp2_with fail
  refine (HPK.out _).mono ?_
  rintro e w' ⟨rfl, hw'⟩; obtain rfl := hw'.symm
  go_wp2_with fail
  refine (HC.out).mono ?_
  rintro e w1 ⟨he, hbc⟩
  have hb1 : Below w.heap.size w w1 := hb0.trans (hbc.mono (by simp))
  obtain ⟨c0, c1, c2, c3, cz⟩ := Box4.later HZ.out hbc hw0
  have f0 := cz 0
  have f1 := cz 1
  have f2 := cz 2
  have f3 := cz 3
  have HE := Lib.hid he
  have HB1 := Lib.hid hb1
  obtain ⟨t1, n1, S1, oe, ml, ce, rfl⟩ := he.shape
  clear hbc HC HZ he cz hb0 hb1
  go_wp2_with fail
  refine bodyPost_ret (v := .tuple #[.agg #[.int .i64 t1, .int .i64 n1, .string S1, .slice oe ml ce], .int .i64 ((textL s.data.toList i).fin : Int), .bool (textL s.data.toList i).good]) (by simp [results, Tryz.results23, go_sem, *]) rfl ?_
  exact rout_end HE.out hw0 HB1.out _ _ _ _

set_option maxRecDepth 100000 in
set_option maxHeartbeats 1600000 in
theorem rone_texts (s : ByteArray) (i : Nat) (w : World) (hi : i ≤ s.size) (hs : s.size ≤ 1000000) (hn116 : pk s.data.toList i ≠ 116) (hn102 : pk s.data.toList i ≠ 102) (hn34 : pk s.data.toList i ≠ 34) (hn114 : pk s.data.toList i ≠ 114) (hn91 : pk s.data.toList i ≠ 91) (hc : pk s.data.toList i = 123) :
    Calls Tryz.prog 23 #[.string s, .int .i64 (i : Int)] w fun e w' => ROutE w w' (textsL 0 16 s.data.toList i) e ∧ Below w.heap.size w w' := by
  have HZ := Lib.hid (zero4_new w)
  have hb0 : Below w.heap.size w (w.alloc (.cells #[.int .i64 0, .int .i64 0, .string ⟨#[]⟩, .slice none 0 0] 34)) := below1 w _
  have hw0 : w.heap.size < (w.alloc (.cells #[.int .i64 0, .int .i64 0, .string ⟨#[]⟩, .slice none 0 0] 34)).heap.size := by simp
  have HPK := Lib.hid (fun w => rat_any s i w)
  have q116 : ((pk s.data.toList i : Int) == 116) = false := ne_byte hn116
  have q102 : ((pk s.data.toList i : Int) == 102) = false := ne_byte hn102
  have q34 : ((pk s.data.toList i : Int) == 34) = false := ne_byte hn34
  have q114 : ((pk s.data.toList i : Int) == 114) = false := ne_byte hn114
  have q91 : ((pk s.data.toList i : Int) == 91) = false := ne_byte hn91
  have q123 : ((pk s.data.toList i : Int) == 123) = true := eq_byte hc
  have HC := Lib.hid (relem6_any s i (w.alloc (.cells #[.int .i64 0, .int .i64 0, .string ⟨#[]⟩, .slice none 0 0] 34)) hi hs)
  clear hn116 hn102 hn34 hn114 hn91 hc
  go_enter Tryz.func23, Tryz.ntmps23
  go_wp2_with fail
  refine (HPK.out _).mono ?_
  rintro e w' ⟨rfl, hw'⟩; obtain rfl := hw'.symm
  go_wp2_with fail
  refine (HC.out).mono ?_
  rintro e w1 ⟨he, hbc⟩
  have hb1 : Below w.heap.size w w1 := hb0.trans (hbc.mono (by simp))
  obtain ⟨c0, c1, c2, c3, cz⟩ := Box4.later HZ.out hbc hw0
  have f0 := cz 0
  have f1 := cz 1
  have f2 := cz 2
  have f3 := cz 3
  have HE := Lib.hid he
  have HB1 := Lib.hid hb1
  obtain ⟨t1, n1, S1, oe, ml, ce, rfl⟩ := he.shape
  clear hbc HC HZ he cz hb0 hb1
  go_wp2_with fail
  refine bodyPost_ret (v := .tuple #[.agg #[.int .i64 t1, .int .i64 n1, .string S1, .slice oe ml ce], .int .i64 ((textsL 0 16 s.data.toList i).fin : Int), .bool (textsL 0 16 s.data.toList i).good]) (by simp [results, Tryz.results23, go_sem, *]) rfl ?_
  exact rout_end HE.out hw0 HB1.out _ _ _ _

set_option maxRecDepth 100000 in
set_option maxHeartbeats 1600000 in
theorem rone_pat (s : ByteArray) (i : Nat) (w : World) (_hi : i ≤ s.size) (hs : s.size ≤ 1000000) (hn116 : pk s.data.toList i ≠ 116) (hn102 : pk s.data.toList i ≠ 102) (hn34 : pk s.data.toList i ≠ 34) (hc : pk s.data.toList i = 114) :
    Calls Tryz.prog 23 #[.string s, .int .i64 (i : Int)] w fun e w' => ROutE w w' (patL s.data.toList (i + 1)) e ∧ Below w.heap.size w w' := by
  have HZ := Lib.hid (zero4_new w)
  have hb0 : Below w.heap.size w (w.alloc (.cells #[.int .i64 0, .int .i64 0, .string ⟨#[]⟩, .slice none 0 0] 34)) := below1 w _
  have hw0 : w.heap.size < (w.alloc (.cells #[.int .i64 0, .int .i64 0, .string ⟨#[]⟩, .slice none 0 0] 34)).heap.size := by simp
  have HPK := Lib.hid (fun w => rat_any s i w)
  have q116 : ((pk s.data.toList i : Int) == 116) = false := ne_byte hn116
  have q102 : ((pk s.data.toList i : Int) == 102) = false := ne_byte hn102
  have q34 : ((pk s.data.toList i : Int) == 34) = false := ne_byte hn34
  have q114 : ((pk s.data.toList i : Int) == 114) = true := eq_byte hc
  have hil : i < s.size := by have := pos_of_pk hc (by decide); rwa [lt_len] at this
  have HC : Hid (Calls Tryz.prog 46 #[.string s, .int .i64 ((i : Int) + 1), .int .i64 1, .int .i64 40, .bool false] (w.alloc (.cells #[.int .i64 0, .int .i64 0, .string ⟨#[]⟩, .slice none 0 0] 34)) fun e w' => RQuE (qL 1 40 false s.data.toList (i + 1)) e ∧ Below (w.alloc (.cells #[.int .i64 0, .int .i64 0, .string ⟨#[]⟩, .slice none 0 0] 34)).heap.size (w.alloc (.cells #[.int .i64 0, .int .i64 0, .string ⟨#[]⟩, .slice none 0 0] 34)) w') := Lib.hid (rquoted_any s (i + 1) 1 40 false (w.alloc (.cells #[.int .i64 0, .int .i64 0, .string ⟨#[]⟩, .slice none 0 0] 34)) hil hs (by decide) (by decide))
  unfold patL
  clear hn116 hn102 hn34 hc
  generalize qL 1 40 false s.data.toList (i + 1) = r at *
  cases r with
  | bad k =>
    go_enter Tryz.func23, Tryz.ntmps23
    go_wp2_with fail
    refine (HPK.out _).mono ?_
    rintro e w' ⟨rfl, hw'⟩; obtain rfl := hw'.symm
    go_wp2_with fail
    refine HC.out.mono ?_
    rintro e w1 ⟨he, hbc⟩
    obtain rfl : e = .returned (.tuple #[.string ⟨#[]⟩, .int .i64 (k : Int), .bool false]) := he
    have hb1 : Below w.heap.size w w1 := hb0.trans (hbc.mono (by simp))
    obtain ⟨c0, c1, c2, c3, cz⟩ := Box4.later HZ.out hbc hw0
    have f0 := cz 0
    have f1 := cz 1
    have f2 := cz 2
    have f3 := cz 3
    have HB1 := Lib.hid hb1
    clear hbc HC HZ cz hb0 hb1
    go_wp2_with fail
    refine bodyPost_ret (v := .tuple #[.agg #[.int .i64 8, .int .i64 0, .string ⟨#[]⟩, .slice none 0 0], .int .i64 (k : Int), .bool false]) (by simp [results, Tryz.results23, go_sem, *]) rfl ?_
    exact ⟨.bad _ _ _ _ _ _, below_set4 (o := 0) HB1.out (Nat.le_refl _) _ _ _ _⟩
  | ok C k =>
    go_enter Tryz.func23, Tryz.ntmps23
    go_wp2_with fail
    refine (HPK.out _).mono ?_
    rintro e w' ⟨rfl, hw'⟩; obtain rfl := hw'.symm
    go_wp2_with fail
    refine HC.out.mono ?_
    rintro e w1 ⟨he, hbc⟩
    obtain rfl : e = .returned (.tuple #[.string (str C), .int .i64 (k : Int), .bool true]) := he
    have hb1 : Below w.heap.size w w1 := hb0.trans (hbc.mono (by simp))
    obtain ⟨c0, c1, c2, c3, cz⟩ := Box4.later HZ.out hbc hw0
    have f0 := cz 0
    have f1 := cz 1
    have f2 := cz 2
    have f3 := cz 3
    have HB1 := Lib.hid hb1
    clear hbc HC HZ cz hb0 hb1
    go_wp2_with fail
    refine bodyPost_ret (v := .tuple #[.agg #[.int .i64 8, .int .i64 0, .string (str C), .slice none 0 0], .int .i64 (k : Int), .bool true]) (by simp [results, Tryz.results23, go_sem, *]) rfl ?_
    exact ⟨.plain _ _ _ _ _ _, below_set4 (o := 0) HB1.out (Nat.le_refl _) _ _ _ _⟩

set_option maxRecDepth 100000 in
set_option maxHeartbeats 1600000 in
theorem rone_ints (s : ByteArray) (i : Nat) (w : World) (_hi : i ≤ s.size) (hs : s.size ≤ 1000000) (hn116 : pk s.data.toList i ≠ 116) (hn102 : pk s.data.toList i ≠ 102) (hn34 : pk s.data.toList i ≠ 34) (hn114 : pk s.data.toList i ≠ 114) (hc : pk s.data.toList i = 91) :
    Calls Tryz.prog 23 #[.string s, .int .i64 (i : Int)] w fun e w' => ROutE w w' (intsL s.data.toList i) e ∧ Below w.heap.size w w' := by
  have HZ := Lib.hid (zero4_new w)
  have hb0 : Below w.heap.size w (w.alloc (.cells #[.int .i64 0, .int .i64 0, .string ⟨#[]⟩, .slice none 0 0] 34)) := below1 w _
  have hw0 : w.heap.size < (w.alloc (.cells #[.int .i64 0, .int .i64 0, .string ⟨#[]⟩, .slice none 0 0] 34)).heap.size := by simp
  have HPK := Lib.hid (fun w => rat_any s i w)
  have q116 : ((pk s.data.toList i : Int) == 116) = false := ne_byte hn116
  have q102 : ((pk s.data.toList i : Int) == 102) = false := ne_byte hn102
  have q34 : ((pk s.data.toList i : Int) == 34) = false := ne_byte hn34
  have q114 : ((pk s.data.toList i : Int) == 114) = false := ne_byte hn114
  have q91 : ((pk s.data.toList i : Int) == 91) = true := eq_byte hc
  have hil : i < s.size := by have := pos_of_pk hc (by decide); rwa [lt_len] at this
  have HC : Hid (Calls Tryz.prog 47 #[.string s, .int .i64 ((i : Int) + 1), .int .i64 2, .int .i64 0, .int .i64 16, .int .u8 93] (w.alloc (.cells #[.int .i64 0, .int .i64 0, .string ⟨#[]⟩, .slice none 0 0] 34)) fun e w' => RLsE (w.alloc (.cells #[.int .i64 0, .int .i64 0, .string ⟨#[]⟩, .slice none 0 0] 34)) w' (itemsL (fun _ j => intL s.data.toList j) 93 0 s.data.toList 16 [] (i + 1)) e ∧ Below (w.alloc (.cells #[.int .i64 0, .int .i64 0, .string ⟨#[]⟩, .slice none 0 0] 34)).heap.size (w.alloc (.cells #[.int .i64 0, .int .i64 0, .string ⟨#[]⟩, .slice none 0 0] 34)) w') := Lib.hid (rlist_2 s (i + 1) 0 16 (w.alloc (.cells #[.int .i64 0, .int .i64 0, .string ⟨#[]⟩, .slice none 0 0] 34)) hil hs (by decide) (fun _ j => intL s.data.toList j) (fun _ => True) (fun acc j w' _ hj => relem2_any s j (headC acc : Int) w' hj hs) trivial (fun _ _ _ _ _ _ => trivial) (fun _ j hj => by
    have := intL_bd s.data.toList j (by rw [lt_len]; exact hj)
    rwa [lt_len] at this))
  rw [intsL_at _ _ hc, if_pos hc]
  generalize itemsL (fun _ j => intL s.data.toList j) 93 0 s.data.toList 16 [] (i + 1) = r at *
  clear hn116 hn102 hn34 hn114 hc
  cases r with
  | bad k =>
    go_enter Tryz.func23, Tryz.ntmps23
    go_wp2_with fail
    refine (HPK.out _).mono ?_
    rintro e w' ⟨rfl, hw'⟩; obtain rfl := hw'.symm
    go_wp2_with fail
    refine HC.out.mono ?_
    rintro e w1 ⟨he, hbc⟩
    obtain rfl : e = .returned (.tuple #[.slice none 0 0, .int .i64 (k : Int), .bool false]) := he
    have hb1 : Below w.heap.size w w1 := hb0.trans (hbc.mono (by simp))
    obtain ⟨c0, c1, c2, c3, cz⟩ := Box4.later HZ.out hbc hw0
    have f0 := cz 0
    have f1 := cz 1
    have f2 := cz 2
    have f3 := cz 3
    have HB1 := Lib.hid hb1
    clear hbc HC HZ cz hb0 hb1
    go_wp2_with fail
    refine bodyPost_ret (v := .tuple #[.agg #[.int .i64 5, .int .i64 0, .string ⟨#[]⟩, .slice none 0 0], .int .i64 (k : Int), .bool false]) (by simp [results, Tryz.results23, go_sem, *]) rfl ?_
    exact ⟨.bad _ _ _ _ _ _, below_set4 (o := 0) HB1.out (Nat.le_refl _) _ _ _ _⟩
  | ok l k =>
    go_enter Tryz.func23, Tryz.ntmps23
    go_wp2_with fail
    refine (HPK.out _).mono ?_
    rintro e w' ⟨rfl, hw'⟩; obtain rfl := hw'.symm
    go_wp2_with fail
    refine HC.out.mono ?_
    rintro e w1 ⟨⟨oe, ce, rfl, hrep⟩, hbc⟩
    have hb1 : Below w.heap.size w w1 := hb0.trans (hbc.mono (by simp))
    obtain ⟨c0, c1, c2, c3, cz⟩ := Box4.later HZ.out hbc hw0
    have f0 := cz 0
    have f1 := cz 1
    have f2 := cz 2
    have f3 := cz 3
    have HB1 := Lib.hid hb1
    have HP2 := Lib.hid hrep
    clear hbc HC HZ cz hb0 hb1 hrep
    go_wp2_with fail
    refine bodyPost_ret (v := .tuple #[.agg #[.int .i64 5, .int .i64 0, .string ⟨#[]⟩, .slice oe l.length ce], .int .i64 (k : Int), .bool true]) (by simp [results, Tryz.results23, go_sem, *]) rfl ?_
    exact ⟨⟨oe, ce, rfl, rep4 HP2.out (by simp) _ (by simp) _ _ _ _⟩, below_set4 (o := 0) HB1.out (Nat.le_refl _) _ _ _ _⟩

theorem bits_bad1' (L : List UInt8) (i : Nat) (h : hexv (pk L (i + 2)) = none) : bitsL L i = .bad (i + 2) := by simp only [bitsL, h]
theorem bits_bad2' (L : List UInt8) (i d : Nat) (h : hexv (pk L (i + 2)) = some d) (h2 : hexv (pk L (i + 3)) = none) : bitsL L i = .bad (i + 3) := by simp only [bitsL, h, h2]
theorem bits_ok' (L : List UInt8) (i d d2 : Nat) (h : hexv (pk L (i + 2)) = some d) (h2 : hexv (pk L (i + 3)) = some d2) : bitsL L i = .ok (.mk 4 ((16 * d + d2 : Nat) : Int) ⟨#[]⟩ []) (i + 4) := by simp only [bitsL, h, h2]
def RowH (acc : List V) : Prop := acc = [] ∨ (0 < headC acc ∧ headC acc ≤ 8)
theorem relemRow_any (s : ByteArray) (acc : List V) (j : Nat) (w : World) (hI : RowH acc) (hj : j ≤ s.size) (hs : s.size ≤ 1000000) :
    Calls Tryz.prog 45 #[.string s, .int .i64 (j : Int), .int .i64 6, .int .i64 (headC acc : Int)] w fun e w' => ROutE w w' (rowL s.data.toList acc j) e ∧ Below w.heap.size w w' := by
  cases acc with
  | nil => exact relem6_none s j w hj hs
  | cons v r =>
    rcases hI with h | ⟨h1, h2⟩
    · cases h
    · exact relem6_some s j v.l.length h1 h2 w hj hs
theorem rowH_next (L : List UInt8) (acc : List V) (j : Nat) (v : V) (m : Nat) (hI : RowH acc) (h : rowL L acc j = .ok v m) : RowH (acc ++ [v]) := by
  obtain ⟨h1, h2, _⟩ := textsL_len h
  cases acc with
  | nil => exact .inr ⟨h1, h2⟩
  | cons a r =>
    rcases hI with h | h
    · cases h
    · exact .inr h

set_option maxRecDepth 100000 in
set_option maxHeartbeats 1600000 in
theorem rone_table (s : ByteArray) (i : Nat) (w : World) (_hi : i ≤ s.size) (hs : s.size ≤ 1000000) (hn116 : pk s.data.toList i ≠ 116) (hn102 : pk s.data.toList i ≠ 102) (hn34 : pk s.data.toList i ≠ 34) (hn114 : pk s.data.toList i ≠ 114) (hn91 : pk s.data.toList i ≠ 91) (hn123 : pk s.data.toList i ≠ 123) (hc : pk s.data.toList i = 60) :
    Calls Tryz.prog 23 #[.string s, .int .i64 (i : Int)] w fun e w' => ROutE w w' (tableL s.data.toList i) e ∧ Below w.heap.size w w' := by
  have HZ := Lib.hid (zero4_new w)
  have hb0 : Below w.heap.size w (w.alloc (.cells #[.int .i64 0, .int .i64 0, .string ⟨#[]⟩, .slice none 0 0] 34)) := below1 w _
  have hw0 : w.heap.size < (w.alloc (.cells #[.int .i64 0, .int .i64 0, .string ⟨#[]⟩, .slice none 0 0] 34)).heap.size := by simp
  have HPK := Lib.hid (fun w => rat_any s i w)
  have q116 : ((pk s.data.toList i : Int) == 116) = false := ne_byte hn116
  have q102 : ((pk s.data.toList i : Int) == 102) = false := ne_byte hn102
  have q34 : ((pk s.data.toList i : Int) == 34) = false := ne_byte hn34
  have q114 : ((pk s.data.toList i : Int) == 114) = false := ne_byte hn114
  have q91 : ((pk s.data.toList i : Int) == 91) = false := ne_byte hn91
  have q123 : ((pk s.data.toList i : Int) == 123) = false := ne_byte hn123
  have q60 : ((pk s.data.toList i : Int) == 60) = true := eq_byte hc
  have hil : i < s.size := by have := pos_of_pk hc (by decide); rwa [lt_len] at this
  have HC : Hid (Calls Tryz.prog 47 #[.string s, .int .i64 ((i : Int) + 1), .int .i64 6, .int .i64 0, .int .i64 8, .int .u8 62] (w.alloc (.cells #[.int .i64 0, .int .i64 0, .string ⟨#[]⟩, .slice none 0 0] 34)) fun e w' => RLsE (w.alloc (.cells #[.int .i64 0, .int .i64 0, .string ⟨#[]⟩, .slice none 0 0] 34)) w' (itemsL (rowL s.data.toList) 62 0 s.data.toList 8 [] (i + 1)) e ∧ Below (w.alloc (.cells #[.int .i64 0, .int .i64 0, .string ⟨#[]⟩, .slice none 0 0] 34)).heap.size (w.alloc (.cells #[.int .i64 0, .int .i64 0, .string ⟨#[]⟩, .slice none 0 0] 34)) w') := Lib.hid (rlist_6 s (i + 1) 0 8 (w.alloc (.cells #[.int .i64 0, .int .i64 0, .string ⟨#[]⟩, .slice none 0 0] 34)) hil hs (by decide) (rowL s.data.toList) RowH (fun acc j w' hI hj => relemRow_any s acc j w' hI hj hs) (.inl rfl) (fun acc j v m hI h => rowH_next _ _ _ _ _ hI h) (fun acc j hj => by
    have := textsL_bd (loC acc) (hiC acc) s.data.toList j (by rw [lt_len]; exact hj)
    rwa [lt_len] at this))
  rw [tableL_at _ _ hc, if_pos hc]
  generalize itemsL (rowL s.data.toList) 62 0 s.data.toList 8 [] (i + 1) = r at *
  clear hn116 hn102 hn34 hn114 hn91 hn123 hc
  cases r with
  | bad k =>
    go_enter Tryz.func23, Tryz.ntmps23
    go_wp2_with fail
    refine (HPK.out _).mono ?_
    rintro e w' ⟨rfl, hw'⟩; obtain rfl := hw'.symm
    go_wp2_with fail
    refine HC.out.mono ?_
    rintro e w1 ⟨he, hbc⟩
    obtain rfl : e = .returned (.tuple #[.slice none 0 0, .int .i64 (k : Int), .bool false]) := he
    have hb1 : Below w.heap.size w w1 := hb0.trans (hbc.mono (by simp))
    obtain ⟨c0, c1, c2, c3, cz⟩ := Box4.later HZ.out hbc hw0
    have f0 := cz 0
    have f1 := cz 1
    have f2 := cz 2
    have f3 := cz 3
    have HB1 := Lib.hid hb1
    clear hbc HC HZ cz hb0 hb1
    go_wp2_with fail
    refine bodyPost_ret (v := .tuple #[.agg #[.int .i64 7, .int .i64 0, .string ⟨#[]⟩, .slice none 0 0], .int .i64 (k : Int), .bool false]) (by simp [results, Tryz.results23, go_sem, *]) rfl ?_
    exact ⟨.bad _ _ _ _ _ _, below_set4 (o := 0) HB1.out (Nat.le_refl _) _ _ _ _⟩
  | ok l k =>
    go_enter Tryz.func23, Tryz.ntmps23
    go_wp2_with fail
    refine (HPK.out _).mono ?_
    rintro e w' ⟨rfl, hw'⟩; obtain rfl := hw'.symm
    go_wp2_with fail
    refine HC.out.mono ?_
    rintro e w1 ⟨⟨oe, ce, rfl, hrep⟩, hbc⟩
    have hb1 : Below w.heap.size w w1 := hb0.trans (hbc.mono (by simp))
    obtain ⟨c0, c1, c2, c3, cz⟩ := Box4.later HZ.out hbc hw0
    have f0 := cz 0
    have f1 := cz 1
    have f2 := cz 2
    have f3 := cz 3
    have HB1 := Lib.hid hb1
    have HP2 := Lib.hid hrep
    clear hbc HC HZ cz hb0 hb1 hrep
    go_wp2_with fail
    refine bodyPost_ret (v := .tuple #[.agg #[.int .i64 7, .int .i64 0, .string ⟨#[]⟩, .slice oe l.length ce], .int .i64 (k : Int), .bool true]) (by simp [results, Tryz.results23, go_sem, *]) rfl ?_
    exact ⟨⟨oe, ce, rfl, rep4 HP2.out (by simp) _ (by simp) _ _ _ _⟩, below_set4 (o := 0) HB1.out (Nat.le_refl _) _ _ _ _⟩

set_option maxRecDepth 100000 in
set_option maxHeartbeats 1600000 in
theorem rone_true (s : ByteArray) (i : Nat) (w : World) (hi : i ≤ s.size) (hs : s.size ≤ 1000000) (hc : pk s.data.toList i = 116) :
    Calls Tryz.prog 23 #[.string s, .int .i64 (i : Int)] w fun e w' => ROutE w w' (boolL wTrue 1 s.data.toList i) e ∧ Below w.heap.size w w' := by
  have HZ := Lib.hid (zero4_new w)
  have hb0 : Below w.heap.size w (w.alloc (.cells #[.int .i64 0, .int .i64 0, .string ⟨#[]⟩, .slice none 0 0] 34)) := below1 w _
  have hw0 : w.heap.size < (w.alloc (.cells #[.int .i64 0, .int .i64 0, .string ⟨#[]⟩, .slice none 0 0] 34)).heap.size := by simp
  have HPK := Lib.hid (fun w => rat_any s i w)
  have q116 : ((pk s.data.toList i : Int) == 116) = true := eq_byte hc
  have HWW : Hid (∀ w', Calls Tryz.prog 22 #[.string s, .int .i64 (i : Int), .string ⟨#[116, 114, 117, 101]⟩] w' fun e w'' => e = .returned (.tuple #[.int .i64 ((wordL wTrue s.data.toList i).fin : Int), .bool (wordL wTrue s.data.toList i).good]) ∧ ∃ m, w'' = w'.drewN m) := Lib.hid (fun w' => rword_any ⟨#[116, 114, 117, 101]⟩ s i w' (by omega) (by decide))
  unfold boolL
  generalize wordL wTrue s.data.toList i = r at *
  clear  hc
  go_enter Tryz.func23, Tryz.ntmps23
  go_wp2_with fail
  refine (HPK.out _).mono ?_
  rintro e w' ⟨rfl, hw'⟩; obtain rfl := hw'.symm
  go_wp2_with fail
  refine (HWW.out _).mono ?_
  rintro e w1 ⟨rfl, m1, hw1⟩
  have hbc : Below (w.alloc (.cells #[.int .i64 0, .int .i64 0, .string ⟨#[]⟩, .slice none 0 0] 34)).heap.size (w.alloc (.cells #[.int .i64 0, .int .i64 0, .string ⟨#[]⟩, .slice none 0 0] 34)) w1 := by rw [hw1]; exact blw_drewN (Below.refl _ _) m1
  have hb1 : Below w.heap.size w w1 := hb0.trans (hbc.mono (by simp))
  obtain ⟨c0, c1, c2, c3, cz⟩ := Box4.later HZ.out hbc hw0
  have f0 := cz 0
  have f1 := cz 1
  have f2 := cz 2
  have f3 := cz 3
  have HB1 := Lib.hid hb1
  clear hbc HZ cz hb0 hb1 hw1 HWW
  go_wp2_with fail
  refine bodyPost_ret (v := .tuple #[.agg #[.int .i64 1, .int .i64 1, .string ⟨#[]⟩, .slice none 0 0], .int .i64 (r.fin : Int), .bool r.good]) (by simp [results, Tryz.results23, go_sem, *]) rfl ?_
  cases r with
  | bad k => exact ⟨.bad _ _ _ _ _ _, below_set4 (o := 0) HB1.out (Nat.le_refl _) _ _ _ _⟩
  | ok u k => exact ⟨.plain _ _ _ _ _ _, below_set4 (o := 0) HB1.out (Nat.le_refl _) _ _ _ _⟩

set_option maxRecDepth 100000 in
set_option maxHeartbeats 1600000 in
theorem rone_false (s : ByteArray) (i : Nat) (w : World) (hi : i ≤ s.size) (hs : s.size ≤ 1000000) (hn116 : pk s.data.toList i ≠ 116) (hc : pk s.data.toList i = 102) :
    Calls Tryz.prog 23 #[.string s, .int .i64 (i : Int)] w fun e w' => ROutE w w' (boolL wFalse 0 s.data.toList i) e ∧ Below w.heap.size w w' := by
  have HZ := Lib.hid (zero4_new w)
  have hb0 : Below w.heap.size w (w.alloc (.cells #[.int .i64 0, .int .i64 0, .string ⟨#[]⟩, .slice none 0 0] 34)) := below1 w _
  have hw0 : w.heap.size < (w.alloc (.cells #[.int .i64 0, .int .i64 0, .string ⟨#[]⟩, .slice none 0 0] 34)).heap.size := by simp
  have HPK := Lib.hid (fun w => rat_any s i w)
  have q116 : ((pk s.data.toList i : Int) == 116) = false := ne_byte hn116
  have q102 : ((pk s.data.toList i : Int) == 102) = true := eq_byte hc
  have HWW : Hid (∀ w', Calls Tryz.prog 22 #[.string s, .int .i64 (i : Int), .string ⟨#[102, 97, 108, 115, 101]⟩] w' fun e w'' => e = .returned (.tuple #[.int .i64 ((wordL wFalse s.data.toList i).fin : Int), .bool (wordL wFalse s.data.toList i).good]) ∧ ∃ m, w'' = w'.drewN m) := Lib.hid (fun w' => rword_any ⟨#[102, 97, 108, 115, 101]⟩ s i w' (by omega) (by decide))
  unfold boolL
  generalize wordL wFalse s.data.toList i = r at *
  clear hn116 hc
  go_enter Tryz.func23, Tryz.ntmps23
  go_wp2_with fail
  refine (HPK.out _).mono ?_
  rintro e w' ⟨rfl, hw'⟩; obtain rfl := hw'.symm
  go_wp2_with fail
  refine (HWW.out _).mono ?_
  rintro e w1 ⟨rfl, m1, hw1⟩
  have hbc : Below (w.alloc (.cells #[.int .i64 0, .int .i64 0, .string ⟨#[]⟩, .slice none 0 0] 34)).heap.size (w.alloc (.cells #[.int .i64 0, .int .i64 0, .string ⟨#[]⟩, .slice none 0 0] 34)) w1 := by rw [hw1]; exact blw_drewN (Below.refl _ _) m1
  have hb1 : Below w.heap.size w w1 := hb0.trans (hbc.mono (by simp))
  obtain ⟨c0, c1, c2, c3, cz⟩ := Box4.later HZ.out hbc hw0
  have f0 := cz 0
  have f1 := cz 1
  have f2 := cz 2
  have f3 := cz 3
  have HB1 := Lib.hid hb1
  clear hbc HZ cz hb0 hb1 hw1 HWW
  go_wp2_with fail
  refine bodyPost_ret (v := .tuple #[.agg #[.int .i64 1, .int .i64 0, .string ⟨#[]⟩, .slice none 0 0], .int .i64 (r.fin : Int), .bool r.good]) (by simp [results, Tryz.results23, go_sem, *]) rfl ?_
  cases r with
  | bad k => exact ⟨.bad _ _ _ _ _ _, below_set4 (o := 0) HB1.out (Nat.le_refl _) _ _ _ _⟩
  | ok u k => exact ⟨.plain _ _ _ _ _ _, below_set4 (o := 0) HB1.out (Nat.le_refl _) _ _ _ _⟩

set_option maxRecDepth 100000 in
set_option maxHeartbeats 1600000 in
theorem rone_num1 (s : ByteArray) (i : Nat) (w : World) (hi : i ≤ s.size) (hs : s.size ≤ 1000000) (hn116 : pk s.data.toList i ≠ 116) (hn102 : pk s.data.toList i ≠ 102) (hn34 : pk s.data.toList i ≠ 34) (hn114 : pk s.data.toList i ≠ 114) (hn91 : pk s.data.toList i ≠ 91) (hn123 : pk s.data.toList i ≠ 123) (hn60 : pk s.data.toList i ≠ 60) (h0 : pk s.data.toList i ≠ 48) :
    Calls Tryz.prog 23 #[.string s, .int .i64 (i : Int)] w fun e w' => ROutE w w' (intL s.data.toList i) e ∧ Below w.heap.size w w' := by
  have HZ := Lib.hid (zero4_new w)
  have hb0 : Below w.heap.size w (w.alloc (.cells #[.int .i64 0, .int .i64 0, .string ⟨#[]⟩, .slice none 0 0] 34)) := below1 w _
  have hw0 : w.heap.size < (w.alloc (.cells #[.int .i64 0, .int .i64 0, .string ⟨#[]⟩, .slice none 0 0] 34)).heap.size := by simp
  have HPK := Lib.hid (fun w => rat_any s i w)
  have q116 : ((pk s.data.toList i : Int) == 116) = false := ne_byte hn116
  have q102 : ((pk s.data.toList i : Int) == 102) = false := ne_byte hn102
  have q34 : ((pk s.data.toList i : Int) == 34) = false := ne_byte hn34
  have q114 : ((pk s.data.toList i : Int) == 114) = false := ne_byte hn114
  have q91 : ((pk s.data.toList i : Int) == 91) = false := ne_byte hn91
  have q123 : ((pk s.data.toList i : Int) == 123) = false := ne_byte hn123
  have q60 : ((pk s.data.toList i : Int) == 60) = false := ne_byte hn60
  have e48 : ((pk s.data.toList i : Int) != 48) = true := by rw [bne_iff_ne]; omega
  have HC := Lib.hid (rinteger_any s i (w.alloc (.cells #[.int .i64 0, .int .i64 0, .string ⟨#[]⟩, .slice none 0 0] 34)) hi hs)
  clear hn116 hn102 hn34 hn114 hn91 hn123 hn60 h0
  go_enter Tryz.func23, Tryz.ntmps23
  go_wp2_with fail
  refine (HPK.out _).mono ?_
  rintro e w' ⟨rfl, hw'⟩; obtain rfl := hw'.symm
  go_wp2_with fail
  refine (HPK.out _).mono ?_
  rintro e w' ⟨rfl, hw'⟩; obtain rfl := hw'.symm
  go_wp2_with fail
  refine (HC.out).mono ?_
  rintro e w1 ⟨he, hbc⟩
  have hb1 : Below w.heap.size w w1 := hb0.trans (hbc.mono (by simp))
  obtain ⟨c0, c1, c2, c3, cz⟩ := Box4.later HZ.out hbc hw0
  have f0 := cz 0
  have f1 := cz 1
  have f2 := cz 2
  have f3 := cz 3
  have HE := Lib.hid he
  have HB1 := Lib.hid hb1
  obtain ⟨t1, n1, S1, oe, ml, ce, rfl⟩ := he.shape
  clear hbc HC HZ he cz hb0 hb1
  go_wp2_with fail
  refine bodyPost_ret (v := .tuple #[.agg #[.int .i64 t1, .int .i64 n1, .string S1, .slice oe ml ce], .int .i64 ((intL s.data.toList i).fin : Int), .bool (intL s.data.toList i).good]) (by simp [results, Tryz.results23, go_sem, *]) rfl ?_
  exact rout_end HE.out hw0 HB1.out _ _ _ _

set_option maxRecDepth 100000 in
set_option maxHeartbeats 1600000 in
theorem rone_num2 (s : ByteArray) (i : Nat) (w : World) (hi : i ≤ s.size) (hs : s.size ≤ 1000000) (hn116 : pk s.data.toList i ≠ 116) (hn102 : pk s.data.toList i ≠ 102) (hn34 : pk s.data.toList i ≠ 34) (hn114 : pk s.data.toList i ≠ 114) (hn91 : pk s.data.toList i ≠ 91) (hn123 : pk s.data.toList i ≠ 123) (hn60 : pk s.data.toList i ≠ 60) (h0 : pk s.data.toList i = 48) (h1 : pk s.data.toList (i + 1) ≠ 120) :
    Calls Tryz.prog 23 #[.string s, .int .i64 (i : Int)] w fun e w' => ROutE w w' (intL s.data.toList i) e ∧ Below w.heap.size w w' := by
  have HZ := Lib.hid (zero4_new w)
  have hb0 : Below w.heap.size w (w.alloc (.cells #[.int .i64 0, .int .i64 0, .string ⟨#[]⟩, .slice none 0 0] 34)) := below1 w _
  have hw0 : w.heap.size < (w.alloc (.cells #[.int .i64 0, .int .i64 0, .string ⟨#[]⟩, .slice none 0 0] 34)).heap.size := by simp
  have HPK := Lib.hid (fun w => rat_any s i w)
  have q116 : ((pk s.data.toList i : Int) == 116) = false := ne_byte hn116
  have q102 : ((pk s.data.toList i : Int) == 102) = false := ne_byte hn102
  have q34 : ((pk s.data.toList i : Int) == 34) = false := ne_byte hn34
  have q114 : ((pk s.data.toList i : Int) == 114) = false := ne_byte hn114
  have q91 : ((pk s.data.toList i : Int) == 91) = false := ne_byte hn91
  have q123 : ((pk s.data.toList i : Int) == 123) = false := ne_byte hn123
  have q60 : ((pk s.data.toList i : Int) == 60) = false := ne_byte hn60
  have e48 : ((pk s.data.toList i : Int) != 48) = false := by rw [h0]; rfl
  obtain ⟨i1, hi1⟩ : ∃ i1, i + 1 = i1 := ⟨_, rfl⟩
  rw [hi1] at h1
  have hi1' : (i : Int) + 1 = (i1 : Int) := by omega
  have e120 : ((pk s.data.toList i1 : Int) != 120) = true := by rw [bne_iff_ne]; omega
  have HPK1 := Lib.hid (fun w => rat_any s i1 w)
  have HC := Lib.hid (rinteger_any s i (w.alloc (.cells #[.int .i64 0, .int .i64 0, .string ⟨#[]⟩, .slice none 0 0] 34)) hi hs)
  clear hn116 hn102 hn34 hn114 hn91 hn123 hn60 h0 h1 hi1
  go_enter Tryz.func23, Tryz.ntmps23
  go_wp2_with fail
  refine (HPK.out _).mono ?_
  rintro e w' ⟨rfl, hw'⟩; obtain rfl := hw'.symm
  go_wp2_with fail
  refine (HPK.out _).mono ?_
  rintro e w' ⟨rfl, hw'⟩; obtain rfl := hw'.symm
  go_wp2_with fail
  refine (HPK1.out _).mono ?_
  rintro e w' ⟨rfl, hw'⟩; obtain rfl := hw'.symm
  go_wp2_with fail
  refine (HC.out).mono ?_
  rintro e w1 ⟨he, hbc⟩
  have hb1 : Below w.heap.size w w1 := hb0.trans (hbc.mono (by simp))
  obtain ⟨c0, c1, c2, c3, cz⟩ := Box4.later HZ.out hbc hw0
  have f0 := cz 0
  have f1 := cz 1
  have f2 := cz 2
  have f3 := cz 3
  have HE := Lib.hid he
  have HB1 := Lib.hid hb1
  obtain ⟨t1, n1, S1, oe, ml, ce, rfl⟩ := he.shape
  clear hbc HC HZ he cz hb0 hb1
  go_wp2_with fail
  refine bodyPost_ret (v := .tuple #[.agg #[.int .i64 t1, .int .i64 n1, .string S1, .slice oe ml ce], .int .i64 ((intL s.data.toList i).fin : Int), .bool (intL s.data.toList i).good]) (by simp [results, Tryz.results23, go_sem, *]) rfl ?_
  exact rout_end HE.out hw0 HB1.out _ _ _ _

set_option maxRecDepth 100000 in
set_option maxHeartbeats 1600000 in
theorem rone_bits (s : ByteArray) (i : Nat) (w : World) (hi : i ≤ s.size) (hs : s.size ≤ 1000000) (hn116 : pk s.data.toList i ≠ 116) (hn102 : pk s.data.toList i ≠ 102) (hn34 : pk s.data.toList i ≠ 34) (hn114 : pk s.data.toList i ≠ 114) (hn91 : pk s.data.toList i ≠ 91) (hn123 : pk s.data.toList i ≠ 123) (hn60 : pk s.data.toList i ≠ 60) (h0 : pk s.data.toList i = 48) (h1 : pk s.data.toList (i + 1) = 120) :
    Calls Tryz.prog 23 #[.string s, .int .i64 (i : Int)] w fun e w' => ROutE w w' (bitsL s.data.toList i) e ∧ Below w.heap.size w w' := by
  have HZ := Lib.hid (zero4_new w)
  have hb0 : Below w.heap.size w (w.alloc (.cells #[.int .i64 0, .int .i64 0, .string ⟨#[]⟩, .slice none 0 0] 34)) := below1 w _
  have hw0 : w.heap.size < (w.alloc (.cells #[.int .i64 0, .int .i64 0, .string ⟨#[]⟩, .slice none 0 0] 34)).heap.size := by simp
  have HPK := Lib.hid (fun w => rat_any s i w)
  have q116 : ((pk s.data.toList i : Int) == 116) = false := ne_byte hn116
  have q102 : ((pk s.data.toList i : Int) == 102) = false := ne_byte hn102
  have q34 : ((pk s.data.toList i : Int) == 34) = false := ne_byte hn34
  have q114 : ((pk s.data.toList i : Int) == 114) = false := ne_byte hn114
  have q91 : ((pk s.data.toList i : Int) == 91) = false := ne_byte hn91
  have q123 : ((pk s.data.toList i : Int) == 123) = false := ne_byte hn123
  have q60 : ((pk s.data.toList i : Int) == 60) = false := ne_byte hn60
  have e48 : ((pk s.data.toList i : Int) != 48) = false := by rw [h0]; rfl
  obtain ⟨i1, hi1⟩ : ∃ i1, i + 1 = i1 := ⟨_, rfl⟩
  obtain ⟨i2, hi2⟩ : ∃ i2, i + 2 = i2 := ⟨_, rfl⟩
  obtain ⟨i3, hi3⟩ : ∃ i3, i + 3 = i3 := ⟨_, rfl⟩
  rw [hi1] at h1
  have hi1' : (i : Int) + 1 = (i1 : Int) := by omega
  have hi2' : (i : Int) + 2 = (i2 : Int) := by omega
  have hi3' : (i : Int) + 3 = (i3 : Int) := by omega
  have e120 : ((pk s.data.toList i1 : Int) != 120) = false := by rw [h1]; rfl
  have HPK1 := Lib.hid (fun w => rat_any s i1 w)
  have HPK2 := Lib.hid (fun w => rat_any s i2 w)
  have HPK3 := Lib.hid (fun w => rat_any s i3 w)
  have HB1 := Lib.hid (bits_bad1' s.data.toList i)
  have HB2 := Lib.hid (bits_bad2' s.data.toList i)
  have HB3 := Lib.hid (bits_ok' s.data.toList i)
  rw [hi2] at HB1 HB2 HB3
  rw [hi3] at HB2 HB3
  clear hn116 hn102 hn34 hn114 hn91 hn123 hn60 h0 h1
  cases hx : hexv (pk s.data.toList i2) with
  | none =>
    have HD2 := Lib.hid (rdigit_none _ hx)
    have HV := Lib.hid (HB1.out hx)
    clear HB1 HB2 HB3
    cases hy : hexv (pk s.data.toList i3) with
    | none =>
      have HD3 := Lib.hid (rdigit_none _ hy)
      clear hx hy
      go_enter Tryz.func23, Tryz.ntmps23
      go_wp2_with fail
      refine (HPK.out _).mono ?_
      rintro e w' ⟨rfl, hw'⟩; obtain rfl := hw'.symm
      go_wp2_with fail
      refine (HPK.out _).mono ?_
      rintro e w' ⟨rfl, hw'⟩; obtain rfl := hw'.symm
      go_wp2_with fail
      refine (HPK1.out _).mono ?_
      rintro e w' ⟨rfl, hw'⟩; obtain rfl := hw'.symm
      go_wp2_with fail
      refine (HPK2.out _).mono ?_
      rintro e w' ⟨rfl, hw'⟩; obtain rfl := hw'.symm
      go_wp2_with fail
      refine (HD2.out _).mono ?_
      rintro e w' ⟨rfl, hw'⟩; obtain rfl := hw'.symm
      go_wp2_with fail
      refine (HPK3.out _).mono ?_
      rintro e w' ⟨rfl, hw'⟩; obtain rfl := hw'.symm
      go_wp2_with fail
      refine (HD3.out _).mono ?_
      rintro e w' ⟨rfl, hw'⟩; obtain rfl := hw'.symm
      go_wp2_with fail
      refine bodyPost_ret (v := .tuple #[.agg #[.int .i64 0, .int .i64 0, .string ⟨#[]⟩, .slice none 0 0], .int .i64 (i2 : Int), .bool false]) (by simp [results, Tryz.results23, go_sem, *]) rfl ?_
      rw [HV.out]
      exact ⟨.bad _ _ _ _ _ _, hb0⟩
    | some d3 =>
      have HD3 := Lib.hid (rdigit_some _ d3 hy)
      clear hx hy
      go_enter Tryz.func23, Tryz.ntmps23
      go_wp2_with fail
      refine (HPK.out _).mono ?_
      rintro e w' ⟨rfl, hw'⟩; obtain rfl := hw'.symm
      go_wp2_with fail
      refine (HPK.out _).mono ?_
      rintro e w' ⟨rfl, hw'⟩; obtain rfl := hw'.symm
      go_wp2_with fail
      refine (HPK1.out _).mono ?_
      rintro e w' ⟨rfl, hw'⟩; obtain rfl := hw'.symm
      go_wp2_with fail
      refine (HPK2.out _).mono ?_
      rintro e w' ⟨rfl, hw'⟩; obtain rfl := hw'.symm
      go_wp2_with fail
      refine (HD2.out _).mono ?_
      rintro e w' ⟨rfl, hw'⟩; obtain rfl := hw'.symm
      go_wp2_with fail
      refine (HPK3.out _).mono ?_
      rintro e w' ⟨rfl, hw'⟩; obtain rfl := hw'.symm
      go_wp2_with fail
      refine (HD3.out _).mono ?_
      rintro e w' ⟨rfl, hw'⟩; obtain rfl := hw'.symm
      go_wp2_with fail
      refine bodyPost_ret (v := .tuple #[.agg #[.int .i64 0, .int .i64 0, .string ⟨#[]⟩, .slice none 0 0], .int .i64 (i2 : Int), .bool false]) (by simp [results, Tryz.results23, go_sem, *]) rfl ?_
      rw [HV.out]
      exact ⟨.bad _ _ _ _ _ _, hb0⟩
  | some d =>
    have HD2 := Lib.hid (rdigit_some _ d hx)
    have hd := hexv_lt hx
    have hdi : (d : Int) ≤ 15 := by omega
    have hdi0 : ¬ (d : Int) < 0 := by omega
    cases hy : hexv (pk s.data.toList i3) with
    | none =>
      have HD3 := Lib.hid (rdigit_none _ hy)
      have HV := Lib.hid (HB2.out d hx hy)
      clear hx hy HB1 HB2 HB3
      go_enter Tryz.func23, Tryz.ntmps23
      go_wp2_with fail
      refine (HPK.out _).mono ?_
      rintro e w' ⟨rfl, hw'⟩; obtain rfl := hw'.symm
      go_wp2_with fail
      refine (HPK.out _).mono ?_
      rintro e w' ⟨rfl, hw'⟩; obtain rfl := hw'.symm
      go_wp2_with fail
      refine (HPK1.out _).mono ?_
      rintro e w' ⟨rfl, hw'⟩; obtain rfl := hw'.symm
      go_wp2_with fail
      refine (HPK2.out _).mono ?_
      rintro e w' ⟨rfl, hw'⟩; obtain rfl := hw'.symm
      go_wp2_with fail
      refine (HD2.out _).mono ?_
      rintro e w' ⟨rfl, hw'⟩; obtain rfl := hw'.symm
      go_wp2_with fail
      refine (HPK3.out _).mono ?_
      rintro e w' ⟨rfl, hw'⟩; obtain rfl := hw'.symm
      go_wp2_with fail
      refine (HD3.out _).mono ?_
      rintro e w' ⟨rfl, hw'⟩; obtain rfl := hw'.symm
      go_wp2_with fail
      refine bodyPost_ret (v := .tuple #[.agg #[.int .i64 0, .int .i64 0, .string ⟨#[]⟩, .slice none 0 0], .int .i64 (i3 : Int), .bool false]) (by simp [results, Tryz.results23, go_sem, *]) rfl ?_
      rw [HV.out]
      exact ⟨.bad _ _ _ _ _ _, hb0⟩
    | some d3 =>
      have HD3 := Lib.hid (rdigit_some _ d3 hy)
      have hd3 := hexv_lt hy
      have hd3i : (d3 : Int) ≤ 15 := by omega
      have hd3i0 : ¬ (d3 : Int) < 0 := by omega
      have HV := Lib.hid (HB3.out d d3 hx hy)
      have hev : ((16 * d + d3 : Nat) : Int) = (d : Int) * 16 + (d3 : Int) := by omega
      rw [hev] at HV
      clear hx hy HB1 HB2 HB3 hev
      go_enter Tryz.func23, Tryz.ntmps23
      go_wp2_with fail
      refine (HPK.out _).mono ?_
      rintro e w' ⟨rfl, hw'⟩; obtain rfl := hw'.symm
      go_wp2_with fail
      refine (HPK.out _).mono ?_
      rintro e w' ⟨rfl, hw'⟩; obtain rfl := hw'.symm
      go_wp2_with fail
      refine (HPK1.out _).mono ?_
      rintro e w' ⟨rfl, hw'⟩; obtain rfl := hw'.symm
      go_wp2_with fail
      refine (HPK2.out _).mono ?_
      rintro e w' ⟨rfl, hw'⟩; obtain rfl := hw'.symm
      go_wp2_with fail
      refine (HD2.out _).mono ?_
      rintro e w' ⟨rfl, hw'⟩; obtain rfl := hw'.symm
      go_wp2_with fail
      refine (HPK3.out _).mono ?_
      rintro e w' ⟨rfl, hw'⟩; obtain rfl := hw'.symm
      go_wp2_with fail
      refine (HD3.out _).mono ?_
      rintro e w' ⟨rfl, hw'⟩; obtain rfl := hw'.symm
      go_wp2_with fail
      refine bodyPost_ret (v := .tuple #[.agg #[.int .i64 4, .int .i64 ((d : Int) * 16 + (d3 : Int)), .string ⟨#[]⟩, .slice none 0 0], .int .i64 ((i : Int) + 4), .bool true]) (by simp [results, Tryz.results23, go_sem, *]) rfl ?_
      rw [HV.out]
      exact ⟨.plain _ _ _ _ _ _, below1 _ _⟩

theorem rone_any (s : ByteArray) (i : Nat) (w : World) (hi : i ≤ s.size) (hs : s.size ≤ 1000000) :
    Calls Tryz.prog 23 #[.string s, .int .i64 (i : Int)] w fun e w' => ROutE w w' (oneL s.data.toList i) e ∧ Below w.heap.size w w' := by
  unfold oneL
  split
  · rename_i hc; exact rone_true s i w hi hs hc
  rename_i h1
  split
  · rename_i hc; exact rone_false s i w hi hs h1 hc
  rename_i h2
  split
  · rename_i hc; exact rone_text s i w hi hs h1 h2 hc
  rename_i h3
  split
  · rename_i hc; exact rone_pat s i w hi hs h1 h2 h3 hc
  rename_i h4
  split
  · rename_i hc; exact rone_ints s i w hi hs h1 h2 h3 h4 hc
  rename_i h5
  split
  · rename_i hc; exact rone_texts s i w hi hs h1 h2 h3 h4 h5 hc
  rename_i h6
  split
  · rename_i hc; exact rone_table s i w hi hs h1 h2 h3 h4 h5 h6 hc
  rename_i h7
  split
  · rename_i hc; exact rone_bits s i w hi hs h1 h2 h3 h4 h5 h6 h7 hc.1 hc.2
  · rename_i hc
    by_cases h0 : pk s.data.toList i = 48
    · exact rone_num2 s i w hi hs h1 h2 h3 h4 h5 h6 h7 h0 (fun h => hc ⟨h0, h⟩)
    · exact rone_num1 s i w hi hs h1 h2 h3 h4 h5 h6 h7 h0

end Go.Proofs.YtmbmlcnipncgnaaGreatDoor
