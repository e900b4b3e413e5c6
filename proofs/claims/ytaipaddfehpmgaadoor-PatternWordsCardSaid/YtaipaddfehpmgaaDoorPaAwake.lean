/-
  awake of the laws on patterns. Nothing is assumed.
-/
import Derived.Test.YtaipaddfehpmgaaDoorPaWrite
import Derived.Test.YtaipaddfehpmgaaDoorPaWords
import Derived.Test.YtaipaddfehpmgaaDoorPaSame
import Derived.Test.YtaipaddfehpmgaaDoorPaShort
namespace Go.Proofs.YtaipaddfehpmgaaDoor

section
open Go.RowKit Go.Shelf

/-- The tree of a pattern that can be read. -/
def valP : PR PT → PT
  | .ok v _ => v
  | .bad _ => .mk 0 .zero []
def tree (p : ByteArray) : PT := valP (parseT p.data.toList)
theorem tp_tree {p : ByteArray} (h : errP p = 0) : TP p (tree p) := by
  obtain ⟨t, ht⟩ := TP.of h
  obtain ⟨m, hm⟩ := ht.parse
  have : tree p = t := by unfold tree; rw [hm]; rfl
  rw [this]
  exact ht
def p1 : ByteArray := ⟨#[91, 99, 98, 97, 93, 120, 124, 40, 121, 41]⟩
def p2 : ByteArray := ⟨#[97, 42, 42]⟩
def p3 : ByteArray := ⟨#[91, 122, 45, 97, 93]⟩
def p4 : ByteArray := ⟨#[40, 97, 124, 98, 41, 42]⟩
def p5 : ByteArray := ⟨#[40, 97, 42, 98, 42, 41, 42]⟩
def p6 : ByteArray := ⟨#[97, 42, 98, 124, 98, 97]⟩
def p7 : ByteArray := ⟨#[97, 46]⟩
def s4 : ByteArray := ⟨#[97, 98, 98, 97]⟩
set_option maxRecDepth 1000000
theorem er1 : errP p1 = 0 := by kernel_rfl
theorem er4 : errP p4 = 0 := by kernel_rfl
theorem er5 : errP p5 = 0 := by kernel_rfl
theorem er6 : errP p6 = 0 := by kernel_rfl
theorem ok1 : parseT p1.data.toList = .ok (tree p1) 10 := by kernel_rfl
theorem k1 : (tree p1).k = 5 := by kernel_rfl
theorem l1 : (tree p1).l.length = 2 := by kernel_rfl
theorem d1 : (tree p1).dep ≤ 65536 := by decide +kernel
theorem pr1 : printT (tree p1) = .tuple #[.string ⟨#[91, 97, 45, 99, 93, 120, 124, 121]⟩, .int .i64 0] := by kernel_rfl
theorem bad2 : parseT p2.data.toList = .bad 2 := by kernel_rfl
theorem bad3 : parseT p3.data.toList = .bad 3 := by kernel_rfl
theorem mt4 : accS p4 s4 = true := by kernel_rfl
theorem wd4 : wordsR (tree p4) 3 = (8, 0) := by kernel_rfl
theorem sh6 : shortT (tree p6) = .tuple #[.string ⟨#[98]⟩, .int .i64 0] := by kernel_rfl
theorem lt7 : litS p7 = ⟨#[97, 92, 46]⟩ := by kernel_rfl
theorem sm45 : sameT (tree p4) (tree p5) = (true, 0) := by kernel_rfl
end

section
open Go.RowKit Go.Shelf

theorem parse_bad {p : ByteArray} {m : Nat} (h : parseT p.data.toList = .bad m) (hs : ¬ (p.size < 1 ∨ 40 < p.size)) (w : World) (hA : AL w) :
    Calls Tryd.prog 12 #[.string p] w fun e w' => e = .returned (.tuple #[zeroT, .int .i64 (m : Int), .int .i64 8]) ∧ Below w.heap.size w w' :=
  (parse_any p w hA).mono fun e w' ⟨h1, h2⟩ => by
    unfold ParE at h1
    rw [if_neg hs, h] at h1
    exact ⟨h1, h2⟩
theorem parse_good {p : ByteArray} {t : PT} {m : Nat} (h : parseT p.data.toList = .ok t m) (hs : ¬ (p.size < 1 ∨ 40 < p.size)) (w : World) (hA : AL w) :
    Calls Tryd.prog 12 #[.string p] w fun e w' => (∃ oe ce, e = .returned (.tuple #[t.val (.slice oe t.l.length ce), .int .i64 0, .int .i64 0]) ∧ HT w' (Btw w.heap.size w'.heap.size) (.slice oe t.l.length ce) t.l) ∧ Below w.heap.size w w' :=
  (parse_any p w hA).mono fun e w' ⟨h1, h2⟩ => by
    unfold ParE at h1
    rw [if_neg hs, h] at h1
    exact ⟨h1, h2⟩
set_option maxRecDepth 100000 in
set_option maxHeartbeats 3200000 in
theorem awake_any (w : World) (hA : AL w) : Calls Tryd.prog 5 #[] w fun e w' => e = .returned (.bool true) ∧ Below w.heap.size w w' := by
  have H1 := Lib.hid (parse_good ok1 (by decide) w hA)
  have HK1 := Lib.hid k1
  have HL1 := Lib.hid l1
  have HD1 := Lib.hid d1
  have HPR := Lib.hid pr1
  generalize tree p1 = t at *
  obtain ⟨k, s, l⟩ := t
  have hk : k = 5 := HK1.out
  subst hk
  have hl : l.length = 2 := HL1.out
  unfold PT.val at H1
  dsimp only [PT.k, PT.s, PT.l] at H1
  rw [hl] at H1
  have HL := Lib.hid hl
  have HA := Lib.hid hA
  clear hl hA
  unfold p1 at H1
  go_enter Tryd.func5, Tryd.ntmps5
  go_wp2_with fail
  refine H1.out.mono ?_
  rintro e w1 ⟨⟨oe, ce, rfl, hT⟩, hb1⟩
  have hA1 := HA.out.later hb1
  obtain ⟨w2, hw2⟩ : ∃ w2, w2 = w1.alloc (.cells #[.int .i64 5, .int .u64 s.a, .int .u64 s.b, .int .u64 s.c, .int .u64 s.d, .slice oe 2 ce] 36) := ⟨_, rfl⟩
  have HW2 := Lib.hid hw2
  have hb2 : Below w1.heap.size w1 w2 := by rw [hw2]; exact below1 _ _
  have HX2 : Hid (w2.heap[w1.heap.size]? = some (.cells #[.int .i64 5, .int .u64 s.a, .int .u64 s.b, .int .u64 s.c, .int .u64 s.d, .slice oe 2 ce] 36 (0, 0))) := Lib.hid (by rw [hw2]; exact new_at w1 _)
  have hT2 : HT w2 (· < w2.heap.size) (.slice oe 2 ce) l := hT.later (fun b hb => Nat.lt_of_lt_of_le hb.2 hb2.size) fun b hb o => hb2.cell (p := ⟨b, o, none⟩) hb.2
  have hP2 := print_any (PT.mk 5 s l) w2 oe ce HD1.out (hA1.later hb2) (by show HT w2 _ (.slice oe l.length ce) l; rw [HL.out]; exact hT2)
  rw [HPR.out] at hP2
  unfold PT.val at hP2
  dsimp only [PT.k, PT.s, PT.l] at hP2
  rw [HL.out] at hP2
  have HP2 := Lib.hid hP2
  have HB2 := Lib.hid (hb1.trans (hb2.mono hb1.size))
  have HA2 := Lib.hid (hA1.later hb2)
  have hs2 : w2.heap.size = w1.heap.size + 1 := by rw [hw2]; simp
  have HS2 := Lib.hid hs2
  clear hT hb1 hb2 hw2 hT2 hP2 hA1 H1 hs2
  go_wp2_with fail
  rw [← HW2.out]
  refine HP2.out.mono ?_
  rintro e w3 ⟨rfl, hb3⟩
  have HB3 : Hid (Below w2.heap.size w2 w3) := Lib.hid hb3
  have HA3 := Lib.hid (HA2.out.later hb3)
  have H3 := Lib.hid (parse_bad bad2 (by decide) w3 HA3.out)
  unfold p2 zeroT at H3
  clear hb3 HP2
  go_wp2_with fail
  refine H3.out.mono ?_
  rintro e w4 ⟨rfl, hb4⟩
  have hb4a := hb4.trans ((below1 w4 (.cells #[.int .i64 0, .int .u64 0, .int .u64 0, .int .u64 0, .int .u64 0, .slice none 0 0] 36)).mono hb4.size)
  have HB4 := Lib.hid (HB3.out.trans (hb4a.mono HB3.out.size))
  have HA4 := Lib.hid (HA3.out.later hb4a)
  have H4 := Lib.hid (parse_bad bad3 (by decide) _ HA4.out)
  unfold p3 zeroT at H4
  clear hb4 hb4a H3
  go_wp2_with fail
  refine H4.out.mono ?_
  rintro e w5 ⟨rfl, hb5⟩
  have hb5a := hb5.trans ((below1 w5 (.cells #[.int .i64 0, .int .u64 0, .int .u64 0, .int .u64 0, .int .u64 0, .slice none 0 0] 36)).mono hb5.size)
  have HB5 := Lib.hid (HB4.out.trans (hb5a.mono HB4.out.size))
  have HA5 := Lib.hid (HA4.out.later hb5a)
  have H5 := match_any p4 s4 _ HA5.out er4 (by decide)
  rw [mt4] at H5
  have H5 := Lib.hid H5
  unfold p4 s4 at H5
  clear hb5 hb5a H4
  go_wp2_with fail
  refine H5.out.mono ?_
  rintro e w6 ⟨rfl, hb6⟩
  have HB6 := Lib.hid (HB5.out.trans (hb6.mono HB5.out.size))
  have HA6 := Lib.hid (HA5.out.later hb6)
  have H6 := same_pat p4 p5 _ _ (tp_tree er4) (tp_tree er5) w6 HA6.out
  rw [sm45] at H6
  have H6 := Lib.hid H6
  unfold p4 p5 at H6
  clear hb6 H5
  go_wp2_with fail
  refine H6.out.mono ?_
  rintro e w7 ⟨rfl, hb7⟩
  have HB7 := Lib.hid (HB6.out.trans (hb7.mono HB6.out.size))
  have HA7 := Lib.hid (HA6.out.later hb7)
  have H7 := words_any p4 _ (tp_tree er4) 3 w7 HA7.out
  rw [wd4] at H7
  have H7 := Lib.hid H7
  unfold p4 at H7
  clear hb7 H6
  go_wp2_with fail
  refine H7.out.mono ?_
  rintro e w8 ⟨rfl, hb8⟩
  have HB8 := Lib.hid (HB7.out.trans (hb8.mono HB7.out.size))
  have HA8 := Lib.hid (HA7.out.later hb8)
  have H8 := shortest_any p6 _ (tp_tree er6) w8 HA8.out
  rw [sh6] at H8
  have H8 := Lib.hid H8
  unfold p6 at H8
  clear hb8 H7
  go_wp2_with fail
  refine H8.out.mono ?_
  rintro e w9 ⟨rfl, hb9⟩
  have HB9 := Lib.hid (HB8.out.trans (hb9.mono HB8.out.size))
  have HA9 := Lib.hid (HA8.out.later hb9)
  have H9 := literal_any p7 w9 HA9.out
  rw [lt7] at H9
  have H9 := Lib.hid H9
  unfold p7 at H9
  have hx : w9.heap[w1.heap.size]? = some (.cells #[.int .i64 5, .int .u64 s.a, .int .u64 s.b, .int .u64 s.c, .int .u64 s.d, .slice oe 2 ce] 36 (0, 0)) := (HB9.out.block _ (by have := HS2.out; omega)).trans HX2.out
  have c0 : w9.cell? ⟨w1.heap.size, 0, none⟩ = some (.int .i64 5) := by unfold World.cell?; rw [hx]; rfl
  have c5 : w9.cell? ⟨w1.heap.size, 5, none⟩ = some (.slice oe 2 ce) := by unfold World.cell?; rw [hx]; rfl
  clear hb9 H8 hx
  go_wp2_with fail
  refine H9.out.mono ?_
  rintro e w10 ⟨rfl, hb10⟩
  have HBf := Lib.hid (HB2.out.trans ((HB9.out.trans (hb10.mono HB9.out.size)).mono HB2.out.size))
  clear hb10 H9
  go_wp2_with fail
  go_ret
  exact ⟨rfl, HBf.out⟩
end

end Go.Proofs.YtaipaddfehpmgaaDoor
