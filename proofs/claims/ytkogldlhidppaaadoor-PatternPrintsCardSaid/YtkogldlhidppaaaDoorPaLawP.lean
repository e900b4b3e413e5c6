/-
  The walk of PatternPrints. Nothing is assumed.
-/
import Derived.Test.YtkogldlhidppaaaDoorPaRfX
import Derived.Test.YtkogldlhidppaaaDoorPaSam
import Derived.Test.YtkogldlhidppaaaDoorPaFrT
namespace Go.Proofs.YtkogldlhidppaaaDoor
open Go.RowKit

theorem txtr_len {M : Nat} (k : Int) : ∀ {l : List PT}, (∀ u, u ∈ l → u.txt.length ≤ M) → (PT.txtr k l).length ≤ l.length * (M + 3)
  | [], _ => by rw [PT.txtr]; simp
  | v :: l, h => by
    have h1 := h v (List.mem_cons_self ..)
    have h2 := txtr_len k (l := l) fun u hu => h u (List.mem_cons_of_mem _ hu)
    have h3 : (wrapQ (parQ v.k k) v.txt).length ≤ v.txt.length + 2 := by
      unfold wrapQ
      split
      · simp
      · omega
    have h4 : (if k = 5 then [124] else [] : List UInt8).length ≤ 1 := by split <;> simp
    rw [PT.txtr, List.length_append, List.length_append, List.length_cons, Nat.add_mul]
    omega
theorem txts_len {M : Nat} (k : Int) {l : List PT} (h : ∀ u, u ∈ l → u.txt.length ≤ M) : (PT.txts k l).length ≤ l.length * (M + 3) := by
  cases l with
  | nil => rw [PT.txts]; simp
  | cons v l =>
    have h1 := h v (List.mem_cons_self ..)
    have h2 := txtr_len k (l := l) fun u hu => h u (List.mem_cons_of_mem _ hu)
    have h3 : (wrapQ (parQ v.k k) v.txt).length ≤ v.txt.length + 2 := by
      unfold wrapQ
      split
      · simp
      · omega
    rw [PT.txts, List.length_append, List.length_cons, Nat.add_mul]
    omega
theorem small_len : ∀ (d : Nat) (v : PT), smT d v = true → v.txt.length ≤ 500 * 8 ^ d
  | 0, v, h => by cases h
  | d + 1, v, h => by
    obtain ⟨h6, hu⟩ := smT_parts h
    have hM : ∀ u, u ∈ v.l → u.txt.length ≤ 500 * 8 ^ d := fun u hm => small_len d u (hu u hm)
    have hp : 1 ≤ 8 ^ d := Nat.one_le_iff_ne_zero.2 (by simp)
    have hs := txts_len v.k hM
    have hs2 := Nat.mul_le_mul_right (500 * 8 ^ d + 3) h6
    have hc := classE_len v.s
    rw [PT.txt_eq, Nat.pow_succ]
    split
    · simp; omega
    split
    · simp; omega
    split
    · omega
    split
    · generalize v.l = l at *
      cases l with
      | nil => rw [PT.txt1]; simp
      | cons u l =>
        have h1 := hM u (List.mem_cons_self ..)
        have h3 : (wrapQ (parQ u.k 6) u.txt).length ≤ u.txt.length + 2 := by
          unfold wrapQ
          split
          · simp
          · omega
        rw [PT.txt1, List.length_append, List.length_singleton]
        omega
    · omega
theorem deps_le {d : Nat} : ∀ {l : List PT}, (∀ u, u ∈ l → u.dep < d) → PT.deps l ≤ d
  | [], _ => by rw [PT.deps]; omega
  | v :: l, h => by
    have h1 := h v (List.mem_cons_self ..)
    have h2 := deps_le (l := l) fun u hu => h u (List.mem_cons_of_mem _ hu)
    rw [PT.deps]
    omega
theorem small_dep : ∀ (d : Nat) (v : PT), smT d v = true → v.dep < d
  | 0, v, h => by cases h
  | d + 1, v, h => by
    obtain ⟨_, hu⟩ := smT_parts h
    have := deps_le (d := d) (l := v.l) fun u hm => small_dep d u (hu u hm)
    rw [PT.dep_eq]
    omega
/-- A printed tree is read again. -/
theorem read_again {v : PT} (hp : v.prop = true) (hs : Sok v) (h40 : ¬ 40 < v.txt.length) : treeU (str v.txt) = v ∧ errP (str v.txt) = 0 := by
  have hb : PtOk v.txt v := back_all v hp hs
  have h1 := ptok_parse hb
  have hd : (str v.txt).data.toList = v.txt := by unfold str; simp
  have hpos : 0 < v.txt.length := pk_ne _ 0 (fun h0 => by have := begins hb; rw [h0] at this; revert this; decide)
  have hsz : ¬ ((str v.txt).size < 1 ∨ 40 < (str v.txt).size) := by rw [str_size]; omega
  constructor
  · unfold treeU tree
    rw [if_neg hsz, hd, h1]
    rfl
  · unfold errP
    rw [if_neg hsz, hd, h1]

set_option maxRecDepth 100000 in
set_option maxHeartbeats 6400000 in
theorem law_pprints (v : PT) (sl : Value) (w : World) (hG : HG w w.heap.size sl v.l) (hS : Sok v) (hA : AL w) :
    Calls Tryd.prog 3 #[v.val sl] w fun e w' => e = .returned (.bool true) ∧ Below w.heap.size w w' := by
  obtain ⟨oe, ce, rfl, hlm⟩ := hG.form
  obtain ⟨w1, hw1⟩ : ∃ w1, w1 = w.alloc (.cells #[.int .i64 v.k, .int .u64 v.s.a, .int .u64 v.s.b, .int .u64 v.s.c, .int .u64 v.s.d, .slice oe v.l.length ce] 26) := ⟨_, rfl⟩
  have HW1 := Lib.hid hw1
  have hX1 : Box6 w1 w.heap.size (.int .i64 v.k) (.int .u64 v.s.a) (.int .u64 v.s.b) (.int .u64 v.s.c) (.int .u64 v.s.d) (.slice oe v.l.length ce) := by
    rw [hw1]
    exact Box6.new _ _ _ _ _ _ _ rfl
  have hs1 : w1.heap.size = w.heap.size + 1 := by rw [hw1]; simp
  have hb1 : Below w.heap.size w w1 := by rw [hw1]; exact below1 _ _
  have HX1 := Lib.hid hX1
  have HB1 := Lib.hid hb1
  have HSK := Lib.hid hS
  have FIN := Lib.hid (show ∀ w9, Below w.heap.size w w9 → Calls Tryd.prog 5 #[] w9 fun e w' => e = .returned (.bool true) ∧ Below w.heap.size w w' from fun w9 h => (awake_any w9 (hA.later h)).mono fun e w' ⟨h1, h2⟩ => ⟨h1, h.trans (h2.mono h.size)⟩)
  have HAL := Lib.hid (show ∀ V, Below w.heap.size w V → AL V from fun V h => hA.later h)
  have HC1 := Lib.hid (small_any 5 (by decide) v w1 w.heap.size oe ce (hG.later hb1) (by omega))
  have HG0 := Lib.hid hG
  obtain ⟨x0, x1, x2, x3, x4, x5, -⟩ := hX1
  rw [hw1] at x0 x1 x2 x3 x4 x5
  unfold PT.val at HC1 ⊢
  rw [HW1.out] at HC1
  rw [show (((5 : Nat) : Int)) = 5 from rfl] at HC1
  clear hw1 hG hb1 hS hA
  cases hsm : smT 5 v
  · rw [hsm] at HC1
    go_enter Tryd.func3, Tryd.ntmps3
    go_wp2_with fail
    refine HC1.out.mono ?_
    rintro e w5 ⟨rfl, hb5⟩
    rw [← HW1.out] at hb5
    have HAW := Lib.hid (FIN.out w5 (HB1.out.trans (hb5.mono (by omega))))
    clear hb5
    go_wp2_with fail
    refine HAW.out.mono ?_
    rintro e w9 ⟨rfl, hb9⟩
    have HB9 := Lib.hid hb9
    clear hb9
    go_wp2_with fail
    go_ret
    exact ⟨rfl, HB9.out⟩
  rw [hsm] at HC1
  have HD := Lib.hid (show v.dep ≤ 65536 by have := small_dep 5 v hsm; omega)
  have HLN := Lib.hid (show v.txt.length ≤ 1000000000 by have := small_len 5 v hsm; have e : 8 ^ 5 = 32768 := (by decide); rw [e] at this; omega)
  have HT0 := Lib.hid (show ∀ V, Below w.heap.size w V → HT V (· < w.heap.size) (.slice oe v.l.length ce) v.l from fun V hV => HG.small 5 v hsm V w.heap.size _ (HG0.out.later hV))
  clear hsm
  go_enter Tryd.func3, Tryd.ntmps3
  go_wp2_with fail
  refine HC1.out.mono ?_
  rintro e w2 ⟨rfl, hb2⟩
  rw [← HW1.out] at hb2
  clear HC1 x0 x1 x2 x3 x4 x5
  have HB2 := Lib.hid (HB1.out.trans (hb2.mono (by omega)))
  have hs2 := hb2.size
  obtain ⟨x0, x1, x2, x3, x4, x5, -⟩ := HX1.out.later hb2 (by omega)
  have HC2 := Lib.hid (plain_any v w2 oe ce ((HT0.out w2 HB2.out).later (fun b h => by have : b < w.heap.size := h; show b < w2.heap.size; omega) fun _ _ _ => rfl))
  have HY2 := Lib.hid (HX1.out.later hb2 (by omega))
  unfold PT.val at HC2
  clear hb2
  go_wp2_with fail
  refine HC2.out.mono ?_
  clear HC2
  rintro e w3 ⟨⟨ot, ct, rfl, ht⟩, hb3⟩
  have HB3 := Lib.hid (HB2.out.trans (hb3.mono (by omega)))
  have hs3 := hb3.size
  clear x0 x1 x2 x3 x4 x5
  have hal : Below w3.heap.size w3 (w3.alloc (.cells #[.int .i64 v.k, .int .u64 v.s.a, .int .u64 v.s.b, .int .u64 v.s.c, .int .u64 v.s.d, .slice ot v.l.length ct] 31)) := below1 _ _
  obtain ⟨w4, hw4⟩ : ∃ w4, w4 = w3.alloc (.cells #[.int .i64 v.k, .int .u64 v.s.a, .int .u64 v.s.b, .int .u64 v.s.c, .int .u64 v.s.d, .slice ot v.l.length ct] 31) := ⟨_, rfl⟩
  have HW4 := Lib.hid hw4
  rw [← hw4] at hal
  have hT4 : TR w4 w3.heap.size 31 v (.slice ot v.l.length ct) := by rw [hw4]; exact new_at w3 _
  have HT4 := Lib.hid hT4
  have hs4 : w4.heap.size = w3.heap.size + 1 := by rw [hw4]; simp
  have HB4 := Lib.hid (HB3.out.trans (hal.mono (by omega)))
  have hh4 : HT w4 (· < w4.heap.size) (.slice ot v.l.length ct) v.l := ht.later (fun b h => by have : b < w3.heap.size := h.2; show b < w4.heap.size; omega) fun b hb o => hal.cell (p := ⟨b, o, none⟩) hb.2
  have HH4 := Lib.hid hh4
  have HY4 := Lib.hid ((HY2.out.later (hb3.trans (hal.mono (by omega))) (by omega)))
  have HC4 := Lib.hid (print_any v w4 ot ct HD.out (HAL.out _ HB4.out) hh4)
  unfold PT.val at HC4
  obtain ⟨y0, y1, y2, y3, y4, y5⟩ := hT4.cells
  rw [hw4] at y0 y1 y2 y3 y4 y5
  clear ht hb3 hal hw4 hT4 hh4
  have HPT := Lib.hid (show printT v = (if v.prop = true then (if 40 < v.txt.length then .tuple #[.string ⟨#[]⟩, .int .i64 2] else .tuple #[.string (str v.txt), .int .i64 0]) else .tuple #[.string ⟨#[]⟩, .int .i64 4]) from rfl)
  have HRP := Lib.hid (fun V (hV : Below w.heap.size w V) => rprint_any v HSK.out HLN.out V oe ce ((HT0.out V hV).later (fun b h => by have h1 : b < w.heap.size := h; have := hV.size; show b < V.heap.size; omega) fun _ _ _ => rfl))
  unfold PT.val at HRP
  obtain ⟨R, hR⟩ : ∃ R, printT v = R := ⟨_, rfl⟩
  rw [hR] at HC4 HRP HPT
  clear hR
  by_cases hok : v.prop = true ∧ ¬ 40 < v.txt.length
  · have HAG := Lib.hid (read_again hok.1 HSK.out hok.2)
    rw [if_pos hok.1, if_neg hok.2] at HPT
    clear hok
    generalize str v.txt = sx at *
    obtain rfl := HPT.out
    go_wp2_with fail
    rw [← HW4.out]
    refine HC4.out.mono ?_
    clear HC4
    rintro e w5 ⟨rfl, hb5⟩
    have HB5 := Lib.hid (HB4.out.trans (hb5.mono (by omega)))
    have hs5 := hb5.size
    clear y0 y1 y2 y3 y4 y5
    have HY5 := Lib.hid (HY4.out.later hb5 (by omega))
    have HT5 := Lib.hid (HT4.out.up hb5)
    have HH5 : Hid (HT w5 (· < w4.heap.size) (.slice ot v.l.length ct) v.l) := Lib.hid (HH4.out.later (fun _ h => h) fun b hb o => hb5.cell (p := ⟨b, o, none⟩) hb)
    obtain ⟨x0, x1, x2, x3, x4, x5, -⟩ := HY5.out
    have HC6 := Lib.hid (HRP.out w5 HB5.out)
    clear hb5
    go_wp2_with fail
    refine HC6.out.mono ?_
    clear HC6
    rintro e w6 ⟨rfl, hb6⟩
    have HB6 := Lib.hid (HB5.out.trans (hb6.mono (by omega)))
    have hs6 := hb6.size
    have HT6 := Lib.hid (HT5.out.up hb6)
    have HH6 : Hid (HT w6 (· < w4.heap.size) (.slice ot v.l.length ct) v.l) := Lib.hid (HH5.out.later (fun _ h => h) fun b hb o => hb6.cell (p := ⟨b, o, none⟩) (Nat.lt_of_lt_of_le hb hs5))
    clear hb6 x0 x1 x2 x3 x4 x5
    have HC7 := Lib.hid (parse_u sx w6 (HAL.out _ HB6.out))
    rw [HAG.out.1, HAG.out.2] at HC7
    generalize (fauP sx : Int) = fa at *
    unfold PT.val at HC7
    go_wp2_with fail
    refine HC7.out.mono ?_
    clear HC7
    rintro e w7 ⟨⟨oz, cz, rfl, hz⟩, hb7⟩
    have HB7 := Lib.hid (HB6.out.trans (hb7.mono (by omega)))
    have hs7 := hb7.size
    obtain ⟨w8, hw8⟩ : ∃ w8, w8 = w7.alloc (.cells #[.int .i64 v.k, .int .u64 v.s.a, .int .u64 v.s.b, .int .u64 v.s.c, .int .u64 v.s.d, .slice oz v.l.length cz] 31) := ⟨_, rfl⟩
    have HW8 := Lib.hid hw8
    have hal : Below w7.heap.size w7 w8 := by rw [hw8]; exact below1 _ _
    have hT8 : TR w8 w7.heap.size 31 v (.slice oz v.l.length cz) := by rw [hw8]; exact new_at w7 _
    have hs8 : w8.heap.size = w7.heap.size + 1 := by rw [hw8]; simp
    have HB8 := Lib.hid (HB7.out.trans (hal.mono (by omega)))
    have hT9 := (HT6.out.up hb7).up hal
    have hh8 : HT w8 (· < w8.heap.size) (.slice ot v.l.length ct) v.l := HH6.out.later (fun b h => by have : b < w4.heap.size := h; show b < w8.heap.size; omega) fun b hb o => (hb7.trans (hal.mono hs7)).cell (p := ⟨b, o, none⟩) (Nat.lt_of_lt_of_le hb (by omega))
    have hz8 : HT w8 (· < w8.heap.size) (.slice oz v.l.length cz) v.l := hz.later (fun b h => by have : b < w7.heap.size := h; show b < w8.heap.size; omega) fun b hb o => hal.cell (p := ⟨b, o, none⟩) hb
    have HC8 := Lib.hid (same_tree v w8 oz cz ot ct hz8 hh8)
    unfold PT.val at HC8
    obtain ⟨y0, y1, y2, y3, y4, y5⟩ := hT8.cells
    obtain ⟨z0, z1, z2, z3, z4, z5⟩ := hT9.cells
    rw [hw8] at y0 y1 y2 y3 y4 y5 z0 z1 z2 z3 z4 z5
    clear hz hb7 hal hw8 hT8 hT9 hh8 hz8
    go_wp2_with fail
    rw [← HW8.out]
    refine HC8.out.mono ?_
    rintro e w9 ⟨rfl, hb9⟩
    have HAW := Lib.hid (FIN.out w9 (HB8.out.trans (hb9.mono (by omega))))
    clear hb9
    go_wp2_with fail
    refine HAW.out.mono ?_
    rintro e w99 ⟨rfl, hb99⟩
    have HB99 := Lib.hid hb99
    clear hb99
    go_wp2_with fail
    go_ret
    exact ⟨rfl, HB99.out⟩
  · have HER : Hid (∃ E : Int, R = .tuple #[.string ⟨#[]⟩, .int .i64 E] ∧ (E != 0) = true ∧ (E == 0) = false) := Lib.hid (by
      rw [HPT.out]
      by_cases hp : v.prop = true
      · rw [if_pos hp, if_pos (Classical.byContradiction fun h => hok ⟨hp, h⟩)]
        exact ⟨2, rfl, rfl, rfl⟩
      · rw [if_neg hp]
        exact ⟨4, rfl, rfl, rfl⟩)
    obtain ⟨E, rfl, hE1, hE2⟩ := HER.out
    clear hok HPT HER
    go_wp2_with fail
    rw [← HW4.out]
    refine HC4.out.mono ?_
    clear HC4
    rintro e w5 ⟨rfl, hb5⟩
    have HB5 := Lib.hid (HB4.out.trans (hb5.mono (by omega)))
    have hs5 := hb5.size
    clear y0 y1 y2 y3 y4 y5
    have HY5 := Lib.hid (HY4.out.later hb5 (by omega))
    have HT5 := Lib.hid (HT4.out.up hb5)
    have HH5 : Hid (HT w5 (· < w4.heap.size) (.slice ot v.l.length ct) v.l) := Lib.hid (HH4.out.later (fun _ h => h) fun b hb o => hb5.cell (p := ⟨b, o, none⟩) hb)
    obtain ⟨x0, x1, x2, x3, x4, x5, -⟩ := HY5.out
    have HC6 := Lib.hid (HRP.out w5 HB5.out)
    clear hb5
    go_wp2_with fail
    refine HC6.out.mono ?_
    clear HC6
    rintro e w6 ⟨rfl, hb6⟩
    have HB6 := Lib.hid (HB5.out.trans (hb6.mono (by omega)))
    have hs6 := hb6.size
    have HT6 := Lib.hid (HT5.out.up hb6)
    have HH6 : Hid (HT w6 (· < w4.heap.size) (.slice ot v.l.length ct) v.l) := Lib.hid (HH5.out.later (fun _ h => h) fun b hb o => hb6.cell (p := ⟨b, o, none⟩) (Nat.lt_of_lt_of_le hb hs5))
    clear hb6 x0 x1 x2 x3 x4 x5
    have HAW := Lib.hid (FIN.out w6 HB6.out)
    go_wp2_with fail
    refine HAW.out.mono ?_
    rintro e w99 ⟨rfl, hb99⟩
    have HB99 := Lib.hid hb99
    clear hb99
    go_wp2_with fail
    go_ret
    exact ⟨rfl, HB99.out⟩
end Go.Proofs.YtkogldlhidppaaaDoor
