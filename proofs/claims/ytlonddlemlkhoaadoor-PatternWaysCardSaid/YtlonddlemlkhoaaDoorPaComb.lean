/-
  Concat, Alternate and Star of package pattern. Nothing is assumed.
-/
import Derived.Test.YtlonddlemlkhoaaDoorPaLawR
namespace Go.Proofs.YtlonddlemlkhoaaDoor
open Go.RowKit

/-- A slice of numbers. -/
def KsAt (w : World) (x : Value) (ks : List Int) : Prop := ∃ o c, x = .slice o ks.length c ∧ ∀ j v, ks[j]? = some v → ∃ b off, o = some ⟨b, off, none⟩ ∧ b < w.heap.size ∧ w.cell? ⟨b, off + j, none⟩ = some (.int .i64 v)
theorem KsAt.later {w w' : World} {x : Value} {ks : List Int} (h : KsAt w x ks) (hb : Below w.heap.size w w') : KsAt w' x ks := by
  obtain ⟨o, c, e, h⟩ := h
  refine ⟨o, c, e, fun j v hj => ?_⟩
  obtain ⟨b, off, e2, hl, hc⟩ := h j v hj
  exact ⟨b, off, e2, Nat.lt_of_lt_of_le hl hb.size, (hb.cell (p := ⟨b, _, none⟩) hl).trans hc⟩
def hasK (ks : List Int) (k : Int) : Bool := ks.any (fun v => k == v)
theorem drop_has (ks : List Int) (j : Nat) (v k : Int) (h : ks[j]? = some v) : hasK (ks.drop j) k = (k == v || hasK (ks.drop (j + 1)) k) := by
  obtain ⟨hj, he⟩ := List.getElem?_eq_some_iff.1 h
  unfold hasK
  rw [List.drop_eq_getElem_cons hj, he, List.any_cons]
theorem idx_ints (ks : List Int) (hl : ks.length ≤ 100) (x : Value) (k : Int) (w : World) (hx : KsAt w x ks) :
    Calls Tryd.prog 84 #[x, .int .i64 k] w fun e w' => (∃ i : Int, e = .returned (.int .i64 i) ∧ decide (0 ≤ i) = hasK ks k) ∧ w' = w := by
  obtain ⟨o, c, rfl, hk⟩ := hx
  have HK := Lib.hid hk
  clear hk
  go_enter Tryd.func84, Tryd.ntmps84
  go_wp2_with fail
  go_loop [5, 8] (fun _ i => ∃ j : Nat, i = .int .i64 (j : Int) ∧ j ≤ ks.length ∧ Hid (hasK (ks.drop j) k = hasK ks k)) (fun _ i => ks.length - (intOf i).toNat)
  case atStart => exact ⟨0, rfl, Nat.zero_le _, Lib.hid rfl⟩
  case round =>
    obtain ⟨j, rfl, hj, HD⟩ := hrel
    by_cases hlt : j < ks.length
    · obtain ⟨v, hv⟩ : ∃ v, ks[j]? = some v := ⟨_, List.getElem?_eq_getElem hlt⟩
      obtain ⟨b, off, rfl, hbl, hc⟩ := HK.out j v hv
      have HDS := Lib.hid (drop_has ks j v k hv)
      have hjI : (j : Int) < (ks.length : Int) := by omega
      have hj0 : (0 : Int) ≤ (j : Int) := by omega
      clear hv
      by_cases hq : k = v
      · subst hq
        go_wp2_with fail
        go_ret
        exact ⟨⟨_, rfl, by rw [← HD.out, HDS.out]; simp⟩, rfl⟩
      · have hqb : (k == v) = false := by simpa using hq
        go_wp2_with fail
        go_round
        case rel => exact ⟨j + 1, by go_num, hlt, Lib.hid (by rw [← HD.out, HDS.out, hqb, Bool.false_or])⟩
        case measure => simp [intOf]; omega
    · obtain rfl : j = ks.length := by omega
      go_wp2_with fail
      go_ret
      refine ⟨⟨_, rfl, ?_⟩, rfl⟩
      rw [← HD.out, List.drop_length]; rfl
theorem has_ints (ks : List Int) (hl : ks.length ≤ 100) (x : Value) (k : Int) (w : World) (hx : KsAt w x ks) :
    Calls Tryd.prog 63 #[x, .int .i64 k] w fun e w' => e = .returned (.bool (hasK ks k)) ∧ w' = w := by
  have HC := Lib.hid (idx_ints ks hl x k w hx)
  obtain ⟨o, c, rfl, -⟩ := hx
  go_enter Tryd.func63, Tryd.ntmps63
  go_wp2_with (go_at_call 84; refine HC.out.mono ?_; rintro e w2 ⟨⟨i, rfl, hi⟩, rfl⟩)
  go_ret
  exact ⟨by rw [← hi]; rfl, rfl⟩

theorem err_len {p : ByteArray} (h : errP p = 0) : p.size ≤ 40 := by
  obtain ⟨t, m, -, h2⟩ := err_ok h
  omega
/-- A pattern, in parentheses if its tree is of one of the kinds. -/
def encS (ks : List Int) (p : ByteArray) : ByteArray := if hasK ks (treeU p).k = true then ⟨#[40]⟩ ++ p ++ ⟨#[41]⟩ else p
set_option maxRecDepth 100000 in
set_option maxHeartbeats 1600000 in
theorem enc_any (p : ByteArray) (ks : List Int) (hl : ks.length ≤ 100) (x : Value) (w : World) (hA : AL w) (hx : KsAt w x ks) :
    Calls Tryd.prog 35 #[.string p, x] w fun e w' => e = .returned (.tuple #[.string (if errP p = 0 then encS ks p else ⟨#[]⟩), .int .i64 (errP p)]) ∧ Below w.heap.size w w' := by
  have HP := Lib.hid (parse_u p w hA)
  have HX := Lib.hid hx
  obtain ⟨o, c, rfl, -⟩ := hx
  unfold encS
  clear hA
  generalize treeU p = t at *
  generalize (fauP p : Int) = fa at *
  unfold PT.val at HP
  by_cases h0 : errP p = 0
  · rw [if_pos h0]
    have hlen := err_len h0
    have c1 : ¬ 9223372036854775807 < 1 + p.size := by omega
    have c2 : ¬ 9223372036854775807 < 1 + p.size + 1 := by omega
    rw [h0] at HP ⊢
    cases hq : hasK ks t.k with
    | true =>
      rw [if_pos rfl]
      go_enter Tryd.func35, Tryd.ntmps35
      go_wp2_with fail
      refine HP.out.mono ?_
      rintro e w1 ⟨⟨oe, ce, rfl, -⟩, hb1⟩
      obtain ⟨w2, hw2⟩ : ∃ w2, w2 = w1.alloc (.cells #[.int .i64 t.k, .int .u64 t.s.a, .int .u64 t.s.b, .int .u64 t.s.c, .int .u64 t.s.d, .slice oe t.l.length ce] 27) := ⟨_, rfl⟩
      have HW2 := Lib.hid hw2
      have hb2 : Below w1.heap.size w1 w2 := by rw [hw2]; exact below1 _ _
      have hT2 : TR w2 w1.heap.size 27 t (.slice oe t.l.length ce) := by rw [hw2]; exact new_at w1 _
      obtain ⟨k0, -⟩ := hT2.cells
      have HB2 := Lib.hid (hb1.trans (hb2.mono hb1.size))
      have HC := Lib.hid (has_ints ks hl (.slice o ks.length c) t.k w2 (HX.out.later HB2.out))
      rw [hq] at HC
      clear hb1 hb2 hw2 hT2 hq
      go_wp2_with fail
      rw [← HW2.out]
      go_wp2_with (go_at_call 63; refine HC.out.mono ?_; rintro e w3 ⟨rfl, rfl⟩)
      go_ret2
      exact ⟨rfl, HB2.out⟩
    | false =>
      rw [if_neg (by decide)]
      go_enter Tryd.func35, Tryd.ntmps35
      go_wp2_with fail
      refine HP.out.mono ?_
      rintro e w1 ⟨⟨oe, ce, rfl, -⟩, hb1⟩
      obtain ⟨w2, hw2⟩ : ∃ w2, w2 = w1.alloc (.cells #[.int .i64 t.k, .int .u64 t.s.a, .int .u64 t.s.b, .int .u64 t.s.c, .int .u64 t.s.d, .slice oe t.l.length ce] 27) := ⟨_, rfl⟩
      have HW2 := Lib.hid hw2
      have hb2 : Below w1.heap.size w1 w2 := by rw [hw2]; exact below1 _ _
      have hT2 : TR w2 w1.heap.size 27 t (.slice oe t.l.length ce) := by rw [hw2]; exact new_at w1 _
      obtain ⟨k0, -⟩ := hT2.cells
      have HB2 := Lib.hid (hb1.trans (hb2.mono hb1.size))
      have HC := Lib.hid (has_ints ks hl (.slice o ks.length c) t.k w2 (HX.out.later HB2.out))
      rw [hq] at HC
      clear hb1 hb2 hw2 hT2 hq
      go_wp2_with fail
      rw [← HW2.out]
      go_wp2_with (go_at_call 63; refine HC.out.mono ?_; rintro e w3 ⟨rfl, rfl⟩)
      go_ret2
      exact ⟨rfl, HB2.out⟩
  · rw [if_neg h0]
    have hne : ((errP p != 0) : Bool) = true := by rw [bne_iff_ne]; exact h0
    generalize errP p = er at *
    go_enter Tryd.func35, Tryd.ntmps35
    go_wp2_with fail
    refine HP.out.mono ?_
    rintro e w1 ⟨⟨oe, ce, rfl, -⟩, hb1⟩
    have HB2 := Lib.hid (hb1.trans ((below1 w1 (.cells #[.int .i64 t.k, .int .u64 t.s.a, .int .u64 t.s.b, .int .u64 t.s.c, .int .u64 t.s.d, .slice oe t.l.length ce] 27)).mono hb1.size))
    clear hb1
    go_wp2_with fail
    go_ret2
    exact ⟨rfl, HB2.out⟩

def limS (s : ByteArray) : ByteArray := if 40 < s.size then ⟨#[]⟩ else s
def limE (s : ByteArray) : Int := if 40 < s.size then 2 else 0
theorem within_lim (p : ByteArray) (w : World) : Calls Tryd.prog 36 #[.string p] w fun e w' => e = .returned (.tuple #[.string (limS p), .int .i64 (limE p)]) ∧ w' = w :=
  (withinSize_any p w).mono fun e w' ⟨h1, h2⟩ => ⟨by rw [h1]; unfold limS limE; split <;> rfl, h2⟩
/-- A text of two patterns. -/
def twoS (p q s : ByteArray) : ByteArray := if errP p = 0 then (if errP q = 0 then limS s else ⟨#[]⟩) else ⟨#[]⟩
def twoE (p q s : ByteArray) : Int := if errP p = 0 then (if errP q = 0 then limE s else errP q) else errP p
def onS (p s : ByteArray) : ByteArray := if errP p = 0 then limS s else ⟨#[]⟩
def onE (p s : ByteArray) : Int := if errP p = 0 then limE s else errP p

set_option maxRecDepth 100000 in
set_option maxHeartbeats 1600000 in
theorem alternate_any (p q : ByteArray) (w : World) (hA : AL w) :
    Calls Tryd.prog 17 #[.string p, .string q] w fun e w' => e = .returned (.tuple #[.string (twoS p q (p ++ ⟨#[124]⟩ ++ q)), .int .i64 (twoE p q (p ++ ⟨#[124]⟩ ++ q))]) ∧ Below w.heap.size w w' := by
  have nil_at : ∀ W : World, KsAt W (.slice none 0 0) [] := fun W => ⟨none, 0, rfl, fun j v h => by simp at h⟩
  have enc0 : ∀ p, encS [] p = p := fun p => rfl
  have HP := Lib.hid (enc_any p [] (by decide) _ w hA (nil_at w))
  have HQ := Lib.hid (fun (V : World) (hV : AL V) => enc_any q [] (by decide) _ V hV (nil_at V))
  have HL := Lib.hid (fun V => within_lim (p ++ ⟨#[124]⟩ ++ q) V)
  have HA := Lib.hid hA
  rw [enc0] at HP HQ
  unfold twoS twoE
  clear hA nil_at enc0
  by_cases h0 : errP p = 0
  · rw [if_pos h0, if_pos h0]
    rw [if_pos h0, h0] at HP
    by_cases h1 : errP q = 0
    · rw [if_pos h1, if_pos h1]
      rw [if_pos h1, h1] at HQ
      have hl0 := err_len h0
      have hl1 := err_len h1
      have c1 : ¬ 9223372036854775807 < p.size + 1 := by omega
      have c2 : ¬ 9223372036854775807 < p.size + 1 + q.size := by omega
      clear h0 h1 hl0 hl1
      go_enter Tryd.func17, Tryd.ntmps17
      go_wp2_with fail
      refine HP.out.mono ?_
      rintro e w1 ⟨rfl, hb1⟩
      have HB1 := Lib.hid hb1
      clear hb1
      go_wp2_with fail
      refine (HQ.out w1 (HA.out.later HB1.out)).mono ?_
      rintro e w2 ⟨rfl, hb2⟩
      have HB2 := Lib.hid (HB1.out.trans (hb2.mono HB1.out.size))
      clear hb2
      go_wp2_with fail
      refine (HL.out w2).mono ?_
      rintro e w3 ⟨rfl, h3⟩; subst h3
      go_wp2_with fail
      go_ret2
      exact ⟨rfl, HB2.out⟩
    · rw [if_neg h1, if_neg h1]
      rw [if_neg h1] at HQ
      have hne : ((errP q != 0) : Bool) = true := by rw [bne_iff_ne]; exact h1
      clear h0
      generalize errP q = er at *
      go_enter Tryd.func17, Tryd.ntmps17
      go_wp2_with fail
      refine HP.out.mono ?_
      rintro e w1 ⟨rfl, hb1⟩
      have HB1 := Lib.hid hb1
      clear hb1
      go_wp2_with fail
      refine (HQ.out w1 (HA.out.later HB1.out)).mono ?_
      rintro e w2 ⟨rfl, hb2⟩
      have HB2 := Lib.hid (HB1.out.trans (hb2.mono HB1.out.size))
      clear hb2
      go_wp2_with fail
      go_ret2
      exact ⟨rfl, HB2.out⟩
  · rw [if_neg h0, if_neg h0]
    rw [if_neg h0] at HP
    have hne : ((errP p != 0) : Bool) = true := by rw [bne_iff_ne]; exact h0
    generalize errP p = er at *
    go_enter Tryd.func17, Tryd.ntmps17
    go_wp2_with fail
    refine HP.out.mono ?_
    rintro e w1 ⟨rfl, hb1⟩
    have HB1 := Lib.hid hb1
    clear hb1
    go_wp2_with fail
    go_ret2
    exact ⟨rfl, HB1.out⟩

theorem ks1 (w : World) (t : TypeId) : KsAt (w.alloc (.cells #[.int .i64 5] t)) (.slice (some ⟨w.heap.size, 0, none⟩) 1 1) [5] :=
  ⟨_, _, rfl, fun j v h => ⟨_, _, rfl, by simp, by
    match j, h with
    | 0, h => cases h; exact cell_at _ _ _ _ _ rfl⟩⟩
theorem ks3 (w : World) (t : TypeId) : KsAt (w.alloc (.cells #[.int .i64 4, .int .i64 5, .int .i64 6] t)) (.slice (some ⟨w.heap.size, 0, none⟩) 3 3) [4, 5, 6] :=
  ⟨_, _, rfl, fun j v h => ⟨_, _, rfl, by simp, by
    match j, h with
    | 0, h => cases h; exact cell_at _ _ _ _ _ rfl
    | 1, h => cases h; exact cell_at _ _ _ _ _ rfl
    | 2, h => cases h; exact cell_at _ _ _ _ _ rfl⟩⟩
theorem enc_len (ks : List Int) {p : ByteArray} (h : errP p = 0) : (encS ks p).size ≤ 42 := by
  have := err_len h
  unfold encS
  split
  · rw [ByteArray.size_append, ByteArray.size_append]
    show 1 + p.size + 1 ≤ 42
    omega
  · omega

set_option maxRecDepth 100000 in
set_option maxHeartbeats 1600000 in
theorem star_any (p : ByteArray) (w : World) (hA : AL w) :
    Calls Tryd.prog 19 #[.string p] w fun e w' => e = .returned (.tuple #[.string (onS p (encS [4, 5, 6] p ++ ⟨#[42]⟩)), .int .i64 (onE p (encS [4, 5, 6] p ++ ⟨#[42]⟩))]) ∧ Below w.heap.size w w' := by
  have hb1 := below1 w (.cells #[.int .i64 4, .int .i64 5, .int .i64 6] 3)
  have HP := Lib.hid (enc_any p [4, 5, 6] (by decide) _ _ (hA.later hb1) (ks3 w 3))
  have HL := Lib.hid (fun V => within_lim (encS [4, 5, 6] p ++ ⟨#[42]⟩) V)
  have HB1 := Lib.hid hb1
  unfold onS onE
  clear hA hb1
  by_cases h0 : errP p = 0
  · rw [if_pos h0, if_pos h0]
    rw [if_pos h0, h0] at HP
    have hl0 := enc_len [4, 5, 6] h0
    generalize encS [4, 5, 6] p = s at *
    have c1 : ¬ 9223372036854775807 < s.size + 1 := by omega
    clear h0 hl0
    go_enter Tryd.func19, Tryd.ntmps19
    go_wp2_with fail
    refine HP.out.mono ?_
    rintro e w1 ⟨rfl, hb2⟩
    have HB2 := Lib.hid (HB1.out.trans (hb2.mono HB1.out.size))
    clear hb2
    go_wp2_with fail
    refine (HL.out w1).mono ?_
    rintro e w3 ⟨rfl, h3⟩; subst h3
    go_wp2_with fail
    go_ret2
    exact ⟨rfl, HB2.out⟩
  · rw [if_neg h0, if_neg h0]
    rw [if_neg h0] at HP
    have hne : ((errP p != 0) : Bool) = true := by rw [bne_iff_ne]; exact h0
    generalize errP p = er at *
    go_enter Tryd.func19, Tryd.ntmps19
    go_wp2_with fail
    refine HP.out.mono ?_
    rintro e w1 ⟨rfl, hb2⟩
    have HB2 := Lib.hid (HB1.out.trans (hb2.mono HB1.out.size))
    clear hb2
    go_wp2_with fail
    go_ret2
    exact ⟨rfl, HB2.out⟩

set_option maxRecDepth 100000 in
set_option maxHeartbeats 1600000 in
theorem concat_any (p q : ByteArray) (w : World) (hA : AL w) :
    Calls Tryd.prog 15 #[.string p, .string q] w fun e w' => e = .returned (.tuple #[.string (twoS p q (encS [5] p ++ encS [5] q)), .int .i64 (twoE p q (encS [5] p ++ encS [5] q))]) ∧ Below w.heap.size w w' := by
  have hb1 := below1 w (.cells #[.int .i64 5] 3)
  have HP := Lib.hid (enc_any p [5] (by decide) _ _ (hA.later hb1) (ks1 w 3))
  have HQ := Lib.hid (fun (V : World) (hV : AL V) => enc_any q [5] (by decide) _ _ (hV.later (below1 V _)) (ks1 V 3))
  have HL := Lib.hid (fun V => within_lim (encS [5] p ++ encS [5] q) V)
  have HB1 := Lib.hid hb1
  have HA := Lib.hid hA
  unfold twoS twoE
  clear hA hb1
  by_cases h0 : errP p = 0
  · rw [if_pos h0, if_pos h0]
    rw [if_pos h0, h0] at HP
    by_cases h1 : errP q = 0
    · rw [if_pos h1, if_pos h1]
      rw [if_pos h1, h1] at HQ
      have hl0 := enc_len [5] h0
      have hl1 := enc_len [5] h1
      generalize encS [5] p = s at *
      generalize encS [5] q = t at *
      have c1 : ¬ 9223372036854775807 < s.size + t.size := by omega
      clear h0 h1 hl0 hl1
      go_enter Tryd.func15, Tryd.ntmps15
      go_wp2_with fail
      refine HP.out.mono ?_
      rintro e w1 ⟨rfl, hb2⟩
      have HB2 := Lib.hid (HB1.out.trans (hb2.mono HB1.out.size))
      clear hb2
      go_wp2_with fail
      refine (HQ.out w1 (HA.out.later HB2.out)).mono ?_
      rintro e w2 ⟨rfl, hb3⟩
      have HB3 := Lib.hid (HB2.out.trans (((below1 w1 (.cells #[.int .i64 5] 3)).trans (hb3.mono (below1 w1 _).size)).mono HB2.out.size))
      clear hb3
      go_wp2_with fail
      refine (HL.out w2).mono ?_
      rintro e w3 ⟨rfl, h3⟩; subst h3
      go_wp2_with fail
      go_ret2
      exact ⟨rfl, HB3.out⟩
    · rw [if_neg h1, if_neg h1]
      rw [if_neg h1] at HQ
      have hne : ((errP q != 0) : Bool) = true := by rw [bne_iff_ne]; exact h1
      clear h0
      generalize errP q = er at *
      go_enter Tryd.func15, Tryd.ntmps15
      go_wp2_with fail
      refine HP.out.mono ?_
      rintro e w1 ⟨rfl, hb2⟩
      have HB2 := Lib.hid (HB1.out.trans (hb2.mono HB1.out.size))
      clear hb2
      go_wp2_with fail
      refine (HQ.out w1 (HA.out.later HB2.out)).mono ?_
      rintro e w2 ⟨rfl, hb3⟩
      have HB3 := Lib.hid (HB2.out.trans (((below1 w1 (.cells #[.int .i64 5] 3)).trans (hb3.mono (below1 w1 _).size)).mono HB2.out.size))
      clear hb3
      go_wp2_with fail
      go_ret2
      exact ⟨rfl, HB3.out⟩
  · rw [if_neg h0, if_neg h0]
    rw [if_neg h0] at HP
    have hne : ((errP p != 0) : Bool) = true := by rw [bne_iff_ne]; exact h0
    generalize errP p = er at *
    go_enter Tryd.func15, Tryd.ntmps15
    go_wp2_with fail
    refine HP.out.mono ?_
    rintro e w1 ⟨rfl, hb2⟩
    have HB2 := Lib.hid (HB1.out.trans (hb2.mono HB1.out.size))
    clear hb2
    go_wp2_with fail
    go_ret2
    exact ⟨rfl, HB2.out⟩

/-- The kinds of the trees that are read. -/
def Gk (f : Nat → PR PT) : Prop := ∀ i t m, f i = .ok t m → 1 ≤ t.k ∧ t.k ≤ 6
theorem k_of {k : Int} (s : S4) (l : List PT) (h1 : 1 ≤ k) (h2 : k ≤ 6) : 1 ≤ (PT.mk k s l).k ∧ (PT.mk k s l).k ≤ 6 := ⟨h1, h2⟩
theorem class_k (s : S4) : 1 ≤ (classT s).k ∧ (classT s).k ≤ 6 := by
  unfold classT
  split <;> exact k_of _ _ (by decide) (by decide)
theorem atom_k {L : List UInt8} {pat : Nat → PR PT} (hp : Gk pat) : Gk (atomL pat L) := by
  intro i t m h
  unfold atomL at h
  split at h
  · unfold groupL at h
    split at h
    · cases h; exact ⟨by decide, by decide⟩
    · cases hq : pat (i + 1) with
      | bad q => rw [hq] at h; cases h
      | ok t' q =>
        rw [hq] at h
        replace h : (if pk L q = 41 then .ok t' (q + 1) else .bad q : PR PT) = .ok t m := h
        split at h
        · cases h; exact hp _ _ _ hq
        · cases h
  split at h
  · unfold brackL at h
    split at h
    · cases h; exact ⟨by decide, by decide⟩
    · cases hm : setL L (L.length + 1) .zero (negL L (i + 1)) with
      | bad q => rw [hm] at h; cases h
      | ok s q => rw [hm] at h; cases h; exact class_k _
  split at h
  · cases h; exact class_k _
  split at h
  · split at h
    · cases h; exact class_k _
    · cases h
  split at h
  · cases h; exact class_k _
  · cases h
theorem rep_k {L : List UInt8} {pat : Nat → PR PT} (hp : Gk pat) : Gk (repL pat L) := by
  intro i t m h
  unfold repL at h
  cases hq : atomL pat L i with
  | bad q => rw [hq] at h; cases h
  | ok t' q =>
    rw [hq] at h
    replace h : (if pk L q = 42 then .ok (.mk 6 .zero [t']) (q + 1) else .ok t' q : PR PT) = .ok t m := h
    split at h
    · cases h; exact k_of _ _ (by decide) (by decide)
    · cases h; exact atom_k hp _ _ _ hq
theorem sev_k {one : Nat → PR PT} {sep : Nat → Option Nat} (h2 : Gk one) : ∀ (g : Nat) (acc : List PT) (i : Nat), (∀ x, x ∈ acc → 1 ≤ x.k ∧ x.k ≤ 6) → ∀ l m, sevL one sep g acc i = .ok l m → ∀ x, x ∈ l → 1 ≤ x.k ∧ x.k ≤ 6
  | 0, _, _, _, _, _, h => by cases h
  | g + 1, acc, i, ha, l, m, h => by
    have step : ∀ j, ((one j).bind fun t m => sevL one sep g (acc ++ [t]) m) = .ok l m → ∀ x, x ∈ l → 1 ≤ x.k ∧ x.k ≤ 6 := fun j hh => by
      cases hq : one j with
      | bad q => rw [hq] at hh; cases hh
      | ok t q =>
        rw [hq] at hh
        exact sev_k h2 g (acc ++ [t]) q (fun x hx => by
          rcases List.mem_append.1 hx with hx | hx
          · exact ha x hx
          · obtain rfl := List.mem_singleton.1 hx; exact h2 _ _ _ hq) l m hh
    rw [sevL] at h
    split at h
    · exact step i h
    · cases hsep : sep i with
      | none => rw [hsep] at h; cases h; exact ha
      | some j => rw [hsep] at h; exact step j h
theorem several_k {one : Nat → PR PT} {sep : Nat → Option Nat} (h2 : Gk one) {kind : Int} (hk : 1 ≤ kind ∧ kind ≤ 6) (n : Nat) : Gk fun i => (sevL one sep n [] i).map (joinT kind) := by
  intro i t m h
  replace h : (sevL one sep n [] i).map (joinT kind) = .ok t m := h
  cases hq : sevL one sep n [] i with
  | bad q => rw [hq] at h; cases h
  | ok l q =>
    rw [hq] at h
    cases h
    have h3 := sev_k h2 _ [] i (fun _ h => by cases h) l _ hq
    match l, h3 with
    | [], _ => exact hk
    | [t], h3 => exact h3 t (List.mem_cons_self ..)
    | t :: u :: r, _ => exact hk
theorem pat_k (L : List UInt8) : ∀ d, Gk (patL L d) := by
  intro d
  induction d with
  | zero => exact fun i t m h => by cases h
  | succ d ih => exact several_k (several_k (rep_k ih) ⟨by decide, by decide⟩ _) ⟨by decide, by decide⟩ _
theorem tree_k {p : ByteArray} (h : errP p = 0) : 1 ≤ (treeU p).k ∧ (treeU p).k ≤ 6 := by
  obtain ⟨t, m, h1, h2⟩ := err_ok h
  have e : treeU p = t := by unfold treeU tree; rw [if_neg h2, h1]; rfl
  rw [e]
  unfold parseT at h1
  cases hq : patL p.data.toList (p.data.toList.length + 1) 0 with
  | bad q => rw [hq] at h1; cases h1
  | ok t' q =>
    rw [hq] at h1
    replace h1 : (if q = p.data.toList.length then PR.ok t' q else .bad q) = .ok t m := h1
    split at h1
    · cases h1; exact pat_k _ _ _ _ _ hq
    · cases h1
end Go.Proofs.YtlonddlemlkhoaaDoor
