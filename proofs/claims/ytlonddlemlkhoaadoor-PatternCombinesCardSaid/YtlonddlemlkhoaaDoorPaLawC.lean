/-
  Concat of the specification; the walk of PatternCombines. Nothing is assumed.
-/
import Derived.Test.YtlonddlemlkhoaaDoorPaRefC
namespace Go.Proofs.YtlonddlemlkhoaaDoor
open Go.RowKit

set_option maxRecDepth 100000 in
set_option maxHeartbeats 1600000 in
theorem rconcat_any (p q : ByteArray) (w : World) :
    Calls Tryd.prog 16 #[.string p, .string q] w fun e w' => e = .returned (.tuple #[.string (twoS p q (encS [5] p ++ encS [5] q)), .int .i64 (twoE p q (encS [5] p ++ encS [5] q))]) ∧ Below w.heap.size w w' := by
  have HP := Lib.hid (rparse_u p w)
  have HQ := Lib.hid (fun (V : World) => rparse_u q V)
  have HL := Lib.hid (fun V => rlimited_any (encS [5] p ++ encS [5] q) V)
  unfold twoS twoE
  by_cases h0 : errP p = 0
  · rw [if_pos h0, if_pos h0]
    have hl0 := enc_len [5] h0
    have hp0 := err_len h0
    rw [h0] at HP
    by_cases h1 : errP q = 0
    · rw [if_pos h1, if_pos h1]
      have hl1 := enc_len [5] h1
      have hp1 := err_len h1
      rw [h1] at HQ
      have five : ∀ k : Int, (k = 5 ∨ (false = true ∧ 4 ≤ k)) ↔ hasK [5] k = true := fun k => by unfold hasK; simp
      have HWP := Lib.hid (fun (oe : Option Addr) (ce : Nat) (V : World) => wrap_any p hp0 (treeU p) oe ce false [5] (five _) V)
      have HWQ := Lib.hid (fun (oe : Option Addr) (ce : Nat) (V : World) => wrap_any q hp1 (treeU q) oe ce false [5] (five _) V)
      have HEP : Hid (encS [5] p = if hasK [5] (treeU p).k = true then ⟨#[40]⟩ ++ p ++ ⟨#[41]⟩ else p) := Lib.hid rfl
      have HEQ : Hid (encS [5] q = if hasK [5] (treeU q).k = true then ⟨#[40]⟩ ++ q ++ ⟨#[41]⟩ else q) := Lib.hid rfl
      rw [← HEP.out] at HWP
      rw [← HEQ.out] at HWQ
      clear HEP HEQ five hp0 hp1
      generalize encS [5] p = x1 at *
      generalize encS [5] q = x2 at *
      generalize treeU p = t at *
      generalize (fauP p : Int) = fa at *
      generalize treeU q = u at *
      generalize (fauP q : Int) = fb at *
      unfold PT.val at HP HQ HWP HWQ
      have c1 : ¬ 9223372036854775807 < x1.size + x2.size := by omega
      clear h0 h1 hl0 hl1
      go_enter Tryd.func16, Tryd.ntmps16
      go_wp2_with fail
      refine HP.out.mono ?_
      rintro e w1 ⟨⟨oe, ce, rfl, -⟩, hb1⟩
      obtain ⟨w2, hw2⟩ : ∃ w2, w2 = w1.alloc (.cells #[.int .i64 t.k, .int .u64 t.s.a, .int .u64 t.s.b, .int .u64 t.s.c, .int .u64 t.s.d, .slice oe t.l.length ce] 33) := ⟨_, rfl⟩
      have HW2 := Lib.hid hw2
      have hT2 : TR w2 w1.heap.size 33 t (.slice oe t.l.length ce) := by rw [hw2]; exact new_at w1 _
      have hb2 : Below w1.heap.size w1 w2 := by rw [hw2]; exact below1 _ _
      have HT2 := Lib.hid hT2
      have HB2 := Lib.hid (hb1.trans (hb2.mono hb1.size))
      clear hb1 hb2 hw2 hT2
      go_wp2_with fail
      rw [← HW2.out]
      refine (HQ.out w2).mono ?_
      rintro e w3 ⟨⟨of, cf, rfl, -⟩, hb3⟩
      obtain ⟨w4, hw4⟩ : ∃ w4, w4 = w3.alloc (.cells #[.int .i64 u.k, .int .u64 u.s.a, .int .u64 u.s.b, .int .u64 u.s.c, .int .u64 u.s.d, .slice of u.l.length cf] 33) := ⟨_, rfl⟩
      have HW4 := Lib.hid hw4
      have hU4 : TR w4 w3.heap.size 33 u (.slice of u.l.length cf) := by rw [hw4]; exact new_at w3 _
      have hb4 : Below w3.heap.size w3 w4 := by rw [hw4]; exact below1 _ _
      have hb24 := hb3.trans (hb4.mono hb3.size)
      have hT4 := HT2.out.up hb24
      have HB4 := Lib.hid (HB2.out.trans (hb24.mono HB2.out.size))
      have HEl : Hid (∀ V, Below w4.heap.size w4 V → (V.cell? ⟨w1.heap.size, 0, none⟩ = some (.int .i64 t.k) ∧ V.cell? ⟨w1.heap.size, 1, none⟩ = some (.int .u64 t.s.a) ∧ V.cell? ⟨w1.heap.size, 2, none⟩ = some (.int .u64 t.s.b) ∧ V.cell? ⟨w1.heap.size, 3, none⟩ = some (.int .u64 t.s.c) ∧ V.cell? ⟨w1.heap.size, 4, none⟩ = some (.int .u64 t.s.d) ∧ V.cell? ⟨w1.heap.size, 5, none⟩ = some (.slice oe t.l.length ce)) ∧
          (V.cell? ⟨w3.heap.size, 0, none⟩ = some (.int .i64 u.k) ∧ V.cell? ⟨w3.heap.size, 1, none⟩ = some (.int .u64 u.s.a) ∧ V.cell? ⟨w3.heap.size, 2, none⟩ = some (.int .u64 u.s.b) ∧ V.cell? ⟨w3.heap.size, 3, none⟩ = some (.int .u64 u.s.c) ∧ V.cell? ⟨w3.heap.size, 4, none⟩ = some (.int .u64 u.s.d) ∧ V.cell? ⟨w3.heap.size, 5, none⟩ = some (.slice of u.l.length cf))) := Lib.hid (fun V hV => ⟨(hT4.up hV).cells, (hU4.up hV).cells⟩)
      have HCP : Hid (∀ V, Below w4.heap.size w4 V → Calls Tryd.prog 38 #[.string p, .agg #[.int .i64 t.k, .int .u64 t.s.a, .int .u64 t.s.b, .int .u64 t.s.c, .int .u64 t.s.d, .slice oe t.l.length ce], .bool false] V fun e w' => e = .returned (.string x1) ∧ Below w4.heap.size w4 w') := Lib.hid (fun V hV => (HWP.out oe ce V).mono fun e w' ⟨h1, h2⟩ => ⟨h1, hV.trans (h2.mono hV.size)⟩)
      have HCQ : Hid (∀ V, Below w4.heap.size w4 V → Calls Tryd.prog 38 #[.string q, .agg #[.int .i64 u.k, .int .u64 u.s.a, .int .u64 u.s.b, .int .u64 u.s.c, .int .u64 u.s.d, .slice of u.l.length cf], .bool false] V fun e w' => e = .returned (.string x2) ∧ Below w4.heap.size w4 w') := Lib.hid (fun V hV => (HWQ.out of cf V).mono fun e w' ⟨h1, h2⟩ => ⟨h1, hV.trans (h2.mono hV.size)⟩)
      obtain ⟨⟨k0, k1, k2, k3, k4, k5⟩, k6, k7, k8, k9, l0, l1⟩ := HEl.out w4.drew (Below.refl _ _).drew
      have HZ : Hid (Below w4.heap.size w4 w4.drew) := Lib.hid (Below.refl _ _).drew
      clear hb3 hb4 hw4 hU4 hT4 hb24 HWP HWQ
      go_wp2_with fail
      rw [← HW4.out]
      go_region_held_law (fun V => (V.cell? ⟨w1.heap.size, 0, none⟩ = some (.int .i64 t.k) ∧ V.cell? ⟨w1.heap.size, 1, none⟩ = some (.int .u64 t.s.a) ∧ V.cell? ⟨w1.heap.size, 2, none⟩ = some (.int .u64 t.s.b) ∧ V.cell? ⟨w1.heap.size, 3, none⟩ = some (.int .u64 t.s.c) ∧ V.cell? ⟨w1.heap.size, 4, none⟩ = some (.int .u64 t.s.d) ∧ V.cell? ⟨w1.heap.size, 5, none⟩ = some (.slice oe t.l.length ce)) ∧
          (V.cell? ⟨w3.heap.size, 0, none⟩ = some (.int .i64 u.k) ∧ V.cell? ⟨w3.heap.size, 1, none⟩ = some (.int .u64 u.s.a) ∧ V.cell? ⟨w3.heap.size, 2, none⟩ = some (.int .u64 u.s.b) ∧ V.cell? ⟨w3.heap.size, 3, none⟩ = some (.int .u64 u.s.c) ∧ V.cell? ⟨w3.heap.size, 4, none⟩ = some (.int .u64 u.s.d) ∧ V.cell? ⟨w3.heap.size, 5, none⟩ = some (.slice of u.l.length cf))) (exact HEl.out _ (by first | exact HBq.out | exact HBp.out | exact HZ.out)) (first
        | (have hz1 := HBp; have hz2 := HBq; clear hz1 hz2; go_simp; go_at_call 37; refine (HL.out _).mono ?_; rintro e w7 ⟨rfl, h7⟩; subst w7
           try dsimp only)
        | ((fail_if_success (have hz1 := HBp)); go_simp; go_at_call 38; refine (HCP.out _ (by first | exact HBq.out | exact HZ.out)).mono ?_; rintro e wp ⟨rfl, hbp⟩
           have HBp := Lib.hid hbp
           clear hbp
           try dsimp only)
        | ((fail_if_success (have hz2 := HBq)); go_simp; go_at_call 38; refine (HCQ.out _ (by first | exact HBp.out | exact HZ.out)).mono ?_; rintro e wq ⟨rfl, hbq⟩
           have HBq := Lib.hid hbq
           clear hbq
           try dsimp only))
      all_goals
        go_wp2_with fail
        go_ret2
        first
          | exact ⟨rfl, HB4.out.trans (HBp.out.mono HB4.out.size)⟩
          | exact ⟨rfl, HB4.out.trans (HBq.out.mono HB4.out.size)⟩
    · rw [if_neg h1, if_neg h1]
      have hne : ((errP q != 0) : Bool) = true := by rw [bne_iff_ne]; exact h1
      clear h0 hl0 hp0 HL
      generalize treeU p = t at *
      generalize (fauP p : Int) = fa at *
      generalize treeU q = u at *
      generalize (fauP q : Int) = fb at *
      generalize errP q = er at *
      unfold PT.val at HP HQ
      go_enter Tryd.func16, Tryd.ntmps16
      go_wp2_with fail
      refine HP.out.mono ?_
      rintro e w1 ⟨⟨oe, ce, rfl, -⟩, hb1⟩
      have HB1 := Lib.hid (hb1.trans ((below1 w1 (.cells #[.int .i64 t.k, .int .u64 t.s.a, .int .u64 t.s.b, .int .u64 t.s.c, .int .u64 t.s.d, .slice oe t.l.length ce] 33)).mono hb1.size))
      clear hb1
      go_wp2_with fail
      refine (HQ.out _).mono ?_
      rintro e w2 ⟨⟨of, cf, rfl, -⟩, hb2⟩
      have hb2' := HB1.out.trans (hb2.mono HB1.out.size)
      have HB2 := Lib.hid (hb2'.trans ((below1 w2 (.cells #[.int .i64 u.k, .int .u64 u.s.a, .int .u64 u.s.b, .int .u64 u.s.c, .int .u64 u.s.d, .slice of u.l.length cf] 33)).mono hb2'.size))
      clear hb2 hb2'
      go_wp2_with fail
      go_ret2
      exact ⟨rfl, HB2.out⟩
  · rw [if_neg h0, if_neg h0]
    have hne : ((errP p != 0) : Bool) = true := by rw [bne_iff_ne]; exact h0
    clear HL HQ
    generalize errP p = er at *
    generalize treeU p = t at *
    generalize (fauP p : Int) = fa at *
    unfold PT.val at HP
    go_enter Tryd.func16, Tryd.ntmps16
    go_wp2_with fail
    refine HP.out.mono ?_
    rintro e w1 ⟨⟨oe, ce, rfl, -⟩, hb1⟩
    have HB1 := Lib.hid (hb1.trans ((below1 w1 (.cells #[.int .i64 t.k, .int .u64 t.s.a, .int .u64 t.s.b, .int .u64 t.s.c, .int .u64 t.s.d, .slice oe t.l.length ce] 33)).mono hb1.size))
    clear hb1
    go_wp2_with fail
    go_ret2
    exact ⟨rfl, HB1.out⟩

set_option maxRecDepth 100000 in
set_option maxHeartbeats 3200000 in
theorem law_pcombines (p q : ByteArray) (w : World) (hA : AL w) : Calls Tryd.prog 5 #[.string p, .string q] w fun e w' => e = .returned (.bool true) ∧ Below w.heap.size w w' := by
  by_cases hbigp : 100 < p.size
  · have HA := Lib.hid (awake_any w hA)
    have hbI : (p.size : Int) > 100 := by omega
    clear hbigp
    go_enter Tryd.func5, Tryd.ntmps5
    go_wp2_with fail
    refine HA.out.mono ?_
    rintro e w1 ⟨rfl, hb⟩
    go_wp2_with fail
    go_ret
    exact ⟨rfl, hb⟩
  have hpI : ¬ (p.size : Int) > 100 := by omega
  by_cases hbigq : 100 < q.size
  · have HA := Lib.hid (awake_any w hA)
    have hbI : (q.size : Int) > 100 := by omega
    clear hbigq
    go_enter Tryd.func5, Tryd.ntmps5
    go_wp2_with fail
    refine HA.out.mono ?_
    rintro e w1 ⟨rfl, hb⟩
    go_wp2_with fail
    go_ret
    exact ⟨rfl, hb⟩
  have hqI : ¬ (q.size : Int) > 100 := by omega
  have HC1 := Lib.hid (fun (V : World) (hV : AL V) => concat_any p q V hV)
  have HC2 := Lib.hid (fun (V : World) (_ : AL V) => rconcat_any p q V)
  have HC3 := Lib.hid (fun (V : World) (hV : AL V) => alternate_any p q V hV)
  have HC4 := Lib.hid (fun (V : World) (_ : AL V) => ralternate_any p q V)
  have HC5 := Lib.hid (fun (V : World) (hV : AL V) => star_any p V hV)
  have HC6 := Lib.hid (fun (V : World) (_ : AL V) => rstar_any p V)
  have HC7 := Lib.hid (fun (V : World) (hV : AL V) => literal_any p V hV)
  have HC8 := Lib.hid (fun (V : World) (_ : AL V) => rliteral_any p V)
  have HAI := Lib.hid hA
  have HB0 := Lib.hid (Below.refl w.heap.size w)
  clear hA hbigp hbigq
  generalize twoS p q (encS [5] p ++ encS [5] q) = x1 at *
  generalize twoE p q (encS [5] p ++ encS [5] q) = y1 at *
  generalize twoS p q (p ++ ⟨#[124]⟩ ++ q) = x2 at *
  generalize twoE p q (p ++ ⟨#[124]⟩ ++ q) = y2 at *
  generalize onS p (encS [4, 5, 6] p ++ ⟨#[42]⟩) = x3 at *
  generalize onE p (encS [4, 5, 6] p ++ ⟨#[42]⟩) = y3 at *
  generalize litS p = x4 at *
  go_enter Tryd.func5, Tryd.ntmps5
  go_wp2_with fail
  refine (HC1.out w (HAI.out.later HB0.out)).mono ?_
  rintro e w1 ⟨rfl, hb1⟩
  have HB1 := Lib.hid (HB0.out.trans (hb1.mono HB0.out.size))
  clear hb1 HC1
  go_wp2_with fail
  refine (HC2.out w1 (HAI.out.later HB1.out)).mono ?_
  rintro e w2 ⟨rfl, hb2⟩
  have HB2 := Lib.hid (HB1.out.trans (hb2.mono HB1.out.size))
  clear hb2 HC2
  go_wp2_with fail
  refine (HC3.out w2 (HAI.out.later HB2.out)).mono ?_
  rintro e w3 ⟨rfl, hb3⟩
  have HB3 := Lib.hid (HB2.out.trans (hb3.mono HB2.out.size))
  clear hb3 HC3
  go_wp2_with fail
  refine (HC4.out w3 (HAI.out.later HB3.out)).mono ?_
  rintro e w4 ⟨rfl, hb4⟩
  have HB4 := Lib.hid (HB3.out.trans (hb4.mono HB3.out.size))
  clear hb4 HC4
  go_wp2_with fail
  refine (HC5.out w4 (HAI.out.later HB4.out)).mono ?_
  rintro e w5 ⟨rfl, hb5⟩
  have HB5 := Lib.hid (HB4.out.trans (hb5.mono HB4.out.size))
  clear hb5 HC5
  go_wp2_with fail
  refine (HC6.out w5 (HAI.out.later HB5.out)).mono ?_
  rintro e w6 ⟨rfl, hb6⟩
  have HB6 := Lib.hid (HB5.out.trans (hb6.mono HB5.out.size))
  clear hb6 HC6
  go_wp2_with fail
  refine (HC7.out w6 (HAI.out.later HB6.out)).mono ?_
  rintro e w7 ⟨rfl, hb7⟩
  have HB7 := Lib.hid (HB6.out.trans (hb7.mono HB6.out.size))
  clear hb7 HC7
  go_wp2_with fail
  refine (HC8.out w7 (HAI.out.later HB7.out)).mono ?_
  rintro e w8 ⟨rfl, hb8⟩
  have HB8 := Lib.hid (HB7.out.trans (hb8.mono HB7.out.size))
  clear hb8 HC8
  go_wp2_with fail
  refine (awake_any w8 (HAI.out.later HB8.out)).mono ?_
  rintro e w9 ⟨rfl, hb9⟩
  have HB9 := Lib.hid (HB8.out.trans (hb9.mono HB8.out.size))
  clear hb9
  go_wp2_with fail
  go_ret
  exact ⟨rfl, HB9.out⟩
end Go.Proofs.YtlonddlemlkhoaaDoor
