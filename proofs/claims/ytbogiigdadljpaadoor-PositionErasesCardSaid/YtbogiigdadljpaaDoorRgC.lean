/-
  The walks of PositionMatches, PositionPicks and PositionErases. Nothing is assumed.
-/
import Derived.Test.YtbogiigdadljpaaDoorRfN
import Derived.Test.YtbogiigdadljpaaDoorGlD
import Derived.Test.YtbogiigdadljpaaDoorPtLeft
import Derived.Test.YtbogiigdadljpaaDoorPtLawP
import Derived.Test.YtbogiigdadljpaaDoorPtPickL
namespace Go.Proofs.YtbogiigdadljpaaDoor

section
open Go.RowKit

/-- A pattern that is read as a tree. -/
structure TP (p : ByteArray) (t : PT) : Prop where
  err : errP p = 0
  parse : ∃ m, parseT p.data.toList = .ok t m
  fit : t.fit = true
  sok : Sok t
  lv : 1 + t.lv ≤ 64
theorem TP.of {p : ByteArray} (h : errP p = 0) : ∃ t, TP p t := by
  obtain ⟨t, m, h1, h2⟩ := err_ok h
  obtain ⟨h3, h4, h5⟩ := parse_gd h1
  rw [lt_len] at h4
  exact ⟨t, h, ⟨m, h1⟩, h5, h3, by omega⟩
theorem match_acc {p : ByteArray} {t : PT} (h : TP p t) (L : List UInt8) : matchE t L = accT (buildT t).1 (buildT t).2 L := by
  have h1 := build_acc t h.lv L
  have h2 := row0_ends (ends_lang L t h.fit ((List.replicate (L.length + 1) false).set 0 true) (by simp))
  have h3 : matchE t L = true ↔ Lg t L := h2
  rw [Bool.eq_iff_iff, h3, h1]
/-- Where the longest match of a text ends that begins at an offset. -/
def rnT (t : PT) (L : List UInt8) (i : Nat) : Nat := runL (buildT t).1 ((hopeL (buildT t).1 (buildT t).2 L).drop i) 1 i
theorem rn_le (t : PT) (s : ByteArray) (i : Nat) (hi : i ≤ s.size) : i ≤ rnT t s.data.toList i ∧ rnT t s.data.toList i ≤ s.size := by
  refine ⟨runL_le _ _ _ _, ?_⟩
  have h1 := hopeL_len (buildT t).1 (buildT t).2 s.data.toList
  have h2 := hope_last (buildT t).1 (buildT t).2 s.data.toList
  rw [lt_len] at h1 h2
  exact runL_max (buildT t).1 (hopeL (buildT t).1 (buildT t).2 s.data.toList) s.size h1 h2 (s.size - i) 1 i (by omega)
theorem rn_acc {p : ByteArray} {t : PT} (h : TP p t) (s : ByteArray) (i : Nat) (hi : i ≤ s.size) :
    (∀ j, rnT t s.data.toList i < j → j ≤ s.size → matchE t (s.extract i j).data.toList = false) ∧ (i < rnT t s.data.toList i → matchE t (s.extract i (rnT t s.data.toList i)).data.toList = true) := by
  obtain ⟨h1, h2⟩ := acc_run (buildT t).1 (buildT t).2 s.data.toList i (by rw [lt_len]; exact hi)
  constructor
  · intro j h3 h4
    rw [match_acc h, extract_list]
    exact h1 j h3 (by rw [lt_len]; exact h4)
  · intro h3
    rw [match_acc h, extract_list]
    exact h2 h3

set_option maxRecDepth 100000 in
set_option maxHeartbeats 1600000 in
theorem rLongest_any (p s : ByteArray) (t : PT) (ht : TP p t) (hs : s.size ≤ 80) (i : Nat) (hi : i ≤ s.size) (w : World) :
    Calls Tryd.prog 26 #[.string p, .string s, .int .i64 (i : Int)] w fun e w' => e = .returned (.int .i64 (rnT t s.data.toList i : Nat)) ∧ Below w.heap.size w w' := by
  obtain ⟨m, hm⟩ := ht.parse
  have HMt : Hid (∀ (j : Nat) (V : World), Calls Tryd.prog 42 #[.string p, .string (s.extract i j)] V fun e w' => e = .returned (.tuple #[.bool (matchE t (s.extract i j).data.toList), .int .i64 0]) ∧ Below V.heap.size V w') :=
    Lib.hid (fun j V => rMatch_any p (s.extract i j) (by rw [ByteArray.size_extract]; omega) t m ht.err hm ht.fit ht.sok V)
  obtain ⟨hr1, hr2⟩ := rn_acc ht s i hi
  obtain ⟨hr3, hr4⟩ := rn_le t s i hi
  obtain ⟨R, hR⟩ : ∃ R, R = rnT t s.data.toList i := ⟨_, rfl⟩
  rw [← hR] at hr1 hr2 hr3 hr4 ⊢
  have HR1 := Lib.hid hr1
  have HR2 := Lib.hid hr2
  have hi0 : (0 : Int) ≤ (i : Int) := by omega
  clear hr1 hr2 hm hR
  go_enter Tryd.func26, Tryd.ntmps26
  go_wp2_with fail
  go_loopw [7] (fun v wr => ∃ j : Nat, v = .int .i64 (j : Int) ∧ i ≤ j ∧ j ≤ s.size ∧ Hid (∀ k, j < k → k ≤ s.size → matchE t (s.extract i k).data.toList = false) ∧ Hid (Below w.heap.size w wr)) (fun v _ => (intOf v).toNat)
  case atStart => exact ⟨s.size, rfl, hi, Nat.le_refl _, Lib.hid (fun k h1 h2 => by omega), Lib.hid (Below.refl _ _)⟩
  case round =>
    obtain ⟨j, rfl, hij, hjs, HN, HB⟩ := hrel
    by_cases hlt : i < j
    · have hltI : (i : Int) < (j : Int) := by omega
      have hijI : (i : Int) ≤ (j : Int) := by omega
      have hjsI : (j : Int) ≤ (s.size : Int) := by omega
      have hwj : IntKind.i64.wrap ((j : Int) - 1) = ((j - 1 : Nat) : Int) := by rw [IntWalk.i64_in _ (by omega)]; omega
      have HC := Lib.hid (HMt.out j wr)
      go_wp2_with fail
      refine HC.out.mono ?_
      rintro e w5 ⟨rfl, hb5⟩
      have HB5 := Lib.hid (HB.out.trans (hb5.mono HB.out.size))
      clear hb5 HC
      cases hacc : matchE t (s.extract i j).data.toList
      · go_wp2_with fail
        go_roundw
        case rel => exact ⟨j - 1, by first | rfl | (rw [← hwj]; rfl) | go_num, by omega, by omega, Lib.hid (fun k h1 h2 => by
          rcases Nat.lt_or_ge j k with h | h
          · exact HN.out k h h2
          · obtain rfl : k = j := by omega
            exact hacc), HB5⟩
        case measure => simp [intOf]; omega
      · have hRj : R = j := by
          rcases Nat.lt_trichotomy R j with h | h | h
          · have := HR1.out j h hjs; rw [this] at hacc; cases hacc
          · exact h
          · have h1 := HR2.out (by omega); rw [HN.out R h hr4] at h1; cases h1
        have HRJ := Lib.hid hRj
        clear hRj
        go_wp2_with fail
        go_ret
        exact ⟨by rw [HRJ.out]; rfl, HB5.out⟩
    · have hltI : ¬ ((i : Int) < (j : Int)) := by omega
      obtain rfl : i = j := by omega
      have hRj : R = i := by
        rcases Nat.lt_or_ge i R with h | h
        · have h1 := HR2.out h; rw [HN.out R h hr4] at h1; cases h1
        · omega
      have HRJ := Lib.hid hRj
      clear hRj
      go_wp2_with fail
      go_ret
      exact ⟨by rw [HRJ.out]; rfl, HB.out⟩

theorem infoM2 : (Tryd.prog.info? 36).map (fun i => (i.zero, i.size, i.bytes)) = some (some (.agg #[.int .i64 0, .int .i64 0]), 2, 16) := by kernel_rfl
set_option maxRecDepth 100000 in
set_option maxHeartbeats 3200000 in
theorem rMatches_ok (p s : ByteArray) (t : PT) (ht : TP p t) (hs : s.size ≤ 80) (w : World) :
    Calls Tryd.prog 11 #[.string p, .string s] w fun e w' => (∃ oa cap, e = .returned (.tuple #[.slice oa (matS p s).length cap, .int .i64 0]) ∧ HM w' (.slice oa (matS p s).length cap) (matS p s)) ∧ Below w.heap.size w w' := by
  obtain ⟨i0, hi0, hz0, hz1, hz2⟩ := info_parts infoM2
  have HP := Lib.hid (rParse_any p w)
  have HTP := Lib.hid ht
  have HLo : Hid (∀ (i : Nat) (V : World), i ≤ s.size → Calls Tryd.prog 26 #[.string p, .string s, .int .i64 (i : Int)] V fun e w' => e = .returned (.int .i64 (rnT t s.data.toList i : Nat)) ∧ Below V.heap.size V w') := Lib.hid (fun i V hi => rLongest_any p s t ht hs i hi V)
  have hml := matS_len p s
  obtain ⟨RES, hRES⟩ : ∃ RES, RES = matS p s := ⟨_, rfl⟩
  have HE0 : Hid (RES = [] ++ matL (buildT t).1 (hopeL (buildT t).1 (buildT t).2 s.data.toList) s.size (s.size + 1) 0) := Lib.hid (by
    obtain ⟨m, hm⟩ := ht.parse
    obtain ⟨t', m', h1, h2⟩ := err_ok ht.err
    rw [hRES, List.nil_append, matT_eq]
    unfold matS
    rw [if_neg h2, hm])
  rw [← hRES] at hml ⊢
  clear hRES ht
  go_enter Tryd.func11, Tryd.ntmps11
  go_wp2_with fail
  refine HP.out.mono ?_
  rintro e w1 ⟨⟨hne, _⟩ | ⟨_, t', m', oe, ce, _, rfl, _⟩, hb1⟩
  · exact absurd HTP.out.err hne
  have hb2 : Below w.heap.size w (w1.alloc (.cells #[.int .i64 t'.k, .int .u64 t'.s.a, .int .u64 t'.s.b, .int .u64 t'.s.c, .int .u64 t'.s.d, .slice oe t'.l.length ce] 48)) := hb1.trans ((below1 _ _).mono hb1.size)
  obtain ⟨w2, hw2⟩ : ∃ w2, w2 = w1.alloc (.cells #[.int .i64 t'.k, .int .u64 t'.s.a, .int .u64 t'.s.b, .int .u64 t'.s.c, .int .u64 t'.s.d, .slice oe t'.l.length ce] 48) := ⟨_, rfl⟩
  rw [← hw2] at hb2
  have HW2 := Lib.hid hw2
  have HB2 := Lib.hid hb2
  clear hb1 hb2 hw2 HP
  unfold PT.val
  go_wp2_with fail
  rw [← HW2.out]
  go_loopw [9, 10] (fun v9 v wr => ∃ (l : List (Nat × Nat)) (oc : Option Addr) (cc i g : Nat), v9 = .slice oc l.length cc ∧ v = .int .i64 (i : Int) ∧ i ≤ s.size ∧ s.size ≤ i + g ∧ l.length ≤ i ∧ Hid (wr.ownsRow w.heap.size 36 2 (.slice oc l.length cc) l.length (flatM l)) ∧ Hid (RES = l ++ matL (buildT t).1 (hopeL (buildT t).1 (buildT t).2 s.data.toList) s.size (g + 1) i) ∧ Hid (Below w.heap.size w wr)) (fun _ v _ => s.size - (intOf v).toNat)
  case atStart => exact ⟨[], none, 0, 0, s.size, rfl, rfl, Nat.zero_le _, by omega, Nat.le_refl _, Lib.hid ⟨rfl, .inl ⟨rfl, rfl⟩⟩, HE0, HB2⟩
  case round =>
    obtain ⟨l, oc, cc, i, g, rfl, rfl, his, hig, hli, HO, HE, HB⟩ := hrel
    clear HE0 HB2
    by_cases hlt : i < s.size
    · have hltI : (i : Int) < (s.size : Int) := by omega
      have hwi : IntKind.i64.wrap ((i : Int) + 1) = ((i + 1 : Nat) : Int) := by rw [IntWalk.i64_in _ (by omega)]; omega
      obtain ⟨g, rfl⟩ : ∃ g', g = g' + 1 := ⟨g - 1, by omega⟩
      have HC := Lib.hid (HLo.out i wr his)
      obtain ⟨hr1, hr2⟩ := rn_le t s i his
      have HE1 : Hid (RES = l ++ (if i < rnT t s.data.toList i then (i, rnT t s.data.toList i) :: matL (buildT t).1 (hopeL (buildT t).1 (buildT t).2 s.data.toList) s.size (g + 1) (rnT t s.data.toList i) else matL (buildT t).1 (hopeL (buildT t).1 (buildT t).2 s.data.toList) s.size (g + 1) (i + 1))) := Lib.hid (by rw [HE.out, matL_step _ _ _ _ _ hlt]; rfl)
      clear HE
      generalize rnT t s.data.toList i = J at *
      go_wp2_with fail
      refine HC.out.mono ?_
      rintro e w4 ⟨rfl, hb4⟩
      have HO4 := Lib.hid (owns_kp (X := fun _ => False) HO.out (.of hb4 (Nat.le_refl _)) (Nat.le_refl _) (fun _ _ h => h))
      have HB4 := Lib.hid (HB.out.trans (hb4.mono HB.out.size))
      clear HO HB hb4 HC
      by_cases hj : i < J
      · have hjI : (i : Int) < (J : Int) := by omega
        have HE2 : Hid (RES = (l ++ [(i, J)]) ++ matL (buildT t).1 (hopeL (buildT t).1 (buildT t).2 s.data.toList) s.size (g + 1) J) := Lib.hid (by rw [HE1.out, if_pos hj, List.append_assoc]; rfl)
        have hb5 := below1 w4 (.cells #[.int .i64 (i : Int), .int .i64 (J : Int)] 36)
        have HO5 := Lib.hid (owns_kp (X := fun _ => False) HO4.out (.of hb5 (Nat.le_refl _)) (Nat.le_refl _) (fun _ _ h => h))
        have HB5 := Lib.hid (HB4.out.trans (hb5.mono HB4.out.size))
        have hnw : (w4.alloc (.cells #[.int .i64 (i : Int), .int .i64 (J : Int)] 36)).heap[w4.heap.size]? = some (.cells #[.int .i64 (i : Int), .int .i64 (J : Int)] 36 (0, 0)) := by
          show (w4.heap.push _)[w4.heap.size]? = some _
          rw [Array.getElem?_push, if_pos rfl]
        have HNW := Lib.hid hnw
        have hsz2 : (w4.alloc (.cells #[.int .i64 (i : Int), .int .i64 (J : Int)] 36)).heap.size = w4.heap.size + 1 := by simp
        have hn1 : l.length + 1 ≤ maxLen := by unfold maxLen; omega
        have hby : (l.length + 1) * 16 ≤ 140737488355328 := by omega
        have hw4 : w.heap.size ≤ w4.heap.size := HB4.out.size
        clear HE1 hb5 hnw HO4 HB4
        go_wp2_with (at_builtin; refine wpList_append_lies _ rfl _ _ _ rfl w.heap.size 36 i0 _ 2 16 Tryd.underlying23 hi0 hz0 hz1 hz2 rfl (by omega) (.slice oc l.length cc) l.length (flatM l) rfl HO5.out ⟨w4.heap.size, 0, none⟩ 1 1 [.int .i64 (i : Int), .int .i64 (J : Int)] rfl rfl (World.news_of_block (cs := #[.int .i64 (i : Int), .int .i64 (J : Int)]) (t := 36) (fr := (0, 0)) HNW.out) (by simp [Value.oneCell']) (by omega) hn1 hby (by simp; omega) (w4.heap.size + 1) hsz2 ?_)
        intro gg cap2 w7 hown7 hgrow hat hgl
        have HO7 : Hid (w7.ownsRow w.heap.size 36 2 (.slice (some ⟨gg, 0, none⟩) (l.length + 1) cap2) (l ++ [(i, J)]).length (flatM (l ++ [(i, J)]))) := Lib.hid (by rw [flatM_snoc, List.length_append]; exact hown7)
        have HB7 : Hid (Below w.heap.size w w7) := Lib.hid (HB5.out.trans ⟨hgrow.os, hgrow.tape, hgrow.output, hgrow.size, fun q hq => hgrow.block q (by rw [hsz2]; omega) (fun e => by have := (own_lt HO5.out q e.symm).1; omega)⟩)
        clear hown7 hgrow hat hgl HO5 HB5 HNW
        go_wp2_with fail
        go_roundw
        case rel => exact ⟨l ++ [(i, J)], some ⟨gg, 0, none⟩, cap2, J, g, by rw [List.length_append]; rfl, rfl, hr2, by omega, by rw [List.length_append]; show l.length + 1 ≤ J; omega, by rw [List.length_append]; rw [List.length_append] at HO7; exact HO7, HE2, HB7⟩
        case measure => simp [intOf]; omega
      · have hjI : ¬ ((i : Int) < (J : Int)) := by omega
        have HE2 : Hid (RES = l ++ matL (buildT t).1 (hopeL (buildT t).1 (buildT t).2 s.data.toList) s.size (g + 1) (i + 1)) := Lib.hid (by rw [HE1.out, if_neg hj])
        clear HE1
        go_wp2_with fail
        go_roundw
        case rel => exact ⟨l, oc, cc, i + 1, g, rfl, by first | rfl | go_num, hlt, by omega, by omega, HO4, HE2, HB4⟩
        case measure => simp [intOf]; omega
    · have hltI : ¬ ((i : Int) < (s.size : Int)) := by omega
      have hRl : RES = l := by rw [HE.out, matL_end _ _ _ _ _ hlt, List.append_nil]
      have HRl := Lib.hid hRl
      clear hRl HE
      go_wp2_with fail
      go_ret2
      refine ⟨⟨oc, cc, by rw [HRl.out]; rfl, ?_⟩, HB.out⟩
      rw [HRl.out]
      exact MRow.reads (B := w.heap.size) HO.out
end

section
open Go.RowKit

set_option maxRecDepth 100000 in
set_option maxHeartbeats 1600000 in
theorem rMatches_err (p s : ByteArray) (h : errP p ≠ 0) (w : World) :
    Calls Tryd.prog 11 #[.string p, .string s] w fun e w' => e = .returned (.tuple #[.slice none 0 0, .int .i64 (errP p)]) ∧ Below w.heap.size w w' := by
  have HP := Lib.hid (rParse_any p w)
  have HE := Lib.hid h
  have hne : ((errP p == 0) : Bool) = false := by rw [beq_eq_false_iff_ne]; exact h
  go_enter Tryd.func11, Tryd.ntmps11
  go_wp2_with fail
  refine HP.out.mono ?_
  rintro e w1 ⟨⟨_, m, rfl⟩ | ⟨h0, _⟩, hb1⟩
  · have hb2 : Below w.heap.size w (w1.alloc (.cells #[.int .i64 0, .int .u64 0, .int .u64 0, .int .u64 0, .int .u64 0, .slice none 0 0] 48)) := hb1.trans ((below1 _ _).mono hb1.size)
    unfold zeroR
    go_wp2_with fail
    go_ret2
    exact ⟨rfl, hb2⟩
  · exact absurd h0 HE.out

set_option maxRecDepth 100000 in
set_option maxHeartbeats 3200000 in
theorem rPick_any (p s : ByteArray) (k : Int) (hk : -2 ^ 63 ≤ k ∧ k < 2 ^ 63) (hs : s.size ≤ 80) (w : World) :
    Calls Tryd.prog 29 #[.string p, .string s, .int .i64 k] w fun e w' => (∃ (x : Nat × Nat) (m : Int), e = .returned (.tuple #[.int .i64 (x.1 : Int), .int .i64 (x.2 : Int), .int .i64 m]) ∧ x.1 ≤ x.2 ∧ x.2 ≤ s.size ∧ PickR p s k x m) ∧ Below w.heap.size w w' := by
  by_cases h0 : errP p = 0
  · obtain ⟨t, ht⟩ := TP.of h0
    have HM := Lib.hid (rMatches_ok p s t ht hs w)
    have H0 := Lib.hid h0
    have hml := matS_len p s
    have HIN := Lib.hid (InOrd.mem (matS_ord p s))
    clear ht h0
    obtain ⟨hk1, hk2⟩ := hk
    go_enter Tryd.func29, Tryd.ntmps29
    go_wp2_with fail
    refine HM.out.mono ?_
    rintro e w1 ⟨⟨oa, cap, rfl, hm⟩, hb1⟩
    have HB1 := Lib.hid hb1
    have HM1 := Lib.hid hm
    obtain ⟨n, hn⟩ : ∃ n, n = (matS p s).length := ⟨_, rfl⟩
    rw [← hn] at hml ⊢
    have HN := Lib.hid hn
    clear HM hb1 hm hn
    by_cases hneg : k < 0
    · by_cases hlow : k + (n : Int) < 0
      · have hwk : IntKind.i64.wrap (k + (n : Int)) = k + (n : Int) := IntWalk.i64_in _ (by omega)
        have HP : Hid (pickL (matS p s) k = none) := Lib.hid (by
          have h : pickL (matS p s) k = if 0 ≤ (if k < 0 then k + ((matS p s).length : Nat) else k) then (matS p s)[Int.toNat (if k < 0 then k + ((matS p s).length : Nat) else k)]? else none := rfl
          rw [h, if_pos hneg, ← HN.out, if_neg (by omega)])
        go_wp2_with fail
        go_ret3
        exact ⟨⟨(0, 0), 7, rfl, Nat.le_refl _, Nat.zero_le _, .inr ⟨H0.out, .inr ⟨HP.out, rfl, rfl⟩⟩⟩, HB1.out⟩
      · obtain ⟨j, hj⟩ : ∃ j : Nat, k + (n : Int) = (j : Int) := ⟨(k + (n : Int)).toNat, by omega⟩
        have hwk : IntKind.i64.wrap (j : Int) = (j : Int) := IntWalk.i64_in _ (by omega)
        have hjn : j < n := by omega
        have hP0 : pickL (matS p s) k = (matS p s)[j]? := pick_at _ k j (by rw [← HN.out]; omega) (by rw [if_pos hneg, ← HN.out]; omega)
        have hjI : (j : Int) < (n : Int) := by omega
        obtain ⟨x, hx⟩ : ∃ x, (matS p s)[j]? = some x := ⟨_, List.getElem?_eq_getElem (by rw [← HN.out]; exact hjn)⟩
        have HP := Lib.hid (hP0.trans hx)
        have hmem := HIN.out x (List.mem_of_getElem? hx)
        obtain ⟨oa', cap', e0, hel⟩ := HM1.out
        obtain ⟨g, off, h1, c1, c2⟩ := hel j x hx
        cases e0
        subst h1
        have e1 : ∀ m, (w1.drewN m).cell? ⟨g, off + j * 2, none⟩ = some (.int .i64 (x.1 : Int)) := fun _ => c1
        have e2 : ∀ m, (w1.drewN m).cell? ⟨g, off + j * 2 + 1, none⟩ = some (.int .i64 (x.2 : Int)) := fun _ => c2
        clear hel hP0
        go_wp2_with fail
        go_quiet (fail)
        go_wp2_with fail
        go_ret3
        exact ⟨⟨x, 0, rfl, by omega, by omega, .inr ⟨H0.out, .inl ⟨HP.out, rfl⟩⟩⟩, HB1.out.trans (below_drewN _ _ _)⟩
    · clear hk1 hk2
      obtain ⟨j, rfl⟩ : ∃ j : Nat, k = (j : Int) := ⟨k.toNat, by omega⟩
      have hP0 : pickL (matS p s) (j : Int) = (matS p s)[j]? := pick_at _ (j : Int) j (by omega) (by rw [if_neg hneg])
      by_cases hjn : j < n
      · have hj0 : (0 : Int) ≤ (j : Int) := by omega
        have hjI : (j : Int) < (n : Int) := by omega
        obtain ⟨x, hx⟩ : ∃ x, (matS p s)[j]? = some x := ⟨_, List.getElem?_eq_getElem (by rw [← HN.out]; exact hjn)⟩
        have HP := Lib.hid (hP0.trans hx)
        have hmem := HIN.out x (List.mem_of_getElem? hx)
        obtain ⟨oa', cap', e0, hel⟩ := HM1.out
        obtain ⟨g, off, h1, c1, c2⟩ := hel j x hx
        cases e0
        subst h1
        have e1 : ∀ m, (w1.drewN m).cell? ⟨g, off + j * 2, none⟩ = some (.int .i64 (x.1 : Int)) := fun _ => c1
        have e2 : ∀ m, (w1.drewN m).cell? ⟨g, off + j * 2 + 1, none⟩ = some (.int .i64 (x.2 : Int)) := fun _ => c2
        clear hel hP0
        go_wp2_with fail
        go_quiet (fail)
        go_wp2_with fail
        go_ret3
        exact ⟨⟨x, 0, rfl, by omega, by omega, .inr ⟨H0.out, .inl ⟨HP.out, rfl⟩⟩⟩, HB1.out.trans (below_drewN _ _ _)⟩
      · have hjI : (n : Int) ≤ (j : Int) := by omega
        have HP : Hid (pickL (matS p s) (j : Int) = none) := Lib.hid (by rw [hP0]; exact List.getElem?_eq_none (by rw [← HN.out]; omega))
        clear hP0
        go_wp2_with fail
        go_ret3
        exact ⟨⟨(0, 0), 7, rfl, Nat.le_refl _, Nat.zero_le _, .inr ⟨H0.out, .inr ⟨HP.out, rfl, rfl⟩⟩⟩, HB1.out⟩
  · have HM := Lib.hid (rMatches_err p s h0 w)
    have H0 := Lib.hid h0
    have hne : ((errP p == 0) : Bool) = false := by rw [beq_eq_false_iff_ne]; exact h0
    clear h0
    go_enter Tryd.func29, Tryd.ntmps29
    go_wp2_with fail
    refine HM.out.mono ?_
    rintro e w1 ⟨rfl, hb1⟩
    go_wp2_with fail
    go_ret3
    exact ⟨⟨(0, 0), errP p, rfl, Nat.le_refl _, Nat.zero_le _, .inl ⟨H0.out, rfl, rfl⟩⟩, hb1⟩
set_option maxRecDepth 100000 in
theorem rStart_any (p s : ByteArray) (k : Int) (hk : -2 ^ 63 ≤ k ∧ k < 2 ^ 63) (hs : s.size ≤ 80) (w : World) :
    Calls Tryd.prog 15 #[.string p, .string s, .int .i64 k] w fun e w' => (∃ (x : Nat × Nat) (m : Int), e = .returned (.tuple #[.int .i64 (x.1 : Int), .int .i64 m]) ∧ PickR p s k x m) ∧ Below w.heap.size w w' := by
  have HN := Lib.hid (rPick_any p s k hk hs w)
  go_enter Tryd.func15, Tryd.ntmps15
  go_wp2_with fail
  refine HN.out.mono ?_
  rintro e w1 ⟨⟨x, m, rfl, hx1, hx2, hr⟩, hb⟩
  have HR := Lib.hid hr
  have hi1 : (x.1 : Int) ≤ (x.2 : Int) := by omega
  have hi2 : (x.2 : Int) ≤ (s.size : Int) := by omega
  have hi3 : (0 : Int) ≤ (x.1 : Int) := by omega
  clear hr HN
  go_wp2_with fail
  go_ret2
  exact ⟨⟨x, m, rfl, HR.out⟩, hb⟩
set_option maxRecDepth 100000 in
theorem rEnd_any (p s : ByteArray) (k : Int) (hk : -2 ^ 63 ≤ k ∧ k < 2 ^ 63) (hs : s.size ≤ 80) (w : World) :
    Calls Tryd.prog 17 #[.string p, .string s, .int .i64 k] w fun e w' => (∃ (x : Nat × Nat) (m : Int), e = .returned (.tuple #[.int .i64 (x.2 : Int), .int .i64 m]) ∧ PickR p s k x m) ∧ Below w.heap.size w w' := by
  have HN := Lib.hid (rPick_any p s k hk hs w)
  go_enter Tryd.func17, Tryd.ntmps17
  go_wp2_with fail
  refine HN.out.mono ?_
  rintro e w1 ⟨⟨x, m, rfl, hx1, hx2, hr⟩, hb⟩
  have HR := Lib.hid hr
  have hi1 : (x.1 : Int) ≤ (x.2 : Int) := by omega
  have hi2 : (x.2 : Int) ≤ (s.size : Int) := by omega
  have hi3 : (0 : Int) ≤ (x.1 : Int) := by omega
  clear hr HN
  go_wp2_with fail
  go_ret2
  exact ⟨⟨x, m, rfl, HR.out⟩, hb⟩
set_option maxRecDepth 100000 in
theorem rExtract_any (p s : ByteArray) (k : Int) (hk : -2 ^ 63 ≤ k ∧ k < 2 ^ 63) (hs : s.size ≤ 80) (w : World) :
    Calls Tryd.prog 19 #[.string p, .string s, .int .i64 k] w fun e w' => (∃ (x : Nat × Nat) (m : Int), e = .returned (.tuple #[.string (s.extract x.1 x.2), .int .i64 m]) ∧ PickR p s k x m) ∧ Below w.heap.size w w' := by
  have HN := Lib.hid (rPick_any p s k hk hs w)
  go_enter Tryd.func19, Tryd.ntmps19
  go_wp2_with fail
  refine HN.out.mono ?_
  rintro e w1 ⟨⟨x, m, rfl, hx1, hx2, hr⟩, hb⟩
  have HR := Lib.hid hr
  have hi1 : (x.1 : Int) ≤ (x.2 : Int) := by omega
  have hi2 : (x.2 : Int) ≤ (s.size : Int) := by omega
  have hi3 : (0 : Int) ≤ (x.1 : Int) := by omega
  clear hr HN
  go_wp2_with fail
  go_ret2
  exact ⟨⟨x, m, rfl, HR.out⟩, hb⟩
theorem pickR_uniq {p s : ByteArray} {k : Int} {x y : Nat × Nat} {m m' : Int} (h : PickR p s k x m) (h' : PickR p s k y m') : x = y ∧ m = m' := by
  rcases h with ⟨h1, h2, h3⟩ | ⟨h1, ⟨h2, h3⟩ | ⟨h2, h3, h4⟩⟩
  · rcases h' with ⟨_, h5, h6⟩ | ⟨h4, _⟩
    · exact ⟨h3.trans h6.symm, h2.trans h5.symm⟩
    · exact absurd h4 h1
  · obtain ⟨h5, h6⟩ := pickR_some h1 h' h2
    exact ⟨h5.symm, h3.trans h6.symm⟩
  · obtain ⟨h5, h6⟩ := pickR_none h1 h' h2
    exact ⟨h4.trans h5.symm, h3.trans h6.symm⟩

theorem str_app (l : List UInt8) (b : ByteArray) : str l ++ b = str (l ++ b.data.toList) := by
  apply ByteArray.ext
  rw [ByteArray.data_append]
  show l.toArray ++ b.data = (l ++ b.data.toList).toArray
  simp
set_option maxRecDepth 100000 in
set_option maxHeartbeats 3200000 in
theorem rErase_any (p s : ByteArray) (hs : s.size ≤ 80) (w : World) :
    Calls Tryd.prog 21 #[.string p, .string s] w fun e w' =>
      ((errP p ≠ 0 ∧ e = .returned (.tuple #[.string ⟨#[]⟩, .int .i64 (errP p)])) ∨ (errP p = 0 ∧ e = .returned (.tuple #[.string (str (eraS p s)), .int .i64 0]))) ∧ Below w.heap.size w w' := by
  by_cases h0 : errP p = 0
  · obtain ⟨t, ht⟩ := TP.of h0
    have HM := Lib.hid (rMatches_ok p s t ht hs w)
    have H0 := Lib.hid h0
    have hml := matS_len p s
    have HORD := Lib.hid (matS_ord p s)
    have HER : Hid (eraS p s = outE s 0 (matS p s) ++ (s.extract (endE 0 (matS p s)) s.size).data.toList) := Lib.hid rfl
    clear ht h0
    go_enter Tryd.func21, Tryd.ntmps21
    go_wp2_with fail
    refine HM.out.mono ?_
    rintro e w1 ⟨⟨oa, cap, rfl, hm⟩, hb1⟩
    have HB1 := Lib.hid hb1
    have HM1 := Lib.hid hm
    obtain ⟨l, hl⟩ : ∃ l, l = matS p s := ⟨_, rfl⟩
    rw [← hl] at hml HM1 HORD HER ⊢
    clear HM hb1 hm hl
    go_wp2_with fail
    go_loopw [8, 9, 10] (fun v8 v9 v wr => ∃ i : Nat, v8 = .string (str (outE s 0 (l.take i))) ∧ v9 = .int .i64 (endE 0 (l.take i) : Nat) ∧ v = .int .i64 (i : Int) ∧ i ≤ l.length ∧ wr = w1) (fun _ _ v _ => l.length - (intOf v).toNat)
    case atStart => exact ⟨0, rfl, rfl, rfl, Nat.zero_le _, rfl⟩
    case round =>
      obtain ⟨i, rfl, rfl, rfl, hil, rfl⟩ := hrel
      by_cases hlt : i < l.length
      · have hltI : (i : Int) < (l.length : Int) := by omega
        have hi0 : (0 : Int) ≤ (i : Int) := by omega
        have hwi : IntKind.i64.wrap ((i : Int) + 1) = ((i + 1 : Nat) : Int) := by rw [IntWalk.i64_in _ (by omega)]; omega
        obtain ⟨x, hx⟩ : ∃ x, l[i]? = some x := ⟨_, List.getElem?_eq_getElem hlt⟩
        have htk : l.take (i + 1) = l.take i ++ [x] := by rw [List.take_add_one, hx]; rfl
        obtain ⟨hc0, hc1, hc2, hc3⟩ := InOrd.cut (x := x) (r := l.drop (i + 1)) (l.take i) 0 (by
          have h : l.take i ++ x :: l.drop (i + 1) = l := by
            have hd : l.drop i = x :: l.drop (i + 1) := by
              rw [List.drop_eq_getElem_cons hlt]
              rw [List.getElem?_eq_getElem hlt] at hx
              rw [Option.some.inj hx]
            rw [← hd, List.take_append_drop]
          rw [h]
          exact HORD.out)
        obtain ⟨oa', cap', e0, hel⟩ := HM1.out
        obtain ⟨g, off, h1, c1, c2⟩ := hel i x hx
        cases e0
        subst h1
        have HO : Hid (str (outE s 0 (l.take (i + 1))) = str (outE s 0 (l.take i)) ++ s.extract (endE 0 (l.take i)) x.1) := Lib.hid (by rw [htk, outE_snoc, str_app])
        have HE : Hid (endE 0 (l.take (i + 1)) = x.2) := Lib.hid (by rw [htk, endE_snoc])
        have hob : (str (outE s 0 (l.take i))).size ≤ 80 := by
          have h1 := (outE_len s (l.take i) 0 hc0)
          have h2 := h1.2 (Nat.zero_le _)
          have h3 : (str (outE s 0 (l.take i))).size = (outE s 0 (l.take i)).length := by show (outE s 0 (l.take i)).toArray.size = _; simp
          omega
        clear hel htk
        generalize str (outE s 0 (l.take i)) = ob at *
        generalize endE 0 (l.take i) = ed at *
        have hb1 : (ed : Int) ≤ (x.1 : Int) := by omega
        have hb2 : (x.1 : Int) ≤ (s.size : Int) := by omega
        have hb3 : (0 : Int) ≤ (ed : Int) := by omega
        have hsum : ¬ (9223372036854775807 < ob.size + (min x.1 s.size - ed)) := by omega
        go_wp2_with fail
        go_roundw
        case rel => exact ⟨i + 1, by rw [HO.out], by rw [HE.out], by first | rfl | go_num, hlt, by first | rfl | trivial⟩
        case measure => simp [intOf]; omega
      · have hltI : ¬ ((i : Int) < (l.length : Int)) := by omega
        obtain rfl : i = l.length := by omega
        have hed : endE 0 l ≤ s.size := (outE_len s l 0 HORD.out).2 (Nat.zero_le _)
        have HF : Hid (str (eraS p s) = str (outE s 0 l) ++ s.extract (endE 0 l) s.size) := Lib.hid (by rw [HER.out, str_app])
        have hob : (str (outE s 0 l)).size ≤ 80 := by
          have h1 := (outE_len s l 0 HORD.out)
          have h3 : (str (outE s 0 l)).size = (outE s 0 l).length := by show (outE s 0 l).toArray.size = _; simp
          omega
        rw [List.take_length]
        clear HER HM1
        generalize str (outE s 0 l) = ob at *
        generalize endE 0 l = ed at *
        have hb1 : (ed : Int) ≤ (s.size : Int) := by omega
        have hb3 : (0 : Int) ≤ (ed : Int) := by omega
        have hsum : ¬ (9223372036854775807 < ob.size + (s.size - ed)) := by omega
        have hsum2 : ¬ (9223372036854775807 < ob.size + (min s.size s.size - ed)) := by omega
        go_wp2_with fail
        go_ret2
        exact ⟨.inr ⟨H0.out, by rw [HF.out]; rfl⟩, HB1.out⟩
  · have HM := Lib.hid (rMatches_err p s h0 w)
    have H0 := Lib.hid h0
    have hne : ((errP p == 0) : Bool) = false := by rw [beq_eq_false_iff_ne]; exact h0
    clear h0
    go_enter Tryd.func21, Tryd.ntmps21
    go_wp2_with fail
    refine HM.out.mono ?_
    rintro e w1 ⟨rfl, hb1⟩
    go_wp2_with fail
    go_ret2
    exact ⟨.inl ⟨H0.out, rfl⟩, hb1⟩
end

section
open Go.RowKit

theorem HM.nil (w : World) : HM w (.slice none 0 0) [] := ⟨none, 0, rfl, fun i x h => by cases h⟩

set_option maxRecDepth 100000 in
set_option maxHeartbeats 3200000 in
theorem law_matches (p s : ByteArray) (w : World) (hA : AL w) : Calls Tryd.prog 3 #[.string p, .string s] w fun e w' => e = .returned (.bool true) ∧ Below w.heap.size w w' := by
  by_cases hbig : 80 < s.size
  · have HA := Lib.hid (alive_any w hA)
    have hbI : (80 : Int) < (s.size : Int) := by omega
    go_enter Tryd.func3, Tryd.ntmps3
    go_wp2_with fail
    refine HA.out.mono ?_
    rintro e w1 ⟨rfl, hb⟩
    go_wp2_with fail
    go_ret
    exact ⟨rfl, hb⟩
  have hsI : ¬ (80 : Int) < (s.size : Int) := by omega
  by_cases hbig2 : 80 < p.size
  · have HA := Lib.hid (alive_any w hA)
    have hbI : (80 : Int) < (p.size : Int) := by omega
    go_enter Tryd.func3, Tryd.ntmps3
    go_wp2_with fail
    refine HA.out.mono ?_
    rintro e w1 ⟨rfl, hb⟩
    go_wp2_with fail
    go_ret
    exact ⟨rfl, hb⟩
  have hpI : ¬ (80 : Int) < (p.size : Int) := by omega
  have hs : s.size ≤ 80 := by omega
  by_cases h0 : errP p = 0
  · obtain ⟨t, ht⟩ := TP.of h0
    have HM := Lib.hid (matches_hm p s w hA (by omega) h0)
    have HR := Lib.hid (rMatches_ok p s t ht hs)
    have H0 := Lib.hid h0
    have hml := matS_len p s
    clear ht h0
    go_enter Tryd.func3, Tryd.ntmps3
    go_wp2_with fail
    refine HM.out.mono ?_
    rintro e w1 ⟨⟨oa, cap, rfl, hm1⟩, hb1⟩
    have hA1 := hA.later hb1
    have HM1 := Lib.hid hm1
    have HB1 := Lib.hid hb1
    clear hb1 hm1 HM
    go_wp2_with fail
    refine (HR.out w1).mono ?_
    rintro e w2 ⟨⟨oa2, cap2, rfl, hm2⟩, hb2⟩
    have hA2 := hA1.later hb2
    have HM2 := Lib.hid hm2
    have HM1b := Lib.hid (HM1.out.later hb2)
    have HB2 := Lib.hid (HB1.out.trans (hb2.mono HB1.out.size))
    have HC := Lib.hid (count_all p s w2 hA2 (by omega))
    clear hb2 hm2 HM1 HB1
    go_wp2_with fail
    refine HC.out.mono ?_
    rintro e w3 ⟨⟨hne, _⟩ | ⟨_, rfl⟩, hb3⟩
    · exact absurd H0.out hne
    have HA3 := Lib.hid (hA2.later hb3)
    have HS := Lib.hid (same_same w3 _ _ _ (HM1b.out.later hb3) (HM2.out.later hb3) (by omega))
    have HB3 := Lib.hid (HB2.out.trans (hb3.mono HB2.out.size))
    clear hb3 HC HB2 HM1b HM2 hA hA1 hA2
    go_wp2_with fail
    refine HS.out.mono ?_
    rintro e w4 ⟨rfl, m, rfl⟩
    have HAl := Lib.hid (alive_any (w3.drewN m) (HA3.out.later (below_drewN _ _ _)))
    go_wp2_with fail
    refine HAl.out.mono ?_
    rintro e w5 ⟨rfl, hb5⟩
    go_wp2_with fail
    go_ret
    exact ⟨rfl, HB3.out.trans ((below_drewN w3 w3.heap.size m |>.trans (hb5.mono (Nat.le_refl _))).mono HB3.out.size)⟩
  · have HM := Lib.hid (matches_all p s w hA (by omega))
    have HR := Lib.hid (rMatches_err p s h0)
    have H0 := Lib.hid h0
    clear h0
    go_enter Tryd.func3, Tryd.ntmps3
    go_wp2_with fail
    refine HM.out.mono ?_
    rintro e w1 ⟨⟨_, rfl⟩ | ⟨h, _⟩, hb1⟩
    rotate_left 1
    · exact absurd h H0.out
    have hA1 := hA.later hb1
    have HB1 := Lib.hid hb1
    clear hb1 HM
    go_wp2_with fail
    refine (HR.out w1).mono ?_
    rintro e w2 ⟨rfl, hb2⟩
    have hA2 := hA1.later hb2
    have HB2 := Lib.hid (HB1.out.trans (hb2.mono HB1.out.size))
    have HC := Lib.hid (count_all p s w2 hA2 (by omega))
    clear hb2 HB1
    go_wp2_with fail
    refine HC.out.mono ?_
    rintro e w3 ⟨⟨_, rfl⟩ | ⟨h, _⟩, hb3⟩
    rotate_left 1
    · exact absurd h H0.out
    have HA3 := Lib.hid (hA2.later hb3)
    have HS := Lib.hid (same_same w3 _ _ _ (HM.nil w3) (HM.nil w3) (Nat.zero_le _))
    have HB3 := Lib.hid (HB2.out.trans (hb3.mono HB2.out.size))
    clear hb3 HC HB2 hA hA1 hA2
    go_wp2_with fail
    refine HS.out.mono ?_
    rintro e w4 ⟨rfl, m, rfl⟩
    have HAl := Lib.hid (alive_any (w3.drewN m) (HA3.out.later (below_drewN _ _ _)))
    go_wp2_with fail
    refine HAl.out.mono ?_
    rintro e w5 ⟨rfl, hb5⟩
    go_wp2_with fail
    go_ret
    exact ⟨rfl, HB3.out.trans ((below_drewN w3 w3.heap.size m |>.trans (hb5.mono (Nat.le_refl _))).mono HB3.out.size)⟩

set_option maxRecDepth 100000 in
set_option maxHeartbeats 3200000 in
theorem law_erases (p s : ByteArray) (w : World) (hA : AL w) : Calls Tryd.prog 5 #[.string p, .string s] w fun e w' => e = .returned (.bool true) ∧ Below w.heap.size w w' := by
  by_cases hbig : 80 < s.size
  · have HA := Lib.hid (alive_any w hA)
    have hbI : (80 : Int) < (s.size : Int) := by omega
    go_enter Tryd.func5, Tryd.ntmps5
    go_wp2_with fail
    refine HA.out.mono ?_
    rintro e w1 ⟨rfl, hb⟩
    go_wp2_with fail
    go_ret
    exact ⟨rfl, hb⟩
  have hsI : ¬ (80 : Int) < (s.size : Int) := by omega
  by_cases hbig2 : 80 < p.size
  · have HA := Lib.hid (alive_any w hA)
    have hbI : (80 : Int) < (p.size : Int) := by omega
    go_enter Tryd.func5, Tryd.ntmps5
    go_wp2_with fail
    refine HA.out.mono ?_
    rintro e w1 ⟨rfl, hb⟩
    go_wp2_with fail
    go_ret
    exact ⟨rfl, hb⟩
  have hpI : ¬ (80 : Int) < (p.size : Int) := by omega
  have hs : s.size ≤ 80 := by omega
  have HM := Lib.hid (erase_any p s w hA (by omega))
  have HR := Lib.hid (rErase_any p s hs)
  go_enter Tryd.func5, Tryd.ntmps5
  go_wp2_with fail
  refine HM.out.mono ?_
  rintro e w1 ⟨⟨h0, rfl⟩ | ⟨h0, rfl⟩, hb1⟩
  · have hA1 := hA.later hb1
    have H0 := Lib.hid h0
    have HB1 := Lib.hid hb1
    clear hb1 HM h0
    go_wp2_with fail
    refine (HR.out w1).mono ?_
    rintro e w2 ⟨⟨_, rfl⟩ | ⟨h, _⟩, hb2⟩
    rotate_left 1
    · exact absurd h H0.out
    have HAl := Lib.hid (alive_any w2 (hA1.later hb2))
    have HB2 := Lib.hid (HB1.out.trans (hb2.mono HB1.out.size))
    clear hb2
    go_wp2_with fail
    refine HAl.out.mono ?_
    rintro e w5 ⟨rfl, hb5⟩
    go_wp2_with fail
    go_ret
    exact ⟨rfl, HB2.out.trans (hb5.mono HB2.out.size)⟩
  · have hA1 := hA.later hb1
    have H0 := Lib.hid h0
    have HB1 := Lib.hid hb1
    clear hb1 HM h0
    go_wp2_with fail
    refine (HR.out w1).mono ?_
    rintro e w2 ⟨⟨h, _⟩ | ⟨_, rfl⟩, hb2⟩
    · exact absurd H0.out h
    have HAl := Lib.hid (alive_any w2 (hA1.later hb2))
    have HB2 := Lib.hid (HB1.out.trans (hb2.mono HB1.out.size))
    clear hb2
    go_wp2_with fail
    refine HAl.out.mono ?_
    rintro e w5 ⟨rfl, hb5⟩
    go_wp2_with fail
    go_ret
    exact ⟨rfl, HB2.out.trans (hb5.mono HB2.out.size)⟩

set_option maxRecDepth 100000 in
set_option maxHeartbeats 3200000 in
theorem law_picks (p s : ByteArray) (k : Int) (hk : -2 ^ 63 ≤ k ∧ k < 2 ^ 63) (w : World) (hA : AL w) : Calls Tryd.prog 4 #[.string p, .string s, .int .i64 k] w fun e w' => e = .returned (.bool true) ∧ Below w.heap.size w w' := by
  have HK := Lib.hid hk
  clear hk
  by_cases hbig : 80 < s.size
  · have HA := Lib.hid (alive_any w hA)
    have hbI : (80 : Int) < (s.size : Int) := by omega
    go_enter Tryd.func4, Tryd.ntmps4
    go_wp2_with fail
    refine HA.out.mono ?_
    rintro e w1 ⟨rfl, hb⟩
    go_wp2_with fail
    go_ret
    exact ⟨rfl, hb⟩
  have hsI : ¬ (80 : Int) < (s.size : Int) := by omega
  by_cases hbig2 : 80 < p.size
  · have HA := Lib.hid (alive_any w hA)
    have hbI : (80 : Int) < (p.size : Int) := by omega
    go_enter Tryd.func4, Tryd.ntmps4
    go_wp2_with fail
    refine HA.out.mono ?_
    rintro e w1 ⟨rfl, hb⟩
    go_wp2_with fail
    go_ret
    exact ⟨rfl, hb⟩
  have hpI : ¬ (80 : Int) < (p.size : Int) := by omega
  have hs : s.size ≤ 80 := by omega
  have H1 := Lib.hid (start_any p s k HK.out w hA (by omega))
  go_enter Tryd.func4, Tryd.ntmps4
  go_wp2_with fail
  refine H1.out.mono ?_
  rintro e w1 ⟨⟨x, m, rfl, hx⟩, hb1⟩
  have hA1 := hA.later hb1
  have HB1 := Lib.hid hb1
  have HX := Lib.hid hx
  have H2 := Lib.hid (rStart_any p s k HK.out hs w1)
  clear hb1 H1 hx
  go_wp2_with fail
  refine H2.out.mono ?_
  rintro e w2 ⟨⟨y, m2, rfl, hy⟩, hb2⟩
  obtain ⟨rfl, rfl⟩ := pickR_uniq HX.out hy
  have hA2 := hA1.later hb2
  have HB2 := Lib.hid (HB1.out.trans (hb2.mono HB1.out.size))
  have H3 := Lib.hid (end_any p s k HK.out w2 hA2 (by omega))
  clear hb2 H2 hy HB1
  go_wp2_with fail
  refine H3.out.mono ?_
  rintro e w3 ⟨⟨y, m2, rfl, hy⟩, hb3⟩
  obtain ⟨rfl, rfl⟩ := pickR_uniq HX.out hy
  have hA3 := hA2.later hb3
  have HB3 := Lib.hid (HB2.out.trans (hb3.mono HB2.out.size))
  have H4 := Lib.hid (rEnd_any p s k HK.out hs w3)
  clear hb3 H3 hy HB2
  go_wp2_with fail
  refine H4.out.mono ?_
  rintro e w4 ⟨⟨y, m2, rfl, hy⟩, hb4⟩
  obtain ⟨rfl, rfl⟩ := pickR_uniq HX.out hy
  have hA4 := hA3.later hb4
  have HB4 := Lib.hid (HB3.out.trans (hb4.mono HB3.out.size))
  have H5 := Lib.hid (extract_any p s k HK.out w4 hA4 (by omega))
  clear hb4 H4 hy HB3
  go_wp2_with fail
  refine H5.out.mono ?_
  rintro e w5 ⟨⟨y, m2, rfl, hy⟩, hb5⟩
  obtain ⟨rfl, rfl⟩ := pickR_uniq HX.out hy
  have hA5 := hA4.later hb5
  have HB5 := Lib.hid (HB4.out.trans (hb5.mono HB4.out.size))
  have H6 := Lib.hid (rExtract_any p s k HK.out hs w5)
  clear hb5 H5 hy HB4
  go_wp2_with fail
  refine H6.out.mono ?_
  rintro e w6 ⟨⟨y, m2, rfl, hy⟩, hb6⟩
  obtain ⟨rfl, rfl⟩ := pickR_uniq HX.out hy
  have HAl := Lib.hid (alive_any w6 (hA5.later hb6))
  have HB6 := Lib.hid (HB5.out.trans (hb6.mono HB5.out.size))
  clear hb6 H6 hy HB5 HX
  go_wp2_with fail
  refine HAl.out.mono ?_
  rintro e w7 ⟨rfl, hb7⟩
  go_wp2_with fail
  go_ret
  exact ⟨rfl, HB6.out.trans (hb7.mono HB6.out.size)⟩
end

end Go.Proofs.YtbogiigdadljpaaDoor
