/-
  The walks of Ints, Texts and Rows of the reference.
-/
import Derived.Test.YtohecojckghedaaDoorGets
import Derived.Test.YtohecojckghedaaDoorRefCheck
namespace Go.Proofs.YtohecojckghedaaDoor
open Go.RowKit

/-- The two results, of which the first is some slice of n elements. -/
def Some2 (n : Nat) (e : Ending) : Prop := ∃ oa cap, e = .returned (.tuple #[.slice oa n cap, .bool true])

set_option maxHeartbeats 800000 in
theorem refInts_bad (v : V) (sl : Value) (w : World) (B : Nat) (hR : Rep w B sl v.l) (hB : B ≤ w.heap.size) (h : v.t ≠ 5 ∨ v.chk ≠ 0) :
    Calls Tryd.prog 51 #[.agg #[.int .i64 v.t, .int .i64 v.n, .string v.s, sl]] w fun e w' => Bad2 e ∧ Below w.heap.size w w' := by
  obtain ⟨oa, cap, rfl, _, _, hel⟩ := hR.slice
  clear hel
  by_cases h5 : v.t = 5
  · have hc : v.chk ≠ 0 := by rcases h with h | h; exact absurd h5 h; exact h
    have f5 := neq_f h5
    have fc := neq_t hc
    clear h h5 hc
    go_enter Tryd.func51, Tryd.ntmps51
    go_wp2_with fail
    refine (refCheck_any v _ _ B (hR.later ((below1 _ _).mono hB)) (by simp; omega)).mono ?_
    rintro e w1 ⟨rfl, hb1⟩
    go_wp2_with fail
    exact bodyPost_ret (v := .tuple #[.slice none 0 0, .bool false]) (by simp [results, Tryd.results51, go_sem]) rfl ⟨rfl, (below1 _ _).trans (hb1.mono (by simp))⟩
  · have f5 := neq_t h5
    clear h h5
    go_enter Tryd.func51, Tryd.ntmps51
    go_wp2_with fail
    exact bodyPost_ret (v := .tuple #[.slice none 0 0, .bool false]) (by simp [results, Tryd.results51, go_sem]) rfl ⟨rfl, below1 _ _⟩

set_option maxRecDepth 100000 in
set_option maxHeartbeats 1600000 in
theorem refInts_good (v : V) (sl : Value) (w : World) (B : Nat) (hR : Rep w B sl v.l) (hB : B ≤ w.heap.size) (h5 : v.t = 5) (hc : v.chk = 0) :
    Calls Tryd.prog 51 #[.agg #[.int .i64 v.t, .int .i64 v.n, .string v.s, sl]] w fun e w' => Some2 v.l.length e ∧ Below w.heap.size w w' := by
  obtain ⟨oa, cap, rfl, _, hm, hel⟩ := hR.slice
  obtain ⟨i, hi, hz0, hz1, hz2⟩ := info_parts infoInt64
  have hlen := (ints_is h5 hc).1
  have f5 := neq_f h5
  have fc := neq_f hc
  clear h5 hc
  go_enter Tryd.func51, Tryd.ntmps51
  go_wp2_with fail
  refine (refCheck_any v _ _ B (hR.later ((below1 _ _).mono hB)) (by simp; omega)).mono ?_
  rintro e w1 ⟨rfl, hb1⟩
  have hb2 := (Below.refl (w.heap.size + 1) (w.alloc (.cells #[.int .i64 v.t, .int .i64 v.n, .string v.s, .slice oa v.l.length cap] 24))).trans (hb1.mono (by simp))
  clear hb1
  have hs1 : w.heap.size + 1 ≤ w1.heap.size := by have := hb2.size; simpa using this
  obtain ⟨c0, c1, c2, c3⟩ := box_later hb2
  go_wp2_with fail
  clear c0 c1 c2 c3
  go_loopw [4, 5] (fun o v' wr => ∃ (k : Nat) (oc : Option Addr) (cc : Nat) (xs : List Value), k ≤ v.l.length ∧ v' = .int .i64 k ∧ o = .slice oc k cc ∧
      Hid (wr.ownsRow (w.heap.size + 1) 2 1 (.slice oc k cc) k xs) ∧ w.heap.size + 1 ≤ wr.heap.size ∧
      Below (w.heap.size + 1) (w.alloc (.cells #[.int .i64 v.t, .int .i64 v.n, .string v.s, .slice oa v.l.length cap] 24)) wr) (fun _ v' _ => v.l.length - (intOf v').toNat)
  case atStart => exact ⟨0, none, 0, [], Nat.zero_le _, rfl, rfl, ⟨rfl, .inl ⟨rfl, rfl⟩⟩, hs1, hb2⟩
  case round =>
    obtain ⟨k, oc, cc, xs, hk, rfl, rfl, HO, hgr, hbel'⟩ := hrel
    have hbel : Below w.heap.size w wr := (below1 _ _).trans (hbel'.mono (by omega))
    obtain ⟨c0, c1, c2, c3⟩ := box_later hbel'
    by_cases hlt : k < v.l.length
    · obtain ⟨b, off, oe, ce, rfl, hb, h0, h1, h2, h3, hr⟩ := hel k _ (List.getElem?_eq_getElem hlt)
      rw [← hbel.cell (p := ⟨b, _, none⟩) (Nat.lt_of_lt_of_le hb hB)] at h0 h1 h2 h3
      have hki : (k : Int) < (v.l.length : Int) := by omega
      have hn1 : k + 1 ≤ maxLen := by unfold maxLen; omega
      have hby : (k + 1) * 8 ≤ 140737488355328 := by omega
      go_wp2_with (at_builtin; refine wpList_append_lies _ rfl _ _ _ rfl (w.heap.size + 1) 2 i _ 1 8 Tryd.underlying39 hi hz0 hz1 hz2 rfl (by omega) (.slice oc k cc) k xs rfl (HO.out.alloc _) ⟨wr.heap.size, 0, none⟩ 1 1 [.int .i64 v.l[k].n] rfl rfl (World.news_of_block (cs := #[.int .i64 v.l[k].n]) (t := 2) (fr := (0, 0)) (one_new _ _)) (by simp [Value.oneCell']) (by omega) hn1 hby (by simp; omega) (wr.heap.size + 1) (by simp) ?_)
      intro gg cap2 w2 hown1 hgrow hat hlt1
      have HO1 := Lib.hid hown1; clear hown1
      have hbw : Below (w.heap.size + 1) (w.alloc (.cells #[.int .i64 v.t, .int .i64 v.n, .string v.s, .slice (some ⟨b, off, none⟩) v.l.length cap] 24)) w2 :=
        (hbel'.alloc (by omega) _).grown hgrow (by simp; omega) (fun q hq => by
          rcases Nat.lt_or_ge q (w.heap.size + 1) with h | h
          · exact absurd hq (own_ne HO.out (by omega))
          · exact h)
      have hsz1 : w.heap.size + 1 ≤ w2.heap.size := by have := hgrow.size; simp at this; omega
      go_wp2_with fail
      refine ⟨⟨k + 1, _, _, _, hlt, by go_num, rfl, HO1.out, hsz1, hbw⟩, by simp [intOf]; omega⟩
    · obtain rfl : k = v.l.length := by omega
      go_wp2_with fail
      exact bodyPost_ret (v := .tuple #[.slice oc v.l.length cc, .bool true]) (by simp [results, Tryd.results51, go_sem]) rfl ⟨⟨_, _, rfl⟩, hbel⟩

set_option maxHeartbeats 800000 in
theorem refTexts_bad (v : V) (sl : Value) (w : World) (B : Nat) (hR : Rep w B sl v.l) (hB : B ≤ w.heap.size) (h : v.t ≠ 6 ∨ v.chk ≠ 0) :
    Calls Tryd.prog 53 #[.agg #[.int .i64 v.t, .int .i64 v.n, .string v.s, sl]] w fun e w' => Bad2 e ∧ Below w.heap.size w w' := by
  obtain ⟨oa, cap, rfl, _, _, hel⟩ := hR.slice
  clear hel
  by_cases h6 : v.t = 6
  · have hc : v.chk ≠ 0 := by rcases h with h | h; exact absurd h6 h; exact h
    have f6 := neq_f h6
    have fc := neq_t hc
    clear h h6 hc
    go_enter Tryd.func53, Tryd.ntmps53
    go_wp2_with fail
    refine (refCheck_any v _ _ B (hR.later ((below1 _ _).mono hB)) (by simp; omega)).mono ?_
    rintro e w1 ⟨rfl, hb1⟩
    go_wp2_with fail
    exact bodyPost_ret (v := .tuple #[.slice none 0 0, .bool false]) (by simp [results, Tryd.results53, go_sem]) rfl ⟨rfl, (below1 _ _).trans (hb1.mono (by simp))⟩
  · have f6 := neq_t h6
    clear h h6
    go_enter Tryd.func53, Tryd.ntmps53
    go_wp2_with fail
    exact bodyPost_ret (v := .tuple #[.slice none 0 0, .bool false]) (by simp [results, Tryd.results53, go_sem]) rfl ⟨rfl, below1 _ _⟩

set_option maxRecDepth 100000 in
set_option maxHeartbeats 1600000 in
theorem refTexts_good (v : V) (sl : Value) (w : World) (B : Nat) (hR : Rep w B sl v.l) (hB : B ≤ w.heap.size) (h6 : v.t = 6) (hc : v.chk = 0) :
    Calls Tryd.prog 53 #[.agg #[.int .i64 v.t, .int .i64 v.n, .string v.s, sl]] w fun e w' => Some2 v.l.length e ∧ Below w.heap.size w w' := by
  obtain ⟨oa, cap, rfl, _, hm, hel⟩ := hR.slice
  obtain ⟨i, hi, hz0, hz1, hz2⟩ := info_parts infoString
  have hlen := (texts_is h6 hc).1
  have f6 := neq_f h6
  have fc := neq_f hc
  clear h6 hc
  go_enter Tryd.func53, Tryd.ntmps53
  go_wp2_with fail
  refine (refCheck_any v _ _ B (hR.later ((below1 _ _).mono hB)) (by simp; omega)).mono ?_
  rintro e w1 ⟨rfl, hb1⟩
  have hb2 := (Below.refl (w.heap.size + 1) (w.alloc (.cells #[.int .i64 v.t, .int .i64 v.n, .string v.s, .slice oa v.l.length cap] 24))).trans (hb1.mono (by simp))
  clear hb1
  have hs1 : w.heap.size + 1 ≤ w1.heap.size := by have := hb2.size; simpa using this
  obtain ⟨c0, c1, c2, c3⟩ := box_later hb2
  go_wp2_with fail
  clear c0 c1 c2 c3
  go_loopw [4, 5] (fun o v' wr => ∃ (k : Nat) (oc : Option Addr) (cc : Nat) (xs : List Value), k ≤ v.l.length ∧ v' = .int .i64 k ∧ o = .slice oc k cc ∧
      Hid (wr.ownsRow (w.heap.size + 1) 9 1 (.slice oc k cc) k xs) ∧ w.heap.size + 1 ≤ wr.heap.size ∧
      Below (w.heap.size + 1) (w.alloc (.cells #[.int .i64 v.t, .int .i64 v.n, .string v.s, .slice oa v.l.length cap] 24)) wr) (fun _ v' _ => v.l.length - (intOf v').toNat)
  case atStart => exact ⟨0, none, 0, [], Nat.zero_le _, rfl, rfl, ⟨rfl, .inl ⟨rfl, rfl⟩⟩, hs1, hb2⟩
  case round =>
    obtain ⟨k, oc, cc, xs, hk, rfl, rfl, HO, hgr, hbel'⟩ := hrel
    have hbel : Below w.heap.size w wr := (below1 _ _).trans (hbel'.mono (by omega))
    obtain ⟨c0, c1, c2, c3⟩ := box_later hbel'
    by_cases hlt : k < v.l.length
    · obtain ⟨b, off, oe, ce, rfl, hb, h0, h1, h2, h3, hr⟩ := hel k _ (List.getElem?_eq_getElem hlt)
      rw [← hbel.cell (p := ⟨b, _, none⟩) (Nat.lt_of_lt_of_le hb hB)] at h0 h1 h2 h3
      have hki : (k : Int) < (v.l.length : Int) := by omega
      have hn1 : k + 1 ≤ maxLen := by unfold maxLen; omega
      have hby : (k + 1) * 16 ≤ 140737488355328 := by omega
      go_wp2_with (at_builtin; refine wpList_append_lies _ rfl _ _ _ rfl (w.heap.size + 1) 9 i _ 1 16 Tryd.underlying40 hi hz0 hz1 hz2 rfl (by omega) (.slice oc k cc) k xs rfl (HO.out.alloc _) ⟨wr.heap.size, 0, none⟩ 1 1 [.string v.l[k].s] rfl rfl (World.news_of_block (cs := #[.string v.l[k].s]) (t := 9) (fr := (0, 0)) (one_new _ _)) (by simp [Value.oneCell']) (by omega) hn1 hby (by simp; omega) (wr.heap.size + 1) (by simp) ?_)
      intro gg cap2 w2 hown1 hgrow hat hlt1
      have HO1 := Lib.hid hown1; clear hown1
      have hbw : Below (w.heap.size + 1) (w.alloc (.cells #[.int .i64 v.t, .int .i64 v.n, .string v.s, .slice (some ⟨b, off, none⟩) v.l.length cap] 24)) w2 :=
        (hbel'.alloc (by omega) _).grown hgrow (by simp; omega) (fun q hq => by
          rcases Nat.lt_or_ge q (w.heap.size + 1) with h | h
          · exact absurd hq (own_ne HO.out (by omega))
          · exact h)
      have hsz1 : w.heap.size + 1 ≤ w2.heap.size := by have := hgrow.size; simp at this; omega
      go_wp2_with fail
      refine ⟨⟨k + 1, _, _, _, hlt, by go_num, rfl, HO1.out, hsz1, hbw⟩, by simp [intOf]; omega⟩
    · obtain rfl : k = v.l.length := by omega
      go_wp2_with fail
      exact bodyPost_ret (v := .tuple #[.slice oc v.l.length cc, .bool true]) (by simp [results, Tryd.results53, go_sem]) rfl ⟨⟨_, _, rfl⟩, hbel⟩

set_option maxHeartbeats 800000 in
theorem refRows_bad (v : V) (sl : Value) (w : World) (B : Nat) (hR : Rep w B sl v.l) (hB : B ≤ w.heap.size) (h : v.t ≠ 7 ∨ v.chk ≠ 0) :
    Calls Tryd.prog 55 #[.agg #[.int .i64 v.t, .int .i64 v.n, .string v.s, sl]] w fun e w' => Bad2 e ∧ Below w.heap.size w w' := by
  obtain ⟨oa, cap, rfl, _, _, hel⟩ := hR.slice
  clear hel
  by_cases h7 : v.t = 7
  · have hc : v.chk ≠ 0 := by rcases h with h | h; exact absurd h7 h; exact h
    have f7 := neq_f h7
    have fc := neq_t hc
    clear h h7 hc
    go_enter Tryd.func55, Tryd.ntmps55
    go_wp2_with fail
    refine (refCheck_any v _ _ B (hR.later ((below1 _ _).mono hB)) (by simp; omega)).mono ?_
    rintro e w1 ⟨rfl, hb1⟩
    go_wp2_with fail
    exact bodyPost_ret (v := .tuple #[.slice none 0 0, .bool false]) (by simp [results, Tryd.results55, go_sem]) rfl ⟨rfl, (below1 _ _).trans (hb1.mono (by simp))⟩
  · have f7 := neq_t h7
    clear h h7
    go_enter Tryd.func55, Tryd.ntmps55
    go_wp2_with fail
    exact bodyPost_ret (v := .tuple #[.slice none 0 0, .bool false]) (by simp [results, Tryd.results55, go_sem]) rfl ⟨rfl, below1 _ _⟩

set_option maxRecDepth 100000 in
set_option maxHeartbeats 1600000 in
theorem refRows_good (v : V) (sl : Value) (w : World) (B : Nat) (hR : Rep w B sl v.l) (hB : B ≤ w.heap.size) (h7 : v.t = 7) (hc : v.chk = 0) :
    Calls Tryd.prog 55 #[.agg #[.int .i64 v.t, .int .i64 v.n, .string v.s, sl]] w fun e w' => Some2 v.l.length e ∧ Below w.heap.size w w' := by
  obtain ⟨oa, cap, rfl, _, hm, hel⟩ := hR.slice
  obtain ⟨i, hi, hz0, hz1, hz2⟩ := info_parts infoStrings
  have hlen := (table_is h7 hc).1
  have hrow := Lib.hid (table_is h7 hc).2.1
  have f7 := neq_f h7
  have fc := neq_f hc
  clear h7 hc
  go_enter Tryd.func55, Tryd.ntmps55
  go_wp2_with fail
  refine (refCheck_any v _ _ B (hR.later ((below1 _ _).mono hB)) (by simp; omega)).mono ?_
  rintro e w1 ⟨rfl, hb1⟩
  have hb2 := (Below.refl (w.heap.size + 1) (w.alloc (.cells #[.int .i64 v.t, .int .i64 v.n, .string v.s, .slice oa v.l.length cap] 24))).trans (hb1.mono (by simp))
  clear hb1
  have hs1 : w.heap.size + 1 ≤ w1.heap.size := by have := hb2.size; simpa using this
  obtain ⟨c0, c1, c2, c3⟩ := box_later hb2
  go_wp2_with fail
  clear c0 c1 c2 c3
  go_loopw [4, 5] (fun o v' wr => ∃ (k : Nat) (oc : Option Addr) (cc : Nat) (xs : List Value), k ≤ v.l.length ∧ v' = .int .i64 k ∧ o = .slice oc k cc ∧
      Hid (wr.ownsRow (w.heap.size + 1) 40 1 (.slice oc k cc) k xs) ∧ w.heap.size + 1 ≤ wr.heap.size ∧
      Below (w.heap.size + 1) (w.alloc (.cells #[.int .i64 v.t, .int .i64 v.n, .string v.s, .slice oa v.l.length cap] 24)) wr) (fun _ v' _ => v.l.length - (intOf v').toNat)
  case atStart => exact ⟨0, none, 0, [], Nat.zero_le _, rfl, rfl, ⟨rfl, .inl ⟨rfl, rfl⟩⟩, hs1, hb2⟩
  case round =>
    obtain ⟨k, oc, cc, xs, hk, rfl, rfl, HO, hgr, hbel'⟩ := hrel
    have hbel : Below w.heap.size w wr := (below1 _ _).trans (hbel'.mono (by omega))
    obtain ⟨c0, c1, c2, c3⟩ := box_later hbel'
    by_cases hlt : k < v.l.length
    · obtain ⟨b, off, oe, ce, rfl, hb, h0, h1, h2, h3, hr⟩ := hel k _ (List.getElem?_eq_getElem hlt)
      rw [← hbel.cell (p := ⟨b, _, none⟩) (Nat.lt_of_lt_of_le hb hB)] at h0 h1 h2 h3
      have hki : (k : Int) < (v.l.length : Int) := by omega
      have hn1 : k + 1 ≤ maxLen := by unfold maxLen; omega
      have hby : (k + 1) * 24 ≤ 140737488355328 := by omega
      go_wp2_with fail
      refine (refTexts_good v.l[k] _ _ B (hr.later (hbel.mono hB)) (by omega) (hrow.out _ (List.getElem_mem hlt)).2.1 (hrow.out _ (List.getElem_mem hlt)).2.2).mono ?_
      rintro e w5 ⟨⟨ox, cx, rfl⟩, hb5⟩
      have hs5 := hb5.size
      have HO5 := Lib.hid (owns_later HO.out hb5)
      have hbel5 := hbel'.trans (hb5.mono hgr)
      clear hr c0 c1 c2 c3 h0 h1 h2 h3
      go_wp2_with (at_builtin; refine wpList_append_lies _ rfl _ _ _ rfl (w.heap.size + 1) 40 i _ 1 24 Tryd.underlying41 hi hz0 hz1 hz2 rfl (by omega) (.slice oc k cc) k xs rfl (HO5.out.alloc _) ⟨w5.heap.size, 0, none⟩ 1 1 [.slice ox v.l[k].l.length cx] rfl rfl (World.news_of_block (cs := #[.slice ox v.l[k].l.length cx]) (t := 40) (fr := (0, 0)) (one_new _ _)) (by simp [Value.oneCell']) (by omega) hn1 hby (by simp; omega) (w5.heap.size + 1) (by simp) ?_)
      intro gg cap2 w2 hown1 hgrow hat hlt1
      have HO1 := Lib.hid hown1; clear hown1
      have hbw : Below (w.heap.size + 1) (w.alloc (.cells #[.int .i64 v.t, .int .i64 v.n, .string v.s, .slice (some ⟨b, off, none⟩) v.l.length cap] 24)) w2 :=
        (hbel5.alloc (by omega) _).grown hgrow (by simp; omega) (fun q hq => by
          rcases Nat.lt_or_ge q (w.heap.size + 1) with h | h
          · exact absurd hq (own_ne HO.out (by omega))
          · exact h)
      have hsz1 : w.heap.size + 1 ≤ w2.heap.size := by have := hgrow.size; simp at this; omega
      go_wp2_with fail
      refine ⟨⟨k + 1, _, _, _, hlt, by go_num, rfl, HO1.out, hsz1, hbw⟩, by simp [intOf]; omega⟩
    · obtain rfl : k = v.l.length := by omega
      go_wp2_with fail
      exact bodyPost_ret (v := .tuple #[.slice oc v.l.length cc, .bool true]) (by simp [results, Tryd.results55, go_sem]) rfl ⟨⟨_, _, rfl⟩, hbel⟩

end Go.Proofs.YtohecojckghedaaDoor
