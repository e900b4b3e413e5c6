/-
  The walks of mapEach, from lists of values to lists of numbers, texts and lists of texts, and of Ints, Texts and Rows.
-/
import Derived.Test.YtohecojckghedaaDoorRefLists
import Derived.Test.YtohecojckghedaaDoorCheck2
namespace Go.Proofs.YtohecojckghedaaDoor
open Go.RowKit

theorem infoInt64 : (Tryd.prog.info? 2).map (fun i => (i.zero, i.size, i.bytes)) = some (some (.int .i64 0), 1, 8) := by kernel_rfl
theorem infoString : (Tryd.prog.info? 9).map (fun i => (i.zero, i.size, i.bytes)) = some (some (.string ⟨#[]⟩), 1, 16) := by kernel_rfl
theorem infoStrings : (Tryd.prog.info? 40).map (fun i => (i.zero, i.size, i.bytes)) = some (some (.slice none 0 0), 1, 24) := by kernel_rfl

/-- A row of n cells, block g, filled as far as xs goes. -/
def Row1 (w : World) (g n : Nat) (xs : List Value) : Prop :=
  ∃ (cur : Array Value) (t : TypeId), w.heap[g]? = some (.cells cur t (0, 0)) ∧ cur.size = n ∧ cur.toList.take xs.length = xs ∧ xs.length ≤ n

theorem Row1.lt {w : World} {g n : Nat} {xs : List Value} (h : Row1 w g n xs) : g < w.heap.size := by
  obtain ⟨cur, t, hh, _⟩ := h
  rcases Nat.lt_or_ge g w.heap.size with h | h
  · exact h
  · rw [Array.getElem?_eq_none h] at hh; cases hh
theorem Row1.made {w : World} {base e g n m : Nat} {xs : List Value} (h : w.ownsRow base e 1 (.slice (some ⟨g, 0, none⟩) n n) m xs) : Row1 w g n [] := by
  rcases h.2 with ⟨h0, _⟩ | ⟨g', cap, cur, hv, _, hh, _, _, hsz, _⟩
  · cases h0
  · cases hv
    exact ⟨cur, e, hh, by omega, by simp, Nat.zero_le _⟩
theorem Row1.later {w w' : World} {B g n : Nat} {xs : List Value} (h : Row1 w g n xs) (hb : Below B w w') (hg : g < B) : Row1 w' g n xs := by
  obtain ⟨cur, t, hh, hr⟩ := h
  exact ⟨cur, t, (hb.block g hg).trans hh, hr⟩
theorem Row1.cell {w : World} {g n : Nat} {xs : List Value} (h : Row1 w g n xs) (k : Nat) (hk : k < n) :
    ∃ u, w.cell? ⟨g, k, none⟩ = some u ∧ w.frozen? ⟨g, k, none⟩ = false := by
  obtain ⟨cur, t, hh, hsz, _⟩ := h
  refine ⟨cur[k], ?_, ?_⟩
  · unfold World.cell?
    rw [hh]
    simp [hsz, hk]
  · unfold World.frozen?
    rw [hh]
    simp
theorem Row1.step {w : World} {g n k : Nat} {xs : List Value} (h : Row1 w g n xs) (hk : xs.length < n) (ho : k = xs.length) (x : Value) : Row1 (w.setCell ⟨g, k, none⟩ x) g n (xs ++ [x]) := by
  obtain ⟨cur, t, hh, hsz, htk, hle⟩ := h
  refine ⟨_, t, heap_set hh _, by simp [hsz], ?_, by simp; omega⟩
  subst ho
  rw [List.length_append, List.length_singleton, Array.toList_setIfInBounds]
  apply List.ext_getElem?
  intro i
  rw [List.getElem?_take]
  by_cases h1 : i < xs.length
  · rw [if_pos (by omega), List.getElem?_set_ne (by omega), List.getElem?_append_left h1, ← htk, List.getElem?_take, if_pos h1]
  · by_cases h2 : i = xs.length
    · subst h2
      rw [if_pos (by omega), List.getElem?_set_self (by simp; omega)]
      simp
    · rw [if_neg (by omega), List.getElem?_eq_none (by simp; omega)]
/-- The cells of a filled row. -/
theorem Row1.at {w : World} {g n : Nat} {xs : List Value} (h : Row1 w g n xs) (i : Nat) (x : Value) (hx : xs[i]? = some x) : w.cell? ⟨g, i, none⟩ = some x := by
  obtain ⟨cur, t, hh, hsz, htk, hle⟩ := h
  have hi : i < xs.length := (List.getElem?_eq_some_iff.1 hx).1
  have h1 : cur.toList[i]? = some x := by
    rw [← htk, List.getElem?_take] at hx
    rw [if_pos hi] at hx
    exact hx
  unfold World.cell?
  rw [hh]
  simpa using h1

theorem Row1.other {w : World} {g n : Nat} {xs : List Value} (h : Row1 w g n xs) (a : Addr) (v : Value) (ha : g ≠ a.block) : Row1 (w.setCell a v) g n xs := by
  obtain ⟨cur, t, hh, hr⟩ := h
  exact ⟨cur, t, (Below.heap_setCell _ _ _ _ ha).trans hh, hr⟩

set_option maxHeartbeats 400000 in
theorem num_any (v : V) (sl : Value) (w : World) (hs : ∃ oa n c, sl = .slice oa n c) :
    Calls Tryd.prog 93 #[.agg #[.int .i64 v.t, .int .i64 v.n, .string v.s, sl]] w fun e w' => e = .returned (.int .i64 v.n) ∧ Below w.heap.size w w' := by
  obtain ⟨oa, n, c, rfl⟩ := hs
  go_enter Tryd.func93, Tryd.ntmps93
  go_wp2_with fail
  go_ret
  exact ⟨rfl, below1 _ _⟩
set_option maxHeartbeats 400000 in
theorem text_any (v : V) (sl : Value) (w : World) (hs : ∃ oa n c, sl = .slice oa n c) :
    Calls Tryd.prog 95 #[.agg #[.int .i64 v.t, .int .i64 v.n, .string v.s, sl]] w fun e w' => e = .returned (.string v.s) ∧ Below w.heap.size w w' := by
  obtain ⟨oa, n, c, rfl⟩ := hs
  go_enter Tryd.func95, Tryd.ntmps95
  go_wp2_with fail
  go_ret
  exact ⟨rfl, below1 _ _⟩

set_option maxRecDepth 100000 in
set_option maxHeartbeats 1600000 in
theorem mapNums_any (l : List V) (x : Value) (w : World) (B : Nat) (hl : Rep w B x l) (hB : B ≤ w.heap.size) (hn : l.length ≤ 1000) :
    Calls Tryd.prog 92 #[x, .func (.func 93) #[] #[]] w fun e w' =>
      (∃ g, e = .returned (.slice (some ⟨g, 0, none⟩) l.length l.length) ∧ Row1 w' g l.length (l.map fun v => .int .i64 v.n) ∧ w.heap.size ≤ g) ∧ Below w.heap.size w w' := by
  obtain ⟨oa, cap, rfl, hlc, hm, hel⟩ := hl.slice
  obtain ⟨i, hi, hz0, hz1, hz2⟩ := info_parts infoInt64
  go_enter Tryd.func92, Tryd.ntmps92
  go_wp2_with (at_make; refine wpList_make_full _ rfl _ _ 39 rfl w.heap.size 2 i _ 1 Tryd.underlying39 hi hz0 hz1 _ _ _ _ l.length rfl rfl rfl rfl ?b2 ?b3 (Nat.le_refl _) ?_)
  case b2 => rw [hz2]; omega
  case b3 => unfold maxLen; omega
  intro w1 hown hgrow
  go_wp2_with fail
  have hrow : Row1 w1 w.heap.size l.length [] := Row1.made hown
  have hbw1 : Below w.heap.size w w1 := (Below.refl _ _).grown hgrow (Nat.le_refl _) (fun k h => by cases h)
  have hg1 : w.heap.size < w1.heap.size := hrow.lt
  clear hown hgrow
  go_loopw [13] (fun v wr => ∃ k : Nat, k ≤ l.length ∧ v = .int .i64 k ∧ Hid (Row1 wr w.heap.size l.length ((l.take k).map fun v => .int .i64 v.n)) ∧ w.heap.size < wr.heap.size ∧ Below w.heap.size w wr) (fun v _ => l.length - (intOf v).toNat)
  case atStart => exact ⟨0, Nat.zero_le _, rfl, hrow, hg1, hbw1⟩
  case round =>
    obtain ⟨k, hk, rfl, HR, hgr, hbel⟩ := hrel
    by_cases hlt : k < l.length
    · obtain ⟨b, off, oe, ce, rfl, hb, h0, h1, h2, h3, hr⟩ := hel k _ (List.getElem?_eq_getElem hlt)
      rw [← hbel.cell (p := ⟨b, _, none⟩) (Nat.lt_of_lt_of_le hb hB)] at h0 h1 h2 h3
      go_wp2_with fail
      refine (num_any l[k] _ _ ⟨_, _, _, rfl⟩).mono ?_
      rintro e w2 ⟨rfl, hb2⟩
      have hb3 : Below wr.heap.size wr w2 := (below1 wr _).trans (hb2.mono (by simp))
      have hs2 := hb3.size
      have HR2 := Lib.hid (HR.out.later hb3 hgr)
      obtain ⟨u0, e0, z0⟩ := HR2.out.cell k hlt
      go_wp2_with fail
      refine ⟨⟨k + 1, hlt, by go_num, ?_, by rw [size_set]; omega, (hbel.trans (hb3.mono hbel.size)).setCell (p := ⟨w.heap.size, k, none⟩) (Nat.le_refl _) _⟩, by simp [intOf]; omega⟩
      have h := HR2.out.step (k := k) (by simp; omega) (by simp; omega) (.int .i64 l[k].n)
      rw [List.take_succ_eq_append_getElem hlt, List.map_append]
      exact h
    · go_wp2_with fail
      go_ret
      have h := HR.out
      rw [List.take_of_length_le (by omega)] at h
      exact ⟨⟨w.heap.size, rfl, h, Nat.le_refl _⟩, hbel⟩

set_option maxRecDepth 100000 in
set_option maxHeartbeats 1600000 in
theorem mapStrs_any (l : List V) (x : Value) (w : World) (B : Nat) (hl : Rep w B x l) (hB : B ≤ w.heap.size) (hn : l.length ≤ 1000) :
    Calls Tryd.prog 94 #[x, .func (.func 95) #[] #[]] w fun e w' =>
      (∃ g, e = .returned (.slice (some ⟨g, 0, none⟩) l.length l.length) ∧ Row1 w' g l.length (l.map fun v => .string v.s) ∧ w.heap.size ≤ g) ∧ Below w.heap.size w w' := by
  obtain ⟨oa, cap, rfl, hlc, hm, hel⟩ := hl.slice
  obtain ⟨i, hi, hz0, hz1, hz2⟩ := info_parts infoString
  go_enter Tryd.func94, Tryd.ntmps94
  go_wp2_with (at_make; refine wpList_make_full _ rfl _ _ 40 rfl w.heap.size 9 i _ 1 Tryd.underlying40 hi hz0 hz1 _ _ _ _ l.length rfl rfl rfl rfl ?b2 ?b3 (Nat.le_refl _) ?_)
  case b2 => rw [hz2]; omega
  case b3 => unfold maxLen; omega
  intro w1 hown hgrow
  go_wp2_with fail
  have hrow : Row1 w1 w.heap.size l.length [] := Row1.made hown
  have hbw1 : Below w.heap.size w w1 := (Below.refl _ _).grown hgrow (Nat.le_refl _) (fun k h => by cases h)
  have hg1 : w.heap.size < w1.heap.size := hrow.lt
  clear hown hgrow
  go_loopw [13] (fun v wr => ∃ k : Nat, k ≤ l.length ∧ v = .int .i64 k ∧ Hid (Row1 wr w.heap.size l.length ((l.take k).map fun v => .string v.s)) ∧ w.heap.size < wr.heap.size ∧ Below w.heap.size w wr) (fun v _ => l.length - (intOf v).toNat)
  case atStart => exact ⟨0, Nat.zero_le _, rfl, hrow, hg1, hbw1⟩
  case round =>
    obtain ⟨k, hk, rfl, HR, hgr, hbel⟩ := hrel
    by_cases hlt : k < l.length
    · obtain ⟨b, off, oe, ce, rfl, hb, h0, h1, h2, h3, hr⟩ := hel k _ (List.getElem?_eq_getElem hlt)
      rw [← hbel.cell (p := ⟨b, _, none⟩) (Nat.lt_of_lt_of_le hb hB)] at h0 h1 h2 h3
      go_wp2_with fail
      refine (text_any l[k] _ _ ⟨_, _, _, rfl⟩).mono ?_
      rintro e w2 ⟨rfl, hb2⟩
      have hb3 : Below wr.heap.size wr w2 := (below1 wr _).trans (hb2.mono (by simp))
      have hs2 := hb3.size
      have HR2 := Lib.hid (HR.out.later hb3 hgr)
      obtain ⟨u0, e0, z0⟩ := HR2.out.cell k hlt
      go_wp2_with fail
      refine ⟨⟨k + 1, hlt, by go_num, ?_, by rw [size_set]; omega, (hbel.trans (hb3.mono hbel.size)).setCell (p := ⟨w.heap.size, k, none⟩) (Nat.le_refl _) _⟩, by simp [intOf]; omega⟩
      have h := HR2.out.step (k := k) (by simp; omega) (by simp; omega) (.string l[k].s)
      rw [List.take_succ_eq_append_getElem hlt, List.map_append]
      exact h
    · go_wp2_with fail
      go_ret
      have h := HR.out
      rw [List.take_of_length_le (by omega)] at h
      exact ⟨⟨w.heap.size, rfl, h, Nat.le_refl _⟩, hbel⟩

/-- A row's texts. -/
def strs (r : V) : List Value := r.l.map fun c => .string c.s

set_option maxHeartbeats 800000 in
theorem cells_any (v : V) (sl : Value) (w : World) (B : Nat) (hR : Rep w B sl v.l) (hB : B ≤ w.heap.size) (hn : v.l.length ≤ 1000) :
    Calls Tryd.prog 97 #[.agg #[.int .i64 v.t, .int .i64 v.n, .string v.s, sl]] w fun e w' =>
      (∃ g, e = .returned (.slice (some ⟨g, 0, none⟩) v.l.length v.l.length) ∧ Row1 w' g v.l.length (strs v) ∧ w.heap.size ≤ g) ∧ Below w.heap.size w w' := by
  obtain ⟨oa, cap, rfl, _, _, hel⟩ := hR.slice
  clear hel
  go_enter Tryd.func97, Tryd.ntmps97
  go_wp2_with fail
  have hb0 := below1 w (.cells #[.int .i64 v.t, .int .i64 v.n, .string v.s, .slice oa v.l.length cap] 24)
  refine (mapStrs_any v.l _ _ B (hR.later (hb0.mono hB)) (by simp; omega) hn).mono ?_
  rintro e w1 ⟨⟨g, rfl, h1, h2⟩, hb1⟩
  have hsz : (w.alloc (.cells #[.int .i64 v.t, .int .i64 v.n, .string v.s, .slice oa v.l.length cap] 24)).heap.size = w.heap.size + 1 := by simp
  rw [hsz] at h2 hb1
  have H1 := Lib.hid h1; clear h1
  go_wp2_with fail
  go_ret
  exact ⟨⟨g, rfl, H1.out, by omega⟩, hb0.trans (hb1.mono (by omega))⟩

set_option maxRecDepth 100000 in
set_option maxHeartbeats 1600000 in
theorem mapCells_any (l : List V) (x : Value) (w : World) (B : Nat) (hl : Rep w B x l) (hB : B ≤ w.heap.size) (hn : l.length ≤ 1000) (hn2 : ∀ r, r ∈ l → r.l.length ≤ 1000) :
    Calls Tryd.prog 96 #[x, .func (.func 97) #[] #[]] w fun e w' =>
      (∃ g xs, e = .returned (.slice (some ⟨g, 0, none⟩) l.length l.length) ∧ Row1 w' g l.length xs ∧ xs.length = l.length ∧
        (∀ (i : Nat) (r : V), l[i]? = some r → ∃ q, xs[i]? = some (Value.slice (some ⟨q, 0, none⟩) r.l.length r.l.length) ∧ Row1 w' q r.l.length (strs r))) ∧ Below w.heap.size w w' := by
  obtain ⟨oa, cap, rfl, hlc, hm, hel⟩ := hl.slice
  obtain ⟨i, hi, hz0, hz1, hz2⟩ := info_parts infoStrings
  have HN2 := Lib.hid hn2; clear hn2
  go_enter Tryd.func96, Tryd.ntmps96
  go_wp2_with (at_make; refine wpList_make_full _ rfl _ _ 41 rfl w.heap.size 40 i _ 1 Tryd.underlying41 hi hz0 hz1 _ _ _ _ l.length rfl rfl rfl rfl ?b2 ?b3 (Nat.le_refl _) ?_)
  case b2 => rw [hz2]; omega
  case b3 => unfold maxLen; omega
  intro w1 hown hgrow
  go_wp2_with fail
  have hrow : Row1 w1 w.heap.size l.length [] := Row1.made hown
  have hbw1 : Below w.heap.size w w1 := (Below.refl _ _).grown hgrow (Nat.le_refl _) (fun k h => by cases h)
  have hg1 : w.heap.size < w1.heap.size := hrow.lt
  clear hown hgrow
  go_loopw [13] (fun v wr => ∃ (k : Nat) (xs : List Value), k ≤ l.length ∧ v = .int .i64 k ∧ Hid (Row1 wr w.heap.size l.length xs ∧ xs.length = k ∧
      ∀ (i : Nat) (r : V), (l.take k)[i]? = some r → ∃ q, xs[i]? = some (Value.slice (some ⟨q, 0, none⟩) r.l.length r.l.length) ∧ w.heap.size < q ∧ Row1 wr q r.l.length (strs r)) ∧ w.heap.size < wr.heap.size ∧ Below w.heap.size w wr) (fun v _ => l.length - (intOf v).toNat)
  case atStart => exact ⟨0, [], Nat.zero_le _, rfl, ⟨hrow, rfl, fun i r h => by simp at h⟩, hg1, hbw1⟩
  case round =>
    obtain ⟨k, xs, hk, rfl, HR, hgr, hbel⟩ := hrel
    by_cases hlt : k < l.length
    · obtain ⟨b, off, oe, ce, rfl, hb, h0, h1, h2, h3, hr⟩ := hel k _ (List.getElem?_eq_getElem hlt)
      rw [← hbel.cell (p := ⟨b, _, none⟩) (Nat.lt_of_lt_of_le hb hB)] at h0 h1 h2 h3
      go_wp2_with fail
      have hsw := hbel.size
      refine (cells_any l[k] _ _ B (hr.later ((hbel.mono hB).alloc (by omega) _)) (by simp; omega) (HN2.out _ (List.getElem_mem hlt))).mono ?_
      rintro e w2 ⟨⟨q, rfl, hq1, hq2⟩, hb2⟩
      have hb3 : Below wr.heap.size wr w2 := (below1 wr _).trans (hb2.mono (by simp))
      have hs2 := hb3.size
      obtain ⟨hr1, hr2, hr3⟩ := HR.out
      have HR2 := Lib.hid (hr1.later hb3 hgr)
      have HL := Lib.hid hr2
      have HR3 := Lib.hid hr3
      have hq3 : w.heap.size < q := by simp at hq2; omega
      have HQ := Lib.hid hq1
      clear hr1 hr2 hr3 hq1 hq2
      obtain ⟨u0, e0, z0⟩ := HR2.out.cell k hlt
      go_wp2_with fail
      refine ⟨⟨k + 1, xs ++ [.slice (some ⟨q, 0, none⟩) l[k].l.length l[k].l.length], hlt, by go_num, ⟨?_, ?_, ?_⟩, by rw [size_set]; omega, (hbel.trans (hb3.mono hbel.size)).setCell (p := ⟨w.heap.size, k, none⟩) (Nat.le_refl _) _⟩, by simp [intOf]; omega⟩
      · exact HR2.out.step (k := k) (by have := HL.out; omega) (by have := HL.out; omega) _
      · have := HL.out; simp; omega
      · intro j r hj
        rw [List.take_succ_eq_append_getElem hlt] at hj
        by_cases hjk : j < k
        · rw [List.getElem?_append_left (by simp; omega)] at hj
          obtain ⟨q', h1, h2, h3⟩ := HR3.out j r hj
          refine ⟨q', ?_, h2, (h3.later hb3 h3.lt).other _ _ (by show q' ≠ w.heap.size; omega)⟩
          rw [List.getElem?_append_left (by have := HL.out; omega)]
          exact h1
        · have hjk2 : j = k := by
            have := (List.getElem?_eq_some_iff.1 hj).1
            simp at this
            omega
          subst hjk2
          rw [List.getElem?_append_right (by simp; omega)] at hj
          simp at hj
          have hl0 : (l.take j).length = j := by simp; omega
          have e : j - min j l.length = 0 := by omega
          rw [e] at hj
          simp at hj
          subst hj
          refine ⟨q, ?_, hq3, HQ.out.other _ _ (by show q ≠ w.heap.size; omega)⟩
          rw [List.getElem?_append_right (by have := HL.out; omega)]
          have := HL.out
          rw [this]
          simp
    · go_wp2_with fail
      go_ret
      obtain ⟨hr1, hr2, hr3⟩ := HR.out
      rw [List.take_of_length_le (by omega)] at hr3
      exact ⟨⟨w.heap.size, xs, rfl, hr1, by omega, fun j r hj => by
        obtain ⟨q, h1, _, h3⟩ := hr3 j r hj
        exact ⟨q, h1, h3⟩⟩, hbel⟩

end Go.Proofs.YtohecojckghedaaDoor
