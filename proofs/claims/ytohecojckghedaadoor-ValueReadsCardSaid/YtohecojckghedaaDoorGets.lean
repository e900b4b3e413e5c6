/-
  The walks of Ints, Texts and Rows of the program.
-/
import Derived.Test.YtohecojckghedaaDoorReads
import Derived.Test.YtohecojckghedaaDoorShapes
namespace Go.Proofs.YtohecojckghedaaDoor
open Go.RowKit

/-- What Row1 holds, as a list of numbers, of texts, of rows. -/
theorem Row1.ints {w : World} {g n B : Nat} {zs : List Int} (h : Row1 w g n (zs.map fun z => .int .i64 z)) (hn : zs.length = n) (hg : g < B) (hm : n ≤ 9223372036854775807) : LInts w B (.slice (some ⟨g, 0, none⟩) n n) zs := by
  subst hn
  refine ⟨_, _, rfl, hm, fun i a ha => ⟨g, 0, _, rfl, hg, h.at (0 + i) (.int .i64 a) ?_, rfl⟩⟩
  rw [Nat.zero_add, List.getElem?_map, ha]; rfl
theorem Row1.strs {w : World} {g n B : Nat} {zs : List ByteArray} (h : Row1 w g n (zs.map fun z => .string z)) (hn : zs.length = n) (hg : g < B) (hm : n ≤ 9223372036854775807) : LStrs w B (.slice (some ⟨g, 0, none⟩) n n) zs := by
  subst hn
  refine ⟨_, _, rfl, hm, fun i a ha => ⟨g, 0, _, rfl, hg, h.at (0 + i) (.string a) ?_, rfl⟩⟩
  rw [Nat.zero_add, List.getElem?_map, ha]; rfl
theorem Row1.rows {w : World} {g B : Nat} {xs : List Value} {l : List V} (h : Row1 w g l.length xs) (hg : g < B) (hm : l.length ≤ 9223372036854775807) (hm2 : ∀ r, r ∈ l → r.l.length ≤ 9223372036854775807) (_ : xs.length = l.length) (hB : w.heap.size ≤ B)
    (hr : ∀ (i : Nat) (r : V), l[i]? = some r → ∃ q, xs[i]? = some (Value.slice (some ⟨q, 0, none⟩) r.l.length r.l.length) ∧ Row1 w q r.l.length (_root_.Go.Proofs.YtohecojckghedaaDoor.strs r)) :
    LRows w B (.slice (some ⟨g, 0, none⟩) l.length l.length) (l.map fun r => r.l.map V.s) := by
  refine ⟨some ⟨g, 0, none⟩, l.length, by rw [List.length_map], by rw [List.length_map]; exact hm, fun i a ha => ?_⟩
  rw [List.getElem?_map, Option.map_eq_some_iff] at ha
  obtain ⟨r, hri, rfl⟩ := ha
  obtain ⟨q, h1, h2⟩ := hr i r hri
  refine ⟨g, 0, _, rfl, hg, h.at (0 + i) _ (by rw [Nat.zero_add]; exact h1), ?_⟩
  refine Row1.strs (zs := r.l.map V.s) ?_ (by rw [List.length_map]) (Nat.lt_of_lt_of_le h2.lt hB) (hm2 r (List.mem_of_getElem? hri))
  rw [List.map_map]
  exact h2

/-- The two results of Ints, Texts or Rows. -/
def Good2 (n : Nat) (L : World → Nat → Value → Prop) (e : Ending) (w' : World) : Prop :=
  ∃ oa cap, e = .returned (.tuple #[.slice oa n cap, .bool true]) ∧ L w' w'.heap.size (.slice oa n cap)
def Bad2 (e : Ending) : Prop := e = .returned (.tuple #[.slice none 0 0, .bool false])

set_option maxHeartbeats 800000 in
theorem ints_bad (v : V) (sl : Value) (w : World) (B : Nat) (hR : Rep w B sl v.l) (hB : B ≤ w.heap.size) (h : v.t ≠ 5 ∨ v.chk ≠ 0) :
    Calls Tryd.prog 50 #[.agg #[.int .i64 v.t, .int .i64 v.n, .string v.s, sl]] w fun e w' => Bad2 e ∧ Below w.heap.size w w' := by
  obtain ⟨oa, cap, rfl, _, _, hel⟩ := hR.slice
  clear hel
  by_cases h5 : v.t = 5
  · have hc : v.chk ≠ 0 := by rcases h with h | h; exact absurd h5 h; exact h
    have f5 := neq_f h5
    have fc := neq_t hc
    clear h h5 hc
    go_enter Tryd.func50, Tryd.ntmps50
    go_wp2_with fail
    refine (check_any v _ _ B (hR.later ((below1 _ _).mono hB)) (by simp; omega)).mono ?_
    rintro e w1 ⟨rfl, hb1⟩
    go_wp2_with fail
    exact bodyPost_ret (v := .tuple #[.slice none 0 0, .bool false]) (by simp [results, Tryd.results50, go_sem]) rfl ⟨rfl, (below1 _ _).trans (hb1.mono (by simp))⟩
  · have f5 := neq_t h5
    clear h h5
    go_enter Tryd.func50, Tryd.ntmps50
    go_wp2_with fail
    exact bodyPost_ret (v := .tuple #[.slice none 0 0, .bool false]) (by simp [results, Tryd.results50, go_sem]) rfl ⟨rfl, below1 _ _⟩

set_option maxHeartbeats 800000 in
theorem ints_good (v : V) (sl : Value) (w : World) (B : Nat) (hR : Rep w B sl v.l) (hB : B ≤ w.heap.size) (h5 : v.t = 5) (hc : v.chk = 0) :
    Calls Tryd.prog 50 #[.agg #[.int .i64 v.t, .int .i64 v.n, .string v.s, sl]] w fun e w' => Good2 v.l.length (fun w B x => LInts w B x (v.l.map V.n)) e w' ∧ Below w.heap.size w w' := by
  obtain ⟨oa, cap, rfl, _, _, hel⟩ := hR.slice
  clear hel
  have hlen := Lib.hid (ints_is h5 hc).1
  have f5 := neq_f h5
  have fc := neq_f hc
  clear h5 hc
  go_enter Tryd.func50, Tryd.ntmps50
  go_wp2_with fail
  refine (check_any v _ _ B (hR.later ((below1 _ _).mono hB)) (by simp; omega)).mono ?_
  rintro e w1 ⟨rfl, hb1⟩
  have hb2 := (Below.refl (w.heap.size + 1) (w.alloc (.cells #[.int .i64 v.t, .int .i64 v.n, .string v.s, .slice oa v.l.length cap] 24))).trans (hb1.mono (by simp))
  have hb3 : Below w.heap.size w w1 := (below1 _ _).trans (hb2.mono (by omega))
  obtain ⟨c0, c1, c2, c3⟩ := box_later hb2
  clear hb2
  have hs := hb3.size
  go_wp2_with fail
  refine (mapNums_any v.l _ _ B (hR.later (hb3.mono hB)) (by omega) (by have := hlen.out; omega)).mono ?_
  rintro e w2 ⟨⟨g, rfl, h1, h2⟩, hb4⟩
  have HL : Hid (LInts w2 w2.heap.size (.slice (some ⟨g, 0, none⟩) v.l.length v.l.length) (v.l.map V.n)) :=
    Row1.ints (by rw [List.map_map]; exact h1) (by rw [List.length_map]) h1.lt (by have := hlen.out; omega)
  clear h1 h2
  go_wp2_with fail
  exact bodyPost_ret (v := .tuple #[.slice (some ⟨g, 0, none⟩) v.l.length v.l.length, .bool true]) (by simp [results, Tryd.results50, go_sem]) rfl ⟨⟨_, _, rfl, HL.out⟩, hb3.trans (hb4.mono hs)⟩

set_option maxHeartbeats 800000 in
theorem texts_bad (v : V) (sl : Value) (w : World) (B : Nat) (hR : Rep w B sl v.l) (hB : B ≤ w.heap.size) (h : v.t ≠ 6 ∨ v.chk ≠ 0) :
    Calls Tryd.prog 52 #[.agg #[.int .i64 v.t, .int .i64 v.n, .string v.s, sl]] w fun e w' => Bad2 e ∧ Below w.heap.size w w' := by
  obtain ⟨oa, cap, rfl, _, _, hel⟩ := hR.slice
  clear hel
  by_cases h6 : v.t = 6
  · have hc : v.chk ≠ 0 := by rcases h with h | h; exact absurd h6 h; exact h
    have f6 := neq_f h6
    have fc := neq_t hc
    clear h h6 hc
    go_enter Tryd.func52, Tryd.ntmps52
    go_wp2_with fail
    refine (check_any v _ _ B (hR.later ((below1 _ _).mono hB)) (by simp; omega)).mono ?_
    rintro e w1 ⟨rfl, hb1⟩
    go_wp2_with fail
    exact bodyPost_ret (v := .tuple #[.slice none 0 0, .bool false]) (by simp [results, Tryd.results52, go_sem]) rfl ⟨rfl, (below1 _ _).trans (hb1.mono (by simp))⟩
  · have f6 := neq_t h6
    clear h h6
    go_enter Tryd.func52, Tryd.ntmps52
    go_wp2_with fail
    exact bodyPost_ret (v := .tuple #[.slice none 0 0, .bool false]) (by simp [results, Tryd.results52, go_sem]) rfl ⟨rfl, below1 _ _⟩

set_option maxHeartbeats 800000 in
theorem texts_good (v : V) (sl : Value) (w : World) (B : Nat) (hR : Rep w B sl v.l) (hB : B ≤ w.heap.size) (h6 : v.t = 6) (hc : v.chk = 0) :
    Calls Tryd.prog 52 #[.agg #[.int .i64 v.t, .int .i64 v.n, .string v.s, sl]] w fun e w' => Good2 v.l.length (fun w B x => LStrs w B x (v.l.map V.s)) e w' ∧ Below w.heap.size w w' := by
  obtain ⟨oa, cap, rfl, _, _, hel⟩ := hR.slice
  clear hel
  have hlen := Lib.hid (texts_is h6 hc).1
  have f6 := neq_f h6
  have fc := neq_f hc
  clear h6 hc
  go_enter Tryd.func52, Tryd.ntmps52
  go_wp2_with fail
  refine (check_any v _ _ B (hR.later ((below1 _ _).mono hB)) (by simp; omega)).mono ?_
  rintro e w1 ⟨rfl, hb1⟩
  have hb2 := (Below.refl (w.heap.size + 1) (w.alloc (.cells #[.int .i64 v.t, .int .i64 v.n, .string v.s, .slice oa v.l.length cap] 24))).trans (hb1.mono (by simp))
  have hb3 : Below w.heap.size w w1 := (below1 _ _).trans (hb2.mono (by omega))
  obtain ⟨c0, c1, c2, c3⟩ := box_later hb2
  clear hb2
  have hs := hb3.size
  go_wp2_with fail
  refine (mapStrs_any v.l _ _ B (hR.later (hb3.mono hB)) (by omega) (by have := hlen.out; omega)).mono ?_
  rintro e w2 ⟨⟨g, rfl, h1, h2⟩, hb4⟩
  have HL : Hid (LStrs w2 w2.heap.size (.slice (some ⟨g, 0, none⟩) v.l.length v.l.length) (v.l.map V.s)) :=
    Row1.strs (by rw [List.map_map]; exact h1) (by rw [List.length_map]) h1.lt (by have := hlen.out; omega)
  clear h1 h2
  go_wp2_with fail
  exact bodyPost_ret (v := .tuple #[.slice (some ⟨g, 0, none⟩) v.l.length v.l.length, .bool true]) (by simp [results, Tryd.results52, go_sem]) rfl ⟨⟨_, _, rfl, HL.out⟩, hb3.trans (hb4.mono hs)⟩

set_option maxHeartbeats 800000 in
theorem rows_bad (v : V) (sl : Value) (w : World) (B : Nat) (hR : Rep w B sl v.l) (hB : B ≤ w.heap.size) (h : v.t ≠ 7 ∨ v.chk ≠ 0) :
    Calls Tryd.prog 54 #[.agg #[.int .i64 v.t, .int .i64 v.n, .string v.s, sl]] w fun e w' => Bad2 e ∧ Below w.heap.size w w' := by
  obtain ⟨oa, cap, rfl, _, _, hel⟩ := hR.slice
  clear hel
  by_cases h7 : v.t = 7
  · have hc : v.chk ≠ 0 := by rcases h with h | h; exact absurd h7 h; exact h
    have f7 := neq_f h7
    have fc := neq_t hc
    clear h h7 hc
    go_enter Tryd.func54, Tryd.ntmps54
    go_wp2_with fail
    refine (check_any v _ _ B (hR.later ((below1 _ _).mono hB)) (by simp; omega)).mono ?_
    rintro e w1 ⟨rfl, hb1⟩
    go_wp2_with fail
    exact bodyPost_ret (v := .tuple #[.slice none 0 0, .bool false]) (by simp [results, Tryd.results54, go_sem]) rfl ⟨rfl, (below1 _ _).trans (hb1.mono (by simp))⟩
  · have f7 := neq_t h7
    clear h h7
    go_enter Tryd.func54, Tryd.ntmps54
    go_wp2_with fail
    exact bodyPost_ret (v := .tuple #[.slice none 0 0, .bool false]) (by simp [results, Tryd.results54, go_sem]) rfl ⟨rfl, below1 _ _⟩

set_option maxHeartbeats 800000 in
theorem rows_good (v : V) (sl : Value) (w : World) (B : Nat) (hR : Rep w B sl v.l) (hB : B ≤ w.heap.size) (h7 : v.t = 7) (hc : v.chk = 0) :
    Calls Tryd.prog 54 #[.agg #[.int .i64 v.t, .int .i64 v.n, .string v.s, sl]] w fun e w' => Good2 v.l.length (fun w B x => LRows w B x (v.l.map fun r => r.l.map V.s)) e w' ∧ Below w.heap.size w w' := by
  obtain ⟨oa, cap, rfl, _, _, hel⟩ := hR.slice
  clear hel
  have hlen := Lib.hid (table_is h7 hc).1
  have hrow := Lib.hid (table_is h7 hc).2.1
  have f7 := neq_f h7
  have fc := neq_f hc
  clear h7 hc
  go_enter Tryd.func54, Tryd.ntmps54
  go_wp2_with fail
  refine (check_any v _ _ B (hR.later ((below1 _ _).mono hB)) (by simp; omega)).mono ?_
  rintro e w1 ⟨rfl, hb1⟩
  have hb2 := (Below.refl (w.heap.size + 1) (w.alloc (.cells #[.int .i64 v.t, .int .i64 v.n, .string v.s, .slice oa v.l.length cap] 24))).trans (hb1.mono (by simp))
  have hb3 : Below w.heap.size w w1 := (below1 _ _).trans (hb2.mono (by omega))
  obtain ⟨c0, c1, c2, c3⟩ := box_later hb2
  clear hb2
  have hs := hb3.size
  go_wp2_with fail
  refine (mapCells_any v.l _ _ B (hR.later (hb3.mono hB)) (by omega) (by have := hlen.out; omega) (fun r hr => by have := (hrow.out r hr).1; omega)).mono ?_
  rintro e w2 ⟨⟨g, xs, rfl, h1, h2, h3⟩, hb4⟩
  have HL : Hid (LRows w2 w2.heap.size (.slice (some ⟨g, 0, none⟩) v.l.length v.l.length) (v.l.map fun r => r.l.map V.s)) :=
    Row1.rows h1 h1.lt (by have := hlen.out; omega) (fun r hr => by have := (hrow.out r hr).1; omega) h2 (Nat.le_refl _) h3
  clear h1 h2 h3
  go_wp2_with fail
  exact bodyPost_ret (v := .tuple #[.slice (some ⟨g, 0, none⟩) v.l.length v.l.length, .bool true]) (by simp [results, Tryd.results54, go_sem]) rfl ⟨⟨_, _, rfl, HL.out⟩, hb3.trans (hb4.mono hs)⟩

end Go.Proofs.YtohecojckghedaaDoor
