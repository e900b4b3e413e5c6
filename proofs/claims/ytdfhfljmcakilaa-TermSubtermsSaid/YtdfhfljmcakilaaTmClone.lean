/-
  clone of the program. Nothing is assumed.
-/
import Derived.Test.YtdfhfljmcakilaaTmFR
import Derived.Laws.IdiomCopy
namespace Go.Proofs.Ytdfhfljmcakilaa
open Go.RowKit

theorem infoTerm : (Try.prog.info? 24).map (fun i => (i.zero, i.size, i.bytes)) = some (some (.agg #[.int .i64 0, .slice none 0 0]), 2, 32) := by kernel_rfl

/-- A function has returned a term that it has built. -/
def RetN (w w' : World) (v : T) (e : Ending) : Prop := ∃ sl, e = .returned (.agg #[.int .i64 v.r, sl]) ∧ FR w' (fun k => w.heap.size ≤ k ∧ k < w'.heap.size) sl v.l

/-- A row of n terms that is filled from its head on. -/
def Fil (w : World) (g n : Nat) (xs : List (Int × Value)) : Prop := ∃ cur : Array Value, w.heap[g]? = some (.cells cur 24 (0, 0)) ∧ cur.size = n * 2 ∧ xs.length ≤ n ∧
  ∀ i x, xs[i]? = some x → cur[i * 2]? = some (.int .i64 x.1) ∧ cur[i * 2 + 1]? = some x.2
theorem Fil.keep {w w' : World} {g n : Nat} {xs : List (Int × Value)} (h : Fil w g n xs) (hb : w'.heap[g]? = w.heap[g]?) : Fil w' g n xs := by
  obtain ⟨cur, h1, h2⟩ := h
  exact ⟨cur, hb.trans h1, h2⟩
theorem Fil.lt {w : World} {g n : Nat} {xs : List (Int × Value)} (h : Fil w g n xs) : g < w.heap.size := by
  obtain ⟨cur, h1, _⟩ := h
  exact (Array.getElem?_eq_some_iff.1 h1).1
theorem Fil.cell {w : World} {g n : Nat} {xs : List (Int × Value)} (h : Fil w g n xs) {i : Nat} {x : Int × Value} (hx : xs[i]? = some x) : w.cell? ⟨g, i * 2, none⟩ = some (.int .i64 x.1) ∧ w.cell? ⟨g, i * 2 + 1, none⟩ = some x.2 := by
  obtain ⟨cur, h1, h2, h3, h4⟩ := h
  obtain ⟨c0, c1⟩ := h4 i x hx
  constructor <;> unfold World.cell? <;> rw [h1] <;> simpa
theorem Fil.there {w : World} {g n : Nat} {xs : List (Int × Value)} (h : Fil w g n xs) {o : Nat} (ho : o < n * 2) : (∃ v, w.cell? ⟨g, o, none⟩ = some v) := by
  obtain ⟨cur, h1, h2, h3, h4⟩ := h
  refine ⟨cur[o]'(by omega), ?_⟩
  unfold World.cell?
  rw [h1]
  simp [show o < cur.size by omega]
theorem Fil.frozen {w : World} {g n : Nat} {xs : List (Int × Value)} (h : Fil w g n xs) (o : Nat) : w.frozen? ⟨g, o, none⟩ = false := by
  obtain ⟨cur, h1, h2, h3, h4⟩ := h
  unfold World.frozen?
  rw [h1]
  simp

theorem Fil.store {w : World} {g n k : Nat} {xs : List (Int × Value)} (h : Fil w g n xs) (hk : xs.length = k) (hn : k < n) (r : Int) (s : Value) :
    Fil ((w.setCell ⟨g, k * 2, none⟩ (.int .i64 r)).setCell ⟨g, k * 2 + 1, none⟩ s) g n (xs ++ [(r, s)]) := by
  obtain ⟨cur, h1, h2, h3, h4⟩ := h
  refine ⟨_, heap_setCell_same _ _ _ _ _ _ (heap_setCell_same _ _ _ _ _ _ h1), by simp [h2], by simp; omega, fun i x hx => ?_⟩
  by_cases e : i < xs.length
  · rw [List.getElem?_append_left e] at hx
    obtain ⟨c0, c1⟩ := h4 i x hx
    rw [Array.getElem?_setIfInBounds_ne (by omega), Array.getElem?_setIfInBounds_ne (by omega), Array.getElem?_setIfInBounds_ne (by omega), Array.getElem?_setIfInBounds_ne (by omega)]
    exact ⟨c0, c1⟩
  · have hi : i = k := by
      have := (List.getElem?_eq_some_iff.1 hx).1
      simp at this
      omega
    subst hi
    rw [List.getElem?_append_right (by omega)] at hx
    simp [hk] at hx
    subst hx
    rw [Array.getElem?_setIfInBounds_ne (by omega), Array.getElem?_setIfInBounds_self_of_lt (by omega), Array.getElem?_setIfInBounds_self_of_lt (by simp; omega)]
    exact ⟨rfl, rfl⟩

/-- Two stores into one block leave the others. -/
theorem set2_other (w : World) (g a b : Nat) (x y : Value) (k : Nat) (hk : k ≠ g) : ((w.setCell ⟨g, a, none⟩ x).setCell ⟨g, b, none⟩ y).heap[k]? = w.heap[k]? :=
  (heap_setCell_other _ _ _ _ hk).trans (heap_setCell_other _ _ _ _ hk)
theorem set2_size (w : World) (g a b : Nat) (x y : Value) : ((w.setCell ⟨g, a, none⟩ x).setCell ⟨g, b, none⟩ y).heap.size = w.heap.size := by simp

set_option maxRecDepth 100000 in
set_option maxHeartbeats 1600000 in
theorem clone_any (v : T) : ∀ (sl : Value) (w : World) (B : Nat), Rep w B sl v.l → B ≤ w.heap.size → v.size ≤ 1000 →
    Calls Try.prog 39 #[.agg #[.int .i64 v.r, sl]] w fun e w' => RetN w w' v e ∧ Below w.heap.size w w' := by
  induction v using T.ind with
  | h v ih =>
  intro sl w B hrep hB hsz
  obtain ⟨oa, cap, rfl, hlc, hm, hel⟩ := hrep.slice
  by_cases hl : v.l.length = 0
  · have hnil := List.eq_nil_of_length_eq_zero hl
    have HN := Lib.hid hnil
    have hb : ((v.l.length : Int) == 0) = true := by rw [hl]; rfl
    clear hel hl hnil
    go_enter Try.func39, Try.ntmps39
    go_wp2_with fail
    refine bodyPost_ret (v := .agg #[.int .i64 v.r, .slice none 0 0]) (by simp [results, Try.results39, go_sem, *]) rfl ?_
    exact ⟨⟨_, rfl, by rw [HN.out]; exact .empty _ _ _⟩, below2 _ _ _⟩
  · obtain ⟨i0, hi, hz0, hz1, hz2⟩ := info_parts infoTerm
    have hlz : v.l.length ≤ 1000 := by have := T.len_sizes v.l; have := v.size_eq; omega
    have hb : ((v.l.length : Int) == 0) = false := by rw [beq_eq_false_iff_ne]; omega
    have HL := Lib.hid hl
    clear hl
    go_enter Try.func39, Try.ntmps39
    go_wp2_with (at_make; refine wpList_make_full _ rfl _ _ 22 rfl (w.heap.size + 2) 24 i0 _ 2 Try.underlying22 hi hz0 hz1 _ _ _ _ v.l.length rfl rfl rfl rfl ?b2 ?b3 (by simp) ?_)
    case b2 => rw [hz2]; omega
    case b3 => unfold maxLen; omega
    intro w1 hown hgrow
    have hs0 : w.heap.size + 2 ≤ ((w.alloc (.cells #[.int .i64 v.r, .slice oa v.l.length cap] 24)).alloc (.cells #[.int .i64 0, .slice none 0 0] 24)).heap.size := by simp
    have hb1 : Below (w.heap.size + 2) ((w.alloc (.cells #[.int .i64 v.r, .slice oa v.l.length cap] 24)).alloc (.cells #[.int .i64 0, .slice none 0 0] 24)) w1 := (Below.refl _ _).grown hgrow hs0 (fun k h => by cases h)
    have HB0 : Below w.heap.size w ((w.alloc (.cells #[.int .i64 v.r, .slice oa v.l.length cap] 24)).alloc (.cells #[.int .i64 0, .slice none 0 0] 24)) := below2 _ _ _
    have HBT : Box ((w.alloc (.cells #[.int .i64 v.r, .slice oa v.l.length cap] 24)).alloc (.cells #[.int .i64 0, .slice none 0 0] 24)) w.heap.size v (.slice oa v.l.length cap) := (Box.new v _ _ rfl).later (below1 _ _) (by simp)
    have HBR : Box ((w.alloc (.cells #[.int .i64 v.r, .slice oa v.l.length cap] 24)).alloc (.cells #[.int .i64 0, .slice none 0 0] 24)) (w.heap.size + 1) (.mk 0 []) (.slice none 0 0) := Box.new (.mk 0 []) _ _ (by simp)
    have hfr : ∀ o : Nat, ((w.alloc (.cells #[.int .i64 v.r, .slice oa v.l.length cap] 24)).alloc (.cells #[.int .i64 0, .slice none 0 0] 24)).frozen? ⟨w.heap.size + 1, o, none⟩ = false := by
      intro o
      unfold World.frozen?
      rw [show ((w.alloc (.cells #[.int .i64 v.r, .slice oa v.l.length cap] 24)).alloc (.cells #[.int .i64 0, .slice none 0 0] 24)).heap[w.heap.size + 1]? = some (.cells #[.int .i64 0, .slice none 0 0] 24 (0, 0)) by
        have h := heap_alloc_new (w.alloc (.cells #[.int .i64 v.r, .slice oa v.l.length cap] 24)) (.cells #[.int .i64 0, .slice none 0 0] 24)
        rw [World.size_alloc] at h
        exact h]
      simp
    have hF1 : Fil w1 (w.heap.size + 2) v.l.length [] := by
      rcases hown.2 with ⟨h0, _⟩ | ⟨g', c', cur, hv, _, hh, _, _, hsz', _⟩
      · cases h0
      · have hg : g' = w.heap.size + 2 := by
          simp at hv
          omega
        have hcc : c' = v.l.length := by
          simp at hv
          omega
        subst hg hcc
        exact ⟨cur, hh, hsz', by simp, fun i x h => by simp at h⟩
    obtain ⟨W, hW⟩ : ∃ W, W = (w.alloc (.cells #[.int .i64 v.r, .slice oa v.l.length cap] 24)).alloc (.cells #[.int .i64 0, .slice none 0 0] 24) := ⟨_, rfl⟩
    rw [← hW] at hs0 hb1 HB0 HBT HBR hfr
    have hsW : W.heap.size = w.heap.size + 2 := by rw [hW]; simp
    clear hown hgrow
    obtain ⟨t0, t1⟩ := HBT.later hb1 (by omega)
    have hw1s := hb1.size
    go_wp2_with fail
    go_loopw [20] (fun i wr => ∃ (k : Nat) (xs : List (Int × Value)) (Q : Nat → Nat → Prop), k ≤ v.l.length ∧ i = .int .i64 k ∧ Hid (Fil wr (w.heap.size + 2) v.l.length xs) ∧ Hid (xs.length = k) ∧
        Hid (∀ j u, j < k → v.l[j]? = some u → ∃ sl, xs[j]? = some (u.r, sl) ∧ FR wr (Q j) sl u.l) ∧ Hid (∀ j, j < k → ∀ b, Q j b → w.heap.size + 2 < b ∧ b < wr.heap.size) ∧
        Hid (∀ i j, i < k → j < k → i ≠ j → ∀ b, Q i b → ¬ Q j b) ∧ Below (w.heap.size + 2) W wr) (fun i _ => v.l.length - (intOf i).toNat)
    case atStart => exact ⟨0, [], fun _ _ => False, Nat.zero_le _, rfl, hF1, rfl, Lib.hid (fun j u h => by omega), Lib.hid (fun j h => by omega), Lib.hid (fun i j h => by omega), hb1⟩
    case round =>
      obtain ⟨k, xs, Q, hk, rfl, HF, HX, HS, HQ, HD, hbr⟩ := hrel
      have hrs := hbr.size
      have hgl := HF.out.lt
      have HBW := Lib.hid (HB0.trans (hbr.mono (by omega)))
      clear t0 t1
      obtain ⟨t0, t1⟩ := HBT.later hbr (by omega)
      by_cases hlt : k < v.l.length
      · obtain ⟨b, off, oe, ce, rfl, hb, c0, c1, hr⟩ := hel k _ (List.getElem?_eq_getElem hlt)
        rw [← HBW.out.cell (p := ⟨b, _, none⟩) (Nat.lt_of_lt_of_le hb hB)] at c0 c1
        have hle := T.mem_sizes (List.getElem_mem hlt)
        have hle2 : v.l[k].size ≤ 1000 := by have := v.size_eq; omega
        have q0 : (0 : Int) ≤ (k : Int) := by omega
        have q1 : (k : Int) < (v.l.length : Int) := by omega
        clear hel hle
        go_wp2_with fail
        refine (ih _ (List.getElem_mem hlt) _ _ B ((hr.later (HBW.out.mono hB)).later ((below1 wr _).mono (by omega))) (by simp; omega) hle2 |>.mono ?_)
        rintro e w3 ⟨⟨sl3, rfl, hf3⟩, hb3⟩
        have hb3' : Below wr.heap.size wr w3 := (below1 wr _).trans (hb3.mono (by simp))
        rw [World.size_alloc] at hf3
        have hFl := hf3.form
        obtain ⟨o3, cc3, rfl, _, _⟩ := hFl
        have HF3 := Lib.hid hf3
        have HG3 := Lib.hid (HF.out.keep (hb3'.block _ hgl))
        obtain ⟨x0, hx0⟩ := HG3.out.there (o := k * 2) (by omega)
        obtain ⟨x1, hx1⟩ := HG3.out.there (o := k * 2 + 1) (by omega)
        have z0 := HG3.out.frozen (k * 2)
        have z1 := HG3.out.frozen (k * 2 + 1)
        have HB3 := Lib.hid hb3'
        have hs3 := hb3'.size
        clear hb3 hb3' hf3 t0 t1 c0 c1
        go_wp2_with fail
        go_roundw
        case rel =>
          have e2 : w.heap.size + 1 + 1 = w.heap.size + 2 := rfl
          rw [e2]
          refine ⟨k + 1, xs ++ [(v.l[k].r, .slice o3 v.l[k].l.length cc3)], fun j b => if j = k then wr.heap.size + 1 ≤ b ∧ b < w3.heap.size else Q j b, hlt, by go_num, Lib.hid (HG3.out.store HX.out hlt _ _), Lib.hid (by simp [HX.out]), Lib.hid (fun j u hj hu => ?_), Lib.hid (fun j hj b hb => ?_), Lib.hid (fun i j hi hj hne b hb => ?_), ?_⟩
          · by_cases e : j = k
            · subst e
              rw [List.getElem?_eq_getElem hlt] at hu
              cases hu
              refine ⟨.slice o3 v.l[j].l.length cc3, by rw [List.getElem?_append_right (by rw [HX.out]; exact Nat.le_refl _)]; simp [HX.out], ?_⟩
              simp only [if_pos]
              exact HF3.out.keep (fun q hq => set2_other _ _ _ _ _ _ _ (by omega))
            · obtain ⟨sl, h1, h2⟩ := HS.out j u (by omega) hu
              refine ⟨sl, by rw [List.getElem?_append_left (by rw [HX.out]; omega)]; exact h1, ?_⟩
              simp only [if_neg e]
              refine (h2.keep (fun q hq => HB3.out.block q (HQ.out j (by omega) q hq).2)).keep (fun q hq => set2_other _ _ _ _ _ _ _ (by have := (HQ.out j (by omega) q hq).1; omega))
          · rw [set2_size]
            by_cases e : j = k
            · subst e
              simp only [if_pos] at hb
              omega
            · simp only [if_neg e] at hb
              have := HQ.out j (by omega) b hb
              omega
          · by_cases e : i = k
            · subst e
              have e' : j ≠ i := fun h => hne h.symm
              simp only [if_pos] at hb
              simp only [if_neg e']
              intro h
              have := (HQ.out j (by omega) b h).2
              omega
            · simp only [if_neg e] at hb
              by_cases e' : j = k
              · subst e'
                simp only [if_pos]
                intro h
                have := (HQ.out i (by omega) b hb).2
                omega
              · simp only [if_neg e']
                exact HD.out i j (by omega) (by omega) hne b hb
          · refine ((hbr.trans (HB3.out.mono (by omega))).setCell (p := ⟨w.heap.size + 2, _, none⟩) (Nat.le_refl _) _).setCell (p := ⟨w.heap.size + 2, _, none⟩) (Nat.le_refl _) _
        case measure => simp [intOf]; omega
      · obtain ⟨r0, r1⟩ := HBR.later hbr (by omega)
        have f0 : ∀ o : Nat, wr.frozen? ⟨w.heap.size + 1, o, none⟩ = false := fun o => (hbr.frozen (p := ⟨w.heap.size + 1, o, none⟩) (by simp)).trans (hfr o)
        have f00 := f0 0
        have f01 := f0 1
        clear hel f0
        go_wp2_with fail
        refine bodyPost_ret (v := .agg #[.int .i64 v.r, .slice (some ⟨w.heap.size + 2, 0, none⟩) v.l.length v.l.length]) (by simp [results, Try.results39, go_sem, *]) rfl ?_
        refine ⟨⟨_, rfl, ?_⟩, ?_⟩
        · have hFF := HF.out.keep (set2_other wr (w.heap.size + 1) 0 1 (.int .i64 v.r) (.slice (some ⟨w.heap.size + 2, 0, none⟩) v.l.length v.l.length) (w.heap.size + 2) (by omega))
          have hkk : k = v.l.length := by omega
          have hsl : ∀ i u, v.l[i]? = some u → ∃ sl, xs[i]? = some (u.r, sl) ∧ FR wr (Q i) sl u.l := fun i u hu => HS.out i u (by rw [hkk]; exact (List.getElem?_eq_some_iff.1 hu).1) hu
          refine .arr _ (w.heap.size + 2) 0 v.l.length v.l (fun i => match xs[i]? with | some x => x.2 | none => .nilIface) Q ⟨by omega, by rw [set2_size]; omega⟩ (Nat.le_refl _) hm (fun i u hu => ?_) (fun o => hFF.frozen o) (fun i u hu => ?_) (fun i hi q hq => ?_) (fun i j hi hj hne => HD.out i j (by omega) (by omega) hne)
          · obtain ⟨sl, h1, h2⟩ := hsl i u hu
            obtain ⟨c0, c1⟩ := hFF.cell h1
            simp only [Nat.zero_add, h1]
            exact ⟨c0, c1⟩
          · obtain ⟨sl, h1, h2⟩ := hsl i u hu
            simp only [h1]
            exact h2.keep (fun q hq => set2_other _ _ _ _ _ _ _ (by have := HQ.out i (by rw [hkk]; exact (List.getElem?_eq_some_iff.1 hu).1) q hq; omega))
          · have := HQ.out i (by omega) q hq
            rw [set2_size]
            exact ⟨⟨by omega, by omega⟩, by omega⟩
        · exact HB0.trans ((((hbr.mono (by omega)).setCell (p := ⟨w.heap.size + 1, _, none⟩) (by simp) _).setCell (p := ⟨w.heap.size + 1, _, none⟩) (by simp) _))

end Go.Proofs.Ytdfhfljmcakilaa
