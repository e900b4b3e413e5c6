/-
  clone of the cache, and Clone of the reference of terms (out of the texts of layer 13; printed by gen/ca0.py). Nothing is assumed.
-/
import Derived.Test.YtbimpfciadbnjaaTmFR
import Derived.Laws.IdiomCopy
import Derived.Deep.AppendLies
import Derived.Laws.OwnMore
namespace Go.Proofs.Ytbimpfciadbnjaa
open Go.RowKit

theorem infoTerm : (Try.prog.info? 36).map (fun i => (i.zero, i.size, i.bytes)) = some (some (.agg #[.int .i64 0, .slice none 0 0]), 2, 32) := by kernel_rfl
/-- A function has returned a term that it has built. -/
def RetN (w w' : World) (v : T) (e : Ending) : Prop := ∃ sl, e = .returned (.agg #[.int .i64 v.r, sl]) ∧ FR w' (fun k => w.heap.size ≤ k ∧ k < w'.heap.size) sl v.l
/-- A row of n terms that is filled from its head on. -/
def Fil (w : World) (g n : Nat) (xs : List (Int × Value)) : Prop := ∃ cur : Array Value, w.heap[g]? = some (.cells cur 36 (0, 0)) ∧ cur.size = n * 2 ∧ xs.length ≤ n ∧
  ∀ i x, xs[i]? = some x → cur[i * 2]? = some (.int .i64 x.1) ∧ cur[i * 2 + 1]? = some x.2
theorem Fil.keep {w w' : World} {g n : Nat} {xs : List (Int × Value)} (h : Fil w g n xs) (hb : w'.heap[g]? = w.heap[g]?) : Fil w' g n xs := by
  obtain ⟨cur, h1, h2⟩ := h
  exact ⟨cur, hb.trans h1, h2⟩
theorem Fil.lt {w : World} {g n : Nat} {xs : List (Int × Value)} (h : Fil w g n xs) : g < w.heap.size := by
  obtain ⟨cur, h1, _⟩ := h
  exact (Array.getElem?_eq_some_iff.1 h1).1
theorem Fil.cell {w : World} {g n : Nat} {xs : List (Int × Value)} (h : Fil w g n xs) {i : Nat} {x : Int × Value} (hx : xs[i]? = some x) : w.cell? ⟨g, i * 2, none⟩ = some (.int .i64 x.1) ∧ w.cell? ⟨g, i * 2 + 1, none⟩ = some x.2 := by
  obtain ⟨cur, h1, h2, h3, h4⟩ := h
  obtain ⟨c0, c1⟩ := h4 i x hx
  constructor <;> unfold World.cell? <;> rw [h1] <;> simpa
theorem Fil.there {w : World} {g n : Nat} {xs : List (Int × Value)} (h : Fil w g n xs) {o : Nat} (ho : o < n * 2) : (∃ v, w.cell? ⟨g, o, none⟩ = some v) := by
  obtain ⟨cur, h1, h2, h3, h4⟩ := h
  refine ⟨cur[o]'(by omega), ?_⟩
  unfold World.cell?
  rw [h1]
  simp [show o < cur.size by omega]
theorem Fil.frozen {w : World} {g n : Nat} {xs : List (Int × Value)} (h : Fil w g n xs) (o : Nat) : w.frozen? ⟨g, o, none⟩ = false := by
  obtain ⟨cur, h1, h2, h3, h4⟩ := h
  unfold World.frozen?
  rw [h1]
  simp
theorem Fil.store {w : World} {g n k : Nat} {xs : List (Int × Value)} (h : Fil w g n xs) (hk : xs.length = k) (hn : k < n) (r : Int) (s : Value) :
    Fil ((w.setCell ⟨g, k * 2, none⟩ (.int .i64 r)).setCell ⟨g, k * 2 + 1, none⟩ s) g n (xs ++ [(r, s)]) := by
  obtain ⟨cur, h1, h2, h3, h4⟩ := h
  refine ⟨_, heap_setCell_same _ _ _ _ _ _ (heap_setCell_same _ _ _ _ _ _ h1), by simp [h2], by simp; omega, fun i x hx => ?_⟩
  by_cases e : i < xs.length
  · rw [List.getElem?_append_left e] at hx
    obtain ⟨c0, c1⟩ := h4 i x hx
    rw [Array.getElem?_setIfInBounds_ne (by omega), Array.getElem?_setIfInBounds_ne (by omega), Array.getElem?_setIfInBounds_ne (by omega), Array.getElem?_setIfInBounds_ne (by omega)]
    exact ⟨c0, c1⟩
  · have hi : i = k := by
      have := (List.getElem?_eq_some_iff.1 hx).1
      simp at this
      omega
    subst hi
    rw [List.getElem?_append_right (by omega)] at hx
    simp [hk] at hx
    subst hx
    rw [Array.getElem?_setIfInBounds_ne (by omega), Array.getElem?_setIfInBounds_self_of_lt (by omega), Array.getElem?_setIfInBounds_self_of_lt (by simp; omega)]
    exact ⟨rfl, rfl⟩
/-- Two stores into one block leave the others. -/
theorem set2_other (w : World) (g a b : Nat) (x y : Value) (k : Nat) (hk : k ≠ g) : ((w.setCell ⟨g, a, none⟩ x).setCell ⟨g, b, none⟩ y).heap[k]? = w.heap[k]? :=
  (heap_setCell_other _ _ _ _ hk).trans (heap_setCell_other _ _ _ _ hk)
theorem set2_size (w : World) (g a b : Nat) (x y : Value) : ((w.setCell ⟨g, a, none⟩ x).setCell ⟨g, b, none⟩ y).heap.size = w.heap.size := by simp
set_option maxRecDepth 100000 in
set_option maxHeartbeats 1600000 in
theorem clone_any (v : T) : ∀ (sl : Value) (w : World) (B : Nat), Rep w B sl v.l → B ≤ w.heap.size → v.size ≤ 1000 →
    Calls Try.prog 29 #[.agg #[.int .i64 v.r, sl]] w fun e w' => RetN w w' v e ∧ Below w.heap.size w w' := by
  induction v using T.ind with
  | h v ih =>
  intro sl w B hrep hB hsz
  obtain ⟨oa, cap, rfl, hlc, hm, hel⟩ := hrep.slice
  by_cases hl : v.l.length = 0
  · have hnil := List.eq_nil_of_length_eq_zero hl
    have HN := Lib.hid hnil
    have hb : ((v.l.length : Int) == 0) = true := by rw [hl]; rfl
    clear hel hl hnil
    go_enter Try.func29, Try.ntmps29
    go_wp2_with fail
    refine bodyPost_ret (v := .agg #[.int .i64 v.r, .slice none 0 0]) (by simp [results, Try.results29, go_sem, *]) rfl ?_
    exact ⟨⟨_, rfl, by rw [HN.out]; exact .empty _ _ _⟩, below2 _ _ _⟩
  · obtain ⟨i0, hi, hz0, hz1, hz2⟩ := info_parts infoTerm
    have hlz : v.l.length ≤ 1000 := by have := T.len_sizes v.l; have := v.size_eq; omega
    have hb : ((v.l.length : Int) == 0) = false := by rw [beq_eq_false_iff_ne]; omega
    have HL := Lib.hid hl
    clear hl
    go_enter Try.func29, Try.ntmps29
    go_wp2_with (at_make; refine wpList_make_full _ rfl _ _ 30 rfl (w.heap.size + 2) 36 i0 _ 2 Try.underlying30 hi hz0 hz1 _ _ _ _ v.l.length rfl rfl rfl rfl ?b2 ?b3 (by simp) ?_)
    case b2 => rw [hz2]; omega
    case b3 => unfold maxLen; omega
    intro w1 hown hgrow
    have hs0 : w.heap.size + 2 ≤ ((w.alloc (.cells #[.int .i64 v.r, .slice oa v.l.length cap] 36)).alloc (.cells #[.int .i64 0, .slice none 0 0] 36)).heap.size := by simp
    have hb1 : Below (w.heap.size + 2) ((w.alloc (.cells #[.int .i64 v.r, .slice oa v.l.length cap] 36)).alloc (.cells #[.int .i64 0, .slice none 0 0] 36)) w1 := (Below.refl _ _).grown hgrow hs0 (fun k h => by cases h)
    have HB0 : Below w.heap.size w ((w.alloc (.cells #[.int .i64 v.r, .slice oa v.l.length cap] 36)).alloc (.cells #[.int .i64 0, .slice none 0 0] 36)) := below2 _ _ _
    have HBT : Box ((w.alloc (.cells #[.int .i64 v.r, .slice oa v.l.length cap] 36)).alloc (.cells #[.int .i64 0, .slice none 0 0] 36)) w.heap.size v (.slice oa v.l.length cap) := (Box.new v _ _ rfl).later (below1 _ _) (by simp)
    have HBR : Box ((w.alloc (.cells #[.int .i64 v.r, .slice oa v.l.length cap] 36)).alloc (.cells #[.int .i64 0, .slice none 0 0] 36)) (w.heap.size + 1) (.mk 0 []) (.slice none 0 0) := Box.new (.mk 0 []) _ _ (by simp)
    have hfr : ∀ o : Nat, ((w.alloc (.cells #[.int .i64 v.r, .slice oa v.l.length cap] 36)).alloc (.cells #[.int .i64 0, .slice none 0 0] 36)).frozen? ⟨w.heap.size + 1, o, none⟩ = false := by
      intro o
      unfold World.frozen?
      rw [show ((w.alloc (.cells #[.int .i64 v.r, .slice oa v.l.length cap] 36)).alloc (.cells #[.int .i64 0, .slice none 0 0] 36)).heap[w.heap.size + 1]? = some (.cells #[.int .i64 0, .slice none 0 0] 36 (0, 0)) by
        have h := heap_alloc_new (w.alloc (.cells #[.int .i64 v.r, .slice oa v.l.length cap] 36)) (.cells #[.int .i64 0, .slice none 0 0] 36)
        rw [World.size_alloc] at h
        exact h]
      simp
    have hF1 : Fil w1 (w.heap.size + 2) v.l.length [] := by
      rcases hown.2 with ⟨h0, _⟩ | ⟨g', c', cur, hv, _, hh, _, _, hsz', _⟩
      · cases h0
      · have hg : g' = w.heap.size + 2 := by
          simp at hv
          omega
        have hcc : c' = v.l.length := by
          simp at hv
          omega
        subst hg hcc
        exact ⟨cur, hh, hsz', by simp, fun i x h => by simp at h⟩
    obtain ⟨W, hW⟩ : ∃ W, W = (w.alloc (.cells #[.int .i64 v.r, .slice oa v.l.length cap] 36)).alloc (.cells #[.int .i64 0, .slice none 0 0] 36) := ⟨_, rfl⟩
    rw [← hW] at hs0 hb1 HB0 HBT HBR hfr
    have hsW : W.heap.size = w.heap.size + 2 := by rw [hW]; simp
    clear hown hgrow
    obtain ⟨t0, t1⟩ := HBT.later hb1 (by omega)
    have hw1s := hb1.size
    go_wp2_with fail
    go_loopw [20] (fun i wr => ∃ (k : Nat) (xs : List (Int × Value)) (Q : Nat → Nat → Prop), k ≤ v.l.length ∧ i = .int .i64 k ∧ Hid (Fil wr (w.heap.size + 2) v.l.length xs) ∧ Hid (xs.length = k) ∧
        Hid (∀ j u, j < k → v.l[j]? = some u → ∃ sl, xs[j]? = some (u.r, sl) ∧ FR wr (Q j) sl u.l) ∧ Hid (∀ j, j < k → ∀ b, Q j b → w.heap.size + 2 < b ∧ b < wr.heap.size) ∧
        Hid (∀ i j, i < k → j < k → i ≠ j → ∀ b, Q i b → ¬ Q j b) ∧ Below (w.heap.size + 2) W wr) (fun i _ => v.l.length - (intOf i).toNat)
    case atStart => exact ⟨0, [], fun _ _ => False, Nat.zero_le _, rfl, hF1, rfl, Lib.hid (fun j u h => by omega), Lib.hid (fun j h => by omega), Lib.hid (fun i j h => by omega), hb1⟩
    case round =>
      obtain ⟨k, xs, Q, hk, rfl, HF, HX, HS, HQ, HD, hbr⟩ := hrel
      have hrs := hbr.size
      have hgl := HF.out.lt
      have HBW := Lib.hid (HB0.trans (hbr.mono (by omega)))
      clear t0 t1
      obtain ⟨t0, t1⟩ := HBT.later hbr (by omega)
      by_cases hlt : k < v.l.length
      · obtain ⟨b, off, oe, ce, rfl, hb, c0, c1, hr⟩ := hel k _ (List.getElem?_eq_getElem hlt)
        rw [← HBW.out.cell (p := ⟨b, _, none⟩) (Nat.lt_of_lt_of_le hb hB)] at c0 c1
        have hle := T.mem_sizes (List.getElem_mem hlt)
        have hle2 : v.l[k].size ≤ 1000 := by have := v.size_eq; omega
        have q0 : (0 : Int) ≤ (k : Int) := by omega
        have q1 : (k : Int) < (v.l.length : Int) := by omega
        clear hel hle
        go_wp2_with fail
        refine (ih _ (List.getElem_mem hlt) _ _ B ((hr.later (HBW.out.mono hB)).later ((below1 wr _).mono (by omega))) (by simp; omega) hle2 |>.mono ?_)
        rintro e w3 ⟨⟨sl3, rfl, hf3⟩, hb3⟩
        have hb3' : Below wr.heap.size wr w3 := (below1 wr _).trans (hb3.mono (by simp))
        rw [World.size_alloc] at hf3
        have hFl := hf3.form
        obtain ⟨o3, cc3, rfl, _, _⟩ := hFl
        have HF3 := Lib.hid hf3
        have HG3 := Lib.hid (HF.out.keep (hb3'.block _ hgl))
        obtain ⟨x0, hx0⟩ := HG3.out.there (o := k * 2) (by omega)
        obtain ⟨x1, hx1⟩ := HG3.out.there (o := k * 2 + 1) (by omega)
        have z0 := HG3.out.frozen (k * 2)
        have z1 := HG3.out.frozen (k * 2 + 1)
        have HB3 := Lib.hid hb3'
        have hs3 := hb3'.size
        clear hb3 hb3' hf3 t0 t1 c0 c1
        go_wp2_with fail
        go_roundw
        case rel =>
          have e2 : w.heap.size + 1 + 1 = w.heap.size + 2 := rfl
          rw [e2]
          refine ⟨k + 1, xs ++ [(v.l[k].r, .slice o3 v.l[k].l.length cc3)], fun j b => if j = k then wr.heap.size + 1 ≤ b ∧ b < w3.heap.size else Q j b, hlt, by go_num, Lib.hid (HG3.out.store HX.out hlt _ _), Lib.hid (by simp [HX.out]), Lib.hid (fun j u hj hu => ?_), Lib.hid (fun j hj b hb => ?_), Lib.hid (fun i j hi hj hne b hb => ?_), ?_⟩
          · by_cases e : j = k
            · subst e
              rw [List.getElem?_eq_getElem hlt] at hu
              cases hu
              refine ⟨.slice o3 v.l[j].l.length cc3, by rw [List.getElem?_append_right (by rw [HX.out]; exact Nat.le_refl _)]; simp [HX.out], ?_⟩
              simp only [if_pos]
              exact HF3.out.keep (fun q hq => set2_other _ _ _ _ _ _ _ (by omega))
            · obtain ⟨sl, h1, h2⟩ := HS.out j u (by omega) hu
              refine ⟨sl, by rw [List.getElem?_append_left (by rw [HX.out]; omega)]; exact h1, ?_⟩
              simp only [if_neg e]
              refine (h2.keep (fun q hq => HB3.out.block q (HQ.out j (by omega) q hq).2)).keep (fun q hq => set2_other _ _ _ _ _ _ _ (by have := (HQ.out j (by omega) q hq).1; omega))
          · rw [set2_size]
            by_cases e : j = k
            · subst e
              simp only [if_pos] at hb
              omega
            · simp only [if_neg e] at hb
              have := HQ.out j (by omega) b hb
              omega
          · by_cases e : i = k
            · subst e
              have e' : j ≠ i := fun h => hne h.symm
              simp only [if_pos] at hb
              simp only [if_neg e']
              intro h
              have := (HQ.out j (by omega) b h).2
              omega
            · simp only [if_neg e] at hb
              by_cases e' : j = k
              · subst e'
                simp only [if_pos]
                intro h
                have := (HQ.out i (by omega) b hb).2
                omega
              · simp only [if_neg e']
                exact HD.out i j (by omega) (by omega) hne b hb
          · refine ((hbr.trans (HB3.out.mono (by omega))).setCell (p := ⟨w.heap.size + 2, _, none⟩) (Nat.le_refl _) _).setCell (p := ⟨w.heap.size + 2, _, none⟩) (Nat.le_refl _) _
        case measure => simp [intOf]; omega
      · obtain ⟨r0, r1⟩ := HBR.later hbr (by omega)
        have f0 : ∀ o : Nat, wr.frozen? ⟨w.heap.size + 1, o, none⟩ = false := fun o => (hbr.frozen (p := ⟨w.heap.size + 1, o, none⟩) (by simp)).trans (hfr o)
        have f00 := f0 0
        have f01 := f0 1
        clear hel f0
        go_wp2_with fail
        refine bodyPost_ret (v := .agg #[.int .i64 v.r, .slice (some ⟨w.heap.size + 2, 0, none⟩) v.l.length v.l.length]) (by simp [results, Try.results29, go_sem, *]) rfl ?_
        refine ⟨⟨_, rfl, ?_⟩, ?_⟩
        · have hFF := HF.out.keep (set2_other wr (w.heap.size + 1) 0 1 (.int .i64 v.r) (.slice (some ⟨w.heap.size + 2, 0, none⟩) v.l.length v.l.length) (w.heap.size + 2) (by omega))
          have hkk : k = v.l.length := by omega
          have hsl : ∀ i u, v.l[i]? = some u → ∃ sl, xs[i]? = some (u.r, sl) ∧ FR wr (Q i) sl u.l := fun i u hu => HS.out i u (by rw [hkk]; exact (List.getElem?_eq_some_iff.1 hu).1) hu
          refine .arr _ (w.heap.size + 2) 0 v.l.length v.l (fun i => match xs[i]? with | some x => x.2 | none => .nilIface) Q ⟨by omega, by rw [set2_size]; omega⟩ (Nat.le_refl _) hm (fun i u hu => ?_) (fun o => hFF.frozen o) (fun i u hu => ?_) (fun i hi q hq => ?_) (fun i j hi hj hne => HD.out i j (by omega) (by omega) hne)
          · obtain ⟨sl, h1, h2⟩ := hsl i u hu
            obtain ⟨c0, c1⟩ := hFF.cell h1
            simp only [Nat.zero_add, h1]
            exact ⟨c0, c1⟩
          · obtain ⟨sl, h1, h2⟩ := hsl i u hu
            simp only [h1]
            exact h2.keep (fun q hq => set2_other _ _ _ _ _ _ _ (by have := HQ.out i (by rw [hkk]; exact (List.getElem?_eq_some_iff.1 hu).1) q hq; omega))
          · have := HQ.out i (by omega) q hq
            rw [set2_size]
            exact ⟨⟨by omega, by omega⟩, by omega⟩
        · exact HB0.trans ((((hbr.mono (by omega)).setCell (p := ⟨w.heap.size + 1, _, none⟩) (by simp) _).setCell (p := ⟨w.heap.size + 1, _, none⟩) (by simp) _))
theorem frozen_new (w : World) (xs : Array Value) (t : Nat) (o : Nat) : (w.alloc (.cells xs t)).frozen? ⟨w.heap.size, o, none⟩ = false := by
  unfold World.frozen?
  rw [heap_alloc_new]
  simp
theorem set2_cell (w : World) (g a : Nat) (x y : Value) (q : Nat) (h0 : q ≠ a) (h1 : q ≠ a + 1) : ((w.setCell ⟨g, a, none⟩ x).setCell ⟨g, a + 1, none⟩ y).cell? ⟨g, q, none⟩ = w.cell? ⟨g, q, none⟩ := by
  rw [World.cell?_setCell_other _ _ _ _ (by simp <;> omega), World.cell?_setCell_other _ _ _ _ (by simp <;> omega)]
theorem set2_frozen (w : World) (g a c : Nat) (x y : Value) (q : Addr) : ((w.setCell ⟨g, a, none⟩ x).setCell ⟨g, c, none⟩ y).frozen? q = w.frozen? q := by
  rw [World.frozen?_setCell, World.frozen?_setCell]
theorem set2_at (w : World) (g a : Nat) (x y : Value) (h0 : (w.cell? ⟨g, a, none⟩).isSome = true) (h1 : (w.cell? ⟨g, a + 1, none⟩).isSome = true) :
    ((w.setCell ⟨g, a, none⟩ x).setCell ⟨g, a + 1, none⟩ y).cell? ⟨g, a, none⟩ = some x ∧ ((w.setCell ⟨g, a, none⟩ x).setCell ⟨g, a + 1, none⟩ y).cell? ⟨g, a + 1, none⟩ = some y := by
  have hne : (w.setCell ⟨g, a, none⟩ x).cell? ⟨g, a + 1, none⟩ = w.cell? ⟨g, a + 1, none⟩ := World.cell?_setCell_other _ _ _ _ (by simp)
  exact ⟨by rw [World.cell?_setCell_other _ _ _ _ (by simp)]; exact World.cell?_setCell_same' _ _ _ h0, World.cell?_setCell_same' _ _ _ (by rw [hne]; exact h1)⟩
def flatT (xs : List (Int × Value)) : List Value := xs.flatMap fun x => [.int .i64 x.1, x.2]
theorem flatT_nil : flatT [] = [] := rfl
theorem flatT_snoc (xs : List (Int × Value)) (x : Int × Value) : flatT (xs ++ [x]) = flatT xs ++ [.int .i64 x.1, x.2] := by simp [flatT]
theorem flatT_len (xs : List (Int × Value)) : (flatT xs).length = xs.length * 2 := by
  induction xs with
  | nil => rfl
  | cons x xs ih => simp [flatT] at ih ⊢; omega
theorem flatT_at : ∀ (xs : List (Int × Value)) (i : Nat) (x : Int × Value), xs[i]? = some x → (flatT xs)[i * 2]? = some (.int .i64 x.1) ∧ (flatT xs)[i * 2 + 1]? = some x.2
  | [], i, x, h => by simp at h
  | a :: xs, 0, x, h => by simp at h; subst h; simp [flatT]
  | a :: xs, i + 1, x, h => by
    have ih := flatT_at xs i x (by simpa using h)
    have e : flatT (a :: xs) = .int .i64 a.1 :: a.2 :: flatT xs := by simp [flatT]
    rw [e]
    have e1 : (i + 1) * 2 = i * 2 + 1 + 1 := by omega
    rw [e1, List.getElem?_cons_succ, List.getElem?_cons_succ, List.getElem?_cons_succ, List.getElem?_cons_succ]
    exact ih
/-- A boxed term that may be written. -/
def BoxF (w : World) (n : Nat) (r : Int) (sl : Value) : Prop := w.cell? ⟨n, 0, none⟩ = some (.int .i64 r) ∧ w.cell? ⟨n, 1, none⟩ = some sl ∧ ∀ o : Nat, w.frozen? ⟨n, o, none⟩ = false
theorem BoxF.new (w : World) (n : Nat) (r : Int) (sl : Value) (hn : w.heap.size = n) : BoxF (w.alloc (.cells #[.int .i64 r, sl] 36)) n r sl := by
  subst hn
  exact ⟨cell_at _ _ _ _ _ rfl, cell_at _ _ _ _ _ rfl, fun o => frozen_new _ _ _ _⟩
theorem BoxF.keep {w w' : World} {n : Nat} {r : Int} {sl : Value} (h : BoxF w n r sl) (hb : w'.heap[n]? = w.heap[n]?) : BoxF w' n r sl :=
  ⟨(World.cell?_of_block (w := w) hb).trans h.1, (World.cell?_of_block (w := w) hb).trans h.2.1, fun o => (World.frozen?_of_block (w := w) hb).trans (h.2.2 o)⟩
theorem BoxF.set1 {w : World} {n : Nat} {r : Int} {sl : Value} (h : BoxF w n r sl) (sl' : Value) : BoxF (w.setCell ⟨n, 1, none⟩ sl') n r sl' :=
  ⟨by rw [World.cell?_setCell_other _ _ _ _ (by simp)]; exact h.1, World.cell?_setCell_same' _ _ _ (by rw [h.2.1]; rfl), fun o => by rw [World.frozen?_setCell]; exact h.2.2 o⟩
theorem owns_lt {w : World} {base n : Nat} {oc : Option Addr} {k cc : Nat} {xs : List Value} (h : w.ownsRow base 36 n (.slice oc k cc) k xs) : ∀ q, (Value.slice oc k cc).ownBlock = some q → base ≤ q ∧ q < w.heap.size := fun q hq => h.lt q hq
theorem owns_later {w w' : World} {base e size n : Nat} {v : Value} {xs : List Value} (h : w.ownsRow base e size v n xs) (hb : Below w.heap.size w w') : w'.ownsRow base e size v n xs := by
  refine ⟨h.1, ?_⟩
  rcases h.2 with h0 | ⟨g, cap, cur, hv, hg, hh, r⟩
  · exact .inl h0
  · exact .inr ⟨g, cap, cur, hv, hg, (hb.block g (Array.getElem?_eq_some_iff.1 hh).1).trans hh, r⟩
theorem grownBy_set1 (W : World) (b o : Nat) (v : Value) : W.grownBy (W.setCell ⟨b, o, none⟩ v) (some b) :=
  ⟨rfl, rfl, rfl, by simp, fun k _ hk => Below.heap_setCell _ _ _ k (fun e => hk (by rw [e]))⟩
set_option maxRecDepth 100000 in
set_option maxHeartbeats 3200000 in
theorem rclone_any (v : T) : ∀ (sl : Value) (w : World) (B : Nat), Rep w B sl v.l → B ≤ w.heap.size → v.size ≤ 900 →
    Calls Try.prog 25 #[.agg #[.int .i64 v.r, sl]] w fun e w' => RetN w w' v e ∧ Below w.heap.size w w' := by
  induction v using T.ind with
  | h v ih =>
  intro sl w B hrep hB hsz
  obtain ⟨oa, cap, rfl, hlc, hm, hel⟩ := hrep.slice
  obtain ⟨i0, hi, hz0, hz1, hz2⟩ := info_parts infoTerm
  have hlz : v.l.length ≤ 900 := by have := T.len_sizes v.l; have := v.size_eq; omega
  have HSZ := Lib.hid v.size_eq
  have HB0 : Below w.heap.size w ((w.alloc (.cells #[.int .i64 v.r, .slice oa v.l.length cap] 36)).alloc (.cells #[.int .i64 0, .slice none 0 0] 36)) := below2 _ _ _
  have HBT : Box ((w.alloc (.cells #[.int .i64 v.r, .slice oa v.l.length cap] 36)).alloc (.cells #[.int .i64 0, .slice none 0 0] 36)) w.heap.size v (.slice oa v.l.length cap) := (Box.new v _ _ rfl).later (below1 _ _) (by simp)
  have HBR : BoxF ((w.alloc (.cells #[.int .i64 v.r, .slice oa v.l.length cap] 36)).alloc (.cells #[.int .i64 0, .slice none 0 0] 36)) (w.heap.size + 1) 0 (.slice none 0 0) := BoxF.new _ _ _ _ (by simp)
  have hsW : ((w.alloc (.cells #[.int .i64 v.r, .slice oa v.l.length cap] 36)).alloc (.cells #[.int .i64 0, .slice none 0 0] 36)).heap.size = w.heap.size + 2 := by simp
  have HBO := BoxF.new ((w.alloc (.cells #[.int .i64 v.r, .slice oa v.l.length cap] 36)).alloc (.cells #[.int .i64 0, .slice none 0 0] 36)) (w.heap.size + 2) v.r (.slice none 0 0) (by simp)
  have hbo : Below (w.heap.size + 2) ((w.alloc (.cells #[.int .i64 v.r, .slice oa v.l.length cap] 36)).alloc (.cells #[.int .i64 0, .slice none 0 0] 36)) (((w.alloc (.cells #[.int .i64 v.r, .slice oa v.l.length cap] 36)).alloc (.cells #[.int .i64 0, .slice none 0 0] 36)).alloc (.cells #[.int .i64 v.r, .slice none 0 0] 36)) := (Below.refl _ _).alloc (by simp) _
  go_enter Try.func25, Try.ntmps25
  go_wp2_with fail
  have hsO : w.heap.size + 2 < (((w.alloc (.cells #[.int .i64 v.r, .slice oa v.l.length cap] 36)).alloc (.cells #[.int .i64 0, .slice none 0 0] 36)).alloc (.cells #[.int .i64 v.r, .slice none 0 0] 36)).heap.size := by simp
  generalize ((w.alloc (.cells #[.int .i64 v.r, .slice oa v.l.length cap] 36)).alloc (.cells #[.int .i64 0, .slice none 0 0] 36)).alloc (.cells #[.int .i64 v.r, .slice none 0 0] 36) = WO at *
  generalize (w.alloc (.cells #[.int .i64 v.r, .slice oa v.l.length cap] 36)).alloc (.cells #[.int .i64 0, .slice none 0 0] 36) = W at *
  go_loopw [4] (fun i wr => ∃ (k : Nat) (oc : Option Addr) (cc : Nat) (xs : List (Int × Value)) (Q : Nat → Nat → Prop), k ≤ v.l.length ∧ i = .int .i64 k ∧ w.heap.size + 2 < wr.heap.size ∧ Hid (xs.length = k) ∧
      Hid (∀ j u, j < k → v.l[j]? = some u → ∃ sl, xs[j]? = some (u.r, sl) ∧ FR wr (Q j) sl u.l) ∧ Hid (∀ j, j < k → ∀ b, Q j b → w.heap.size + 3 ≤ b ∧ b < wr.heap.size ∧ (Value.slice oc k cc).ownBlock ≠ some b) ∧
      Hid (∀ i j, i < k → j < k → i ≠ j → ∀ b, Q i b → ¬ Q j b) ∧ Hid (wr.ownsRow (w.heap.size + 3) 36 2 (.slice oc k cc) k (flatT xs)) ∧ Hid (BoxF wr (w.heap.size + 2) v.r (.slice oc k cc)) ∧ Below (w.heap.size + 2) W wr) (fun i _ => v.l.length - (intOf i).toNat)
  case atStart => exact ⟨0, none, 0, [], fun _ _ => False, Nat.zero_le _, rfl, hsO, rfl, Lib.hid (fun j u h => by omega), Lib.hid (fun j h => by omega), Lib.hid (fun i j h => by omega), Lib.hid ⟨rfl, .inl ⟨rfl, rfl⟩⟩, HBO, hbo⟩
  case round =>
    obtain ⟨k, oc, cc, xs, Q, hk, rfl, hgr, HX, HS, HQ, HD, HO, HBX, hbr⟩ := hrel
    have HBW := Lib.hid (HB0.trans (hbr.mono (by omega)))
    obtain ⟨t0, t1⟩ := HBT.later hbr (by omega)
    obtain ⟨b0, b1, bz⟩ := HBX.out
    by_cases hlt : k < v.l.length
    · obtain ⟨b, off, oe, ce, rfl, hb, c0, c1, hr⟩ := hel k _ (List.getElem?_eq_getElem hlt)
      rw [← HBW.out.cell (p := ⟨b, _, none⟩) (Nat.lt_of_lt_of_le hb hB)] at c0 c1
      have hle := T.mem_sizes (List.getElem_mem hlt)
      have hle2 : v.l[k].size ≤ 900 := by have := HSZ.out; omega
      have q0 : (0 : Int) ≤ (k : Int) := by omega
      have q1 : (k : Int) < (v.l.length : Int) := by omega
      have hn1 : k + 1 ≤ maxLen := by unfold maxLen; omega
      have hby : (k + 1) * 32 ≤ 140737488355328 := by omega
      have HC : Hid (Calls Try.prog 25 #[.agg #[.int .i64 v.l[k].r, .slice oe v.l[k].l.length ce]] wr.drew fun e w' => RetN wr w' v.l[k] e ∧ Below wr.heap.size wr w') :=
        Lib.hid ((ih _ (List.getElem_mem hlt) _ wr.drew B (hr.later ((HBW.out.drew).mono hB)) (by have := HBW.out.size; show B ≤ wr.heap.size; omega) hle2).mono fun _ _ ⟨h1, h2⟩ => ⟨h1, (Below.refl _ _).drew.trans h2⟩)
      have HOW : Hid (∀ (w2 : World), Below wr.heap.size wr w2 → w2.ownsRow (w.heap.size + 3) 36 2 (.slice oc k cc) k (flatT xs)) := Lib.hid fun w2 h2 => owns_later HO.out h2
      have H3 : Hid (∀ (w2 : World), Below wr.heap.size wr w2 → w2.cell? ⟨w.heap.size + 2, 1, none⟩ = some (.slice oc k cc) ∧ ∀ X, (w2.alloc X).cell? ⟨w.heap.size + 2, 1, none⟩ = some (.slice oc k cc)) := Lib.hid fun w2 h2 =>
        ⟨(HBX.out.keep (h2.block _ hgr)).2.1, fun X => ((HBX.out.keep (h2.block _ hgr)).keep ((below1 w2 X).block _ (Nat.lt_of_lt_of_le hgr h2.size))).2.1⟩
      have HHS : Hid (∀ (w2 : World), Below wr.heap.size wr w2 → w.heap.size + 3 ≤ w2.heap.size) := Lib.hid fun w2 h2 => by have := h2.size; omega
      have HBN : Hid (∀ (w2 w1 : World) (X : Obj), Below wr.heap.size wr w2 → (w2.alloc X).grownBy w1 (Value.slice oc k cc).ownBlock → BoxF w1 (w.heap.size + 2) v.r (.slice oc k cc)) := Lib.hid fun w2 w1 X h2 hg =>
        ((HBX.out.keep (h2.block _ hgr)).keep ((below1 w2 X).block _ (Nat.lt_of_lt_of_le hgr h2.size))).keep (hg.block _ (by have := h2.size; simp; omega) (fun e => by have := (owns_lt HO.out _ e.symm).1; omega))
      clear hel hle
      go_wp2_with fail
      go_region_law (first
        | (refine step_append_lies _ (by rfl) _ _ _ (by rfl) (w.heap.size + 3) 36 i0 _ 2 32 Try.underlying30 hi hz0 hz1 hz2 rfl (by omega) (.slice oc k cc) k (flatT xs) (by rfl) ((HOW.out w3 hb3).alloc _)
            ⟨w3.heap.size, 0, none⟩ 1 1 [.int .i64 v.l[k].r, .slice o3 v.l[k].l.length cc3] (by rfl) (by rfl) (World.news_of_block (cs := #[.int .i64 v.l[k].r, .slice o3 v.l[k].l.length cc3]) (t := 36) (fr := (0, 0)) (heap_alloc_new _ _)) (by simp [Value.oneCell'])
            (by omega) hn1 hby (by have := HHS.out w3 hb3; simp; omega) (w3.heap.size + 1) (by simp) ?_
           intro gg cap2 w1 hown1 hgrow hat hlt1
           obtain ⟨e0, e1, ez⟩ := HBN.out w3 w1 _ hb3 hgrow
           have z1 := ez 1)
        | (go_simp; go_at_call 25; refine HC.out.mono ?_; rintro e w3 ⟨⟨sl3, rfl, hf3⟩, hb3⟩; obtain ⟨o3, cc3, rfl, _, _⟩ := hf3.form; have HF3 := Lib.hid hf3; clear hf3; obtain ⟨g3, g4⟩ := H3.out w3 hb3))
      all_goals
        have hs3 := hb3.size
        have HAT := Lib.hid hat
        have HGR := Lib.hid hgrow
        have HOWN := Lib.hid hown1
        have HBN1 := Lib.hid (HBN.out w3 w1 _ hb3 hgrow)
        have HB3 := Lib.hid hb3
        have hsz1 : w3.heap.size + 1 ≤ w1.heap.size := by have := hgrow.size; simp at this; omega
        have hol := owns_lt HO.out
        have hbw : Below (w.heap.size + 2) W w1 := ((hbr.trans (hb3.mono (by omega))).alloc (by omega) _).grown hgrow (by simp; omega) (fun q hq => by have := (hol q hq).1; omega)
        clear hat hgrow hown1 e0 e1 ez z1 g3 g4 c0 c1 b0 b1 bz t0 t1
        go_wp2_with fail
        go_roundw
        case rel =>
          have far : ∀ q, w.heap.size + 3 ≤ q → q < w3.heap.size → (Value.slice oc k cc).ownBlock ≠ some q → (w1.setCell ⟨w.heap.size + 1 + 1, 1, none⟩ (.slice (some ⟨gg, 0, none⟩) (k + 1) cap2)).heap[q]? = w3.heap[q]? := fun q h1 h2 h3 => by
            rw [heap_setCell_other _ _ _ _ (by show q ≠ w.heap.size + 1 + 1; omega)]
            exact (HGR.out.block q (by simp; omega) (fun e => h3 e.symm)).trans ((below1 w3 _).block q h2)
          have hgg : ∀ q, w.heap.size + 3 ≤ q → q < w3.heap.size → (Value.slice oc k cc).ownBlock ≠ some q → (Value.slice (some ⟨gg, 0, none⟩) (k + 1) cap2).ownBlock ≠ some q := fun q h1 h2 h3 e => by
            simp only [Value.ownBlock, Option.some.injEq] at e
            subst e
            rcases HAT.out with h | h
            · exact h3 h
            · omega
          refine ⟨k + 1, some ⟨gg, 0, none⟩, cap2, xs ++ [(v.l[k].r, .slice o3 v.l[k].l.length cc3)], fun j b => if j = k then wr.heap.size ≤ b ∧ b < w3.heap.size else Q j b, hlt, by go_num, by rw [World.size_setCell]; omega, Lib.hid (by simp [HX.out]), Lib.hid (fun j u hj hu => ?_), Lib.hid (fun j hj b hb => ?_), Lib.hid (fun i j hi hj hne b hb => ?_), Lib.hid ?_, Lib.hid (HBN1.out.set1 _), hbw.setCell (p := ⟨w.heap.size + 2, 1, none⟩) (Nat.le_refl _) _⟩
          · by_cases e : j = k
            · subst e
              rw [List.getElem?_eq_getElem hlt] at hu
              cases hu
              refine ⟨.slice o3 v.l[j].l.length cc3, by rw [List.getElem?_append_right (by rw [HX.out]; exact Nat.le_refl _)]; simp [HX.out], ?_⟩
              simp only [if_pos]
              exact HF3.out.keep (fun q hq => far q (by omega) hq.2 (fun e => by have := (hol q e).2; omega))
            · obtain ⟨sl, h1, h2⟩ := HS.out j u (by omega) hu
              refine ⟨sl, by rw [List.getElem?_append_left (by rw [HX.out]; omega)]; exact h1, ?_⟩
              simp only [if_neg e]
              refine (h2.keep (fun q hq => HB3.out.block q (HQ.out j (by omega) q hq).2.1)).keep (fun q hq => ?_)
              obtain ⟨k1, k2, k3⟩ := HQ.out j (by omega) q hq
              exact far q k1 (by omega) k3
          · rw [World.size_setCell]
            by_cases e : j = k
            · subst e
              simp only [if_pos] at hb
              exact ⟨by omega, by omega, hgg b (by omega) hb.2 (fun e => by have := (hol b e).2; omega)⟩
            · simp only [if_neg e] at hb
              obtain ⟨k1, k2, k3⟩ := HQ.out j (by omega) b hb
              exact ⟨k1, by omega, hgg b k1 (by omega) k3⟩
          · by_cases e : i = k
            · subst e
              have e' : j ≠ i := fun h => hne h.symm
              simp only [if_pos] at hb
              simp only [if_neg e']
              intro h
              have := (HQ.out j (by omega) b h).2.1
              omega
            · simp only [if_neg e] at hb
              by_cases e' : j = k
              · subst e'
                simp only [if_pos]
                intro h
                have := (HQ.out i (by omega) b hb).2.1
                omega
              · simp only [if_neg e']
                exact HD.out i j (by omega) (by omega) hne b hb
          · rw [flatT_snoc]
            exact HOWN.out.kept (grownBy_set1 w1 (w.heap.size + 1 + 1) _ _) (.inr (by
              simp only [Value.ownBlock, ne_eq, Option.some.injEq]
              intro e
              rcases HAT.out with h | h
              · have := (hol gg h).1; omega
              · omega))
        case measure => simp [intOf]; omega
    · obtain ⟨r0, r1, rz⟩ := HBR.keep (hbr.block (w.heap.size + 1) (by omega))
      have rz0 := rz 0
      have rz1 := rz 1
      have hkk : k = v.l.length := by omega
      have hs2 := hbr.size
      clear hel
      go_wp2_with fail
      refine bodyPost_ret (v := .agg #[.int .i64 v.r, .slice oc k cc]) (by simp [results, Try.results25, go_sem, *]) rfl ?_
      refine ⟨⟨_, rfl, ?_⟩, HB0.trans (((hbr.mono (by omega)).setCell (p := ⟨w.heap.size + 1, _, none⟩) (by simp) _).setCell (p := ⟨w.heap.size + 1, _, none⟩) (by simp) _)⟩
      have hkeep : ∀ q, w.heap.size + 3 ≤ q → ((wr.setCell ⟨w.heap.size + 1, 0, none⟩ (.int .i64 v.r)).setCell ⟨w.heap.size + 1, 1, none⟩ (.slice oc k cc)).heap[q]? = wr.heap[q]? := fun q hq => set2_other _ _ _ _ _ _ _ (by omega)
      rcases HO.out.2 with ⟨h0, hk0⟩ | ⟨g, cap', cur, hv, hg, hh, hcap, hmx, hcs, htk⟩
      · have hnil : v.l = [] := List.eq_nil_of_length_eq_zero (by omega)
        rw [hnil, h0]
        exact .empty _ _ _
      · simp only [Value.slice.injEq] at hv
        obtain ⟨rfl, _, rfl⟩ := hv
        rw [hkk] at hkeep ⊢
        have HO' := HO.out
        have hgl : g < wr.heap.size := (Array.getElem?_eq_some_iff.1 hh).1
        refine .arr _ g 0 cc v.l (fun i => match xs[i]? with | some x => x.2 | none => .nilIface) Q ⟨by omega, by rw [set2_size]; omega⟩ (by omega) hm (fun i u hu => ?_) (fun o => ?_) (fun i u hu => ?_) (fun i hi q hq => ?_) (fun i j hi hj hne => HD.out i j (by omega) (by omega) hne)
        · have hil := (List.getElem?_eq_some_iff.1 hu).1
          obtain ⟨sl, h1, h2⟩ := HS.out i u (by omega) hu
          obtain ⟨m0, m1⟩ := flatT_at xs i _ h1
          have n0 := HO'.cellAt (i * 2) (by omega)
          have n1 := HO'.cellAt (i * 2 + 1) (by omega)
          rw [m0] at n0
          rw [m1] at n1
          simp only [Nat.zero_add, h1]
          exact ⟨(World.cell?_of_block (w := wr) (hkeep g hg)).trans n0, (World.cell?_of_block (w := wr) (hkeep g hg)).trans n1⟩
        · exact (World.frozen?_of_block (w := wr) (hkeep g hg)).trans (HO'.frozenAt o)
        · have hil := (List.getElem?_eq_some_iff.1 hu).1
          obtain ⟨sl, h1, h2⟩ := HS.out i u (by omega) hu
          simp only [h1]
          exact h2.keep (fun q hq => hkeep q (HQ.out i (by omega) q hq).1)
        · obtain ⟨k1, k2, k3⟩ := HQ.out i (by omega) q hq
          rw [set2_size]
          exact ⟨⟨by omega, by omega⟩, fun e => k3 (by rw [e]; rfl)⟩
end Go.Proofs.Ytbimpfciadbnjaa
