/-
  At of package domain. Nothing is assumed.
-/
import Derived.Test.YthnlkijkgnmbhaaDoorDmRok
import Derived.Stop.RegionWithIn
namespace Go.Proofs.YthnlkijkgnmbhaaDoor
open Go.RowKit Go.Shelf

attribute [local go_sem] Oper.semAt_some

/-- What At returns: the error, the tuple. -/
def atE (l : List (List V)) (N : Int) : Int := if szE l ≠ 0 then szE l else if N < 0 ∨ szN l ≤ N then 1 else 0
def atL (l : List (List V)) (N : Int) : List V := if atE l N = 0 then (digs l N.toNat).1 else []
theorem atE_size {l : List (List V)} {N : Int} (h : szE l ≠ 0) : atE l N = szE l ∧ atL l N = [] := by
  have e : atE l N = szE l := if_pos h
  exact ⟨e, if_neg (by rw [e]; exact h)⟩
theorem atE_out {l : List (List V)} {N : Int} (h : szE l = 0) (h1 : N < 0 ∨ szN l ≤ N) : atE l N = 1 ∧ atL l N = [] := by
  have e : atE l N = 1 := by unfold atE; rw [if_neg (by rw [h]; simp), if_pos h1]
  exact ⟨e, if_neg (by rw [e]; decide)⟩
theorem atE_in {l : List (List V)} {N : Int} (h : szE l = 0) (h1 : ¬ (N < 0 ∨ szN l ≤ N)) : atE l N = 0 ∧ atL l N = (digs l N.toNat).1 := by
  have e : atE l N = 0 := by unfold atE; rw [if_neg (by rw [h]; simp), if_neg h1]
  exact ⟨e, if_pos e⟩
theorem szE_cases (l : List (List V)) : (szE l = 0 ∧ szN l = prodL l) ∨ (szE l = 11 ∧ szN l = 0) := by
  unfold szE szN
  rw [szD_eq]
  split
  · exact .inl ⟨rfl, rfl⟩
  · exact .inr ⟨rfl, rfl⟩

theorem digs_tail (l : List (List V)) (m : Nat) : ∀ i, i ≤ l.length → (digs (l.drop i) m).1 = (digs l m).1.drop i := by
  induction l with
  | nil => intro i hi; simp at hi; subst hi; rfl
  | cons a l ih =>
    intro i hi
    cases i with
    | zero => rfl
    | succ i => rw [List.drop_succ_cons, digs]; show _ = ((_ :: (digs l m).1).drop (i + 1)); rw [List.drop_succ_cons]; exact ih i (by simpa using hi)

theorem RepS.putObj {A : World} {S : Nat → Prop} {x : Value} {l : List V} {lo : Nat} {o o' : Obj} (h : RepS A S x l) (hA : A.heap[lo]? = some o) (ho : o.isCells = false) : RepS (A.putObj lo o') S x l := by
  refine h.keepC (fun _ h => h) (fun b oo v _ hc => ?_)
  refine (World.cell?_of_block (World.putObj_heap_other (fun e => ?_))).trans hc
  subst e
  obtain ⟨o2, ho2, hc2⟩ := cells_of_cell hc
  rw [hA] at ho2
  cases ho2
  rw [ho] at hc2
  cases hc2

/-- What stands in At's loop when as many axes, the last ones, have been passed as pre is long: the tuple's box at tb, the number's at w's size and 1, the row at g. -/
def AtI (l : List (List V)) (m : Nat) (w : World) (g tb H6 : Nat) (pre : List Nat) (W : World) : Prop :=
  Boxed W tb 33 (.slice (some ⟨g, 0, none⟩) l.length l.length) ∧ Boxed W (w.heap.size + 1) 2 (.int .i64 ((digs (l.drop (l.length - pre.length)) m).2 : Nat)) ∧
  (∃ f, RowV W g l.length f ∧ ∀ j v, (digs l m).1[j]? = some v → l.length - pre.length ≤ j → ∃ s, f j = some (v, s) ∧ RepS W (fun b => H6 ≤ b ∧ b < W.heap.size) s v.l) ∧ pre.length ≤ l.length ∧ Below w.heap.size w W ∧ H6 ≤ W.heap.size
theorem AtI.below {l : List (List V)} {m : Nat} {w : World} {g tb H6 : Nat} {pre : List Nat} {A C : World} (h : AtI l m w g tb H6 pre A) (hb : Below A.heap.size A C) : AtI l m w g tb H6 pre C := by
  obtain ⟨bT, bN, ⟨f, hrow, hd⟩, hp, hbA, hz⟩ := h
  refine ⟨(hb.block _ bT.lt).trans bT, (hb.block _ bN.lt).trans bN, ⟨f, hrow.keep (hb.block _ hrow.lt), fun j v hv hj => ?_⟩, hp, hbA.trans (hb.mono hbA.size), Nat.le_trans hz hb.size⟩
  obtain ⟨s, h1, h2⟩ := hd j v hv hj
  exact ⟨s, h1, h2.keep (fun b hb' => ⟨hb'.1, Nat.lt_of_lt_of_le hb'.2 hb.size⟩) (fun b hb' => hb.block b hb'.2)⟩
theorem AtI.put {l : List (List V)} {m : Nat} {w : World} {g tb H6 : Nat} {pre : List Nat} {A : World} {lo : Nat} {o o' : Obj} (h : AtI l m w g tb H6 pre A) (hl : H6 ≤ lo) (hA : A.heap[lo]? = some o) (ho : o.isCells = false)
    (h1 : g < H6) (h2 : tb < H6) (h3 : w.heap.size + 1 < H6) : AtI l m w g tb H6 pre (A.putObj lo o') := by
  obtain ⟨bT, bN, ⟨f, hrow, hd⟩, hp, hbA, hz⟩ := h
  have hlo := (Array.getElem?_eq_some_iff.1 hA).1
  refine ⟨(World.putObj_heap_other (by omega)).trans bT, (World.putObj_heap_other (by omega)).trans bN, ⟨f, hrow.keep (World.putObj_heap_other (by omega)), fun j v hv hj => ?_⟩, hp,
    hbA.trans ((Below.refl _ A).grown (grownBy_putObj' A lo o') (by have := hbA.size; omega) (fun k e => by cases e; omega)), by simpa using hz⟩
  obtain ⟨s, h1, h2⟩ := hd j v hv hj
  exact ⟨s, h1, (h2.putObj hA ho).keep (fun b hb' => ⟨hb'.1, by simpa using hb'.2⟩) (fun _ _ => rfl)⟩

theorem keepsOthers_below {A C : World} (h : Below A.heap.size A C) : KeepsOthers A C := ⟨h.size, fun k _ hk _ => (h.block k (Array.getElem?_eq_some_iff.1 hk).1).trans hk⟩
theorem keepsOthers_put4 (w : World) (g k : Nat) (v : V) (s : Value) : KeepsOthers w (put4 w g k v s) :=
  (((KeepsOthers.setCell _ _ _).trans (KeepsOthers.setCell _ _ _)).trans (KeepsOthers.setCell _ _ _)).trans (KeepsOthers.setCell _ _ _)

/-- What a round of At makes. -/
theorem AtI_step {l : List (List V)} {m : Nat} {w Y w7 : World} {B bx g tb H6 i q' : Nat} {pre : List Nat} {u : V} {t : List V} {s q : Value} {f : Nat → Option (V × Value)}
    (bT : Boxed Y tb 33 (.slice (some ⟨g, 0, none⟩) l.length l.length)) (bN : Boxed Y (w.heap.size + 1) 2 q) (hrow : RowV Y g l.length f)
    (hdone : ∀ j v, (digs l m).1[j]? = some v → i + 1 ≤ j → ∃ s, f j = some (v, s) ∧ RepS Y (fun b => H6 ≤ b ∧ b < Y.heap.size) s v.l) (hbV : Below w.heap.size w Y) (hzV : H6 ≤ Y.heap.size) (hlen : pre.length + i + 1 = l.length)
    (hdd : digs (l.drop i) m = (u :: t, q')) (hb7 : Below Y.heap.size Y w7) (hr7 : RepS w7 (fun b => Y.heap.size ≤ b ∧ b < w7.heap.size) s u.l) (hB : B ≤ w.heap.size) (hg : w.heap.size + 1 < g) (hgt : g < tb) (htb : tb < H6) (hx : tb < bx) (hxH : bx < H6) :
    KeepsFrom H6 Y ((put4 w7 g i u s).setCell ⟨w.heap.size + 1, 0, none⟩ (.int .i64 (q' : Nat))) ∧ Kb B bx Y ((put4 w7 g i u s).setCell ⟨w.heap.size + 1, 0, none⟩ (.int .i64 (q' : Nat))) ∧
      AtI l m w g tb H6 (pre ++ [i]) ((put4 w7 g i u s).setCell ⟨w.heap.size + 1, 0, none⟩ (.int .i64 (q' : Nat))) := by
  have hil : i < l.length := by omega
  have hs7 := hb7.size
  have hlp : l.length - (pre ++ [i]).length = i := by simp; omega
  have hu : (digs l m).1[i]? = some u := by
    have h := digs_tail l m i (by omega)
    rw [hdd] at h
    have h0 : ((digs l m).1.drop i)[0]? = some u := by rw [← h]; rfl
    rwa [List.getElem?_drop, Nat.add_zero] at h0
  have oth : ∀ b, b ≠ g → b ≠ w.heap.size + 1 → ((put4 w7 g i u s).setCell ⟨w.heap.size + 1, 0, none⟩ (.int .i64 (q' : Nat))).heap[b]? = w7.heap[b]? := fun b h1 h2 =>
    (heap_setCell_other _ _ _ _ h2).trans (put4_other _ _ _ _ _ h1)
  have bN7 : Boxed (put4 w7 g i u s) (w.heap.size + 1) 2 q := (put4_other _ _ _ _ _ (by omega)).trans ((hb7.block _ bN.lt).trans bN)
  refine ⟨((keepsOthers_below hb7).trans ((keepsOthers_put4 _ _ _ _ _).trans (KeepsOthers.setCell _ _ _))).from _,
    ⟨(put4_below (hb7.mono (by have := hbV.size; omega)) (by omega)).setCell (p := ⟨w.heap.size + 1, 0, none⟩) (by show B ≤ w.heap.size + 1; omega) _, (oth bx (by omega) (by omega)).trans (hb7.block _ (by omega))⟩,
    (oth tb (by omega) (by omega)).trans ((hb7.block _ bT.lt).trans bT), ?_, ?_, by simp; omega, ?_, by rw [World.size_setCell, put4_size]; omega⟩
  · rw [hlp, hdd]
    exact bN7.set _
  · refine ⟨_, ((hrow.keep (hb7.block _ hrow.lt)).store hil u s).keep (heap_setCell_other _ _ _ _ (by show g ≠ w.heap.size + 1; omega)), fun j v hv hj => ?_⟩
    rw [hlp] at hj
    by_cases e : j = i
    · subst e
      rw [hu] at hv
      cases hv
      refine ⟨s, if_pos rfl, hr7.keep (fun b hb => ⟨by omega, by rw [World.size_setCell, put4_size]; exact hb.2⟩) (fun b hb => oth b (by omega) (by omega))⟩
    · obtain ⟨s', h1, h2⟩ := hdone j v hv (by omega)
      refine ⟨s', by simp only [if_neg e]; exact h1, h2.keep (fun b hb => ⟨hb.1, by rw [World.size_setCell, put4_size]; omega⟩) (fun b hb => (oth b (by omega) (by omega)).trans (hb7.block b hb.2))⟩
  · exact hbV.trans ((put4_below (hb7.mono hbV.size) (by omega)).setCell (p := ⟨w.heap.size + 1, 0, none⟩) (by show w.heap.size ≤ w.heap.size + 1; omega) _)

set_option maxRecDepth 100000 in
set_option maxHeartbeats 2000000 in
theorem at_in (n : Nat) (hn : 10 ≤ n) (l : List (List V)) (x : Value) (N : Int) (w : World) (B : Nat) (hx : LAx w B x l) (hB : B ≤ w.heap.size) (hl : l.length ≤ 1000) (hfit : ∀ a, a ∈ l → ∀ v, v ∈ a → v.fits = true) :
    CallsIn Fence.wide n Tryd.prog 20 #[.agg #[x], .int .i64 N] w fun e w' => (∃ sl, e = .returned (.tuple #[sl, .int .i64 (atE l N)]) ∧ Rep w' w'.heap.size sl (atL l N)) ∧ Below w.heap.size w w' := by
  have h1 : 1 ≤ n := by omega
  have noD : ∀ k : Nat, (Fence.wide.depth.isSome = true → 1 ≤ k) := fun k h => by cases h
  have HX := Lib.hid hx
  obtain ⟨oa, ca, rfl, _, hlm⟩ := hx.form
  clear hx
  obtain ⟨w2, hw2⟩ : ∃ w2, w2 = (w.alloc (.cells #[.slice oa l.length ca] 24)).alloc (.cells #[.int .i64 N] 2) := ⟨_, rfl⟩
  have hb2 : Below w.heap.size w w2 := by rw [hw2]; exact below2 _ _ _
  have hs2 : w2.heap.size = w.heap.size + 2 := by rw [hw2]; simp
  have bD : Boxed w2 w.heap.size 24 (.slice oa l.length ca) := by rw [hw2]; exact (Boxed.new w _ _).alloc _
  have bN : Boxed w2 (w.heap.size + 1) 2 (.int .i64 N) := by
    rw [hw2]
    have h := Boxed.new (w.alloc (.cells #[.slice oa l.length ca] 24)) 2 (.int .i64 N)
    rwa [World.size_alloc] at h
  have HS := Lib.hid (size_any l _ w2 B (HX.out.later (hb2.mono hB)) (by omega))
  have cD := bD.cell
  refine callsIn_of_wp_marks Tryd.func20 rfl trivial ?_ rfl
  simp only [Tryd.ntmps20, List.size_toArray, List.length_cons, List.length_nil, Nat.reduceAdd, Nat.reduceSub, Array.replicate_succ, Array.replicate_zero, List.push_toArray, List.append_toArray, List.nil_append, List.cons_append]
  gi_wp2
  rw [← hw2]
  gi_wp2
  refine ⟨trivial, ?_⟩
  gi_at_call 9
  refine (callsIn_wide.2 HS.out).mono ?_
  clear HS
  rintro e w3 ⟨rfl, hb3⟩
  have hb3' := hb2.trans (hb3.mono (by omega))
  have bD3 : Boxed w3 w.heap.size 24 (.slice oa l.length ca) := (hb3.block _ (by omega)).trans bD
  have bN3 : Boxed w3 (w.heap.size + 1) 2 (.int .i64 N) := (hb3.block _ (by omega)).trans bN
  have hs3 := hb3.size
  have HB3 := Lib.hid hb3'
  clear hb3 hb3' hb2 bD bN cD hw2
  rcases szE_cases l with ⟨hz, hzn⟩ | ⟨hz, hzn⟩
  · rw [hz, hzn]
    by_cases hlow : N < 0
    · have HZ := Lib.hid (atE_out (l := l) (N := N) hz (.inl hlow))
      have cN := bN3.cell
      gi_wp2
      exact ⟨.tuple #[.slice none 0 0, .int .i64 1], by simp [results, Tryd.results20, go_sem], ⟨.slice none 0 0, by rw [HZ.out.1], by rw [HZ.out.2]; exact Rep.nil⟩, HB3.out⟩
    by_cases hbig : (prodL l : Int) ≤ N
    · have HZ := Lib.hid (atE_out (l := l) (N := N) hz (.inr (by rw [hzn]; exact hbig)))
      have cN := bN3.cell
      gi_wp2
      exact ⟨.tuple #[.slice none 0 0, .int .i64 1], by simp [results, Tryd.results20, go_sem], ⟨.slice none 0 0, by rw [HZ.out.1], by rw [HZ.out.2]; exact Rep.nil⟩, HB3.out⟩
    have HZ := Lib.hid (atE_in (l := l) (N := N) hz (by rw [hzn]; omega))
    obtain ⟨m, rfl⟩ : ∃ m : Nat, N = m := ⟨N.toNat, by omega⟩
    have hsz60 : prodL l ≤ 1152921504606846976 := by
      unfold szE at hz
      rw [szD_eq] at hz
      split at hz
      · assumption
      · cases hz
    have hne := Lib.hid (show ∀ a, a ∈ l → a.length ≠ 0 from hasNil_no (by
      by_cases h : hasNil l = false
      · exact h
      · have := prodL_nil (by simpa using h); omega))
    obtain ⟨i0, hi, hz0, hz1, hz2⟩ := info_parts infoValue
    have cN := bN3.cell
    have cD := bD3.cell
    gi_wp2_with (gi_at_make; refine wpListIn_make_full _ rfl _ _ 33 rfl w3.heap.size 48 i0 _ 4 Tryd.underlying33 hi hz0 hz1 _ _ _ _ l.length rfl rfl rfl rfl ?b2 ?b3 (Nat.le_refl _) ?_)
    case b2 => rw [hz2]; omega
    case b3 => unfold maxLen; omega
    intro w4 hown4 hgrow4
    have hb4 : Below w3.heap.size w3 w4 := (Below.refl _ _).grown hgrow4 (Nat.le_refl _) (fun k e => by cases e)
    have hrow4 := RowV.made hown4 (Nat.le_refl _)
    have hs4 := hb4.size
    have bD4 : Boxed w4 w.heap.size 24 (.slice oa l.length ca) := (hb4.block _ (by omega)).trans bD3
    have bN4 : Boxed w4 (w.heap.size + 1) 2 (.int .i64 (m : Int)) := (hb4.block _ (by omega)).trans bN3
    have HB4 := Lib.hid (HB3.out.trans (hb4.mono (by omega)))
    have hg4 := hrow4.lt
    have HR4 := Lib.hid hrow4
    clear hown4 hgrow4 hrow4 cN cD hb4
    obtain ⟨w5, hw5⟩ : ∃ w5, w5 = w4.alloc (.cells #[.slice (some ⟨w3.heap.size, 0, none⟩) l.length l.length] 33) := ⟨_, rfl⟩
    have hb5 : Below w4.heap.size w4 w5 := by rw [hw5]; exact below1 _ _
    have hs5 : w5.heap.size = w4.heap.size + 1 := by rw [hw5]; simp
    have bT5 : Boxed w5 w4.heap.size 33 (.slice (some ⟨w3.heap.size, 0, none⟩) l.length l.length) := by rw [hw5]; exact Boxed.new w4 _ _
    have bD5 : Boxed w5 w.heap.size 24 (.slice oa l.length ca) := (hb5.block _ (by omega)).trans bD4
    have bN5 : Boxed w5 (w.heap.size + 1) 2 (.int .i64 (m : Int)) := (hb5.block _ (by omega)).trans bN4
    have cD := bD5.cell
    have HBK := Lib.hid (backward_any oa l.length ca w5)
    rw [hw5] at cD
    gi_wp2
    rw [← hw5]
    refine ⟨trivial, ?_⟩
    gi_at_call 34
    refine (callsIn_wide.2 HBK.out).mono ?_
    rintro e w6 ⟨rfl, hw6⟩
    have hb6 : Below w5.heap.size w5 w6 := by rw [hw6]; exact below1 _ _
    have hs6 : w6.heap.size = w5.heap.size + 1 := by rw [hw6]; simp
    have bX6 : Boxed w6 w5.heap.size 22 (.slice oa l.length ca) := by rw [hw6]; exact Boxed.new w5 _ _
    have bT6 : Boxed w6 w4.heap.size 33 (.slice (some ⟨w3.heap.size, 0, none⟩) l.length l.length) := (hb6.block _ (by omega)).trans bT5
    have bN6 : Boxed w6 (w.heap.size + 1) 2 (.int .i64 (m : Int)) := (hb6.block _ (by omega)).trans bN5
    have HB6 := Lib.hid ((HB4.out.trans (hb5.mono (by omega))).trans (hb6.mono (by omega)))
    have HR6 := Lib.hid (HR4.out.keep ((hb6.block _ (by omega)).trans (hb5.block _ (by omega))))
    clear hw6 hw5 cD bT5 bD5 bN5 bD4 bN4 bD3 bN3
    have HCX := Lib.hid bX6.cell
    have h06 : AtI l m w w3.heap.size w4.heap.size w6.heap.size [] w6 := by
      refine ⟨bT6, ?_, ⟨_, HR6.out, fun j v hv hj => ?_⟩, Nat.zero_le _, HB6.out, Nat.le_refl _⟩
      · rw [List.length_nil, Nat.sub_zero, digs_end]; exact bN6
      · have := (List.getElem?_eq_some_iff.1 hv).1
        rw [digs_len] at this
        simp at hj
        omega
    rw [hs5] at HCX
    have hs46 : w4.heap.size + 2 ≤ w6.heap.size := by omega
    have hm60 : m ≤ 1152921504606846976 := by
      rcases szE_cases l with ⟨_, _⟩ | ⟨h, _⟩
      · have := hsz60; omega
      · rw [hz] at h; cases h
    have HM60 := Lib.hid hm60
    clear bT6 bN6 bX6 HB4 HR4 HR6 hm60 hsz60
    gi_wp2
    clear hs5 hs6
    -- range
    refine wpIn_range_ok rfl h1 (gf := 58) (lb := #[.pointer (some ⟨w4.heap.size + 1, 0, none⟩)]) rfl trivial (enters_of Tryd.func58 (by kernel_rfl) rfl)
      (fun i : Nat => #[.int .i64 (i : Int), elA w (.slice oa l.length ca) i]) (fun _ => rfl) (fun pre i => pre ++ i :: (List.range i).reverse = (List.range l.length).reverse) (List.range l.length).reverse (Kb B (w4.heap.size + 1)) (fun h k => h.trans k) (Kb.put (by omega) (by omega))
      (fun lo J W hW hJ hY h0 => back_goes (n - 1) lo (w4.heap.size + 1) B l _ w HX.out J hY W ((hW.cell (p := ⟨w4.heap.size + 1, 0, none⟩) (by simp; omega)).trans HCX.out) ((HB6.out.mono hB).trans (hW.mono (by omega))) h0)
      (AtI l m w w3.heap.size w4.heap.size w6.heap.size)
      (fun pre A C h hb => h.below hb) (fun pre A lo o o' h hl hA ho => h.put hl hA ho (by omega) (by omega) (by omega)) h06
      (fun (i : Nat) a' _ => a' = { tmps := #[.agg #[.slice oa l.length ca], .int .i64 (m : Int), .pointer (some ⟨w.heap.size, 0, none⟩), .pointer (some ⟨w.heap.size + 1, 0, none⟩), .slice none 0 0, .int .i64 0, .int .i64 (prodL l : Int), .int .i64 0, .pointer (some ⟨w4.heap.size, 0, none⟩), .int .i64 (i : Int), elA w (.slice oa l.length ca) i, undef, .tuple #[.int .i64 (prodL l : Int), .int .i64 0], .agg #[.slice oa l.length ca], .tuple #[.int .i64 (prodL l : Int), .int .i64 0], .int .i64 (prodL l : Int), .int .i64 0, .int .i64 0, .bool false, undef, .int .i64 (m : Int), .bool (decide ((m : Int) < 0)), .bool (decide ((m : Int) < 0)), .int .i64 (m : Int), .int .i64 (prodL l : Int), .bool false, .bool (decide ((m : Int) < 0)), .pointer (some ⟨w.heap.size, 0, none⟩), .slice oa l.length ca, .int .i64 (l.length : Int), .slice (some ⟨w3.heap.size, 0, none⟩) l.length l.length, .pointer (some ⟨w.heap.size, 0, none⟩), .slice oa l.length ca, .func (.func 58) #[] #[.pointer (some ⟨w4.heap.size + 1, 0, none⟩)], .int .i64 (i : Int), elA w (.slice oa l.length ca) i, undef, undef, undef, undef, undef, undef, undef, undef, undef, undef, undef, undef, undef, undef, undef, undef], defers := [] })
      (fun x a' A lo o o' h hl hA ho => h)
      ?assign ?body ?done
    case assign =>
      rintro lo pre i V K hI hK
      gi_wp2
      exact hK _ _ (KeepsFrom.refl _ _) (Kb.refl _ _ _) hI (by simp)
    case body =>
      rintro lo pre i a' V hI hok rfl
      have hlen : pre.length + i + 1 = l.length := by have := congrArg List.length hok; simp at this; omega
      have hil : i < l.length := by omega
      have hsub : l.length - pre.length = i + 1 := by omega
      obtain ⟨bT, bN, ⟨f, hrow, hdone⟩, hpl, hbV, hzV⟩ := hI
      rw [hsub] at bN hdone
      obtain ⟨a, ha⟩ : ∃ a, l[i] = a := ⟨_, rfl⟩
      have hai : l[i]? = some a := by rw [← ha]; exact List.getElem?_eq_getElem hil
      have ham : a ∈ l := List.mem_of_getElem? hai
      have hal := hne.out a ham
      obtain ⟨b, off, oe, ce, hoa, hb, hel, hc, hr⟩ := HX.out.el hai
      obtain ⟨q, hq⟩ : ∃ q, (digs (l.drop (i + 1)) m).2 = q := ⟨_, rfl⟩
      obtain ⟨r, hrr⟩ : ∃ r, q % a.length = r := ⟨_, rfl⟩
      have hrl : r < a.length := by rw [← hrr]; exact Nat.mod_lt _ (by omega)
      have hdd := digs_drop l m i hil
      rw [ha, hq, hrr] at hdd
      rw [hq] at bN
      obtain ⟨u, hu⟩ : ∃ u, a[r] = u := ⟨_, rfl⟩
      have hgu : a.getD r zeroV = u := by rw [← hu]; simp [List.getD, hrl]
      have hum : u ∈ a := by rw [← hu]; exact List.getElem_mem hrl
      rw [hgu] at hdd
      have HDD := Lib.hid hdd
      have HDONE := Lib.hid hdone
      have HROW := Lib.hid hrow
      have HBV := Lib.hid hbV
      obtain ⟨oa3, ca3, hsl, _, _, hel3⟩ := (hr.later (hbV.mono hB)).slice
      cases hsl
      obtain ⟨b2, off2, oe2, ce2, rfl, hb2, c0, c1, c2, c3, hr2⟩ := hel3 r u (by rw [← hu]; exact List.getElem?_eq_getElem hrl)
      have hrem : Int.tmod (q : Int) (a.length : Int) = (r : Int) := by rw [← hrr]; rfl
      have HQW := Lib.hid (show wrap64 ((q : Int) / (a.length : Int)) = ((q / a.length : Nat) : Int) from by
        have h1 : q ≤ m := by rw [← hq, digs_two]; exact Nat.div_le_self _ _
        have h2 : q / a.length ≤ q := Nat.div_le_self _ _
        have h3 := HM60.out
        rw [← Int.natCast_ediv]
        generalize q / a.length = z at *
        exact IntWalk.wrap64_in (z : Int) (by omega))
      have hal0 : (a.length : Int) ≠ 0 := by omega
      have hr0 : (0 : Int) ≤ (r : Int) := by omega
      have hr1 : (r : Int) < (a.length : Int) := by omega
      have hi0 : (0 : Int) ≤ (i : Int) := by omega
      have hi1 : (i : Int) < (l.length : Int) := by omega
      have cT := bT.cell
      have cN := bN.cell
      have HBN := Lib.hid bN
      have HBT := Lib.hid bT
      have hgV := hrow.lt
      have HCL := Lib.hid (clone_any u (hfit a ham u hum) (.slice oe2 u.l.length ce2) V.drew B (hr2.later (below_drewN V B 1)) (by have := hbV.size; simp; omega))
      have HHR := Lib.hid hrr
      rw [hel]
      clear hai hel hc hr hel3 hr2 hdd hgu hum hu hrow hdone hok hbV bN bT hrr hq ha HCX h06
      gi_wp2
      refine wpIn_region_any (by kernel_rfl) ?_
      refine wpAnyIn_inRound lo (by kernel_rfl) _ _ _ _ ?_
      try (change wpAnyIn _ _ _ _ _ _ _ _ _ (World.drew _))
      refine wpAnyIn_take (i := 1) (v := ?_) rfl rfl (by kernel_rfl) (by kernel_rfl) (by kernel_rfl) (fun _ _ _ h => h) ⟨Or.inl ⟨by rfl, ?_⟩, fun _ => rfl⟩ ?_
      rotate_left
      · (intro w; go_simp; try with_reducible rfl)
      refine wpAnyIn_take (i := 2) (v := ?_) rfl rfl (by kernel_rfl) (by kernel_rfl) (by kernel_rfl) (fun _ _ _ h => h) ⟨Or.inl ⟨by rfl, ?_⟩, fun _ => rfl⟩ ?_
      rotate_left
      · (intro w; go_simp; try with_reducible rfl)
      refine wpAnyIn_take (i := 4) (v := ?_) rfl rfl (by kernel_rfl) (by kernel_rfl) (by kernel_rfl) (fun _ _ _ h => h) ⟨Or.inl ⟨by rfl, ?_⟩, fun _ => rfl⟩ ?_
      rotate_left
      · (intro w; go_simp; try with_reducible rfl)
      refine wpAnyIn_ready (rs := [0, 3]) (by kernel_rfl) (by simp) ?_
      refine AllReadyIn.cons rfl (fun K hK => ?_) ?_
      · go_simp
        refine hK _ _ ?_
        clear hK K
        refine wpAnyIn_ready (rs := [3]) (by kernel_rfl) (by simp) ?_
        refine AllReadyIn.cons rfl (fun K hK => ?_) ?_
        · go_simp
          refine hK _ _ ?_
          clear hK K
          refine wpAnyIn_take (i := 5) (v := ?_) rfl rfl (by kernel_rfl) (by kernel_rfl) (by kernel_rfl) (fun _ _ _ h => h) ⟨Or.inl ⟨by rfl, ?_⟩, fun _ => rfl⟩ ?_
          rotate_left
          · (intro w; go_simp; try with_reducible rfl)
          refine wpAnyIn_take (i := 6) (v := ?_) rfl rfl (by kernel_rfl) (by kernel_rfl) (by kernel_rfl) (fun _ _ _ h => h) ⟨Or.inl ⟨by rfl, ?_⟩, fun _ => rfl⟩ ?_
          rotate_left
          · (intro w; go_simp; try with_reducible rfl)
          refine wpAnyIn_ready (rs := [7]) (by kernel_rfl) (by simp) ?_
          refine AllReadyIn.cons rfl (fun K hK => ?_) ?_
          · go_simp
            refine hK _ _ ?_
            clear hK K
            refine wpAnyIn_ready (rs := [8]) (by kernel_rfl) (by simp) ?_
            refine AllReadyIn.cons rfl (fun K hK => ?_) ?_
            · go_simp
              gi_wp2_with (refine ⟨trivial, noD _, ?_⟩; gi_at_call 33; refine (callsIn_wide.2 HCL.out).mono ?_; rintro e w7 ⟨⟨sl7, rfl, hr7⟩, hb7⟩; obtain ⟨o7, c7, rfl, _⟩ := hr7.form; have hb7' := (below_drewN V V.heap.size 1).trans hb7; have HB7 := Lib.hid hb7'; have HR7 := Lib.hid hr7; have bT7 : Boxed w7 w4.heap.size 33 (.slice (some ⟨w3.heap.size, 0, none⟩) l.length l.length) := (hb7'.block _ HBT.out.lt).trans HBT.out; have bN7 : Boxed w7 (w.heap.size + 1) 2 (.int .i64 (q : Nat)) := (hb7'.block _ HBN.out.lt).trans HBN.out; have cT7 := bT7.cell; have cN7 := bN7.cell; have fN7 := bN7.frozen; have hrw : RowV w7 w3.heap.size l.length f := HROW.out.keep (hb7'.block _ hgV); obtain ⟨d0, hd0⟩ := hrw.there (o := i * 4) (by omega); obtain ⟨d1, hd1⟩ := hrw.there (o := i * 4 + 1) (by omega); obtain ⟨d2, hd2⟩ := hrw.there (o := i * 4 + 2) (by omega); obtain ⟨d3, hd3⟩ := hrw.there (o := i * 4 + 3) (by omega); have e0 := hrw.frozen (i * 4); have e1 := hrw.frozen (i * 4 + 1); have e2 := hrw.frozen (i * 4 + 2); have e3 := hrw.frozen (i * 4 + 3); have HRW := Lib.hid hrw; have HBN7 := Lib.hid bN7; have HBT7 := Lib.hid bT7; clear hr7 hb7 hb7' hrw bT7 bN7)
              refine wpAnyIn_take (i := 9) (v := ?_) rfl rfl (by kernel_rfl) (by kernel_rfl) (by kernel_rfl) (fun _ _ _ h => h) ⟨Or.inl ⟨by rfl, ?_⟩, fun _ => rfl⟩ ?_
              rotate_left
              · (intro w; go_simp; try with_reducible rfl)
              refine wpAnyIn_ready (rs := [10]) (by kernel_rfl) (by simp) ?_
              refine AllReadyIn.cons rfl (fun K hK => ?_) ?_
              · go_simp
                refine hK _ _ ?_
                clear hK K
                refine wpAnyIn_done (by kernel_rfl) ?_ _
                clear hd0 hd1 hd2 hd3 e0 e1 e2 e3 cT7
                gi_wp2
                rw [HQW.out]
                exact AtI_step (s := .slice o7 u.l.length c7) (q' := q / a.length) HBT.out HBN.out HROW.out HDONE.out HBV.out hzV hlen HDD.out HB7.out HR7.out hB (by omega) (by omega) (by omega) (by omega) (by omega)
              exact AllReadyIn.nil
            exact AllReadyIn.nil
          exact AllReadyIn.nil
        exact AllReadyIn.nil
      refine AllReadyIn.cons rfl (fun K hK => ?_) ?_
      · go_simp
        refine hK _ _ ?_
        clear hK K
        refine wpAnyIn_take (i := 5) (v := ?_) rfl rfl (by kernel_rfl) (by kernel_rfl) (by kernel_rfl) (fun _ _ _ h => h) ⟨Or.inl ⟨by rfl, ?_⟩, fun _ => rfl⟩ ?_
        rotate_left
        · (intro w; go_simp; try with_reducible rfl)
        refine wpAnyIn_take (i := 6) (v := ?_) rfl rfl (by kernel_rfl) (by kernel_rfl) (by kernel_rfl) (fun _ _ _ h => h) ⟨Or.inl ⟨by rfl, ?_⟩, fun _ => rfl⟩ ?_
        rotate_left
        · (intro w; go_simp; try with_reducible rfl)
        refine wpAnyIn_ready (rs := [0, 7]) (by kernel_rfl) (by simp) ?_
        refine AllReadyIn.cons rfl (fun K hK => ?_) ?_
        · go_simp
          refine hK _ _ ?_
          clear hK K
          refine wpAnyIn_ready (rs := [7]) (by kernel_rfl) (by simp) ?_
          refine AllReadyIn.cons rfl (fun K hK => ?_) ?_
          · go_simp
            refine hK _ _ ?_
            clear hK K
            refine wpAnyIn_ready (rs := [8]) (by kernel_rfl) (by simp) ?_
            refine AllReadyIn.cons rfl (fun K hK => ?_) ?_
            · go_simp
              gi_wp2_with (refine ⟨trivial, noD _, ?_⟩; gi_at_call 33; refine (callsIn_wide.2 HCL.out).mono ?_; rintro e w7 ⟨⟨sl7, rfl, hr7⟩, hb7⟩; obtain ⟨o7, c7, rfl, _⟩ := hr7.form; have hb7' := (below_drewN V V.heap.size 1).trans hb7; have HB7 := Lib.hid hb7'; have HR7 := Lib.hid hr7; have bT7 : Boxed w7 w4.heap.size 33 (.slice (some ⟨w3.heap.size, 0, none⟩) l.length l.length) := (hb7'.block _ HBT.out.lt).trans HBT.out; have bN7 : Boxed w7 (w.heap.size + 1) 2 (.int .i64 (q : Nat)) := (hb7'.block _ HBN.out.lt).trans HBN.out; have cT7 := bT7.cell; have cN7 := bN7.cell; have fN7 := bN7.frozen; have hrw : RowV w7 w3.heap.size l.length f := HROW.out.keep (hb7'.block _ hgV); obtain ⟨d0, hd0⟩ := hrw.there (o := i * 4) (by omega); obtain ⟨d1, hd1⟩ := hrw.there (o := i * 4 + 1) (by omega); obtain ⟨d2, hd2⟩ := hrw.there (o := i * 4 + 2) (by omega); obtain ⟨d3, hd3⟩ := hrw.there (o := i * 4 + 3) (by omega); have e0 := hrw.frozen (i * 4); have e1 := hrw.frozen (i * 4 + 1); have e2 := hrw.frozen (i * 4 + 2); have e3 := hrw.frozen (i * 4 + 3); have HRW := Lib.hid hrw; have HBN7 := Lib.hid bN7; have HBT7 := Lib.hid bT7; clear hr7 hb7 hb7' hrw bT7 bN7)
              refine wpAnyIn_take (i := 9) (v := ?_) rfl rfl (by kernel_rfl) (by kernel_rfl) (by kernel_rfl) (fun _ _ _ h => h) ⟨Or.inl ⟨by rfl, ?_⟩, fun _ => rfl⟩ ?_
              rotate_left
              · (intro w; go_simp; try with_reducible rfl)
              refine wpAnyIn_ready (rs := [10]) (by kernel_rfl) (by simp) ?_
              refine AllReadyIn.cons rfl (fun K hK => ?_) ?_
              · go_simp
                refine hK _ _ ?_
                clear hK K
                refine wpAnyIn_done (by kernel_rfl) ?_ _
                clear hd0 hd1 hd2 hd3 e0 e1 e2 e3 cT7
                gi_wp2
                rw [HQW.out]
                exact AtI_step (s := .slice o7 u.l.length c7) (q' := q / a.length) HBT.out HBN.out HROW.out HDONE.out HBV.out hzV hlen HDD.out HB7.out HR7.out hB (by omega) (by omega) (by omega) (by omega) (by omega)
              exact AllReadyIn.nil
            exact AllReadyIn.nil
          exact AllReadyIn.nil
        refine AllReadyIn.cons rfl (fun K hK => ?_) ?_
        · go_simp
          refine hK _ _ ?_
          clear hK K
          refine wpAnyIn_ready (rs := [0, 8]) (by kernel_rfl) (by simp) ?_
          refine AllReadyIn.cons rfl (fun K hK => ?_) ?_
          · go_simp
            refine hK _ _ ?_
            clear hK K
            refine wpAnyIn_ready (rs := [8]) (by kernel_rfl) (by simp) ?_
            refine AllReadyIn.cons rfl (fun K hK => ?_) ?_
            · go_simp
              gi_wp2_with (refine ⟨trivial, noD _, ?_⟩; gi_at_call 33; refine (callsIn_wide.2 HCL.out).mono ?_; rintro e w7 ⟨⟨sl7, rfl, hr7⟩, hb7⟩; obtain ⟨o7, c7, rfl, _⟩ := hr7.form; have hb7' := (below_drewN V V.heap.size 1).trans hb7; have HB7 := Lib.hid hb7'; have HR7 := Lib.hid hr7; have bT7 : Boxed w7 w4.heap.size 33 (.slice (some ⟨w3.heap.size, 0, none⟩) l.length l.length) := (hb7'.block _ HBT.out.lt).trans HBT.out; have bN7 : Boxed w7 (w.heap.size + 1) 2 (.int .i64 (q : Nat)) := (hb7'.block _ HBN.out.lt).trans HBN.out; have cT7 := bT7.cell; have cN7 := bN7.cell; have fN7 := bN7.frozen; have hrw : RowV w7 w3.heap.size l.length f := HROW.out.keep (hb7'.block _ hgV); obtain ⟨d0, hd0⟩ := hrw.there (o := i * 4) (by omega); obtain ⟨d1, hd1⟩ := hrw.there (o := i * 4 + 1) (by omega); obtain ⟨d2, hd2⟩ := hrw.there (o := i * 4 + 2) (by omega); obtain ⟨d3, hd3⟩ := hrw.there (o := i * 4 + 3) (by omega); have e0 := hrw.frozen (i * 4); have e1 := hrw.frozen (i * 4 + 1); have e2 := hrw.frozen (i * 4 + 2); have e3 := hrw.frozen (i * 4 + 3); have HRW := Lib.hid hrw; have HBN7 := Lib.hid bN7; have HBT7 := Lib.hid bT7; clear hr7 hb7 hb7' hrw bT7 bN7)
              refine wpAnyIn_take (i := 9) (v := ?_) rfl rfl (by kernel_rfl) (by kernel_rfl) (by kernel_rfl) (fun _ _ _ h => h) ⟨Or.inl ⟨by rfl, ?_⟩, fun _ => rfl⟩ ?_
              rotate_left
              · (intro w; go_simp; try with_reducible rfl)
              refine wpAnyIn_ready (rs := [10]) (by kernel_rfl) (by simp) ?_
              refine AllReadyIn.cons rfl (fun K hK => ?_) ?_
              · go_simp
                refine hK _ _ ?_
                clear hK K
                refine wpAnyIn_done (by kernel_rfl) ?_ _
                clear hd0 hd1 hd2 hd3 e0 e1 e2 e3 cT7
                gi_wp2
                rw [HQW.out]
                exact AtI_step (s := .slice o7 u.l.length c7) (q' := q / a.length) HBT.out HBN.out HROW.out HDONE.out HBV.out hzV hlen HDD.out HB7.out HR7.out hB (by omega) (by omega) (by omega) (by omega) (by omega)
              exact AllReadyIn.nil
            exact AllReadyIn.nil
          refine AllReadyIn.cons rfl (fun K hK => ?_) ?_
          · go_simp
            gi_wp2_with (refine ⟨trivial, noD _, ?_⟩; gi_at_call 33; refine (callsIn_wide.2 HCL.out).mono ?_; rintro e w7 ⟨⟨sl7, rfl, hr7⟩, hb7⟩; obtain ⟨o7, c7, rfl, _⟩ := hr7.form; have hb7' := (below_drewN V V.heap.size 1).trans hb7; have HB7 := Lib.hid hb7'; have HR7 := Lib.hid hr7; have bT7 : Boxed w7 w4.heap.size 33 (.slice (some ⟨w3.heap.size, 0, none⟩) l.length l.length) := (hb7'.block _ HBT.out.lt).trans HBT.out; have bN7 : Boxed w7 (w.heap.size + 1) 2 (.int .i64 (q : Nat)) := (hb7'.block _ HBN.out.lt).trans HBN.out; have cT7 := bT7.cell; have cN7 := bN7.cell; have fN7 := bN7.frozen; have hrw : RowV w7 w3.heap.size l.length f := HROW.out.keep (hb7'.block _ hgV); obtain ⟨d0, hd0⟩ := hrw.there (o := i * 4) (by omega); obtain ⟨d1, hd1⟩ := hrw.there (o := i * 4 + 1) (by omega); obtain ⟨d2, hd2⟩ := hrw.there (o := i * 4 + 2) (by omega); obtain ⟨d3, hd3⟩ := hrw.there (o := i * 4 + 3) (by omega); have e0 := hrw.frozen (i * 4); have e1 := hrw.frozen (i * 4 + 1); have e2 := hrw.frozen (i * 4 + 2); have e3 := hrw.frozen (i * 4 + 3); have HRW := Lib.hid hrw; have HBN7 := Lib.hid bN7; have HBT7 := Lib.hid bT7; clear hr7 hb7 hb7' hrw bT7 bN7)
            refine wpAnyIn_ready (rs := [0]) (by kernel_rfl) (by simp) ?_
            refine AllReadyIn.cons rfl (fun K hK => ?_) ?_
            · go_simp
              refine hK _ _ ?_
              clear hK K
              refine wpAnyIn_take (i := 9) (v := ?_) rfl rfl (by kernel_rfl) (by kernel_rfl) (by kernel_rfl) (fun _ _ _ h => h) ⟨Or.inl ⟨by rfl, ?_⟩, fun _ => rfl⟩ ?_
              rotate_left
              · (intro w; go_simp; try with_reducible rfl)
              refine wpAnyIn_ready (rs := [10]) (by kernel_rfl) (by simp) ?_
              refine AllReadyIn.cons rfl (fun K hK => ?_) ?_
              · go_simp
                refine hK _ _ ?_
                clear hK K
                refine wpAnyIn_done (by kernel_rfl) ?_ _
                clear hd0 hd1 hd2 hd3 e0 e1 e2 e3 cT7
                gi_wp2
                rw [HQW.out]
                exact AtI_step (s := .slice o7 u.l.length c7) (q' := q / a.length) HBT.out HBN.out HROW.out HDONE.out HBV.out hzV hlen HDD.out HB7.out HR7.out hB (by omega) (by omega) (by omega) (by omega) (by omega)
              exact AllReadyIn.nil
            exact AllReadyIn.nil
          exact AllReadyIn.nil
        exact AllReadyIn.nil
      exact AllReadyIn.nil
    case done =>
      rintro V ⟨bT, bN, ⟨f, hrow, hdone⟩, hpl, hbV, hzV⟩ hK
      have cT := bT.cell
      have HROW := Lib.hid hrow
      have HDONE := Lib.hid hdone
      have HBV := Lib.hid hbV
      clear bT bN hrow hdone hbV HCX h06
      gi_wp2
      refine ⟨by simp, .inl ⟨_, _, rfl, run_takeDeferred hK, ?_⟩⟩
      refine ⟨_, results_tmp2 rfl _ _ _, ⟨.slice (some ⟨w3.heap.size, 0, none⟩) l.length l.length, ret_pair rfl (by rw [HZ.out.1]; rfl), ?_⟩, HBV.out.trans (belowK_b (w := w6) (by omega) V w6.heap.size _ _ (Nat.le_refl _) hK rfl rfl)⟩
      have hk : l.length - (List.range l.length).reverse.length = 0 := by simp
      have h := RowV.repS (l := (digs l m).1) (S := fun b => b < V.heap.size) (cap := l.length) (by rw [digs_len]; exact HROW.out) HROW.out.lt (by rw [digs_len]; exact Nat.le_refl _) (by rw [digs_len]; exact hlm) (fun i v hv => by
        obtain ⟨s, h1, h2⟩ := HDONE.out i v hv (by rw [hk]; exact Nat.zero_le _)
        exact ⟨s, h1, h2.keep (fun b hb => hb.2) (fun _ _ => rfl)⟩)
      rw [digs_len] at h
      rw [HZ.out.2]
      exact (h.putObj hK rfl).rep (fun b hb => by simpa using hb)
  · have HZ := Lib.hid (atE_size (N := N) (by rw [hz]; decide : szE l ≠ 0))
    rw [hz, hzn]
    gi_wp2
    exact ⟨.tuple #[.slice none 0 0, .int .i64 11], by simp [results, Tryd.results20, go_sem], ⟨.slice none 0 0, by rw [HZ.out.1, hz], by rw [HZ.out.2]; exact Rep.nil⟩, HB3.out⟩

end Go.Proofs.YthnlkijkgnmbhaaDoor
