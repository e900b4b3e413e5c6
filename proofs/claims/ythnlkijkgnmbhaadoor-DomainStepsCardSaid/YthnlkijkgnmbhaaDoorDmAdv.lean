/-
  advance of package domain: the next tuple's places. Nothing is assumed.
-/
import Derived.Test.YthnlkijkgnmbhaaDoorDmRtw
import Derived.Test.YthnlkijkgnmbhaaDoorDmBase
import Derived.Stop.RegionWithIn
namespace Go.Proofs.YthnlkijkgnmbhaaDoor
open Go.RowKit Go.Shelf

attribute [local go_sem] Oper.semAt_some

/-! ### Places in memory -/

/-- The block is the row of the places. -/
def PlR (w : World) (g : Nat) (q : List Nat) : Prop := w.heap[g]? = some (.cells (q.map fun p : Nat => Value.int .i64 (p : Int)).toArray 3 (0, 0))
theorem PlR.keep {w w' : World} {g : Nat} {q : List Nat} (h : PlR w g q) (hb : w'.heap[g]? = w.heap[g]?) : PlR w' g q := hb.trans h
theorem PlR.lt {w : World} {g : Nat} {q : List Nat} (h : PlR w g q) : g < w.heap.size := (Array.getElem?_eq_some_iff.1 h).1
theorem PlR.cell {w : World} {g i p : Nat} {q : List Nat} (h : PlR w g q) (hi : q[i]? = some p) : w.cell? ⟨g, i, none⟩ = some (.int .i64 (p : Int)) := by
  unfold World.cell?
  rw [show w.heap[g]? = _ from h]
  simp [hi]
theorem PlR.frozen {w : World} {g : Nat} {q : List Nat} (h : PlR w g q) (i : Nat) : w.frozen? ⟨g, i, none⟩ = false := by
  unfold World.frozen?
  rw [show w.heap[g]? = _ from h]
  simp
theorem PlR.set {w : World} {g : Nat} {q : List Nat} (h : PlR w g q) (i p : Nat) : PlR (w.setCell ⟨g, i, none⟩ (.int .i64 (p : Int))) g (q.set i p) := by
  have h1 := heap_setCell_same w g i _ _ (.int .i64 (p : Int)) h
  unfold PlR
  rw [h1]
  simp [List.map_set]
theorem PlR.setI {w : World} {g : Nat} {q : List Nat} (h : PlR w g q) (i p : Nat) : PlR (w.setCell ⟨g, i, none⟩ (.int .i64 ((p : Int) + 1))) g (q.set i (p + 1)) := h.set i (p + 1)
theorem PlR.set0 {w : World} {g : Nat} {q : List Nat} (h : PlR w g q) (i : Nat) : PlR (w.setCell ⟨g, i, none⟩ (.int .i64 0)) g (q.set i 0) := h.set i 0
theorem PlR.lints {w : World} {g B c : Nat} {q : List Nat} (h : PlR w g q) (hg : g < B) (hm : q.length ≤ 9223372036854775807) : LInts w B (.slice (some ⟨g, 0, none⟩) q.length c) (q.map Int.ofNat) := by
  refine ⟨some ⟨g, 0, none⟩, c, by rw [List.length_map], by rw [List.length_map]; exact hm, fun i a ha => ?_⟩
  rw [List.getElem?_map] at ha
  obtain ⟨p, hp, rfl⟩ := Option.map_eq_some_iff.1 ha
  exact ⟨g, 0, .int .i64 (p : Int), rfl, hg, by rw [Nat.zero_add]; exact h.cell hp, rfl⟩

/-! ### adv, from the last axis on -/

theorem adv_len : ∀ (l : List (List V)) (q : List Nat), q.length = l.length → (adv l q).1.length = l.length
  | [], _, _ => rfl
  | _ :: _, [], h => by simp at h
  | a :: l, p :: q, h => by
    rw [adv]
    split
    · simp [adv_len l q (by simpa using h)]
    · split
      · simp [adv_len l q (by simpa using h)]
      · simp [adv_len l q (by simpa using h)]
theorem adv_step {l : List (List V)} {q : List Nat} {i p : Nat} {a : List V} (ha : l[i]? = some a) (hp : q[i]? = some p) (h : (adv (l.drop (i + 1)) (q.drop (i + 1))).2 = false) :
    adv (l.drop i) (q.drop i) = if p + 1 < a.length then ((p + 1) :: (adv (l.drop (i + 1)) (q.drop (i + 1))).1, true) else (0 :: (adv (l.drop (i + 1)) (q.drop (i + 1))).1, false) := by
  obtain ⟨hi, rfl⟩ := List.getElem?_eq_some_iff.1 ha
  obtain ⟨hj, rfl⟩ := List.getElem?_eq_some_iff.1 hp
  rw [List.drop_eq_getElem_cons hi, List.drop_eq_getElem_cons hj, adv, h]
  simp
theorem adv_up {l : List (List V)} {q r : List Nat} : ∀ {i : Nat}, i ≤ l.length → q.length = l.length → adv (l.drop i) (q.drop i) = (r, true) → adv l q = (q.take i ++ r, true) := by
  intro i
  induction i generalizing r with
  | zero => intro _ _ h; simpa using h
  | succ i ih =>
    intro hi hq h
    have hil : i < l.length := by omega
    have hiq : i < q.length := by omega
    have h2 : adv (l.drop i) (q.drop i) = (q[i] :: r, true) := by
      rw [List.drop_eq_getElem_cons hil, List.drop_eq_getElem_cons hiq, adv, h]
      simp
    rw [ih (by omega) hq h2, List.take_succ_eq_append_getElem hiq]
    simp only [List.append_assoc, List.cons_append, List.nil_append]

/-- What stands when the axes from the last one on, as many as pre is long, have been passed. -/
def AdQ (l : List (List V)) (q : List Nat) (k : Nat) : List Nat := q.take (l.length - k) ++ (adv (l.drop (l.length - k)) (q.drop (l.length - k))).1
structure AdK (w W : World) (g : Nat) : Prop where
  kp : ∀ b, b < w.heap.size → b ≠ g → W.heap[b]? = w.heap[b]?
  sz : w.heap.size + 3 ≤ W.heap.size
  bl : Below g w W
structure AdI (l : List (List V)) (q : List Nat) (w : World) (g n c : Nat) (pre : List Nat) (W : World) : Prop where
  bp : Boxed W w.heap.size 34 (.slice (some ⟨g, 0, none⟩) n c)
  br : Boxed W (w.heap.size + 1) 4 (.bool false)
  row : PlR W g (AdQ l q pre.length)
  no : (adv (l.drop (l.length - pre.length)) (q.drop (l.length - pre.length))).2 = false
  le : pre.length ≤ l.length
  kk : AdK w W g
structure AdX (l : List (List V)) (q : List Nat) (w : World) (g : Nat) (W : World) : Prop where
  br : Boxed W (w.heap.size + 1) 4 (.bool true)
  row : PlR W g (adv l q).1
  yes : (adv l q).2 = true
  kk : AdK w W g

theorem AdK.below {w A C : World} {g : Nat} (h : AdK w A g) (hg : g < w.heap.size) (hb : Below A.heap.size A C) : AdK w C g := ⟨fun b h1 h2 => (hb.block b (by have := h.sz; omega)).trans (h.kp b h1 h2), Nat.le_trans h.sz hb.size, h.bl.trans (hb.mono (by have := h.sz; omega))⟩
theorem AdK.cell {w A : World} {g b o : Nat} (h : AdK w A g) (hg : g < w.heap.size) (hb : b = g ∨ w.heap.size ≤ b) (v : Value) : AdK w (A.setCell ⟨b, o, none⟩ v) g :=
  ⟨fun b' h1 h2 => (heap_setCell_other _ _ _ _ (by show b' ≠ b; omega)).trans (h.kp b' h1 h2), by rw [World.size_setCell]; exact h.sz, h.bl.setCell (p := ⟨b, o, none⟩) (by show g ≤ b; omega) v⟩
theorem AdK.put {w A : World} {g lo : Nat} (h : AdK w A g) (hg : g < w.heap.size) (hl : w.heap.size + 3 ≤ lo) (o' : Obj) : AdK w (A.putObj lo o') g := ⟨fun b h1 h2 => (World.putObj_heap_other (by omega)).trans (h.kp b h1 h2), by simpa using h.sz, h.bl.grown (grownBy_putObj' A lo o') (by have := h.sz; omega) (fun k e => by cases e; omega)⟩
theorem AdI.below {l : List (List V)} {q : List Nat} {w : World} {g n c : Nat} {pre : List Nat} {A C : World} (h : AdI l q w g n c pre A) (hg : g < w.heap.size) (hb : Below A.heap.size A C) : AdI l q w g n c pre C :=
  ⟨(hb.block _ h.bp.lt).trans h.bp, (hb.block _ h.br.lt).trans h.br, h.row.keep (hb.block _ h.row.lt), h.no, h.le, h.kk.below hg hb⟩
theorem AdI.put {l : List (List V)} {q : List Nat} {w : World} {g n c lo : Nat} {pre : List Nat} {A : World} (h : AdI l q w g n c pre A) (hg : g < w.heap.size) (hl : w.heap.size + 3 ≤ lo) (o' : Obj) : AdI l q w g n c pre (A.putObj lo o') :=
  ⟨(World.putObj_heap_other (by omega)).trans h.bp, (World.putObj_heap_other (by omega)).trans h.br, h.row.keep (World.putObj_heap_other (by omega)), h.no, h.le, h.kk.put hg hl o'⟩
theorem AdX.put {l : List (List V)} {q : List Nat} {w : World} {g lo : Nat} {A : World} (h : AdX l q w g A) (hg : g < w.heap.size) (hl : w.heap.size + 3 ≤ lo) (o' : Obj) : AdX l q w g (A.putObj lo o') :=
  ⟨(World.putObj_heap_other (by omega)).trans h.br, h.row.keep (World.putObj_heap_other (by omega)), h.yes, h.kk.put hg hl o'⟩

/-- The place of the axis at hand is as it was; the round's two ways out. -/
theorem adq_at {l : List (List V)} {q : List Nat} {i k p : Nat} (hq : q.length = l.length) (hk : k + i + 1 = l.length) (hp : q[i]? = some p) : (AdQ l q k)[i]? = some p := by
  have hi := (List.getElem?_eq_some_iff.1 hp).1
  unfold AdQ
  rw [show l.length - k = i + 1 by omega, List.getElem?_append_left (by rw [List.length_take]; omega), List.getElem?_take, if_pos (by omega)]
  exact hp
theorem adq_set {l : List (List V)} {q : List Nat} {i k p : Nat} (hq : q.length = l.length) (hk : k + i + 1 = l.length) (v : Nat) (hp : q[i]? = some p) :
    (AdQ l q k).set i v = q.take i ++ v :: (adv (l.drop (i + 1)) (q.drop (i + 1))).1 := by
  have hi := (List.getElem?_eq_some_iff.1 hp).1
  unfold AdQ
  rw [show l.length - k = i + 1 by omega, List.take_succ_eq_append_getElem hi, List.append_assoc, List.set_append_right _ _ (by rw [List.length_take]; omega), List.length_take, Nat.min_eq_left (by omega), Nat.sub_self]
  rfl
theorem adq_stop {l : List (List V)} {q : List Nat} {i k p : Nat} {a : List V} (hq : q.length = l.length) (hk : k + i + 1 = l.length) (ha : l[i]? = some a) (hp : q[i]? = some p)
    (hno : (adv (l.drop (l.length - k)) (q.drop (l.length - k))).2 = false) (hlt : p + 1 < a.length) : adv l q = ((AdQ l q k).set i (p + 1), true) := by
  rw [adq_set hq hk _ hp]
  rw [show l.length - k = i + 1 by omega] at hno
  have h := adv_step ha hp hno
  rw [if_pos hlt] at h
  exact adv_up (by omega) hq h
theorem adq_go {l : List (List V)} {q : List Nat} {i k p : Nat} {a : List V} (hq : q.length = l.length) (hk : k + i + 1 = l.length) (ha : l[i]? = some a) (hp : q[i]? = some p)
    (hno : (adv (l.drop (l.length - k)) (q.drop (l.length - k))).2 = false) (hlt : ¬ p + 1 < a.length) : AdQ l q (k + 1) = ((AdQ l q k).set i (p + 1)).set i 0 ∧ (adv (l.drop (l.length - (k + 1))) (q.drop (l.length - (k + 1)))).2 = false := by
  rw [List.set_set, adq_set hq hk _ hp]
  rw [show l.length - k = i + 1 by omega] at hno
  have h := adv_step ha hp hno
  rw [if_neg hlt] at h
  rw [show l.length - (k + 1) = i by omega]
  unfold AdQ
  rw [show l.length - (k + 1) = i by omega, h]
  exact ⟨rfl, rfl⟩

set_option maxRecDepth 100000 in
set_option maxHeartbeats 2000000 in
theorem advance_in (n : Nat) (hn : 10 ≤ n) (l : List (List V)) (q : List Nat) (x : Value) (g c : Nat) (w : World) (B : Nat) (hx : LAx w B x l) (hB : B ≤ g) (hg : g < w.heap.size) (hr : PlR w g q) (hq : q.length = l.length)
    (hin : ∀ (i : Nat) (a : List V) (p : Nat), l[i]? = some a → q[i]? = some p → p ≤ 100000) :
    CallsIn Fence.wide n Tryd.prog 39 #[.slice (some ⟨g, 0, none⟩) l.length c, x] w fun e w' => e = .returned (.bool (adv l q).2) ∧ PlR w' g (adv l q).1 ∧ (∀ b, b < w.heap.size → b ≠ g → w'.heap[b]? = w.heap[b]?) ∧ Below g w w' := by
  have h1 : 1 ≤ n := by omega
  have noD : ∀ k : Nat, (Fence.wide.depth.isSome = true → 1 ≤ k) := fun k h => by cases h
  have HX := Lib.hid hx
  obtain ⟨oa, ca, rfl, _, hlm⟩ := hx.form
  clear hx
  obtain ⟨w2, hw2⟩ : ∃ w2, w2 = (w.alloc (.cells #[.slice (some ⟨g, 0, none⟩) l.length c] 34)).alloc (.cells #[.bool false] 4) := ⟨_, rfl⟩
  have hb2 : Below w.heap.size w w2 := by rw [hw2]; exact below2 _ _ _
  have hs2 : w2.heap.size = w.heap.size + 2 := by rw [hw2]; simp
  have bP : Boxed w2 w.heap.size 34 (.slice (some ⟨g, 0, none⟩) l.length c) := by rw [hw2]; exact (Boxed.new w _ _).alloc _
  have bR : Boxed w2 (w.heap.size + 1) 4 (.bool false) := by
    rw [hw2]
    have h := Boxed.new (w.alloc (.cells #[.slice (some ⟨g, 0, none⟩) l.length c] 34)) 4 (.bool false)
    rwa [World.size_alloc] at h
  have HBK := Lib.hid (backward_any oa l.length ca w2)
  refine callsIn_of_wp_marks Tryd.func39 rfl trivial ?_ rfl
  simp only [Tryd.ntmps39, List.size_toArray, List.length_cons, List.length_nil, Nat.reduceAdd, Nat.reduceSub, Array.replicate_succ, Array.replicate_zero, List.push_toArray, List.append_toArray, List.nil_append, List.cons_append]
  gi_wp2
  rw [← hw2]
  refine ⟨trivial, ?_⟩
  gi_at_call 34
  refine (callsIn_wide.2 HBK.out).mono ?_
  rintro e w6 ⟨rfl, hw6⟩
  have hb6 : Below w2.heap.size w2 w6 := by rw [hw6]; exact below1 _ _
  have hs6 : w6.heap.size = w2.heap.size + 1 := by rw [hw6]; simp
  have bX6 : Boxed w6 w2.heap.size 22 (.slice oa l.length ca) := by rw [hw6]; exact Boxed.new w2 _ _
  have bP6 : Boxed w6 w.heap.size 34 (.slice (some ⟨g, 0, none⟩) l.length c) := (hb6.block _ (by omega)).trans bP
  have bR6 : Boxed w6 (w.heap.size + 1) 4 (.bool false) := (hb6.block _ (by omega)).trans bR
  have hb6' := hb2.trans (hb6.mono (by omega))
  have HB6 := Lib.hid hb6'
  have hr6 : PlR w6 g q := hr.keep (hb6'.block _ hg)
  have h06 : AdI l q w g l.length c [] w6 := by
    refine ⟨bP6, bR6, ?_, ?_, Nat.zero_le _, ⟨fun b h1 h2 => hb6'.block b h1, by omega, hb6'.mono (by omega)⟩⟩
    · unfold AdQ
      rw [List.length_nil, Nat.sub_zero, ← hq, List.take_length, hq, List.drop_length, adv, List.append_nil]
      exact hr6
    · rw [List.length_nil, Nat.sub_zero, List.drop_length, adv]
  have HCX := Lib.hid bX6.cell
  rw [hs2] at HCX
  clear hw6 hw2 bP bR bX6 bP6 bR6 hr6 hb6 hb2 hr
  gi_wp2
  refine wpIn_range_two rfl h1 (gf := 58) (lb := #[.pointer (some ⟨w.heap.size + 2, 0, none⟩)]) rfl trivial (enters_of Tryd.func58 (by kernel_rfl) rfl)
    (fun i : Nat => #[.int .i64 (i : Int), elA w (.slice oa l.length ca) i]) (fun _ => rfl) (fun pre i => pre ++ i :: (List.range i).reverse = (List.range l.length).reverse) (List.range l.length).reverse (Kb B (w.heap.size + 2)) (fun h k => h.trans k) (Kb.put (by omega) (by omega))
    (fun lo J Jx W hW hJ hY h0 => back_in (n - 1) lo (w.heap.size + 2) B l _ w HX.out J Jx hY W ((hW.cell (p := ⟨w.heap.size + 2, 0, none⟩) (by simp; omega)).trans HCX.out) ((HB6.out.mono (by omega)).trans (hW.mono (by omega))) h0)
    (AdI l q w g l.length c) (fun _ W => AdX l q w g W)
    (fun pre A C h hb => h.below hg hb) (fun pre A lo o o' h hl hA ho => h.put hg (by omega) o') (fun pre A lo o o' h hl hA ho => h.put hg (by omega) o') h06
    (fun (i : Nat) a' _ => a' = { tmps := #[.slice (some ⟨g, 0, none⟩) l.length c, .slice oa l.length ca, .pointer (some ⟨w.heap.size, 0, none⟩), undef, .pointer (some ⟨w.heap.size + 1, 0, none⟩), .int .i64 (i : Int), elA w (.slice oa l.length ca) i, .slice oa l.length ca, .func (.func 58) #[] #[.pointer (some ⟨w.heap.size + 2, 0, none⟩)], .int .i64 (i : Int), elA w (.slice oa l.length ca) i, undef, undef, undef, undef, undef, undef, undef, undef, undef, undef, undef, undef, undef, undef, undef, undef], defers := [] })
    (fun x a' A lo o o' h hl hA ho => h)
    ?assign ?body ?done ?stop
  case assign =>
    rintro lo pre i V K hI hK
    gi_wp2
    exact hK _ _ (KeepsFrom.refl _ _) (Kb.refl _ _ _) hI (by simp)
  case body =>
    rintro lo pre i a' V hI hok rfl
    have hlen : pre.length + i + 1 = l.length := by have := congrArg List.length hok; simp at this; omega
    have hil : i < l.length := by omega
    obtain ⟨a, ha⟩ : ∃ a, l[i] = a := ⟨_, rfl⟩
    have hai : l[i]? = some a := by rw [← ha]; exact List.getElem?_eq_getElem hil
    have hiq : i < q.length := by omega
    obtain ⟨p, hp⟩ : ∃ p, q[i] = p := ⟨_, rfl⟩
    have hpi : q[i]? = some p := by rw [← hp]; exact List.getElem?_eq_getElem hiq
    obtain ⟨b, off, oe, ce, hoa, hb, hel, _, hra⟩ := HX.out.el hai
    have hp5 := hin i a p hai hpi
    have cP := hI.bp.cell
    have cG := hI.row.cell (adq_at hq hlen hpi)
    have fG := hI.row.frozen i
    have cR := hI.br.cell
    have fR := hI.br.frozen
    have hi0 : (0 : Int) ≤ (i : Int) := by omega
    have hi1 : (i : Int) < (l.length : Int) := by omega
    have hw1 : wrap64 ((p : Int) + 1) = (p : Int) + 1 := IntWalk.wrap64_in _ (by omega)
    have hr1 := hI.row.set i (p + 1)
    have HI := Lib.hid hI
    have HAI := Lib.hid hai
    have HPI := Lib.hid hpi
    have HLEN := Lib.hid hlen
    have HQ := Lib.hid hq
    have HIN := Lib.hid hin
    have hne : w.heap.size ≠ g := by omega
    have hne1 : g ≠ w.heap.size + 1 := by omega
    have hsV := hI.kk.sz
    rw [hel]
    clear hI hra hai ha hp hpi hok hel hr1 HCX h06 hlen hq hin hil hiq hp5 hs2 hs6 hn hlm hb6' HBK
    by_cases hlt : p + 1 < a.length
    · have HLT := Lib.hid hlt
      clear hlt
      have hltI : (p : Int) + 1 < (a.length : Int) := by have := HLT.out; omega
      gi_wp2
      have hst := adq_stop HQ.out HLEN.out HAI.out HPI.out HI.out.no HLT.out
      refine ⟨((KeepsOthers.setCell _ _ _).trans (KeepsOthers.setCell _ _ _)).from _, Boxed.set _ ((heap_setCell_other _ _ _ _ (by show w.heap.size + 1 ≠ g; omega)).trans HI.out.br), ?_, by rw [hst], (HI.out.kk.cell hg (.inl rfl) _).cell hg (.inr (by omega)) _⟩
      rw [hst]
      exact (HI.out.row.setI i p).keep (heap_setCell_other _ _ _ _ (by show g ≠ w.heap.size + 1; omega))
    · have HLT := Lib.hid hlt
      clear hlt
      have hltI : ¬ (p : Int) + 1 < (a.length : Int) := by have := HLT.out; omega
      gi_wp2
      obtain ⟨hgo, hno⟩ := adq_go HQ.out HLEN.out HAI.out HPI.out HI.out.no HLT.out
      have hpl : (pre ++ [i]).length = pre.length + 1 := by simp
      refine ⟨((KeepsOthers.setCell _ _ _).trans (KeepsOthers.setCell _ _ _)).from _, ⟨((Below.refl _ V).setCell (p := ⟨g, i, none⟩) hB _).setCell (p := ⟨g, i, none⟩) hB _, ?_⟩, ?_, ?_, ?_, by rw [hpl]; exact hno, by rw [hpl]; have := HLEN.out; omega, (HI.out.kk.cell hg (.inl rfl) _).cell hg (.inl rfl) _⟩
      · exact (heap_setCell_other _ _ _ _ (by show w.heap.size + 2 ≠ g; omega)).trans (heap_setCell_other _ _ _ _ (by show w.heap.size + 2 ≠ g; omega))
      · exact (heap_setCell_other _ _ _ _ hne).trans ((heap_setCell_other _ _ _ _ hne).trans HI.out.bp)
      · exact (heap_setCell_other _ _ _ _ (Ne.symm hne1)).trans ((heap_setCell_other _ _ _ _ (Ne.symm hne1)).trans HI.out.br)
      · rw [hpl, hgo]
        exact (HI.out.row.setI i p).set0 i
  case done =>
    rintro V hI hK
    have cR := hI.br.cell
    have fR := hI.br.frozen
    have HI := Lib.hid hI
    have hsV := hI.kk.sz
    clear hI HCX h06 hb6' HBK
    have hK2 : (V.setCell ⟨w.heap.size + 1, 0, none⟩ (.bool false)).heap[w6.heap.size]? = some (.deferred (some [])) := (heap_setCell_other _ _ _ _ (by show w6.heap.size ≠ w.heap.size + 1; omega)).trans hK
    gi_wp2
    refine ⟨by simp, .inl ⟨_, _, rfl, run_takeDeferred hK2, ?_⟩⟩
    have hk : l.length - (List.range l.length).reverse.length = 0 := by simp
    have hno := HI.out.no
    have hrw := HI.out.row
    unfold AdQ at hrw
    rw [hk] at hno hrw
    simp only [List.drop_zero, List.take_zero, List.nil_append] at hno hrw
    have hbx : Boxed (V.setCell ⟨w.heap.size + 1, 0, none⟩ (.bool false)) (w.heap.size + 1) 4 (.bool false) := HI.out.br.set _
    have hc := (show Boxed ((V.setCell ⟨w.heap.size + 1, 0, none⟩ (.bool false)).putObj w6.heap.size (.deferred none)) (w.heap.size + 1) 4 (.bool false) from (World.putObj_heap_other (by omega)).trans hbx).cell
    refine ⟨.bool false, by simp [results, Tryd.results39, go_sem, hc], by rw [hno], ?_, ?_, ?_⟩
    · exact (hrw.keep (heap_setCell_other _ _ _ _ (by show g ≠ w.heap.size + 1; omega))).keep (World.putObj_heap_other (by omega))
    · exact fun b h1 h2 => (World.putObj_heap_other (by omega)).trans ((heap_setCell_other _ _ _ _ (by show b ≠ w.heap.size + 1; omega)).trans (HI.out.kk.kp b h1 h2))
    · exact (HI.out.kk.bl.setCell (p := ⟨w.heap.size + 1, 0, none⟩) (by show g ≤ w.heap.size + 1; omega) _).grown (grownBy_putObj' _ w6.heap.size _) (by simp; omega) (fun k e => by cases e; omega)
  case stop =>
    rintro pre V hI hK
    have HI := Lib.hid hI
    have hsV := hI.kk.sz
    clear hI HCX h06 hb6' HBK
    gi_wp2
    refine ⟨by simp, .inl ⟨_, _, rfl, run_takeDeferred hK, ?_⟩⟩
    have hc := (show Boxed (V.putObj w6.heap.size (.deferred none)) (w.heap.size + 1) 4 (.bool true) from (World.putObj_heap_other (by omega)).trans HI.out.br).cell
    refine ⟨.bool true, by simp [results, Tryd.results39, go_sem, hc], by rw [HI.out.yes], HI.out.row.keep (World.putObj_heap_other (by omega)), fun b h1 h2 => (World.putObj_heap_other (by omega)).trans (HI.out.kk.kp b h1 h2), HI.out.kk.bl.grown (grownBy_putObj' _ w6.heap.size _) (by omega) (fun k e => by cases e; omega)⟩

end Go.Proofs.YthnlkijkgnmbhaaDoor
