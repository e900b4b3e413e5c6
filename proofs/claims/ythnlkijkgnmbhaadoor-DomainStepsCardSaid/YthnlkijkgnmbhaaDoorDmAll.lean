/-
  All of package domain. Nothing is assumed.
-/
import Derived.Test.YthnlkijkgnmbhaaDoorDmIt
import Derived.Test.YthnlkijkgnmbhaaDoorDmAcc
import Derived.Test.YthnlkijkgnmbhaaDoorDmAt
import Derived.Test.YthnlkijkgnmbhaaDoorDmSmall
namespace Go.Proofs.YthnlkijkgnmbhaaDoor
open Go.RowKit Go.Shelf

attribute [local go_sem] Oper.semAt_some

def allT (l : List (List V)) (k : Nat) : List (List V) := (List.range k).map (tupL l)
theorem allT_succ (l : List (List V)) (k : Nat) : allT l (k + 1) = allT l k ++ [tupL l k] := by unfold allT; rw [List.range_succ, List.map_append]; rfl
theorem allT_len (l : List (List V)) (k : Nat) : (allT l k).length = k := by unfold allT; simp
/-- What All returns: the error, the tuples. -/
def allE (l : List (List V)) : Int := if largeD l = true then 11 else 0
def allL (l : List (List V)) : List (List V) := if largeD l = true then [] else allT l (prodL l)

/-- What stands in All's loop: the list's box at tb; what it holds is of the call's own, behind the iterator's block g. -/
structure AlI (l : List (List V)) (w : World) (tb g : Nat) (v : Value) (k : Nat) (W : World) : Prop where
  bt : Boxed W tb 22 v
  acc : Acc encA 33 W 0 (g + 1) v (allT l k)
  bl : Below w.heap.size w W
theorem AlI.keep {l : List (List V)} {w : World} {tb g : Nat} {v : Value} {k : Nat} {A C : World} (h : AlI l w tb g v k A) (hw : w.heap.size ≤ g) (ht : tb ≠ g) (hk : ∀ b, b < A.heap.size → b ≠ g → C.heap[b]? = A.heap[b]?) (hb : Below g A C) : AlI l w tb g v k C :=
  ⟨(hk _ h.bt.lt ht).trans h.bt, h.acc.keep hb.size (fun b h1 h2 => hk b h2 (by omega)), h.bl.trans (hb.mono hw)⟩
theorem AlI.put {l : List (List V)} {w : World} {tb g : Nat} {v : Value} {k : Nat} {A : World} {lo : Nat} (h : AlI l w tb g v k A) (hw : w.heap.size ≤ lo) (ht : tb ≠ lo) (hg : lo < g) (o' : Obj) : AlI l w tb g v k (A.putObj lo o') :=
  ⟨(World.putObj_heap_other ht).trans h.bt, h.acc.keep (by simp) (fun b h1 _ => World.putObj_heap_other (by omega)), h.bl.trans ((Below.refl _ A).grown (grownBy_putObj' A lo o') (by have := h.bl.size; omega) (fun k e => by cases e; omega))⟩
def AlX (l : List (List V)) (w : World) (tb g k : Nat) (W : World) : Prop := ∃ v, AlI l w tb g v k W
theorem Acc.cells {α : Type} {E : Enc α} {e : TypeId} {w : World} {B0 base : Nat} {v : Value} {l : List α} (h : Acc E e w B0 base v l) : ∀ (j : Nat) (o : Obj), v.ownBlock = some j → w.heap[j]? = some o → o.isCells = true := by
  intro j o hj ho
  obtain ⟨ps, _, how, _⟩ := h
  rcases how.2 with ⟨rfl, _⟩ | ⟨g, cap, cur, rfl, _, hh, _⟩
  · cases hj
  · cases hj
    rw [hh] at ho
    cases ho
    rfl

set_option maxRecDepth 100000 in
set_option maxHeartbeats 2000000 in
theorem all_in (n : Nat) (hn : 30 ≤ n) (l : List (List V)) (x : Value) (w : World) (B : Nat) (hx : LAx w B x l) (hB : B ≤ w.heap.size) (hl : l.length ≤ 1000) (hla : ∀ a, a ∈ l → a.length ≤ 1000) (hfit : ∀ a, a ∈ l → ∀ v, v ∈ a → v.fits = true) :
    CallsIn Fence.wide n Tryd.prog 11 #[.agg #[x]] w fun e w' => (∃ sl, e = .returned (.tuple #[sl, .int .i64 (allE l)]) ∧ LAx w' w'.heap.size sl (allL l)) ∧ Below w.heap.size w w' := by
  have h1 : 1 ≤ n := by omega
  have noD : ∀ k : Nat, (Fence.wide.depth.isSome = true → 1 ≤ k) := fun k h => by cases h
  have HX := Lib.hid hx
  obtain ⟨oa, ca, rfl, _, hlm⟩ := hx.form
  clear hx
  obtain ⟨w1, hw1⟩ : ∃ w1, w1 = w.alloc (.cells #[.slice oa l.length ca] 24) := ⟨_, rfl⟩
  have hb1 : Below w.heap.size w w1 := by rw [hw1]; exact below1 _ _
  have hs1 : w1.heap.size = w.heap.size + 1 := by rw [hw1]; simp
  have bD1 : Boxed w1 w.heap.size 24 (.slice oa l.length ca) := by rw [hw1]; exact Boxed.new w _ _
  have HLG := Lib.hid (isLarge_any l _ w1 B (HX.out.later (hb1.mono hB)) (by omega))
  have cD1 := bD1.cell
  rw [hw1] at cD1
  refine callsIn_of_wp_marks Tryd.func11 rfl trivial ?_ rfl
  simp only [Tryd.ntmps11, List.size_toArray, List.length_cons, List.length_nil, Nat.reduceAdd, Nat.reduceSub, Array.replicate_succ, Array.replicate_zero, List.push_toArray, List.append_toArray, List.nil_append, List.cons_append]
  gi_wp2
  rw [← hw1]
  refine ⟨trivial, ?_⟩
  gi_at_call 24
  refine (callsIn_wide.2 HLG.out).mono ?_
  clear HLG
  rintro e w2 ⟨rfl, hb2⟩
  have HB2 := Lib.hid (hb1.trans (hb2.mono (by omega)))
  have hs2 := hb2.size
  have bD2 : Boxed w2 w.heap.size 24 (.slice oa l.length ca) := (hb2.block _ (by omega)).trans bD1
  clear hb1 hb2 hw1 cD1 bD1
  by_cases hlg : largeD l = true
  · have HE := Lib.hid (show allE l = 11 ∧ allL l = [] from ⟨if_pos hlg, if_pos hlg⟩)
    gi_wp2
    exact ⟨.tuple #[.slice none 0 0, .int .i64 11], by simp [results, Tryd.results11, go_sem], ⟨.slice none 0 0, by rw [HE.out.1], by rw [HE.out.2]; exact LAx.nil⟩, HB2.out⟩
  · have HE := Lib.hid (show allE l = 0 ∧ allL l = allT l (prodL l) from ⟨if_neg hlg, if_neg hlg⟩)
    have HP := Lib.hid (show prodL l ≤ 4096 from by unfold largeD at hlg; simpa using hlg)
    have hlg' : largeD l = false := by simpa using hlg
    obtain ⟨w3, hw3⟩ : ∃ w3, w3 = w2.alloc (.cells #[.slice none 0 0] 22) := ⟨_, rfl⟩
    have hb3 : Below w2.heap.size w2 w3 := by rw [hw3]; exact below1 _ _
    have hs3 : w3.heap.size = w2.heap.size + 1 := by rw [hw3]; simp
    have bT3 : Boxed w3 w2.heap.size 22 (.slice none 0 0) := by rw [hw3]; exact Boxed.new w2 _ _
    have bD3 : Boxed w3 w.heap.size 24 (.slice oa l.length ca) := (hb3.block _ (by omega)).trans bD2
    have cD3 := bD3.cell
    have HTU := Lib.hid (tuples_any (.slice oa l.length ca) oa l.length ca rfl w3)
    rw [hw3] at cD3
    clear hlg
    gi_wp2
    rw [← hw3]
    refine ⟨trivial, ?_⟩
    gi_at_call 25
    refine (callsIn_wide.2 HTU.out).mono ?_
    clear HTU
    rintro e w4 ⟨rfl, hw4⟩
    have hb4 : Below w3.heap.size w3 w4 := by rw [hw4]; exact below1 _ _
    have hs4 : w4.heap.size = w3.heap.size + 1 := by rw [hw4]; simp
    have bX4 : Boxed w4 w3.heap.size 24 (.slice oa l.length ca) := by rw [hw4]; exact Boxed.new w3 _ _
    have bT4 : Boxed w4 w2.heap.size 22 (.slice none 0 0) := (hb4.block _ (by omega)).trans bT3
    have HB4 := Lib.hid ((HB2.out.trans (hb3.mono (by omega))).trans (hb4.mono (by omega)))
    have HBX := Lib.hid bX4
    have HBT := Lib.hid bT4
    clear hw4 hw3 cD3 bT3 bD3 bD2 bX4 bT4 hb3 hb4
    gi_wp2
    refine wpIn_range_priv rfl h1 (gf := 38) (lb := #[.pointer (some ⟨w2.heap.size + 1, 0, none⟩)]) rfl trivial (enters_of Tryd.func38 (by kernel_rfl) rfl)
      (fun s : Value => #[s]) (fun _ => rfl) (OkT l) (fun MS => MS.length = prodL l) (Kt B (w2.heap.size + 1)) (fun h k => h.trans k) (fun g W o o' hg hW => Kt.put (by omega) (by omega) W o o' hg hW)
      (fun lo J W hW hWs hJ hY h0 => tuples1_in (n - 1) lo (w2.heap.size + 1) B (by omega) l _ w HX.out (by omega) hl hla hfit J W ((hW.block _ (by omega)).trans (by have := HBX.out; rw [hs3] at this; exact this)) ((HB4.out.mono hB).trans (hW.mono (by omega))) hJ hY h0)
      (fun g pre W => AlX l w w2.heap.size g pre.length W)
      (fun g p A C hg ⟨v, h⟩ hk hb => ⟨v, h.keep (by omega) (by omega) hk hb⟩) (fun g p A o' hg ⟨v, h⟩ => ⟨v, h.put (by omega) (by omega) (by omega) o'⟩)
      (fun g A hg hA => ⟨_, (hA.block _ HBT.out.lt).trans HBT.out, Acc.nil _ _ _ _ _, HB4.out.trans (hA.mono (by omega))⟩)
      (fun g pre s a' A => a' = { tmps := #[.agg #[.slice oa l.length ca], .pointer (some ⟨w.heap.size, 0, none⟩), .slice none 0 0, .int .i64 0, .pointer (some ⟨w2.heap.size, 0, none⟩), s, .agg #[.slice oa l.length ca], .bool false, .agg #[.slice oa l.length ca], .func (.func 38) #[] #[.pointer (some ⟨w2.heap.size + 1, 0, none⟩)], s, undef, undef, undef, undef, undef], defers := [] } ∧ (pre.length < prodL l ∧ g < A.heap.size) ∧ ∀ v, Boxed A w2.heap.size 22 v → RepS A (SB 0 (g + 1) A.heap.size v.ownBlock) s (tupL l pre.length))
      (fun g p s a' A o o' ⟨h1, h2, h3⟩ ho hc => ⟨h1, by simpa using h2, fun v hv => ((h3 v ((World.putObj_heap_other (by omega)).symm.trans hv)).putObj ho hc).keep (fun b hb => by simpa using hb) (fun _ _ => rfl)⟩)
      ?assign ?body ?done
    case assign =>
      rintro lo g pre s A0 A K hg hg0 ⟨v0, hI0⟩ ⟨v, hI⟩ hbA ⟨hrs, hlt⟩ hK
      gi_wp2
      refine hK _ _ (KeepsFrom.refl _ _) ⟨Below.refl _ _, rfl, rfl⟩ ⟨v, hI⟩ ⟨by simp, ⟨hlt, Nat.lt_of_lt_of_le hg0 hbA.size⟩, fun u hu => ?_⟩
      have h2 : Boxed A w2.heap.size 22 v0 := (hbA.block _ hI0.bt.lt).trans hI0.bt
      have h3 := hu.cell
      rw [h2.cell] at h3
      cases h3
      exact hrs.keep (fun b hb => ⟨.inr (by omega), hb.2, fun e => by have := (hI0.acc.lt b e).2; omega⟩) (fun _ _ => rfl)
    case body =>
      rintro lo g pre s a' A hg ⟨v, hI⟩ ⟨rfl, ⟨hlt, hgA⟩, hrs⟩
      have hrs := hrs v hI.bt
      obtain ⟨ao, cp, hvf⟩ := hI.acc.form
      rw [allT_len] at hvf
      subst hvf
      obtain ⟨os, cs, hsf, _⟩ := hrs.form
      obtain ⟨tl, htl⟩ : ∃ tl, (tupL l pre.length).length = tl := ⟨_, rfl⟩
      rw [htl] at hsf
      subst hsf
      obtain ⟨k, hk⟩ : ∃ k, pre.length = k := ⟨_, rfl⟩
      rw [hk] at hI hrs hlt
      rw [show (pre ++ [Value.slice os tl cs]).length = k + 1 by simp [hk]]
      have cT := hI.bt.cell
      have fT := hI.bt.frozen
      have HI := Lib.hid hI
      have HRS := Lib.hid hrs
      have HLT := Lib.hid hlt
      have HK := Lib.hid hk
      have HTL := Lib.hid htl
      obtain ⟨i0, hi, hz0, hz1, hz2⟩ := info_parts infoList
      clear hI hrs hlt hk htl
      have hsA := HI.out.bl.size
      have htA := HI.out.bt.lt
      gi_wp2_with (gi_at_builtin; refine Acc.appendIn (E := encA) (e := 33) Tryd.underlying22 hi hz0 hz1 hz2 rfl (by decide) (by rfl) _ _ (by rfl) 0 (g + 1) (.slice ao k cp) (allT l k) (by rfl) (HI.out.acc.later (below1 _ _)) ⟨A.heap.size, 0, none⟩ 1 (tupL l k) (.slice os tl cs) (by rfl) rfl (fun j u hu => new_cells A [.slice os tl cs] _ j u hu) ((HRS.out.keep (fun b hb => ⟨hb.1, by have := hb.2.1; simp; omega, hb.2.2⟩) (fun b hb => (below1 A _).block b hb.2.1))) (by rw [allT_len]; have := HLT.out; have := HP.out; omega) (by simp; omega) ?_; intro v3 w5 hA3 hg3; obtain ⟨ao3, cp3, hvf3⟩ := hA3.form; rw [List.length_append, allT_len] at hvf3; subst hvf3; have hbt := hg3.block w2.heap.size (by simp; omega) (fun e => by have := (HI.out.acc.lt _ e.symm).1; omega); have HBT5 := Lib.hid (show Boxed w5 w2.heap.size 22 (.slice ao k cp) from hbt.trans ((Below.heap_alloc _ _ _ (by have := HI.out.bt.lt; omega)).trans HI.out.bt)); have cT5 := HBT5.out.cell; have fT5 := HBT5.out.frozen; have HA3 := Lib.hid hA3; have HG3 := Lib.hid hg3; clear hA3 hg3 hbt)
      have hs5 := HG3.out.size
      have hnb : ∀ q, (Value.slice ao k cp).ownBlock = some q → g + 1 ≤ q := fun q e => (HI.out.acc.lt q e).1
      have hbk : ∀ b, b < A.heap.size → b ≠ w2.heap.size → (Value.slice ao k cp).ownBlock ≠ some b → (w5.setCell ⟨w2.heap.size, 0, none⟩ (.slice ao3 (k + 1) cp3)).heap[b]? = A.heap[b]? := fun b h1 h2 h3 =>
        (heap_setCell_other _ _ _ _ h2).trans ((HG3.out.block b (by simp; omega) (fun e => h3 e.symm)).trans (Below.heap_alloc _ _ _ h1))
      have hbw : ∀ B', B' ≤ w2.heap.size → B' ≤ g → Below B' A (w5.setCell ⟨w2.heap.size, 0, none⟩ (.slice ao3 (k + 1) cp3)) := fun B' h1 h2 =>
        ((((Below.refl B' A).alloc (by omega) _).grown HG3.out (by simp; omega) (fun q e => by have := hnb q e; omega))).setCell (p := ⟨w2.heap.size, 0, none⟩) h1 _
      have hko : KeepsOthers A (w5.setCell ⟨w2.heap.size, 0, none⟩ (.slice ao3 (k + 1) cp3)) := ((KeepsOthers.alloc A _).trans (KeepsOthers.of_grownBy HG3.out (fun j o hj ho => by
        have hlt := (HI.out.acc.lt j hj).2
        exact HI.out.acc.cells j o hj ((Below.heap_alloc _ _ _ hlt).symm.trans ho)))).trans (KeepsOthers.setCell _ _ _)
      refine ⟨hko.from _, ⟨hbw B (by omega) (by omega), hbk _ (by omega) (by omega) (fun e => by have := hnb _ e; omega), hbk _ hgA (by omega) (fun e => by have := hnb _ e; omega)⟩, _, HBT5.out.set _, ?_, HI.out.bl.trans (hbw _ (by omega) (by omega))⟩
      rw [allT_succ]
      exact HA3.out.setCell (Nat.zero_le _) (by omega)
    case done =>
      rintro g MS W hg hfin ⟨v, hI⟩ hK
      rw [hfin] at hI
      have cT := hI.bt.cell
      obtain ⟨ao, cp, hvf⟩ := hI.acc.form
      rw [allT_len] at hvf
      subst hvf
      have HI := Lib.hid hI
      clear hI
      gi_wp2
      refine ⟨by simp, .inl ⟨_, _, rfl, run_takeDeferred hK, ?_⟩⟩
      have hI2 := HI.out.put (lo := w4.heap.size) (by omega) (by omega) (by omega) (.deferred none)
      refine ⟨_, results_tmp2 rfl _ _ _, ⟨.slice ao (prodL l) cp, by rw [HE.out.1]; rfl, ?_⟩, hI2.bl⟩
      rw [HE.out.2]
      exact hI2.acc.axes (by rw [allT_len]; have := HP.out; omega)

theorem all_any (l : List (List V)) (x : Value) (w : World) (B : Nat) (hx : LAx w B x l) (hB : B ≤ w.heap.size) (hl : l.length ≤ 1000) (hla : ∀ a, a ∈ l → a.length ≤ 1000) (hfit : ∀ a, a ∈ l → ∀ v, v ∈ a → v.fits = true) :
    Calls Tryd.prog 11 #[.agg #[x]] w fun e w' => (∃ sl, e = .returned (.tuple #[sl, .int .i64 (allE l)]) ∧ LAx w' w'.heap.size sl (allL l)) ∧ Below w.heap.size w w' :=
  callsIn_wide.1 (all_in 30 (Nat.le_refl _) l x w B hx hB hl hla hfit)

end Go.Proofs.YthnlkijkgnmbhaaDoor
