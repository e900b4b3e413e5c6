/-
  slices.SortFunc at a row of values, with the comparison of package value. Nothing is assumed.
-/
import Derived.Shelf.SlSortCmp.NoneTotal
import Derived.Shelf.Lay
import Derived.Ground.SlsfProg
import Derived.Test.YthnlkijkgnmbhaaDoorDrawn3
import Derived.Test.YthnlkijkgnmbhaaDoorDmRow
import Derived.Test.YthnlkijkgnmbhaaDoorOrder
import Derived.Sort.Grow
import Derived.Deep.Draws
namespace Go.Proofs
open Go.Shelf Go.RowKit Go.Lib Go.Sort
shelf_lay_g SlLaysF0.n6 Slsf 6 at Tryd 76 as Tryd.sortValue
end Go.Proofs
namespace Go.Proofs.YthnlkijkgnmbhaaDoor
open Go.RowKit Go.Shelf Go.Lib Go.Sort

theorem grow_of {S w' : World} (hb : Below S.heap.size S w') (hd : S.drawn ≤ w'.drawn) : ∃ (q : Nat) (os' : Array Obj), w' = grow (S.drewN q) os' := by
  refine ⟨w'.drawn - S.drawn, w'.heap.extract S.heap.size w'.heap.size, ?_⟩
  have h1 : w'.heap = S.heap ++ w'.heap.extract S.heap.size w'.heap.size := by
    apply Array.ext_getElem?
    intro i
    rcases Nat.lt_or_ge i S.heap.size with h | h
    · rw [Array.getElem?_append_left h]; exact hb.block i h
    · rw [Array.getElem?_append_right h, Array.getElem?_extract]
      have hs := hb.size
      split
      · congr 1; omega
      · rw [Array.getElem?_eq_none (by omega)]
  obtain ⟨heap, tape, drawn, os, output⟩ := w'
  have h2 : tape = S.tape := hb.tape
  have h3 : os = S.os := hb.os
  have h4 : output = S.output := hb.output
  simp only [] at h1 hd
  unfold grow World.drewN
  simp only [World.mk.injEq]
  exact ⟨h1, h2, by omega, h3, h4⟩

theorem compare_lays (a b : V) (sa sb : Value) (w : World) (B : Nat) (hra : Rep w B sa a.l) (hrb : Rep w B sb b.l) (hB : B ≤ w.heap.size) :
    Calls Tryd.prog 77 #[.agg #[.int .i64 a.t, .int .i64 a.n, .string a.s, sa], .agg #[.int .i64 b.t, .int .i64 b.n, .string b.s, sb]] w fun e w' => e = .returned (.int .i64 (a.cmp b)) ∧ ∃ (q : Nat) (os' : Array Obj), w' = grow (w.drewN q) os' :=
  (calls_drawn (compare_any a b sa sb w B hra hrb hB) (fun w' h => by cases h.1)).mono fun _ _ ⟨⟨he, hb⟩, hd⟩ => ⟨he, grow_of hb hd⟩

theorem V.cmp_self (a : V) : a.cmp a = 0 := by have := V.anti a a; omega
/-- A value that Compare can be asked of. -/
abbrev Sn (W0 : World) (n₀ : Nat) := { x : V × Value // Rep W0 n₀ x.2 x.1.l }
def encS {W0 : World} {n₀ : Nat} (x : Sn W0 n₀) : List Value := V.cs x.1
def cfS {W0 : World} {n₀ : Nat} (x y : Sn W0 n₀) : Int := x.1.1.cmp y.1.1
theorem ltS {W0 : World} {n₀ : Nat} (x y : Sn W0 n₀) : ltOf cfS x y = decide (x.1.1.cmp y.1.1 < 0) := rfl
theorem swoS (W0 : World) (n₀ : Nat) : SWO (ltOf (cfS (W0 := W0) (n₀ := n₀))) where
  irrefl x := by rw [ltS, V.cmp_self]; rfl
  trans x y z h1 h2 := by
    rw [ltS, decide_eq_true_eq] at *
    obtain ⟨r1, r2, r3, q1, q2, q3, q4⟩ := V.Q3 x.1.1 y.1.1 z.1.1
    unfold R3 at r1 r2 r3
    have := q3 (by omega) (by omega)
    omega
  ntrans x y z h1 h2 := by
    rw [ltS, decide_eq_false_iff_not] at *
    obtain ⟨r1, r2, r3, q1, q2, q3, q4⟩ := V.Q3 x.1.1 y.1.1 z.1.1
    unfold R3 at r1 r2 r3
    by_cases e1 : x.1.1.cmp y.1.1 = 0
    · have := q1 e1; omega
    by_cases e2 : y.1.1.cmp z.1.1 = 0
    · have := q2 e2; omega
    have := q4 (by omega) (by omega)
    omega

theorem below_sortWorld {α : Type} [Inhabited α] (enc : α → List Value) (w : World) (blk off m : Nat) (dk : Array α) (os : Array Obj) (n₀ : Nat) (hb : n₀ ≤ blk) (hn : n₀ ≤ w.heap.size) : Below n₀ w (sortWorldK enc 4 w blk off m dk os) := by
  refine ⟨rfl, rfl, rfl, ?_, fun k hk => ?_⟩
  · simp [sortWorldK, grow, putRowK, Sort.ahead]
  · have hne : blk ≠ k := by omega
    show ((w.heap.modify blk _) ++ os)[k]? = w.heap[k]?
    rw [Array.getElem?_append_left (by simp; omega), Array.getElem?_modify, if_neg hne]

set_option maxHeartbeats 1600000 in
/-- The row's values sorted: the cells of each place told. -/
theorem sortFunc_any {W0 : World} {n₀ : Nat} (l : List V) (f : Nat → Option (V × Value)) (hne : 0 < l.length) (hl : l.length ≤ 1000) (w : World) (g cap : Nat) (hrow : RowV w g l.length f) (hf : ∀ i v, l[i]? = some v → ∃ s, f i = some (v, s) ∧ Rep W0 n₀ s v.l)
    (hg : n₀ ≤ g) (hB : Below n₀ W0 w) (hn : n₀ ≤ w.heap.size) :
    Calls Tryd.prog 76 #[.slice (some ⟨g, 0, none⟩) l.length cap, .func (.func 77) #[] #[]] w fun e w' => e = .returned (.tuple #[]) ∧
      (∃ l' : List V, l'.Perm l ∧ l'.Pairwise (fun a b => a.cmp b ≤ 0) ∧ l'.length = l.length ∧ ∀ i u, l'[i]? = some u → ∃ s, w'.cell? ⟨g, i * 4, none⟩ = some (.int .i64 u.t) ∧ w'.cell? ⟨g, i * 4 + 1, none⟩ = some (.int .i64 u.n) ∧ w'.cell? ⟨g, i * 4 + 2, none⟩ = some (.string u.s) ∧
        w'.cell? ⟨g, i * 4 + 3, none⟩ = some s ∧ Rep w' n₀ s u.l) ∧ Below n₀ w w' := by
  have hgl := hrow.lt
  have hsn : ∀ i, i < l.length → ∃ x : Sn W0 n₀, f i = some x.1 ∧ l[i]? = some x.1.1 := fun i hi => by
    obtain ⟨s, h1, h2⟩ := hf i _ (List.getElem?_eq_getElem hi)
    exact ⟨⟨(l[i], s), h2⟩, h1, List.getElem?_eq_getElem hi⟩
  haveI : Inhabited (Sn W0 n₀) := ⟨(hsn 0 hne).choose⟩
  obtain ⟨F, hF⟩ : ∃ F : Nat → Sn W0 n₀, ∀ i, i < l.length → f i = some (F i).1 ∧ l[i]? = some (F i).1.1 := by
    refine ⟨fun i => if h : i < l.length then (hsn i h).choose else default, fun i hi => ?_⟩
    simp only [hi, dif_pos]
    exact (hsn i hi).choose_spec
  obtain ⟨d, hd⟩ : ∃ d : Array (Sn W0 n₀), d = ((List.range l.length).map F).toArray := ⟨_, rfl⟩
  have hds : d.size = l.length := by rw [hd]; simp
  have hdm : d.toList.map (fun x => x.1.1) = l := by
    rw [hd, List.toList_toArray, List.map_map]
    apply List.ext_getElem?
    intro i
    by_cases hi : i < l.length
    · rw [List.getElem?_map, List.getElem?_range hi]
      exact (hF i hi).2.symm
    · rw [List.getElem?_eq_none (by simp; omega), List.getElem?_eq_none (by omega)]
  have hdi : ∀ i (h : i < l.length), f i = some d[i]!.1 := fun i h => by
    rw [getElem!_pos d i (by omega)]
    subst hd
    simpa using (hF i h).1
  have hcs : ∀ i, i < l.length → ∀ c, c < 4 → w.cell? ⟨g, i * 4 + c, none⟩ = some ((encS d[i]!)[c]!) := fun i hi c hc => by
    obtain ⟨k0, k1, k2, k3⟩ := hrow.cells hi (hdi i hi)
    have hcase : c = 0 ∨ c = 1 ∨ c = 2 ∨ c = 3 := by omega
    rcases hcase with rfl | rfl | rfl | rfl
    · exact k0
    · exact k1
    · exact k2
    · exact k3
  have hH : HoldsK encS 4 w g 0 d := fun j hj => by
    rw [size_flatK, hds] at hj
    refine ⟨?_, hrow.frozen _⟩
    rw [get_flatK _ _ _ _ (by rw [hds]; exact hj), Nat.zero_add]
    have h := hcs (j / 4) (by omega) (j % 4) (by omega)
    rw [show j / 4 * 4 + j % 4 = j by omega] at h
    exact h
  have hcmp : CmpLays Tryd.prog 77 #[] (encS (W0 := W0) (n₀ := n₀)) 4 cfS g 0 d.size w := fun m os dk _ x y => by
    have hb := below_sortWorld (encS (W0 := W0) (n₀ := n₀)) w g 0 m dk os n₀ hg hn
    exact compare_lays x.1.1 y.1.1 x.1.2 y.1.2 _ n₀ (x.2.later (hB.trans hb)) (y.2.later (hB.trans hb)) (Nat.le_trans hn hb.size)
  have eg : ∀ args w, (callFunc 77 args).run Tryd.prog w = .ok (.enter 77 args) w := enters_of Tryd.func77 (by kernel_rfl) rfl
  have hcon := AnyQ.slices_SortFunc Tryd.sortValue 4 Tryd.isAgg48 Tryd.sizeOf48 (encS (W0 := W0) (n₀ := n₀)) (fun _ => rfl) (fun x v hv => by
    obtain ⟨oa, c, he, _⟩ := x.2.slice
    simp only [encS, V.cs, List.mem_cons, List.not_mem_nil, or_false] at hv
    rcases hv with rfl | rfl | rfl | rfl
    · rfl
    · rfl
    · rfl
    · rw [he]; rfl) cfS (swoS W0 n₀) 77 #[] g 0 cap d w eg hcmp hH hgl (by omega)
  change Calls Tryd.prog 76 _ _ _ at hcon
  rw [hds] at hcon
  refine hcon.mono ?_
  rintro e w' ⟨rfl, d', n, os, hp, hs, rfl⟩
  have hps : d'.size = l.length := hp.1.trans hds
  have hb := below_sortWorld (encS (W0 := W0) (n₀ := n₀)) w g 0 n d' os n₀ hg hn
  have hperm : d'.toList.Perm d.toList := by
    have h := hp.2.2
    rw [← hds, Array.extract_size, ← hp.1, Array.extract_size] at h
    exact h
  refine ⟨rfl, ⟨d'.toList.map (fun x => x.1.1), ?_, ?_, by simp [hps], fun i u hu => ?_⟩, hb⟩
  · have h := hperm.map (fun x => x.1.1)
    rwa [hdm] at h
  · rw [List.pairwise_iff_getElem]
    intro i j hi hj hij
    simp at hi hj
    have h := hs i j (Nat.zero_le _) hij (by omega)
    rw [ltS, decide_eq_false_iff_not, getElem!_pos d' i hi, getElem!_pos d' j hj] at h
    simp only [List.getElem_map, Array.getElem_toList]
    have := V.anti d'[j].1.1 d'[i].1.1
    omega
  · have hi := (List.getElem?_eq_some_iff.1 hu).1
    simp at hi
    have hil : i < l.length := by omega
    have hu' : u = d'[i]!.1.1 := by
      rw [List.getElem?_map, Array.getElem?_toList, Array.getElem?_eq_getElem hi] at hu
      rw [getElem!_pos d' i hi]
      simpa using hu.symm
    subst hu'
    have hx : Rep W0 n₀ d'[i]!.1.2 d'[i]!.1.1.l := d'[i]!.2
    have hHK : Holds id (putRow id (Sort.ahead w n) g 0 (flatK encS 4 d')) g 0 (flatK encS 4 d') := holds_putRow id (Sort.ahead w n) g 0 (flatK encS 4 d) _ (fun j hj => hH j hj) (by rw [size_flatK, size_flatK, hp.1])
    have hcell : ∀ c, c < 4 → (sortWorldK encS 4 w g 0 n d' os).cell? ⟨g, i * 4 + c, none⟩ = some ((encS d'[i]!)[c]!) := fun c hc => by
      have h := (hHK (i * 4 + c) (by rw [size_flatK]; omega)).1
      rw [get_flatK _ _ _ _ (by omega), Nat.zero_add, show (i * 4 + c) / 4 = i by omega, show (i * 4 + c) % 4 = c by omega] at h
      unfold sortWorldK
      rw [cell?_grow _ _ _ (by simpa [putRowK, Sort.ahead] using hgl)]
      exact h
    exact ⟨d'[i]!.1.2, hcell 0 (by omega), hcell 1 (by omega), hcell 2 (by omega), hcell 3 (by omega), hx.later (hB.trans hb)⟩

theorem sortFunc_nil (oa : Option Addr) (cap : Nat) (w : World) :
    Calls Tryd.prog 76 #[.slice oa 0 cap, .func (.func 77) #[] #[]] w fun e w' => e = .returned (.tuple #[]) ∧ w' = w :=
  AnyF.slices_SortFunc_none Tryd.sortValue oa cap _ w

end Go.Proofs.YthnlkijkgnmbhaaDoor
