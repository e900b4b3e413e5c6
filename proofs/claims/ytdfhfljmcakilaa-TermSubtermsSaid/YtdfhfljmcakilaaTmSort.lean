/-
  slices.SortFunc at a row of subterms. Nothing is assumed.
-/
import Derived.Shelf.SlSortCmp.WholeK
import Derived.Shelf.Lay
import Derived.Ground.SlsfProg
import Derived.Test.YtdfhfljmcakilaaTmGrow
import Derived.Test.YtdfhfljmcakilaaTmIterG
import Derived.Test.YtdfhfljmcakilaaTmSubs
namespace Go.Proofs
open Go.Shelf Go.RowKit Go.Lib Go.Sort
shelf_lay_g SlLaysF0.n6 Slsf 6 at Try 54 as Try.sortTerm
end Go.Proofs
namespace Go.Proofs.Ytdfhfljmcakilaa
open Go.RowKit Go.Shelf Go.Lib Go.Sort

/-- A subterm that Compare can be asked of. -/
abbrev Sn (W0 : World) (n₀ : Nat) := { x : Nd W0 n₀ // x.tm.size ≤ 1000 }
def encS {W0 : World} {n₀ : Nat} (x : Sn W0 n₀) : List Value := [.int .i64 x.1.tm.r, x.1.1.2]
def cfS {W0 : World} {n₀ : Nat} (x y : Sn W0 n₀) : Int := x.1.tm.cmp y.1.tm

theorem ltS {W0 : World} {n₀ : Nat} (x y : Sn W0 n₀) : ltOf cfS x y = decide (x.1.tm.cmp y.1.tm < 0) := rfl
theorem swoS (W0 : World) (n₀ : Nat) : SWO (ltOf (cfS (W0 := W0) (n₀ := n₀))) where
  irrefl x := by rw [ltS, T.cmp_self]; rfl
  trans x y z h1 h2 := by
    rw [ltS, decide_eq_true_eq] at *
    exact T.cmp_lt_le h1 (Int.le_of_lt h2)
  ntrans x y z h1 h2 := by
    rw [ltS, decide_eq_false_iff_not] at *
    intro h
    have a1 : y.1.tm.cmp x.1.tm ≤ 0 := by rw [T.cmp_swap x.1.tm y.1.tm]; omega
    have a2 : z.1.tm.cmp y.1.tm ≤ 0 := by rw [T.cmp_swap y.1.tm z.1.tm]; omega
    have a3 := T.cmp_trans a2 a1
    rw [T.cmp_swap x.1.tm z.1.tm] at a3
    omega

theorem below_sortWorld {α : Type} [Inhabited α] (enc : α → List Value) (w : World) (blk off m : Nat) (dk : Array α) (os : Array Obj) (n₀ : Nat) (hb : n₀ ≤ blk) (hn : n₀ ≤ w.heap.size) : Below n₀ w (sortWorldK enc 2 w blk off m dk os) := by
  refine ⟨rfl, rfl, rfl, ?_, fun k hk => ?_⟩
  · simp [sortWorldK, grow, putRowK, Sort.ahead]
  · have hne : blk ≠ k := by omega
    show ((w.heap.modify blk _) ++ os)[k]? = w.heap[k]?
    rw [Array.getElem?_append_left (by simp; omega), Array.getElem?_modify, if_neg hne]

theorem sorted_frozen {α : Type} [Inhabited α] (enc : α → List Value) (w : World) (blk off m : Nat) (dk : Array α) (os : Array Obj) (hb : blk < w.heap.size) (o : Nat) : (sortWorldK enc 2 w blk off m dk os).frozen? ⟨blk, o, none⟩ = w.frozen? ⟨blk, o, none⟩ := by
  unfold sortWorldK
  rw [frozen?_grow _ _ _ (by simpa [putRowK, Sort.ahead] using hb)]
  unfold putRowK
  rw [frozen?_putRow]
  rfl

set_option maxHeartbeats 1600000 in
theorem sortFunc_any {W0 : World} {n₀ : Nat} (ys : List (Nd W0 n₀)) (hne : 0 < ys.length) (hsz : ∀ y, y ∈ ys → y.tm.size ≤ 1000) (hl : ys.length ≤ 1000) (w : World) (g cap : Nat)
    (hown : w.ownsRow n₀ 24 2 (.slice (some ⟨g, 0, none⟩) ys.length cap) ys.length (flatT (ys.map fun x => (x.tm.r, x.1.2)))) (hB : Below n₀ W0 w) (hn : n₀ ≤ w.heap.size) :
    Calls Try.prog 54 #[.slice (some ⟨g, 0, none⟩) ys.length cap, .func (.func 19) #[] #[]] w fun e w' => e = .returned (.tuple #[]) ∧
      ∃ l : List T, l.Perm (ys.map Nd.tm) ∧ l.Pairwise (fun a b => a.cmp b ≤ 0) ∧ l.length = ys.length ∧ RowL w' (fun q => q < n₀) g l ∧ Below n₀ w w' := by
  haveI : Inhabited (Sn W0 n₀) := ⟨⟨ys[0], hsz _ (List.getElem_mem hne)⟩⟩
  obtain ⟨hg0, hgl⟩ := hown.lt g rfl
  obtain ⟨d, hd⟩ : ∃ d : Array (Sn W0 n₀), d = (ys.attach.map fun y => (⟨y.1, hsz y.1 y.2⟩ : Sn W0 n₀)).toArray := ⟨_, rfl⟩
  have hds : d.size = ys.length := by rw [hd]; simp
  have hdm : d.toList.map (fun x => x.1) = ys := by
    rw [hd, List.toList_toArray, List.map_map]
    exact List.attach_map_subtype_val ys
  have hdi : ∀ i (h : i < ys.length), d[i]!.1 = ys[i] := fun i h => by
    rw [getElem!_pos d i (by omega)]
    subst hd
    simp
  have hH : HoldsK encS 2 w g 0 d := fun j hj => by
    rw [size_flatK, hds] at hj
    refine ⟨?_, hown.frozenAt _⟩
    rw [get_flatK _ _ _ _ (by rw [hds]; exact hj), Nat.zero_add]
    have hi : j / 2 < ys.length := by omega
    obtain ⟨m0, m1⟩ := flatT_at (ys.map fun x => (x.tm.r, x.1.2)) (j / 2) _ (by rw [List.getElem?_map, List.getElem?_eq_getElem hi]; rfl)
    have hc := hown.cellAt j (by omega)
    rw [hc]
    have e := hdi (j / 2) hi
    rcases Nat.mod_two_eq_zero_or_one j with hm | hm
    · rw [show j / 2 * 2 = j by omega] at m0
      rw [m0, hm]
      simp [encS, e]
    · rw [show j / 2 * 2 + 1 = j by omega] at m1
      rw [m1, hm]
      simp [encS, e]
  have hcmp : CmpLays Try.prog 19 #[] (encS (W0 := W0) (n₀ := n₀)) 2 cfS g 0 d.size w := fun m os dk _ x y => by
    have hb := below_sortWorld (encS (W0 := W0) (n₀ := n₀)) w g 0 m dk os n₀ hg0 hn
    exact compare_lays x.1.tm y.1.tm x.1.1.2 y.1.1.2 _ n₀ (x.1.2.later (hB.trans hb)) (y.1.2.later (hB.trans hb)) (Nat.le_trans hn hb.size) x.2 y.2
  have eg : ∀ args w, (callFunc 19 args).run Try.prog w = .ok (.enter 19 args) w := enters_of Try.func19 (by kernel_rfl) rfl
  have hcon := AnyQ.slices_SortFunc Try.sortTerm 2 Try.isAgg24 Try.sizeOf24 (encS (W0 := W0) (n₀ := n₀)) (fun _ => rfl) (fun x v hv => by
    simp [encS] at hv
    have hx : Rep W0 n₀ x.1.1.2 x.1.1.1.l := x.1.2
    obtain ⟨oa, c, he, _⟩ := hx.form
    rcases hv with rfl | rfl
    · rfl
    · rw [he]; rfl) cfS (swoS W0 n₀) 19 #[] g 0 cap d w eg hcmp hH hgl (by omega)
  change Calls Try.prog 54 _ _ _ at hcon
  rw [hds] at hcon
  refine hcon.mono ?_
  rintro e w' ⟨rfl, d', n, os, hp, hs, rfl⟩
  have hps : d'.size = ys.length := hp.1.trans hds
  have hb := below_sortWorld (encS (W0 := W0) (n₀ := n₀)) w g 0 n d' os n₀ hg0 hn
  have hperm : d'.toList.Perm d.toList := by
    have h := hp.2.2
    rw [← hds, Array.extract_size, ← hp.1, Array.extract_size] at h
    exact h
  have hget : ∀ (i : Nat) u, (d'.toList.map fun x => x.1.tm)[i]? = some u → i < ys.length ∧ u = d'[i]!.1.tm := fun i u hu => by
    have hi := (List.getElem?_eq_some_iff.1 hu).1
    simp at hi
    refine ⟨by omega, ?_⟩
    rw [List.getElem?_map, Array.getElem?_toList, Array.getElem?_eq_getElem hi] at hu
    rw [getElem!_pos d' i hi]
    simpa using hu.symm
  refine ⟨rfl, d'.toList.map (fun x => x.1.tm), ?_, ?_, by simp [hps], ⟨fun i u hu => ?_, fun o => ?_, fun q hq => ⟨Nat.lt_of_lt_of_le hq (Nat.le_trans hn hb.size), by omega⟩, Nat.lt_of_lt_of_le hgl (by simp [sortWorldK, grow, putRowK, Sort.ahead])⟩, hb⟩
  · have h := hperm.map (fun x => x.1.tm)
    have e : d.toList.map (fun x => x.1.tm) = ys.map Nd.tm := by rw [← hdm, List.map_map]; rfl
    rw [e] at h
    exact h
  · rw [List.pairwise_iff_getElem]
    intro i j hi hj hij
    simp at hi hj
    have h := hs i j (Nat.zero_le _) hij (by omega)
    rw [ltS, decide_eq_false_iff_not, getElem!_pos d' i hi, getElem!_pos d' j hj] at h
    simp only [List.getElem_map, Array.getElem_toList]
    rw [T.cmp_swap]
    omega
  · obtain ⟨hi, rfl⟩ := hget i u hu
    have hx : Rep W0 n₀ d'[i]!.1.1.2 d'[i]!.1.1.1.l := d'[i]!.1.2
    have hx' := hx.later (hB.trans hb)
    obtain ⟨oa, c, he, _⟩ := hx'.form
    have hHK : Holds id (putRow id (Sort.ahead w n) g 0 (flatK encS 2 d')) g 0 (flatK encS 2 d') := holds_putRow id (Sort.ahead w n) g 0 (flatK encS 2 d) _ (fun j hj => hH j hj) (by rw [size_flatK, size_flatK, hp.1])
    have hcell : ∀ c, c < 2 → (sortWorldK encS 2 w g 0 n d' os).cell? ⟨g, i * 2 + c, none⟩ = some ((encS d'[i]!)[c]!) := fun c hc => by
      have h := (hHK (i * 2 + c) (by rw [size_flatK]; omega)).1
      rw [get_flatK _ _ _ _ (by omega), Nat.zero_add, show (i * 2 + c) / 2 = i by omega, show (i * 2 + c) % 2 = c by omega] at h
      unfold sortWorldK
      rw [cell?_grow _ _ _ (by simpa [putRowK, Sort.ahead] using hgl)]
      exact h
    refine ⟨oa, c, hcell 0 (by omega), ?_, ?_⟩
    · have h := hcell 1 (by omega)
      rw [h]
      simp [encS]
      exact he
    · show RepP _ _ (Value.slice oa d'[i]!.val.val.fst.l.length c) _
      rw [← he]
      exact RepP.of_rep hx' (fun k hk => hk)
  · rw [sorted_frozen _ _ _ _ _ _ _ hgl]
    exact hown.frozenAt o

end Go.Proofs.Ytdfhfljmcakilaa
