/-
  tuples of package domain: the iterator over all tuples, to a consumer that never stops. Nothing is assumed.
-/
import Derived.Test.YthnlkijkgnmbhaaDoorDmAdv
import Derived.Test.YthnlkijkgnmbhaaDoorDmTup
import Derived.Test.YthnlkijkgnmbhaaDoorDmSize
import Derived.Sort.LoopGhostIn
namespace Go.Proofs.YthnlkijkgnmbhaaDoor
open Go.RowKit Go.Shelf

attribute [local go_sem] Oper.semAt_some

/-- The tuple with a number. -/
def tupL (l : List (List V)) (m : Nat) : List V := (digs l m).1

theorem digI_zero : ∀ (l : List (List V)), digI l 0 = (List.replicate l.length 0, 0)
  | [] => rfl
  | a :: l => by rw [digI, digI_zero l]; simp [List.replicate_succ]
theorem digI_in : ∀ {l : List (List V)}, (∀ a, a ∈ l → a.length ≠ 0) → ∀ {m i p : Nat} {a : List V}, l[i]? = some a → (digI l m).1[i]? = some p → p < a.length
  | [], _, _, _, _, _, h, _ => by simp at h
  | b :: l, hne, m, 0, p, a, h, h' => by
    rw [digI] at h'
    simp at h h'
    subst h h'
    exact Nat.mod_lt _ (by have := hne b (by simp); omega)
  | b :: l, hne, m, i + 1, p, a, h, h' => by
    rw [digI] at h'
    simp at h h'
    exact digI_in (fun a ha => hne a (by simp [ha])) h h'

/-- What a consumer keeps: the axes, the domain's box, the row of the places. -/
structure Kt (B bd g : Nat) (A C : World) : Prop where
  below : Below B A C
  box : C.heap[bd]? = A.heap[bd]?
  row : C.heap[g]? = A.heap[g]?
theorem Kt.trans {B bd g : Nat} {A C D : World} (h : Kt B bd g A C) (k : Kt B bd g C D) : Kt B bd g A D := ⟨h.below.trans k.below, k.box.trans h.box, k.row.trans h.row⟩
theorem Kt.put {B bd g : Nat} {w : World} (hB : B ≤ w.heap.size) (hd : bd < w.heap.size) (W : World) (o o' : Obj) (hg : w.heap.size + 2 ≤ g) (hW : W.heap[w.heap.size + 1]? = some o) : Kt B bd g W (W.putObj (w.heap.size + 1) o') :=
  ⟨(Below.refl B W).grown (grownBy_putObj' W (w.heap.size + 1) o') (by have := (Array.getElem?_eq_some_iff.1 hW).1; omega) (fun k e => by cases e; omega), World.putObj_heap_other (by omega), World.putObj_heap_other (by omega)⟩

/-- How a tuple that is handed over lies in memory: new since A0. -/
def OkT (l : List (List V)) (pre : List Value) (s : Value) (A0 A : World) : Prop := RepS A (fun b => A0.heap.size ≤ b ∧ b < A.heap.size) s (tupL l pre.length) ∧ pre.length < prodL l

theorem tuples_any (x : Value) (oa : Option Addr) (m c : Nat) (hx : x = .slice oa m c) (w : World) :
    Calls Tryd.prog 25 #[.agg #[x]] w fun e w' => e = .returned (.func (.func 38) #[] #[.pointer (some ⟨w.heap.size, 0, none⟩)]) ∧ w' = w.alloc (.cells #[x] 24) := by
  subst hx
  go_enter Tryd.func25, Tryd.ntmps25
  go_wp2_with fail
  go_ret
  exact ⟨rfl, rfl⟩

theorem infoInt : (Tryd.prog.info? 3).map (fun i => (i.zero, i.size, i.bytes)) = some (some (.int .i64 0), 1, 8) := by kernel_rfl

theorem PlR.made {w' : World} {g n base : Nat} (h : w'.ownsRow base 3 1 (.slice (some ⟨g, 0, none⟩) n n) n (madeCells #[.int .i64 0] n).toList) : PlR w' g (List.replicate n 0) := by
  rcases h.2 with ⟨h0, _⟩ | ⟨g', cap, c, hv, hg, hh, hnc, hcm, hcs, htk⟩
  · cases h0
  · cases hv
    unfold PlR
    rw [hh]
    have h1 : c.toList = (madeCells #[.int .i64 0] n).toList := by rw [← htk, List.take_of_length_le (by simp; omega)]
    have h2 : c = madeCells #[.int .i64 0] n := by cases c; simp at h1; simp [h1]
    rw [h2]
    congr 2
    apply Array.ext_getElem?
    intro i
    by_cases hi : i < n
    · simp [madeCells, hi, Nat.mod_one]
    · simp [madeCells, hi]

set_option maxRecDepth 100000 in
set_option maxHeartbeats 2000000 in
theorem tuples1_in (n l bd B : Nat) (hn : 20 ≤ n) (L : List (List V)) (x : Value) (W0 : World) (hL : LAx W0 B x L) (hB : B ≤ bd) (hlen : L.length ≤ 1000) (hla : ∀ a, a ∈ L → a.length ≤ 1000) (hft : ∀ a, a ∈ L → ∀ v, v ∈ a → v.fits = true) (J : Nat → List Value → World → Prop) (W : World)
    (hbd : Boxed W bd 24 x) (hW : Below B W0 W)
    (hJ : ∀ g p A C, W.heap.size ≤ g → J g p A → (∀ b, b < A.heap.size → b ≠ g → C.heap[b]? = A.heap[b]?) → Below g A C → J g p C)
    (hY : ∀ g pre s A0 A, W.heap.size ≤ g → g < A0.heap.size → J g pre A0 → Below A0.heap.size A0 A → OkT L pre s A0 A → YieldAt Fence.wide (n - 1) Tryd.prog l #[s] A fun e C => e = .returned (.bool true) ∧ J g (pre ++ [s]) C ∧ Kt B bd g A C)
    (h0 : ∀ g A, W.heap.size ≤ g → Below W.heap.size W A → J g [] A) :
    CallsIn Fence.wide n Tryd.prog 38 (#[.func (.yield l) #[] #[]] ++ #[.pointer (some ⟨bd, 0, none⟩)]) W fun e C => (∃ v, e = .returned v) ∧ ∃ g MS, W.heap.size ≤ g ∧ MS.length = prodL L ∧ J g MS C := by
  have h1 : 1 ≤ n := by omega
  have noD : ∀ k : Nat, (Fence.wide.depth.isSome = true → 1 ≤ k) := fun k h => by cases h
  have HX := Lib.hid hL
  obtain ⟨oa, ca, rfl, _, hlm⟩ := hL.form
  have hbl := hbd.lt
  have HCN := Lib.hid (containsNil_any L _ W B (hL.later hW) (by omega))
  have HW := Lib.hid hW
  have HJ := Lib.hid hJ
  have HY := Lib.hid hY
  have HH0 := Lib.hid h0
  have HBD := Lib.hid hbd
  have cD := hbd.cell
  clear hL hW hJ hY h0 hbd
  refine callsIn_of_wp Tryd.func38 rfl trivial ?_ rfl
  simp only [Tryd.ntmps38, List.size_toArray, List.length_cons, List.length_nil, Nat.reduceAdd, Nat.reduceSub, Array.replicate_succ, Array.replicate_zero, List.push_toArray, List.append_toArray, List.nil_append, List.cons_append]
  gi_wp2
  refine ⟨trivial, ?_⟩
  gi_at_call 22
  refine (callsIn_wide.2 HCN.out).mono ?_
  rintro e w1 ⟨rfl, hb1⟩
  have HB1 := Lib.hid hb1
  have HBD1 := Lib.hid (show Boxed w1 bd 24 (.slice oa L.length ca) from (hb1.block _ hbl).trans HBD.out)
  have cD1 := HBD1.out.cell
  clear HCN hb1 cD
  by_cases hnil : hasNil L = true
  · have HN := Lib.hid hnil
    have HP0 := Lib.hid (prodL_nil hnil)
    gi_wp2
    exact bodyPost_ret (v := .tuple #[]) (by simp [results, Tryd.results38, go_sem]) rfl ⟨⟨_, rfl⟩, W.heap.size, [], Nat.le_refl _, HP0.out.symm, HH0.out _ _ (Nat.le_refl _) HB1.out⟩
  · have hnil' : hasNil L = false := by simpa using hnil
    have HNE := Lib.hid (hasNil_no hnil')
    obtain ⟨i0, hi, hz0, hz1, hz2⟩ := info_parts infoInt
    clear hnil
    gi_wp2_with (gi_at_make; refine wpListIn_make_full _ rfl _ _ 34 rfl w1.heap.size 3 i0 _ 1 Tryd.underlying34 hi hz0 hz1 _ _ _ _ L.length rfl rfl rfl rfl ?b2 ?b3 (Nat.le_refl _) ?_)
    case b2 => rw [hz2]; omega
    case b3 => unfold maxLen; omega
    intro w4 hown4 hgrow4
    have hb4 : Below w1.heap.size w1 w4 := (Below.refl _ _).grown hgrow4 (Nat.le_refl _) (fun k e => by cases e)
    have hrow4 := PlR.made hown4
    clear hown4 hgrow4
    have HB4 := Lib.hid hb4
    have HR4 := Lib.hid hrow4
    have hs1 := HB1.out.size
    have hs4 := hb4.size
    have HG4 := Lib.hid hrow4.lt
    have HBD4 := Lib.hid (show Boxed w4 bd 24 (.slice oa L.length ca) from (hb4.block _ (by omega)).trans HBD1.out)
    have HJ4 := Lib.hid (HH0.out w1.heap.size w4 hs1 (HB1.out.trans (hb4.mono hs1)))
    have HLX4 := Lib.hid (show Below B W0 w4 from (HW.out.trans (HB1.out.mono (by omega))).trans (hb4.mono (by omega)))
    have HPO := Lib.hid (prodL_pos HNE.out)
    have hgs : W.heap.size ≤ w1.heap.size := hs1
    clear hb4 hrow4 cD1 hs1 hs4 hi hz0 hz1 hz2 hnil'
    gi_wp2
    gi_loopg [4] (prodL L) (fun k v wr => ∃ (m : Nat) (pre : List Value) (b : Bool), v = .bool b ∧ Hid (b = decide (m < prodL L) ∧ m + k = prodL L) ∧ Hid (pre.length = m ∧ J w1.heap.size pre wr ∧ PlR wr w1.heap.size (digI L m).1 ∧ Boxed wr bd 24 (.slice oa L.length ca) ∧ Below B W0 wr))
    case atStart => exact ⟨0, [], true, rfl, Lib.hid ⟨by have := HPO.out; simp; omega, by omega⟩, Lib.hid ⟨rfl, HJ4.out, by rw [digI_zero]; exact HR4.out, HBD4.out, HLX4.out⟩⟩
    case round =>
      obtain ⟨m, pre, b, rfl, HM, HI⟩ := hrel
      cases b
      · gi_wp2
        go_end0
        refine ⟨⟨_, rfl⟩, w1.heap.size, pre, hgs, ?_, HI.out.2.1⟩
        have h1 := HM.out.1
        have h2 := HM.out.2
        have h3 : ¬ m < prodL L := by simpa using h1.symm
        rw [HI.out.1]
        omega
      · have hm : m < prodL L := by simpa using HM.out.1.symm
        have hgw := HI.out.2.2.1.lt
        have HLX := Lib.hid (show LAx wr wr.heap.size (.slice oa L.length ca) L from (HX.out.later HI.out.2.2.2.2).mono (by omega))
        have hq : (digI L m).1.length = L.length := digI_len L m
        have HT := Lib.hid (tupleAt_any L (digI L m).1 (.slice oa L.length ca) (.slice (some ⟨w1.heap.size, 0, none⟩) L.length L.length) wr wr.heap.size HLX.out (by have h := HI.out.2.2.1.lints (c := L.length) hgw (by rw [hq]; omega); rw [hq] at h; exact h) (Nat.le_refl _) hlen hq
          (fun i a p ha hp => digI_in HNE.out ha hp) hft)
        rw [pick_digI] at HT
        have cD := HI.out.2.2.2.1.cell
        have HQL := Lib.hid hq
        have HMP := Lib.hid hm
        clear hq hm
        gi_wp2
        refine ⟨trivial, ?_⟩
        gi_at_call 40
        refine (callsIn_wide.2 HT.out).mono ?_
        clear HT
        rintro e w5 ⟨⟨sl, rfl, hr5⟩, hb5⟩
        obtain ⟨fn, tmps, assign, body, hy, hR⟩ := HY.out w1.heap.size pre sl wr w5 hgs hgw HI.out.2.1 hb5 ⟨by rw [HI.out.1]; exact hr5, by rw [HI.out.1]; exact HMP.out⟩
        have HB5 := Lib.hid hb5
        clear hr5 hb5 cD
        gi_wp2
        refine hR.mono ?_
        clear hR hy
        rintro e w6 ⟨rfl, hJ6, hk6⟩
        have hbl5 : bd < w5.heap.size := Nat.lt_of_lt_of_le HI.out.2.2.2.1.lt HB5.out.size
        have hg5 : w1.heap.size < w5.heap.size := Nat.lt_of_lt_of_le hgw HB5.out.size
        have HR6 := Lib.hid (show PlR w6 w1.heap.size (digI L m).1 from HI.out.2.2.1.keep (hk6.row.trans (HB5.out.block _ hgw)))
        have HBD6 := Lib.hid (show Boxed w6 bd 24 (.slice oa L.length ca) from (hk6.box.trans (HB5.out.block _ HI.out.2.2.2.1.lt)).trans HI.out.2.2.2.1)
        have HLX6 := Lib.hid (show Below B W0 w6 from (HI.out.2.2.2.2.trans (HB5.out.mono (by omega))).trans hk6.below)
        have HAD := Lib.hid (advance_in (n - 1) (by omega) L (digI L m).1 (.slice oa L.length ca) w1.heap.size L.length w6 B (HX.out.later HLX6.out) (by omega) HR6.out.lt HR6.out HQL.out
          (fun i a p ha hp => by have h1 := digI_in HNE.out ha hp; have h2 := hla a (List.mem_of_getElem? ha); omega))
        have cD6 := HBD6.out.cell
        have HJ6 := Lib.hid hJ6
        clear hJ6 hk6
        gi_wp2
        refine ⟨trivial, ?_⟩
        gi_at_call 39
        refine HAD.out.mono ?_
        clear HAD
        rintro e w7 ⟨rfl, hr7, hk7, hs7⟩
        have had := adv_digI L HNE.out m
        rw [had] at hr7
        have hdec : (adv L (digI L m).1).2 = decide (m + 1 < prodL L) := by
          rw [had]
          show decide ((m + 1) / prodL L = m / prodL L) = _
          rw [Nat.div_eq_of_lt HMP.out]
          by_cases hlt : m + 1 < prodL L
          · rw [Nat.div_eq_of_lt hlt]; simp [hlt]
          · have : m + 1 = prodL L := by have := HMP.out; omega
            rw [this, Nat.div_self (by have := HPO.out; omega)]; simp
        rw [hdec]
        have HR7 := Lib.hid hr7
        have HK7 := Lib.hid hk7
        have HS7 := Lib.hid hs7
        clear had hdec hr7 hk7 cD6
        obtain ⟨b', hb'⟩ : ∃ b', b' = decide (m + 1 < prodL L) := ⟨_, rfl⟩
        rw [← hb']
        have HBB := Lib.hid hb'
        clear hb'
        gi_wp2
        gi_roundg (gk - 1)
        case measure => have := HM.out.2; have := HMP.out; omega
        case rel =>
          refine ⟨m + 1, pre ++ [sl], b', rfl, Lib.hid ⟨HBB.out, by have := HM.out.2; have := HMP.out; omega⟩, Lib.hid ⟨by rw [List.length_append, HI.out.1]; rfl, HJ.out _ _ _ _ hgs HJ6.out HK7.out HS7.out, HR7.out, ?_, ?_⟩⟩
          · exact (HK7.out _ HBD6.out.lt (by have := HG4.out; omega)).trans HBD6.out
          · exact HLX6.out.trans (HS7.out.mono (by omega))

end Go.Proofs.YthnlkijkgnmbhaaDoor
