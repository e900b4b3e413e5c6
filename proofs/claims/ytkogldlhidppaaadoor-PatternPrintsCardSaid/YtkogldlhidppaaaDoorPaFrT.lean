/-
  How an argument that is a tree of the specification opens. Nothing is assumed.
-/
import Derived.Test.YtkogldlhidppaaaDoorPtSet
import Derived.Test.YtkogldlhidppaaaDoorGlC
import Derived.Test.YtkogldlhidppaaaDoorEnd
import Derived.Laws.IdiomArrays
namespace Go.Proofs.YtkogldlhidppaaaDoor

section
open Go.RowKit

/-- The trees of a slice, below the block B: as HT, however many they are. -/
inductive HG (w : World) (B : Nat) : Value → List PT → Prop
  | empty (oa : Option Addr) (cap : Nat) : HG w B (.slice oa 0 cap) []
  | arr (b off cap : Nat) (l : List PT) (sl : Nat → Value) (hb : b < B) (hl : l.length ≤ cap) (hm : l.length ≤ 9223372036854775807)
      (hc : ∀ i v, l[i]? = some v → ∀ j u, (v.cs (sl i))[j]? = some u → w.cell? ⟨b, off + i * 6 + j, none⟩ = some u)
      (hr : ∀ i v, l[i]? = some v → HG w B (sl i) v.l) : HG w B (.slice (some ⟨b, off, none⟩) l.length cap) l
theorem HG.later {w w' : World} {B : Nat} {x : Value} {l : List PT} (h : HG w B x l) (hb : Below B w w') : HG w' B x l := by
  induction h with
  | empty oa cap => exact .empty oa cap
  | arr b off cap l sl hb' hl hm hc hr ih =>
    refine .arr b off cap l sl hb' hl hm (fun i v hv j u hu => ?_) ih
    rw [hb.cell (p := ⟨b, _, none⟩) hb']
    exact hc i v hv j u hu
theorem HG.form {w : World} {B : Nat} {x : Value} {l : List PT} (h : HG w B x l) : ∃ oa cap, x = .slice oa l.length cap ∧ l.length ≤ 9223372036854775807 := by
  cases h with
  | empty oa cap => exact ⟨oa, cap, rfl, by simp⟩
  | arr b off cap l sl hb hl hm hc hr => exact ⟨_, cap, rfl, hm⟩
theorem HG.at_ {w : World} {B n cap : Nat} {oa : Option Addr} {l : List PT} (h : HG w B (.slice oa n cap) l) {i : Nat} {v : PT} (hv : l[i]? = some v) :
    ∃ b off ox cx, oa = some ⟨b, off, none⟩ ∧ b < B ∧ HG w B (.slice ox v.l.length cx) v.l ∧
      w.cell? ⟨b, off + i * 6, none⟩ = some (.int .i64 v.k) ∧ w.cell? ⟨b, off + i * 6 + 1, none⟩ = some (.int .u64 v.s.a) ∧ w.cell? ⟨b, off + i * 6 + 2, none⟩ = some (.int .u64 v.s.b) ∧ w.cell? ⟨b, off + i * 6 + 3, none⟩ = some (.int .u64 v.s.c) ∧ w.cell? ⟨b, off + i * 6 + 4, none⟩ = some (.int .u64 v.s.d) ∧ w.cell? ⟨b, off + i * 6 + 5, none⟩ = some (.slice ox v.l.length cx) := by
  cases h with
  | empty => simp at hv
  | arr b off cap _ sl hb hl hm hc hr =>
    have h1 := hr i v hv
    obtain ⟨ox, cx, e, _⟩ := h1.form
    have c := hc i v hv
    rw [e] at c h1
    exact ⟨b, off, ox, cx, rfl, hb, h1, c 0 _ rfl, c 1 _ rfl, c 2 _ rfl, c 3 _ rfl, c 4 _ rfl, c 5 _ rfl⟩

/-- The law's small. -/
def smT : Nat → PT → Bool
  | 0, _ => false
  | d + 1, v => if 6 < v.l.length then false else v.l.all (smT d)
theorem smT_parts {d : Nat} {v : PT} (h : smT (d + 1) v = true) : v.l.length ≤ 6 ∧ ∀ u, u ∈ v.l → smT d u = true := by
  rw [smT] at h
  split at h
  · cases h
  · exact ⟨by omega, List.all_eq_true.1 h⟩
theorem HG.small : ∀ (d : Nat) (v : PT), smT d v = true → ∀ (w : World) (B : Nat) (x : Value), HG w B x v.l → HT w (· < B) x v.l
  | 0, v, h => by cases h
  | d + 1, v, h => by
    intro w B x hG
    obtain ⟨h6, hu⟩ := smT_parts h
    generalize v.l = l at *
    cases hG with
    | empty oa cap => exact .empty oa cap
    | arr b off cap _ sl hb hl hm hc hr =>
      exact .arr b off cap l sl hb hl (by omega) hc fun i u hi => HG.small d u (hu u (List.mem_of_getElem? hi)) w B (sl i) (hr i u hi)

/-- The contract of the law's small at a tree. -/
def SmlOk (d : Nat) : Prop := ∀ (v : PT) (w : World) (B : Nat) (oe : Option Addr) (ce : Nat), HG w B (.slice oe v.l.length ce) v.l → B ≤ w.heap.size →
    Calls Tryd.prog 4 #[v.val (.slice oe v.l.length ce), .int .i64 (d : Int)] w fun e w' => e = .returned (.bool (smT d v)) ∧ Below w.heap.size w w'
set_option maxRecDepth 100000 in
set_option maxHeartbeats 1600000 in
theorem small_step (d : Nat) (hd : d ≤ 10) (ih : ∀ e, d = e + 1 → SmlOk e) : SmlOk d := by
  intro v w B oe ce hG hB
  obtain ⟨_, _, _, hlm⟩ := hG.form
  have HG0 := Lib.hid hG
  clear hG
  unfold PT.val
  cases d with
  | zero =>
    have HZ := Lib.hid (show smT 0 v = false from rfl)
    rw [show (((0 : Nat) : Int)) = 0 from rfl]
    go_enter Tryd.func4, Tryd.ntmps4
    go_wp2_with fail
    all_goals
      go_ret
      exact ⟨by rw [HZ.out]; rfl, below1 _ _⟩
  | succ d =>
    have HIH := Lib.hid (ih d rfl)
    obtain ⟨D, hD⟩ : ∃ D : Int, ((d + 1 : Nat) : Int) = D := ⟨_, rfl⟩
    have hd0 : (D == 0) = false := by rw [beq_eq_false_iff_ne]; omega
    have hwd : IntKind.i64.wrap (D - 1) = (d : Int) := by rw [IntWalk.i64_in _ (by omega)]; omega
    rw [hD]
    clear hD
    by_cases h6 : 6 < (v.l.length : Int)
    · have HZ := Lib.hid (show smT (d + 1) v = false by rw [smT, if_pos (by omega)])
      go_enter Tryd.func4, Tryd.ntmps4
      go_wp2_with fail
      all_goals
        go_ret
        exact ⟨by rw [HZ.out]; rfl, below1 _ _⟩
    · have h6n : v.l.length ≤ 6 := by omega
      obtain ⟨w1, hw1⟩ : ∃ w1, w1 = w.alloc (.cells #[.int .i64 v.k, .int .u64 v.s.a, .int .u64 v.s.b, .int .u64 v.s.c, .int .u64 v.s.d, .slice oe v.l.length ce] 26) := ⟨_, rfl⟩
      have HW1 := Lib.hid hw1
      have hX1 : Box6 w1 w.heap.size (.int .i64 v.k) (.int .u64 v.s.a) (.int .u64 v.s.b) (.int .u64 v.s.c) (.int .u64 v.s.d) (.slice oe v.l.length ce) := by
        rw [hw1]
        exact Box6.new _ _ _ _ _ _ _ rfl
      have HX1 := Lib.hid hX1
      have hs1 : w1.heap.size = w.heap.size + 1 := by rw [hw1]; simp
      have HB1 := Lib.hid (show Below w.heap.size w w1 by rw [hw1]; exact below1 _ _)
      have HS : Hid (smT (d + 1) v = v.l.all (smT d)) := Lib.hid (by rw [smT, if_neg (by omega)])
      obtain ⟨x0, x1, x2, x3, x4, x5, -⟩ := hX1
      rw [hw1] at x0 x1 x2 x3 x4 x5
      clear hw1
      go_enter Tryd.func4, Tryd.ntmps4
      go_wp2_with fail
      rw [← HW1.out]
      clear x0 x1 x2 x3 x4 x5
      go_loopw [5] (fun u wr => ∃ i : Nat, u = .int .i64 (i : Int) ∧ i ≤ v.l.length ∧ Hid ((v.l.take i).all (smT d) = true) ∧ Hid (Below w1.heap.size w1 wr)) (fun u _ => v.l.length - (intOf u).toNat)
      case atStart => exact ⟨0, rfl, Nat.zero_le _, Lib.hid rfl, Lib.hid (Below.refl _ _)⟩
      case round =>
        obtain ⟨i, rfl, hi, HAl, HBr⟩ := hrel
        have HBw := Lib.hid (HB1.out.trans (HBr.out.mono (by omega)))
        obtain ⟨x0, x1, x2, x3, x4, x5, -⟩ := HX1.out.later HBr.out (by omega)
        by_cases hlt : i < v.l.length
        · have hltI : (i : Int) < (v.l.length : Int) := by omega
          have hi0 : (0 : Int) ≤ (i : Int) := by omega
          have hwi : IntKind.i64.wrap ((i : Int) + 1) = ((i + 1 : Nat) : Int) := by rw [IntWalk.i64_in _ (by omega)]; omega
          obtain ⟨x, hx⟩ : ∃ x, v.l[i]? = some x := ⟨_, List.getElem?_eq_getElem hlt⟩
          have hxm := List.mem_of_getElem? hx
          have hGr := HG0.out.later (HBw.out.mono hB)
          obtain ⟨b, off, ox, cx, rfl, hb, hGx, q0, q1, q2, q3, q4, q5⟩ := HG.at_ hGr hx
          have hsr : w.heap.size ≤ wr.heap.size := HBw.out.size
          have HC := Lib.hid (HIH.out x wr B ox cx hGx (by omega))
          unfold PT.val at HC
          have htk : v.l.take (i + 1) = v.l.take i ++ [x] := by rw [List.take_add_one, hx]; rfl
          cases hxp : smT d x
          · rw [hxp] at HC
            have HPF : Hid (smT (d + 1) v = false) := Lib.hid (by
              rw [HS.out, List.all_eq_false]
              exact ⟨x, hxm, by rw [hxp]; decide⟩)
            clear htk hxp hx hxm hGx hGr
            go_wp2_with fail
            refine HC.out.mono ?_
            rintro e w5 ⟨rfl, hb5⟩
            have HB5 := Lib.hid (HBw.out.trans (hb5.mono hsr))
            clear hb5
            go_wp2_with fail
            go_ret
            exact ⟨by rw [HPF.out]; rfl, HB5.out⟩
          · rw [hxp] at HC
            have HA2 : Hid ((v.l.take (i + 1)).all (smT d) = true) := Lib.hid (by rw [htk, List.all_append, HAl.out]; simp [hxp])
            have HK1 := Lib.hid (show i + 1 ≤ v.l.length from hlt)
            clear htk hxp hx hxm hGx hGr
            go_wp2_with fail
            refine HC.out.mono ?_
            rintro e w5 ⟨rfl, hb5⟩
            have HB5 := Lib.hid (HBr.out.trans (hb5.mono HBr.out.size))
            clear hb5 HC q0 q1 q2 q3 q4 q5 x0 x1 x2 x3 x4
            go_wp2_with fail
            go_roundw
            case rel => exact ⟨i + 1, by first | rfl | go_num, HK1.out, HA2, HB5⟩
            case measure => have := HK1.out; simp [intOf]; omega
        · have hltI : ¬ ((i : Int) < (v.l.length : Int)) := by omega
          have HPT : Hid (smT (d + 1) v = true) := Lib.hid (by
            have h := HAl.out
            rw [List.take_of_length_le (by omega)] at h
            rw [HS.out, h])
          go_wp2_with fail
          go_ret
          exact ⟨by rw [HPT.out]; rfl, HBw.out⟩
theorem small_any : ∀ d, d ≤ 10 → SmlOk d
  | 0, h => small_step 0 h fun e he => by omega
  | d + 1, h => small_step (d + 1) h fun e he => by
    obtain rfl : d = e := by omega
    exact small_any d (by omega)
end

section
open Go.ChangeShapes Go.WideShapes Go.ChangeAt Go.RowKit Go.Deep

theorem cIntT : Tryd.prog.cellsOf 3 = 1 := by kernel_rfl
theorem cSet4 : Tryd.prog.cellsOf 23 = 4 := by kernel_rfl
theorem cU64T : Tryd.prog.cellsOf 22 = 1 := by kernel_rfl
theorem cTreesT : Tryd.prog.cellsOf 24 = 1 := by kernel_rfl
theorem cTreeT : Tryd.prog.cellsOf 26 = 6 := by kernel_rfl
theorem wf_U6 {n : Int} (h : (Lit.int .u64 n).wf = true) : U6 n := by
  have h1 : IntKind.u64.min ≤ n ∧ n ≤ IntKind.u64.max := by simpa [Lit.wf] using h
  have e1 : IntKind.u64.min = 0 := by decide
  have e2 : IntKind.u64.max = 18446744073709551615 := by decide
  rw [e1, e2] at h1
  exact ⟨h1.1, by omega⟩

theorem pvals_of (n : Nat) {α : Type} [Inhabited α] (q : Nat → α → Prop) (h : ∀ i, i < n → ∃ x, q i x) : ∃ l : List α, l.length = n ∧ ∀ i x, l[i]? = some x → q i x := by
  obtain ⟨f, hf⟩ := choose_lt h
  refine ⟨(List.range n).map f, by simp, fun i x hx => ?_⟩
  simp only [List.getElem?_map, Option.map_eq_some_iff] at hx
  obtain ⟨j, hj, rfl⟩ := hx
  obtain ⟨hj1, hj2⟩ := List.getElem?_eq_some_iff.1 hj
  simp at hj1 hj2
  subst hj2
  exact hf i hj1
instance : Inhabited PT := ⟨.mk 0 .zero []⟩
theorem sok_mk {k : Int} {s : S4} {l : List PT} (hs : s.Ok) (hl : ∀ x, x ∈ l → Sok x) : Sok (.mk k s l) := by
  refine ⟨hs, ?_⟩
  induction l with
  | nil => trivial
  | cons y l ih => exact ⟨hl y (List.mem_cons_self ..), ih fun x hx => hl x (List.mem_cons_of_mem _ hx)⟩

section
variable {H : Type} {enc : TypeId × Value → H} {P : Program} {w : World} {base : Nat} {sp : Nat → Bool} {held : Bool} {tv tl ta te : TypeId} {f0 f1 f2 : Field}

theorem open_tree_gen (hs : P.underlying tv = some (.struct #[f0, f1, f2])) (h0 : P.underlying f0.type = some (.int .i64)) (h1 : P.underlying f1.type = some (.array 4 te)) (h2 : P.underlying f2.type = some (.slice tv)) (he : P.underlying te = some (.int .u64)) (o0 : f0.offset = 0) (o1 : f1.offset = 1) (o2 : f2.offset = 5)
    (c0 : P.cellsOf f0.type = 1) (c1 : P.cellsOf f1.type = 4) (c2 : P.cellsOf f2.type = 1) (c3 : P.cellsOf te = 1) (c4 : P.cellsOf tv = 6) :
    ∀ (fuel : Nat) (cs : List Value) (x : DataW H × List MemPlace), DataW.trod enc P w base sp held fuel tv cs = some x →
    ∃ (v : PT) (sl : Value), cs = v.cs sl ∧ HG w w.heap.size sl v.l ∧ Sok v := by
  intro fuel
  induction fuel using Nat.strongRecOn with
  | _ fuel ih =>
    intro cs x h
    obtain ⟨xs, n, hfu, rfl, hl, hlen, hf⟩ := DataW.trod_struct hs h
    rw [c4] at hl
    match cs, hl with
    | [a0, a1, a2, a3, a4, a5], _ =>
      have hx : xs.length = 3 := hlen
      match xs, hx with
      | [x0, x1, x2], _ =>
        have g0 := hf 0 f0 rfl
        have g1 := hf 1 f1 rfl
        have g2 := hf 2 f2 rfl
        rw [o0, c0] at g0
        rw [o1, c1] at g1
        rw [o2, c2] at g2
        obtain ⟨t, e0, _, _⟩ := DataW.trod_int h0 g0
        have e0' : a0 = .int .i64 t := by simpa using e0
        subst e0'
        obtain ⟨y0, y1, y2, y3, m, _, b0, b1, b2, b3⟩ := trod_array4 h1 c3 (show DataW.trod enc P w base sp held n f1.type [a1, a2, a3, a4] = some x1 from g1)
        obtain ⟨z0, e1, _, u1⟩ := DataW.trod_int he b0
        obtain ⟨z1, e2, _, u2⟩ := DataW.trod_int he b1
        obtain ⟨z2, e3, _, u3⟩ := DataW.trod_int he b2
        obtain ⟨z3, e4, _, u4⟩ := DataW.trod_int he b3
        obtain rfl : a1 = .int .u64 z0 := by simpa using e1
        obtain rfl : a2 = .int .u64 z1 := by simpa using e2
        obtain rfl : a3 = .int .u64 z2 := by simpa using e3
        obtain rfl : a4 = .int .u64 z3 := by simpa using e4
        have hok : S4.Ok ⟨z0, z1, z2, z3⟩ := ⟨wf_U6 u1, wf_U6 u2, wf_U6 u3, wf_U6 u4⟩
        rcases DataW.trod_slice h2 g2 with ⟨e3, _⟩ | ⟨a, len, cap, elems, rest, k, hk, e3, _, hb, hlc, hm, hle, hel, _, _⟩
        · have e3' : a5 = .slice none 0 0 := by simpa using e3
          subst e3'
          exact ⟨.mk t ⟨z0, z1, z2, z3⟩ [], _, rfl, .empty _ _, sok_mk hok fun x hx => by cases hx⟩
        · have e3' : a5 = .slice (some a) len cap := by simpa using e3
          subst e3'
          rw [c4] at hel
          have step : ∀ i, i < len → ∃ vs : PT × Value, (∀ j u, (vs.1.cs vs.2)[j]? = some u → w.cell? ((a.add (i * 6)).add j) = some u) ∧ HG w w.heap.size vs.2 vs.1.l ∧ Sok vs.1 := by
            intro i hi
            have h := hel i hi
            rw [List.getElem?_eq_getElem (by omega)] at h
            obtain ⟨cs', hc', ht'⟩ := Option.bind_eq_some_iff.1 h
            obtain ⟨v, sl, rfl, hR, hS⟩ := ih k (by omega) cs' _ ht'
            obtain ⟨_, hlc', hcell⟩ := World.cells?_some hc'
            refine ⟨(v, sl), fun j u hu => ?_, hR, hS⟩
            have hj : j < 6 := by
              have h6 : (v.cs sl).length = 6 := rfl
              have h7 : j < (v.cs sl).length := (List.getElem?_eq_some_iff.1 hu).1
              omega
            rw [← hu]
            exact hcell j hj
          obtain ⟨l, hll, hall⟩ := pvals_of len (fun i (vs : PT × Value) => (∀ j u, (vs.1.cs vs.2)[j]? = some u → w.cell? ((a.add (i * 6)).add j) = some u) ∧ HG w w.heap.size vs.2 vs.1.l ∧ Sok vs.1) step
          have hsub : ∀ x, x ∈ l.map (·.1) → Sok x := fun x hx => by
            obtain ⟨vs, hvs, rfl⟩ := List.mem_map.1 hx
            obtain ⟨i, hi⟩ := List.mem_iff_getElem?.1 hvs
            exact (hall i vs hi).2.2
          refine ⟨.mk t ⟨z0, z1, z2, z3⟩ (l.map (·.1)), _, rfl, ?_, sok_mk hok hsub⟩
          show HG w w.heap.size (.slice (some a) len cap) (l.map (·.1))
          by_cases hz : len = 0
          · subst hz
            obtain rfl := List.eq_nil_of_length_eq_zero hll
            exact .empty _ _
          · obtain ⟨b, off, spot⟩ := a
            have hfirst := (hall 0 _ (List.getElem?_eq_getElem (by omega))).1 0 _ rfl
            have hspot : spot = none := by
              have := World.cell?_spot hfirst
              simpa [Addr.add] using this
            subst hspot
            have hblt : b < w.heap.size := by
              have := World.block_lt_of_cell? _ _ hfirst
              simpa [Addr.add] using this
            have key : (l.map (·.1)).length = len := by simpa using hll
            rw [← key]
            refine .arr b off cap (l.map (·.1)) (fun i => ((l[i]?).map (·.2)).getD .nilIface) hblt (by omega) (by unfold maxLen at hm; omega) (fun i v hv j u hu => ?_) (fun i v hv => ?_)
            · simp only [List.getElem?_map, Option.map_eq_some_iff] at hv
              obtain ⟨vs, hvs, rfl⟩ := hv
              simp only [hvs, Option.map_some, Option.getD_some] at hu
              have k0 := (hall i vs hvs).1 j u hu
              rw [add_plain, add_plain] at k0
              exact k0
            · simp only [List.getElem?_map, Option.map_eq_some_iff] at hv
              obtain ⟨vs, hvs, rfl⟩ := hv
              simp only [hvs, Option.map_some, Option.getD_some]
              exact (hall i vs hvs).2.1
end

set_option maxRecDepth 100000 in
/-- An argument of the type Tree. -/
theorem open_tree {H : Type} {enc : TypeId × Value → H} {W : World} {base : Nat} {v0 : Value} {d0 : DataW H} {p0 : List MemPlace} (hv : Value.okWide Tryd.prog W .any base 26 v0)
    (h : DataW.Trod enc Tryd.prog W 0 (fun _ => true) true 26 v0 d0 p0) :
    ∃ (v : PT) (sl : Value), v0 = v.val sl ∧ HG W W.heap.size sl v.l ∧ Sok v := by
  obtain ⟨cs, rfl, _⟩ := okWide_struct Tryd.underlying26 hv
  obtain ⟨fuel, hf⟩ := h
  obtain ⟨v, sl, hcs, hR, hS⟩ := open_tree_gen Tryd.underlying26 Tryd.underlying3 Tryd.underlying23 Tryd.underlying24 Tryd.underlying22 rfl rfl rfl cIntT cSet4 cTreesT cU64T cTreeT fuel _ _ hf
  have hcs' : cs.toList = v.cs sl := hcs
  exact ⟨v, sl, by rw [← Array.toArray_toList (xs := cs), hcs']; rfl, hR, hS⟩
end

end Go.Proofs.YtkogldlhidppaaaDoor
