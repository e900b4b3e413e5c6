/-
  same of the laws, at a tree and itself; Parse of the package for every string (out of the text of PatternParses, without what PatternPrints does not reach; printed by gen/pq.py). Nothing is assumed.
-/
import Derived.Test.YtkogldlhidppaaaDoorPaAwake
import Derived.Test.YtkogldlhidppaaaDoorPaPlain
namespace Go.Proofs.YtkogldlhidppaaaDoor
open Go.RowKit

/-- The fault of a text that is no pattern. -/
def fauP (p : ByteArray) : Nat := if p.size < 1 ∨ 40 < p.size then 0 else match parseT p.data.toList with
  | .bad m => m
  | .ok _ _ => 0
theorem set_eqIn4 (a b c d e f g h : Int) (w : World) : (Op.equalIn 10000 23 (.agg #[.int .u64 a, .int .u64 b, .int .u64 c, .int .u64 d]) (.agg #[.int .u64 e, .int .u64 f, .int .u64 g, .int .u64 h])).run Tryd.prog w = .ok (eqQ a b c d e f g h) w := by
  have u3 := Tryd.underlying22
  have a3 := Tryd.isAgg22
  have z3 := Tryd.sizeOf22
  rw [show (10000 : Nat) = 9999 + 1 from rfl, Op.equalIn]
  simp only [Sem.run_bind, run_underlying Tryd.underlying23, Result.andThen_ok]
  simp only [Std.Legacy.Range.forIn_eq_forIn_range', Std.Legacy.Range.size, Nat.sub_zero, Nat.add_sub_cancel, Nat.div_one, List.range'_succ, List.range'_zero, List.forIn_cons, List.forIn_nil]
  unfold eqQ
  go_simp
  by_cases h1 : a = e <;> by_cases h2 : b = f <;> by_cases h3 : c = g <;> by_cases h4 : d = h <;> simp [h1, h2, h3, h4]
@[go_sem] theorem set_guard4 (x y : Operand) (xs ys : Array Value) (w : World) : (eqGuard .neq 23 x y (.agg xs) (.agg ys)).run Tryd.prog w = .ok () w := run_eqGuard_agg w _ _ x y xs ys (by kernel_rfl)
@[go_sem high] theorem set_neq4 (a b c d e f g h : Int) (w : World) : (binOp .neq 23 (.agg #[.int .u64 a, .int .u64 b, .int .u64 c, .int .u64 d]) (.agg #[.int .u64 e, .int .u64 f, .int .u64 g, .int .u64 h])).run Tryd.prog w = .ok (.bool (!(eqQ a b c d e f g h))) w := by
  rw [run_neq_struct, set_eqIn4]; rfl
theorem eqQ_self (a b c d : Int) : eqQ a b c d a b c d = true := by unfold eqQ; simp
/-- The contract of same at a tree and itself. -/
def SmOk (v : PT) : Prop := ∀ (w : World) (oe : Option Addr) (ce : Nat) (oe' : Option Addr) (ce' : Nat), HT w (· < w.heap.size) (.slice oe v.l.length ce) v.l → HT w (· < w.heap.size) (.slice oe' v.l.length ce') v.l →
    Calls Tryd.prog 10 #[v.val (.slice oe v.l.length ce), v.val (.slice oe' v.l.length ce')] w fun e w' => e = .returned (.bool true) ∧ Below w.heap.size w w'
set_option maxRecDepth 100000 in
set_option maxHeartbeats 3200000 in
theorem same_step (v : PT) (ih : ∀ x, x ∈ v.l → SmOk x) : SmOk v := by
  intro w oe ce oe' ce' hT hT'
  obtain ⟨w1, hw1⟩ : ∃ w1, w1 = (w.alloc (.cells #[.int .i64 v.k, .int .u64 v.s.a, .int .u64 v.s.b, .int .u64 v.s.c, .int .u64 v.s.d, .slice oe v.l.length ce] 31)).alloc (.cells #[.int .i64 v.k, .int .u64 v.s.a, .int .u64 v.s.b, .int .u64 v.s.c, .int .u64 v.s.d, .slice oe' v.l.length ce'] 31) := ⟨_, rfl⟩
  have HW1 := Lib.hid hw1
  have hs1 : w1.heap.size = w.heap.size + 2 := by rw [hw1]; simp
  have hb1 : Below w.heap.size w w1 := by rw [hw1]; exact below2 w _ _
  have HA1 : Hid (TR w1 w.heap.size 31 v (.slice oe v.l.length ce)) := Lib.hid (by
    rw [hw1]
    have h0 : TR (w.alloc (.cells #[.int .i64 v.k, .int .u64 v.s.a, .int .u64 v.s.b, .int .u64 v.s.c, .int .u64 v.s.d, .slice oe v.l.length ce] 31)) w.heap.size 31 v (.slice oe v.l.length ce) := new_at w _
    exact (h0.up (below1 _ _)))
  have HC1 : Hid (TR w1 (w.heap.size + 1) 31 v (.slice oe' v.l.length ce')) := Lib.hid (by
    rw [hw1]
    have h0 := new_at (w.alloc (.cells #[.int .i64 v.k, .int .u64 v.s.a, .int .u64 v.s.b, .int .u64 v.s.c, .int .u64 v.s.d, .slice oe v.l.length ce] 31)) (.cells #[.int .i64 v.k, .int .u64 v.s.a, .int .u64 v.s.b, .int .u64 v.s.c, .int .u64 v.s.d, .slice oe' v.l.length ce'] 31)
    rw [World.size_alloc] at h0
    exact h0)
  have HT0 := Lib.hid hT
  have HT0' := Lib.hid hT'
  have HB1 := Lib.hid hb1
  have HIH := Lib.hid ih
  obtain ⟨-, hlm⟩ := HT.len hT
  have hlmI : (v.l.length : Int) ≤ 1000000 := by omega
  have hself := eqQ_self v.s.a v.s.b v.s.c v.s.d
  have HZ : Hid (Below w1.heap.size w1 w1) := Lib.hid (Below.refl _ _)
  clear hw1 hb1 hT hT' ih
  unfold PT.val
  go_enter Tryd.func10, Tryd.ntmps10
  go_wp2_with fail
  rw [← HW1.out]
  clear hself
  go_loopw [5] (fun u wr => ∃ i : Nat, u = .int .i64 (i : Int) ∧ i ≤ v.l.length ∧ Hid (Below w1.heap.size w1 wr) ∧ w1.heap.size ≤ wr.heap.size) (fun u _ => v.l.length - (intOf u).toNat)
  case atStart => exact ⟨0, rfl, Nat.zero_le _, HZ, Nat.le_refl _⟩
  case round =>
    obtain ⟨i, rfl, hi, HBr, hsr⟩ := hrel
    clear HZ
    obtain ⟨a0, a1, a2, a3, a4, a5⟩ := (HA1.out.up HBr.out).cells
    by_cases hlt : i < v.l.length
    · have hltI : (i : Int) < (v.l.length : Int) := by omega
      have hi0 : (0 : Int) ≤ (i : Int) := by omega
      have hwi : IntKind.i64.wrap ((i : Int) + 1) = ((i + 1 : Nat) : Int) := by rw [IntWalk.i64_in _ (by omega)]; omega
      obtain ⟨x, hx⟩ : ∃ x, v.l[i]? = some x := ⟨_, List.getElem?_eq_getElem hlt⟩
      have hxm := List.mem_of_getElem? hx
      have hT1 : HT wr (· < w.heap.size) (.slice oe v.l.length ce) v.l := HT0.out.later (fun _ h => h) fun q hq o => (HB1.out.trans (HBr.out.mono (by omega))).cell (p := ⟨q, o, none⟩) hq
      have hT2 : HT wr (· < w.heap.size) (.slice oe' v.l.length ce') v.l := HT0'.out.later (fun _ h => h) fun q hq o => (HB1.out.trans (HBr.out.mono (by omega))).cell (p := ⟨q, o, none⟩) hq
      obtain ⟨b, off, ox, cx, rfl, hb, hTx, p0, p1, p2, p3, p4, p5⟩ := HT.at_ hT1 hx
      obtain ⟨b', off', ox', cx', rfl, hb', hTx', r0, r1, r2, r3, r4, r5⟩ := HT.at_ hT2 hx
      have HEl : Hid (∀ V, Below wr.heap.size wr V → V.cell? ⟨w.heap.size, 5, none⟩ = some (.slice (some ⟨b, off, none⟩) v.l.length ce) ∧ V.cell? ⟨w.heap.size + 1, 5, none⟩ = some (.slice (some ⟨b', off', none⟩) v.l.length ce') ∧ V.cell? ⟨b, off + i * 6, none⟩ = some (.int .i64 x.k) ∧ V.cell? ⟨b, off + i * 6 + 1, none⟩ = some (.int .u64 x.s.a) ∧ V.cell? ⟨b, off + i * 6 + 2, none⟩ = some (.int .u64 x.s.b) ∧ V.cell? ⟨b, off + i * 6 + 3, none⟩ = some (.int .u64 x.s.c) ∧ V.cell? ⟨b, off + i * 6 + 4, none⟩ = some (.int .u64 x.s.d) ∧ V.cell? ⟨b, off + i * 6 + 5, none⟩ = some (.slice ox x.l.length cx) ∧
          V.cell? ⟨b', off' + i * 6, none⟩ = some (.int .i64 x.k) ∧ V.cell? ⟨b', off' + i * 6 + 1, none⟩ = some (.int .u64 x.s.a) ∧ V.cell? ⟨b', off' + i * 6 + 2, none⟩ = some (.int .u64 x.s.b) ∧ V.cell? ⟨b', off' + i * 6 + 3, none⟩ = some (.int .u64 x.s.c) ∧ V.cell? ⟨b', off' + i * 6 + 4, none⟩ = some (.int .u64 x.s.d) ∧ V.cell? ⟨b', off' + i * 6 + 5, none⟩ = some (.slice ox' x.l.length cx')) := Lib.hid (fun V hV => by
        have h1 : b < wr.heap.size := by have : b < w.heap.size := hb; omega
        have h2 : b' < wr.heap.size := by have : b' < w.heap.size := hb'; omega
        exact ⟨((HA1.out.up HBr.out).up hV).cells.2.2.2.2.2, ((HC1.out.up HBr.out).up hV).cells.2.2.2.2.2, (hV.cell (p := ⟨b, _, none⟩) h1).trans p0, (hV.cell (p := ⟨b, _, none⟩) h1).trans p1, (hV.cell (p := ⟨b, _, none⟩) h1).trans p2, (hV.cell (p := ⟨b, _, none⟩) h1).trans p3, (hV.cell (p := ⟨b, _, none⟩) h1).trans p4, (hV.cell (p := ⟨b, _, none⟩) h1).trans p5, (hV.cell (p := ⟨b', _, none⟩) h2).trans r0, (hV.cell (p := ⟨b', _, none⟩) h2).trans r1, (hV.cell (p := ⟨b', _, none⟩) h2).trans r2, (hV.cell (p := ⟨b', _, none⟩) h2).trans r3, (hV.cell (p := ⟨b', _, none⟩) h2).trans r4, (hV.cell (p := ⟨b', _, none⟩) h2).trans r5⟩)
      have hC := HIH.out x hxm wr.drew ox cx ox' cx' (hTx.later (fun _ h => by show _ < wr.heap.size; have : _ < w.heap.size := h; omega) (fun _ _ _ => rfl)) (hTx'.later (fun _ h => by show _ < wr.heap.size; have : _ < w.heap.size := h; omega) (fun _ _ _ => rfl))
      unfold PT.val at hC
      have HC := Lib.hid hC
      obtain ⟨k0, k1, k2, k3, k4, k5, k6, k7, k8, k9, l0, l1, l2, l3⟩ := HEl.out wr.drew (Below.refl _ _).drew
      clear hx hxm hb hTx hb' hTx' hC p0 p1 p2 p3 p4 p5 r0 r1 r2 r3 r4 r5 hT1 hT2 a0 a1 a2 a3 a4
      go_wp2_with fail
      go_region_held_law (fun V => V.cell? ⟨w.heap.size, 5, none⟩ = some (.slice (some ⟨b, off, none⟩) v.l.length ce) ∧ V.cell? ⟨w.heap.size + 1, 5, none⟩ = some (.slice (some ⟨b', off', none⟩) v.l.length ce') ∧ V.cell? ⟨b, off + i * 6, none⟩ = some (.int .i64 x.k) ∧ V.cell? ⟨b, off + i * 6 + 1, none⟩ = some (.int .u64 x.s.a) ∧ V.cell? ⟨b, off + i * 6 + 2, none⟩ = some (.int .u64 x.s.b) ∧ V.cell? ⟨b, off + i * 6 + 3, none⟩ = some (.int .u64 x.s.c) ∧ V.cell? ⟨b, off + i * 6 + 4, none⟩ = some (.int .u64 x.s.d) ∧ V.cell? ⟨b, off + i * 6 + 5, none⟩ = some (.slice ox x.l.length cx) ∧
          V.cell? ⟨b', off' + i * 6, none⟩ = some (.int .i64 x.k) ∧ V.cell? ⟨b', off' + i * 6 + 1, none⟩ = some (.int .u64 x.s.a) ∧ V.cell? ⟨b', off' + i * 6 + 2, none⟩ = some (.int .u64 x.s.b) ∧ V.cell? ⟨b', off' + i * 6 + 3, none⟩ = some (.int .u64 x.s.c) ∧ V.cell? ⟨b', off' + i * 6 + 4, none⟩ = some (.int .u64 x.s.d) ∧ V.cell? ⟨b', off' + i * 6 + 5, none⟩ = some (.slice ox' x.l.length cx')) (first | exact ⟨k0, k1, k2, k3, k4, k5, k6, k7, k8, k9, l0, l1, l2, l3⟩ | exact k20)
        (first | (go_simp; go_at_call 10; refine HC.out.mono ?_; rintro e w5 ⟨rfl, hb5⟩
                  have hq5 : Below wr.heap.size wr w5 := (Below.refl _ _).drew.trans hb5
                  have k20 := HEl.out w5 hq5
                  have HB5 := Lib.hid hq5
                  clear hb5 hq5
                  try dsimp only))
      all_goals
        have HB6 : Hid (Below w1.heap.size w1 w5) := Lib.hid (HBr.out.trans (HB5.out.mono hsr))
        have hs6 : w1.heap.size ≤ w5.heap.size := HB6.out.size
        clear k0 k1 k2 k3 k4 k5 k6 k7 k8 k9 l0 l1 l2 l3 k20 HC HEl HB5 HBr a5
        go_wp2_with fail
        go_roundw
        case rel => exact ⟨i + 1, by first | rfl | go_num, hlt, HB6, hs6⟩
        case measure => simp [intOf]; omega
    · have hltI : ¬ ((i : Int) < (v.l.length : Int)) := by omega
      have HBf := Lib.hid (HB1.out.trans (HBr.out.mono (by omega)))
      go_wp2_with fail
      go_ret
      exact ⟨rfl, HBf.out⟩
theorem same_tree (v : PT) : SmOk v := by
  induction v using PT.ind with
  | h v ih => exact same_step v ih
/-- The tree of a pattern, or the zero tree. -/
def treeU (p : ByteArray) : PT := if p.size < 1 ∨ 40 < p.size then .mk 0 .zero [] else tree p
theorem parse_u (p : ByteArray) (w : World) (hA : AL w) :
    Calls Tryd.prog 9 #[.string p] w fun e w' => (∃ oe ce, e = .returned (.tuple #[(treeU p).val (.slice oe (treeU p).l.length ce), .int .i64 (fauP p : Int), .int .i64 (errP p)]) ∧ HT w' (· < w'.heap.size) (.slice oe (treeU p).l.length ce) (treeU p).l) ∧ Below w.heap.size w w' :=
  (parse_any p w hA).mono fun e w' ⟨h1, h2⟩ => ⟨by
    unfold ParE at h1
    by_cases hs : p.size < 1 ∨ 40 < p.size
    · rw [if_pos hs] at h1
      have e1 : treeU p = .mk 0 .zero [] := by unfold treeU; rw [if_pos hs]
      have e2 : fauP p = 0 := by unfold fauP; rw [if_pos hs]
      have e3 : errP p = 2 := by unfold errP; rw [if_pos hs]
      rw [e1, e2, e3]
      exact ⟨none, 0, h1, HT.nil⟩
    · rw [if_neg hs] at h1
      have e1 : treeU p = tree p := by unfold treeU; rw [if_neg hs]
      rw [e1]
      cases hq : parseT p.data.toList with
      | bad m =>
        rw [hq] at h1
        have e2 : fauP p = m := by unfold fauP; rw [if_neg hs, hq]
        have e3 : errP p = 8 := by unfold errP; rw [if_neg hs, hq]
        have e4 : tree p = .mk 0 .zero [] := by unfold tree; rw [hq]; rfl
        rw [e2, e3, e4]
        exact ⟨none, 0, h1, HT.nil⟩
      | ok t m =>
        rw [hq] at h1
        have e2 : fauP p = 0 := by unfold fauP; rw [if_neg hs, hq]
        have e3 : errP p = 0 := by unfold errP; rw [if_neg hs, hq]
        have e4 : tree p = t := by unfold tree; rw [hq]; rfl
        rw [e2, e3, e4]
        obtain ⟨oe, ce, h3, h4⟩ := h1
        exact ⟨oe, ce, h3, h4.later (fun _ h => h.2) (fun _ _ _ => rfl)⟩, h2⟩
end Go.Proofs.YtkogldlhidppaaaDoor
