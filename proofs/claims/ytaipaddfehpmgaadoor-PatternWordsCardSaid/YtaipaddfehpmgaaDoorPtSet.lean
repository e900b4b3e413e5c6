/-
  Sets of bytes and the classes of bytes. Nothing is assumed.
-/
import Derived.Test.YtaipaddfehpmgaaDoorPtRep
import Derived.Laws.StructEq
namespace Go.Proofs.YtaipaddfehpmgaaDoor
open Go.RowKit

def S4.val (s : S4) : Value := .agg #[.int .u64 s.a, .int .u64 s.b, .int .u64 s.c, .int .u64 s.d]
/-- The table of the bytes of the alphabet. -/
def AL (w : World) : Prop := w.cell? ⟨0, 0, none⟩ = some (.int .u64 S4.alpha.a) ∧ w.cell? ⟨0, 1, none⟩ = some (.int .u64 S4.alpha.b) ∧
  w.cell? ⟨0, 2, none⟩ = some (.int .u64 S4.alpha.c) ∧ w.cell? ⟨0, 3, none⟩ = some (.int .u64 S4.alpha.d)
theorem AL.lt {w : World} (h : AL w) : (0 : Nat) < w.heap.size := World.block_lt_of_cell? _ _ h.1
theorem AL.of {w w' : World} (h : AL w) (hb : w'.heap[(0 : Nat)]? = w.heap[(0 : Nat)]?) : AL w' := by
  obtain ⟨h0, h1, h2, h3⟩ := h
  have go : ∀ o, w'.cell? ⟨0, o, none⟩ = w.cell? ⟨0, o, none⟩ := fun o => World.cell?_of_block (w := w) (a := ⟨0, o, none⟩) hb
  exact ⟨(go _).trans h0, (go _).trans h1, (go _).trans h2, (go _).trans h3⟩
theorem AL.later {w w' : World} (h : AL w) (hb : Below w.heap.size w w') : AL w' := h.of (hb.block _ h.lt)
theorem AL.kp {w w' : World} {N : Nat} {X : Nat → Prop} (h : AL w) (hb : Kp N X w w') (hN : w.heap.size ≤ N) (hX : ¬ X 0) : AL w' := h.of (hb.block _ (Nat.lt_of_lt_of_le h.lt hN) hX)
theorem AL.rd {w : World} {b : Nat} {s : ByteArray} {i : Nat} (h : AL w) (k : RD w b s i) : ¬ Is b 0 := fun e => by
  unfold Is at e
  have h0 := h.1
  have k0 := k.text
  rw [← e, h0] at k0
  cases k0

theorem div64 {c : Nat} (hc : c < 256) : c / 64 = 0 ∨ c / 64 = 1 ∨ c / 64 = 2 ∨ c / 64 = 3 := by omega
set_option maxRecDepth 100000 in
theorem has_any (s : S4) (c : Nat) (hc : c < 256) (w : World) :
    Calls Tryd.prog 64 #[s.val, .int .u8 (c : Int)] w fun e w' => e = .returned (.bool (s.has c)) ∧ Below w.heap.size w w' := by
  unfold S4.val
  rcases div64 hc with h | h | h | h
  all_goals
    unfold S4.has hasQ
    rw [h]
    go_enter Tryd.func64, Tryd.ntmps64
    go_wp2_with fail
    go_ret
    exact ⟨rfl, below1 _ _⟩

/-- A set in a block of its own. -/
def SB (w : World) (g : Nat) (s : S4) : Prop := w.heap[g]? = some (.cells #[.int .u64 s.a, .int .u64 s.b, .int .u64 s.c, .int .u64 s.d] 121 (0, 0))
theorem SB.cells {w : World} {g : Nat} {s : S4} (h : SB w g s) : w.cell? ⟨g, 0, none⟩ = some (.int .u64 s.a) ∧ w.cell? ⟨g, 1, none⟩ = some (.int .u64 s.b) ∧ w.cell? ⟨g, 2, none⟩ = some (.int .u64 s.c) ∧ w.cell? ⟨g, 3, none⟩ = some (.int .u64 s.d) := by
  unfold World.cell?
  rw [h]
  exact ⟨rfl, rfl, rfl, rfl⟩
theorem SB.free {w : World} {g : Nat} {s : S4} (h : SB w g s) (k : Nat) : w.frozen? ⟨g, k, none⟩ = false := by unfold World.frozen?; rw [h]; simp
theorem SB.lt {w : World} {g : Nat} {s : S4} (h : SB w g s) : g < w.heap.size := (Array.getElem?_eq_some_iff.1 h).1
theorem SB.set0 {w : World} {g : Nat} {s : S4} (h : SB w g s) (x : Int) : SB (w.setCell ⟨g, 0, none⟩ (.int .u64 x)) g { s with a := x } := by
  unfold SB at *
  simp [World.setCell, Array.getElem?_modify, h]
theorem SB.set1 {w : World} {g : Nat} {s : S4} (h : SB w g s) (x : Int) : SB (w.setCell ⟨g, 1, none⟩ (.int .u64 x)) g { s with b := x } := by
  unfold SB at *
  simp [World.setCell, Array.getElem?_modify, h]
theorem SB.set2 {w : World} {g : Nat} {s : S4} (h : SB w g s) (x : Int) : SB (w.setCell ⟨g, 2, none⟩ (.int .u64 x)) g { s with c := x } := by
  unfold SB at *
  simp [World.setCell, Array.getElem?_modify, h]
theorem SB.set3 {w : World} {g : Nat} {s : S4} (h : SB w g s) (x : Int) : SB (w.setCell ⟨g, 3, none⟩ (.int .u64 x)) g { s with d := x } := by
  unfold SB at *
  simp [World.setCell, Array.getElem?_modify, h]
theorem SB.new (w : World) : SB (w.alloc (.cells #[.int .u64 0, .int .u64 0, .int .u64 0, .int .u64 0] 121)) w.heap.size .zero := by
  show (w.heap.push _)[w.heap.size]? = some _
  rw [Array.getElem?_push, if_pos rfl]
  rfl
theorem SB.kp {w w' : World} {g N : Nat} {X : Nat → Prop} {s : S4} (h : SB w g s) (hk : Kp N X w w') (hN : g < N) (hX : ¬ X g) : SB w' g s := (hk.block g hN hX).trans h
set_option maxRecDepth 100000 in
theorem add_any (s : S4) (g c : Nat) (hc : c < 256) (w : World) (h : SB w g s) :
    Calls Tryd.prog 101 #[.pointer (some ⟨g, 0, none⟩), .int .u8 (c : Int)] w fun e w' => e = .returned (.tuple #[]) ∧ SB w' g (s.add c) ∧ Kp w.heap.size (Is g) w w' := by
  obtain ⟨c0, c1, c2, c3⟩ := h.cells
  have hf := h.free
  have f0 := hf 0
  have f1 := hf 1
  have f2 := hf 2
  have f3 := hf 3
  have HS := Lib.hid h
  clear h hf
  rcases div64 hc with h | h | h | h
  · unfold S4.add orQ
    rw [h]
    go_enter Tryd.func101, Tryd.ntmps101
    go_wp2_with fail
    go_region
    go_wp2_with fail
    go_end0
    exact ⟨rfl, HS.out.set0 _, ((Kp.refl _ _ w).set ⟨g, 0, none⟩ (Is.self g) _).drew⟩
  · unfold S4.add orQ
    rw [h]
    go_enter Tryd.func101, Tryd.ntmps101
    go_wp2_with fail
    go_region
    go_wp2_with fail
    go_end0
    exact ⟨rfl, HS.out.set1 _, ((Kp.refl _ _ w).set ⟨g, 1, none⟩ (Is.self g) _).drew⟩
  · unfold S4.add orQ
    rw [h]
    go_enter Tryd.func101, Tryd.ntmps101
    go_wp2_with fail
    go_region
    go_wp2_with fail
    go_end0
    exact ⟨rfl, HS.out.set2 _, ((Kp.refl _ _ w).set ⟨g, 2, none⟩ (Is.self g) _).drew⟩
  · unfold S4.add orQ
    rw [h]
    go_enter Tryd.func101, Tryd.ntmps101
    go_wp2_with fail
    go_region
    go_wp2_with fail
    go_end0
    exact ⟨rfl, HS.out.set3 _, ((Kp.refl _ _ w).set ⟨g, 3, none⟩ (Is.self g) _).drew⟩

/-- What the program reckons for a comparison with the empty set. -/
def zQ (a b c d : Int) : Bool := a == 0 && b == 0 && c == 0 && d == 0
theorem zQ_isZ (s : S4) : zQ s.a s.b s.c s.d = s.isZ := rfl
theorem set_eqIn (a b c d : Int) (w : World) : (Op.equalIn 10000 121 (.agg #[.int .u64 a, .int .u64 b, .int .u64 c, .int .u64 d]) (.agg #[.int .u64 0, .int .u64 0, .int .u64 0, .int .u64 0])).run Tryd.prog w = .ok (zQ a b c d) w := by
  have u3 := Tryd.underlying32
  have a3 := Tryd.isAgg32
  have z3 := Tryd.sizeOf32
  rw [show (10000 : Nat) = 9999 + 1 from rfl, Op.equalIn]
  simp only [Sem.run_bind, run_underlying Tryd.underlying121, Result.andThen_ok]
  simp only [Std.Legacy.Range.forIn_eq_forIn_range', Std.Legacy.Range.size, Nat.sub_zero, Nat.add_sub_cancel, Nat.div_one, List.range'_succ, List.range'_zero, List.forIn_cons, List.forIn_nil]
  unfold zQ
  go_simp
  by_cases h1 : a = 0 <;> by_cases h2 : b = 0 <;> by_cases h3 : c = 0 <;> by_cases h4 : d = 0 <;> simp [h1, h2, h3, h4]
@[go_sem] theorem set_guard (x y : Operand) (xs ys : Array Value) (w : World) : (eqGuard .eql 121 x y (.agg xs) (.agg ys)).run Tryd.prog w = .ok () w := run_eqGuard_agg w _ _ x y xs ys (by kernel_rfl)
@[go_sem high] theorem set_eql (a b c d : Int) (w : World) : (binOp .eql 121 (.agg #[.int .u64 a, .int .u64 b, .int .u64 c, .int .u64 d]) (.agg #[.int .u64 0, .int .u64 0, .int .u64 0, .int .u64 0])).run Tryd.prog w = .ok (.bool (zQ a b c d)) w := by
  rw [run_eql_struct, set_eqIn]; rfl
set_option maxRecDepth 100000 in
theorem isEmpty_any (s : S4) (w : World) :
    Calls Tryd.prog 56 #[s.val] w fun e w' => e = .returned (.bool s.isZ) ∧ Below w.heap.size w w' := by
  unfold S4.val
  rw [← zQ_isZ]
  go_enter Tryd.func56, Tryd.ntmps56
  go_wp2_with fail
  go_ret
  exact ⟨rfl, below1 _ _⟩

theorem below6 {B n : Nat} {w w1 : World} (h : Below B w w1) (hn : B ≤ n) (a b c d e f : Value) : Below B w ((((((w1.setCell ⟨n, 0, none⟩ a).setCell ⟨n, 1, none⟩ b).setCell ⟨n, 2, none⟩ c).setCell ⟨n, 3, none⟩ d).setCell ⟨n, 4, none⟩ e).setCell ⟨n, 5, none⟩ f) :=
  (((((h.setCell (p := ⟨n, 0, none⟩) hn a).setCell (p := ⟨n, 1, none⟩) hn b).setCell (p := ⟨n, 2, none⟩) hn c).setCell (p := ⟨n, 3, none⟩) hn d).setCell (p := ⟨n, 4, none⟩) hn e).setCell (p := ⟨n, 5, none⟩) hn f
theorem kp6 {N n : Nat} {X : Nat → Prop} {w w1 : World} (h : Kp N X w w1) (hn : N ≤ n) (a b c d e f : Value) : Kp N X w ((((((w1.setCell ⟨n, 0, none⟩ a).setCell ⟨n, 1, none⟩ b).setCell ⟨n, 2, none⟩ c).setCell ⟨n, 3, none⟩ d).setCell ⟨n, 4, none⟩ e).setCell ⟨n, 5, none⟩ f) :=
  h.trans (.of (below6 (Below.refl N w1) hn a b c d e f) (Nat.le_refl _))
theorem at6 {n b : Nat} {w1 : World} (hb : b ≠ n) (a1 b1 c1 d1 e1 f1 : Value) : ((((((w1.setCell ⟨n, 0, none⟩ a1).setCell ⟨n, 1, none⟩ b1).setCell ⟨n, 2, none⟩ c1).setCell ⟨n, 3, none⟩ d1).setCell ⟨n, 4, none⟩ e1).setCell ⟨n, 5, none⟩ f1).heap[b]? = w1.heap[b]? := by
  rw [Below.heap_setCell _ _ _ _ hb, Below.heap_setCell _ _ _ _ hb, Below.heap_setCell _ _ _ _ hb, Below.heap_setCell _ _ _ _ hb, Below.heap_setCell _ _ _ _ hb, Below.heap_setCell _ _ _ _ hb]
/-- Six cells of one block, none frozen. -/
def Box6 (w : World) (n : Nat) (a b c d e f : Value) : Prop :=
  w.cell? ⟨n, 0, none⟩ = some a ∧ w.cell? ⟨n, 1, none⟩ = some b ∧ w.cell? ⟨n, 2, none⟩ = some c ∧ w.cell? ⟨n, 3, none⟩ = some d ∧ w.cell? ⟨n, 4, none⟩ = some e ∧ w.cell? ⟨n, 5, none⟩ = some f ∧ ∀ o, w.frozen? ⟨n, o, none⟩ = false
theorem Box6.of_block {w w1 : World} {n : Nat} {a b c d e f : Value} (h : Box6 w n a b c d e f) (hb : w1.heap[n]? = w.heap[n]?) : Box6 w1 n a b c d e f := by
  obtain ⟨h0, h1, h2, h3, h4, h5, hz⟩ := h
  have go : ∀ o, w1.cell? ⟨n, o, none⟩ = w.cell? ⟨n, o, none⟩ := fun o => World.cell?_of_block (w := w) (a := ⟨n, o, none⟩) hb
  exact ⟨(go _).trans h0, (go _).trans h1, (go _).trans h2, (go _).trans h3, (go _).trans h4, (go _).trans h5, fun o => (World.frozen?_of_block (w := w) (a := ⟨n, o, none⟩) hb).trans (hz o)⟩
theorem cell_at (w : World) (xs : Array Value) (t o : Nat) (x : Value) (h : xs[o]? = some x) : (w.alloc (.cells xs t)).cell? ⟨w.heap.size, o, none⟩ = some x := by
  unfold World.cell?
  have : (w.alloc (.cells xs t)).heap[w.heap.size]? = some (.cells xs t (0, 0)) := by
    show (w.heap.push _)[w.heap.size]? = _
    rw [Array.getElem?_push, if_pos rfl]
  rw [this]
  exact h
theorem Box6.new {w : World} {n : Nat} (a b c d e f : Value) (t : Nat) (hn : w.heap.size = n) : Box6 (w.alloc (.cells #[a, b, c, d, e, f] t)) n a b c d e f := by
  subst hn
  exact ⟨cell_at _ _ _ _ _ rfl, cell_at _ _ _ _ _ rfl, cell_at _ _ _ _ _ rfl, cell_at _ _ _ _ _ rfl, cell_at _ _ _ _ _ rfl, cell_at _ _ _ _ _ rfl, fun o => World.frozen?_alloc_at _ _ _ _ rfl⟩
theorem Box6.kp {N : Nat} {X : Nat → Prop} {w w1 : World} {n : Nat} {a b c d e f : Value} (h : Box6 w n a b c d e f) (hk : Kp N X w w1) (hn : n < N) (hX : ¬ X n) : Box6 w1 n a b c d e f := h.of_block (hk.block n hn hX)
theorem Box6.later {B : Nat} {w w1 : World} {n : Nat} {a b c d e f : Value} (h : Box6 w n a b c d e f) (hk : Below B w w1) (hn : n < B) : Box6 w1 n a b c d e f := h.of_block (hk.block n hn)
/-- The zero tree in a block of its own. -/
def Z6 (w : World) (n : Nat) : Prop := Box6 w n (.int .i64 0) (.int .u64 0) (.int .u64 0) (.int .u64 0) (.int .u64 0) (.slice none 0 0)
theorem Z6.new (w : World) : Z6 (w.alloc (.cells #[.int .i64 0, .int .u64 0, .int .u64 0, .int .u64 0, .int .u64 0, .slice none 0 0] 36)) w.heap.size := Box6.new _ _ _ _ _ _ _ rfl

set_option maxRecDepth 100000 in
theorem classOf_any (s : S4) (w : World) :
    Calls Tryd.prog 95 #[s.val] w fun e w' => e = .returned ((classT s).val (.slice none 0 0)) ∧ Below w.heap.size w w' := by
  have HE := Lib.hid (isEmpty_any s)
  obtain ⟨w0, hw0⟩ : ∃ w0, w0 = (w.alloc (.cells #[.int .u64 s.a, .int .u64 s.b, .int .u64 s.c, .int .u64 s.d] 121)).alloc (.cells #[.int .i64 0, .int .u64 0, .int .u64 0, .int .u64 0, .int .u64 0, .slice none 0 0] 36) := ⟨_, rfl⟩
  have HZ := Lib.hid (Z6.new (w.alloc (.cells #[.int .u64 s.a, .int .u64 s.b, .int .u64 s.c, .int .u64 s.d] 121)))
  rw [← hw0, show (w.alloc (.cells #[.int .u64 s.a, .int .u64 s.b, .int .u64 s.c, .int .u64 s.d] 121)).heap.size = w.heap.size + 1 by simp] at HZ
  have hb0 : Below w.heap.size w w0 := by rw [hw0]; exact below2 _ _ _
  have hs0 : w0.heap.size = w.heap.size + 2 := by rw [hw0]; simp
  have HS : Hid (∀ w1, Below w0.heap.size w0 w1 → ∀ o x, (#[.int .u64 s.a, .int .u64 s.b, .int .u64 s.c, .int .u64 s.d] : Array Value)[o]? = some x → w1.cell? ⟨w.heap.size, o, none⟩ = some x) := Lib.hid (fun w1 hb o x hx => by
    rw [hb.cell (p := ⟨w.heap.size, o, none⟩) (by show w.heap.size < _; omega), hw0, (below1 _ _).cell (p := ⟨w.heap.size, o, none⟩) (by simp)]
    exact cell_at _ _ _ _ _ hx)
  unfold S4.val at *
  unfold classT
  cases hz : s.isZ
  · rw [hz] at HE
    go_enter Tryd.func95, Tryd.ntmps95
    go_wp2_with fail
    rw [← hw0]
    refine (HE.out _).mono ?_
    rintro e w1 ⟨rfl, hb⟩
    obtain ⟨z0, z1, z2, z3, z4, z5, zf⟩ := HZ.out.later hb (by omega)
    have s0 := HS.out w1 hb 0 _ rfl
    have s1 := HS.out w1 hb 1 _ rfl
    have s2 := HS.out w1 hb 2 _ rfl
    have s3 := HS.out w1 hb 3 _ rfl
    go_wp2_with fail
    refine bodyPost_ret (v := .agg #[.int .i64 3, .int .u64 s.a, .int .u64 s.b, .int .u64 s.c, .int .u64 s.d, .slice none 0 0]) (by simp [results, Tryd.results95, go_sem, *]) rfl ⟨rfl, ?_⟩
    exact below6 (hb0.trans (hb.mono (by omega))) (by omega) _ _ _ _ _ _
  · rw [hz] at HE
    go_enter Tryd.func95, Tryd.ntmps95
    go_wp2_with fail
    rw [← hw0]
    refine (HE.out _).mono ?_
    rintro e w1 ⟨rfl, hb⟩
    obtain ⟨z0, z1, z2, z3, z4, z5, zf⟩ := HZ.out.later hb (by omega)
    go_wp2_with fail
    refine bodyPost_ret (v := .agg #[.int .i64 1, .int .u64 0, .int .u64 0, .int .u64 0, .int .u64 0, .slice none 0 0]) (by simp [results, Tryd.results95, go_sem, *]) rfl ⟨rfl, ?_⟩
    exact below6 (hb0.trans (hb.mono (by omega))) (by omega) _ _ _ _ _ _

set_option maxRecDepth 100000 in
theorem without_any (s t : S4) (w : World) :
    Calls Tryd.prog 57 #[s.val, t.val] w fun e w' => e = .returned (s.without t).val ∧ Below w.heap.size w w' := by
  unfold S4.val S4.without
  go_enter Tryd.func57, Tryd.ntmps57
  go_wp2_with fail
  refine wp_loop_rounds 5 ?_
  iterate 4 (rw [rounds_succ]; go_wp2_with fail; go_region; go_wp2_with fail)
  rw [rounds_succ]
  go_wp2_with fail
  exact bodyPost_ret (v := .agg #[.int .u64 (bits BinOp.andNot IntKind.u64 s.a t.a), .int .u64 (bits BinOp.andNot IntKind.u64 s.b t.b), .int .u64 (bits BinOp.andNot IntKind.u64 s.c t.c), .int .u64 (bits BinOp.andNot IntKind.u64 s.d t.d)]) (by simp [results, Tryd.results57, go_sem]) rfl ⟨rfl, (((below2 w _ _).alloc (by simp; omega) _).drew.drew.drew.drew)⟩
end Go.Proofs.YtaipaddfehpmgaaDoor
