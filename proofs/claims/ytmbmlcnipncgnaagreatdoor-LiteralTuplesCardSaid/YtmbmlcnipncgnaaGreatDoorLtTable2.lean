/-
  table of the package. Nothing is assumed.
-/
import Derived.Test.YtmbmlcnipncgnaaGreatDoorLtLists
namespace Go.Proofs.YtmbmlcnipncgnaaGreatDoor

section
open Go.RowKit

theorem itemsL_len (el : List V → Nat → PR V) (close least : Nat) (L : List UInt8) : ∀ (k : Nat) (acc : List V) (i : Nat) (l : List V) (m : Nat), itemsL el close least L k acc i = .ok l m → least ≤ l.length ∧ l.length ≤ acc.length + k := by
  intro k
  induction k with
  | zero =>
    intro acc i l m h
    rw [itemsL] at h
    split at h
    · rename_i hc
      cases h
      exact ⟨hc.2, Nat.le_refl _⟩
    · cases h
  | succ k ih =>
    intro acc i l m h
    rw [itemsL] at h
    split at h
    · rename_i hc
      cases h
      exact ⟨hc.2, by omega⟩
    · cases hs : sepL acc L i with
      | bad j => rw [hs] at h; cases h
      | ok u j =>
        rw [hs, PR.bind_ok] at h
        cases he : el acc j with
        | bad j => rw [he] at h; cases h
        | ok v j2 =>
          rw [he, PR.bind_ok] at h
          have := ih _ _ _ _ h
          rw [List.length_append] at this
          exact ⟨this.1, by have := this.2; simp at this; omega⟩
theorem textsL_len {least most : Nat} {L : List UInt8} {i : Nat} {v : V} {m : Nat} (h : textsL least most L i = .ok v m) : least ≤ v.l.length ∧ v.l.length ≤ most ∧ ∃ l, v = .mk 6 0 ⟨#[]⟩ l := by
  rw [textsL_at] at h
  split at h
  · cases hs : itemsL (fun _ j => textL L j) 125 least L most [] (i + 1) with
    | bad j => rw [hs] at h; cases h
    | ok l j =>
      rw [hs] at h
      cases h
      have := itemsL_len _ _ _ _ _ _ _ _ _ hs
      simp at this
      exact ⟨this.1, this.2, _, rfl⟩
  · cases h
/-- A cell with a number. -/
def ICell (w : World) (p : Nat) (n : Nat) : Prop := w.heap[p]? = some (.cells #[.int .i64 (n : Int)] 3 (0, 0))
theorem ICell.cell {w : World} {p n : Nat} (h : ICell w p n) : w.cell? ⟨p, 0, none⟩ = some (.int .i64 (n : Int)) := by unfold World.cell?; rw [h]; rfl
theorem ICell.free {w : World} {p n : Nat} (h : ICell w p n) : w.frozen? ⟨p, 0, none⟩ = false := by unfold World.frozen?; rw [h]; simp
theorem ICell.lt {w : World} {p n : Nat} (h : ICell w p n) : p < w.heap.size := (Array.getElem?_eq_some_iff.1 h).1
theorem ICell.set {w : World} {p n : Nat} (h : ICell w p n) (m : Nat) : ICell (w.setCell ⟨p, 0, none⟩ (.int .i64 (m : Int))) p m := by
  unfold ICell at *
  simp [World.setCell, Array.getElem?_modify, h]
theorem ICell.far {w : World} {p n q k : Nat} (h : ICell w p n) (hn : p ≠ q) (v : Value) : ICell (w.setCell ⟨q, k, none⟩ v) p n := (Below.heap_setCell w ⟨q, k, none⟩ v p hn).trans h
theorem ICell.alloc {w : World} {p n : Nat} (h : ICell w p n) (o : Obj) : ICell (w.alloc o) p n := by
  unfold ICell
  rw [Below.heap_alloc _ _ _ h.lt]
  exact h
theorem ICell.drew {w : World} {p n : Nat} (h : ICell w p n) : ICell w.drew p n := h
theorem RD.drew {w : World} {b : Nat} {s : ByteArray} {i : Nat} (h : RD w b s i) : RD w.drew b s i := h
/-- What the closure of table holds. -/
def RowI (b p1 p2 p3 lo hi : Nat) (w : World) : Prop := w.heap[p1]? = some (.cells #[.pointer (some ⟨b, 0, none⟩)] 80 (0, 0)) ∧ ICell w p2 lo ∧ ICell w p3 hi
theorem RowI.kp {b p1 p2 p3 lo hi N : Nat} {X : Nat → Prop} {w w' : World} (h : RowI b p1 p2 p3 lo hi w) (hk : Kp N X w w') (h1 : p1 < N) (h2 : p2 < N) (h3 : p3 < N) (x1 : ¬ X p1) (x2 : ¬ X p2) (x3 : ¬ X p3) : RowI b p1 p2 p3 lo hi w' :=
  ⟨(hk.block p1 h1 x1).trans h.1, (hk.block p2 h2 x2).trans h.2.1, (hk.block p3 h3 x3).trans h.2.2⟩
/-- The blocks that the closure may write. -/
def XRow (b p2 p3 k : Nat) : Prop := k = b ∨ k = p2 ∨ k = p3

theorem cell_set_ne (w : World) (a c : Addr) (v : Value) (h : c.block ≠ a.block) : (w.setCell a v).cell? c = w.cell? c := World.cell?_of_block (w := w) (Below.heap_setCell w a v c.block h)
theorem cell_alloc_lt (w : World) (o : Obj) (c : Addr) (h : c.block < w.heap.size) : (w.alloc o).cell? c = w.cell? c := World.cell?_of_block (w := w) (Below.heap_alloc w o c.block h)
theorem frozen_alloc_lt (w : World) (o : Obj) (c : Addr) (h : c.block < w.heap.size) : (w.alloc o).frozen? c = w.frozen? c := World.frozen?_of_block (w := w) (Below.heap_alloc w o c.block h)
/-- The blocks that the closure and its result write. -/
def YRow (n p2 p3 k : Nat) : Prop := k = n ∨ k = p2 ∨ k = p3
set_option maxRecDepth 100000 in
set_option maxHeartbeats 1600000 in
theorem row_any (w : World) (b : Nat) (s : ByteArray) (i p1 p2 p3 lo hi : Nat) (h : RD w b s i) (hi' : i ≤ s.size) (hs : s.size ≤ 1000000) (hhi : hi ≤ 16) (hI : RowI b p1 p2 p3 lo hi w) (d1 : p1 ≠ b) (d2 : p2 ≠ b) (d3 : p3 ≠ b) (d4 : p2 ≠ p3) (d5 : p1 ≠ p2) (d6 : p1 ≠ p3) :
    Calls Tryz.prog 81 #[.pointer (some ⟨p1, 0, none⟩), .pointer (some ⟨p2, 0, none⟩), .pointer (some ⟨p3, 0, none⟩)] w fun e w' => OutV (XRow b p2 p3) b s w (textsL lo hi s.data.toList i) e w' ∧ ∀ v m, textsL lo hi s.data.toList i = .ok v m → RowI b p1 p2 p3 v.l.length v.l.length w' := by
  have hblt : b < w.heap.size := h.lt
  have hp1 : p1 < w.heap.size := (Array.getElem?_eq_some_iff.1 hI.1).1
  have hp2 := hI.2.1.lt
  have hp3 := hI.2.2.lt
  have HQ := Lib.hid (texts_any (w.alloc (.cells #[.int .i64 0, .int .i64 0, .string ⟨#[]⟩, .slice none 0 0] 34)) b s i lo hi (h.alloc _) hi' hs hhi)
  have HZ := Lib.hid (zero4_new w)
  have HK : Hid (Kp w.heap.size (XRow b p2 p3) w (w.alloc (.cells #[.int .i64 0, .int .i64 0, .string ⟨#[]⟩, .slice none 0 0] 34))) := Lib.hid ((Kp.refl _ _ w).alloc (Nat.le_refl _) _)
  have hw0 : w.heap.size < (w.alloc (.cells #[.int .i64 0, .int .i64 0, .string ⟨#[]⟩, .slice none 0 0] 34)).heap.size := by simp
  have hI0 : RowI b p1 p2 p3 lo hi (w.alloc (.cells #[.int .i64 0, .int .i64 0, .string ⟨#[]⟩, .slice none 0 0] 34)) := hI.kp (X := fun _ => False) (.of (below1 w _) (Nat.le_refl _)) hp1 hp2 hp3 (fun h => h) (fun h => h) (fun h => h)
  have k1 : w.cell? ⟨p1, 0, none⟩ = some (.pointer (some ⟨b, 0, none⟩)) := by unfold World.cell?; rw [hI.1]; rfl
  have k2 := hI.2.1.cell
  have k3 := hI.2.2.cell
  have HI := Lib.hid hI0
  have HLE := Lib.hid (fun v m => textsL_len (least := lo) (most := hi) (L := s.data.toList) (i := i) (v := v) (m := m))
  clear h hI hI0
  generalize textsL lo hi s.data.toList i = r at *
  go_enter Tryz.func81, Tryz.ntmps81
  go_wp2_with fail
  refine HQ.out.mono ?_
  rintro e w1 ⟨he, hR1, hk1⟩
  have HZ1 : Hid (Zero4 w1 w.heap.size) := Lib.hid (Box4.kp HZ.out hk1 hw0 (by unfold Is; omega))
  have HK1 : Hid (Kp w.heap.size (XRow b p2 p3) w w1) := Lib.hid (HK.out.trans (hk1.mono (by simp) (fun k _ h => .inl h)))
  have hw1 : w.heap.size < w1.heap.size := Nat.lt_of_lt_of_le hw0 hk1.size
  have HI1 : Hid (RowI b p1 p2 p3 lo hi w1) := Lib.hid (HI.out.kp hk1 (by simp; omega) (by simp; omega) (by simp; omega) d1 d2 d3)
  have HR1 := Lib.hid hR1
  obtain ⟨c0, c1, c2, c3, cz⟩ := HZ1.out
  have f0 := cz 0
  have f1 := cz 1
  have f2 := cz 2
  have f3 := cz 3
  have g2 := HI1.out.2.1.cell
  have g3 := HI1.out.2.2.cell
  have z2 := HI1.out.2.1.free
  have z3 := HI1.out.2.2.free
  clear hR1 hk1 HQ HZ HK HI cz k1 k2 k3
  have q2 : p2 < w1.heap.size := by omega
  have q3 : p3 < w1.heap.size := by omega
  have e2 : ∀ o, (w1.alloc o).cell? ⟨p2, 0, none⟩ = some (.int .i64 (lo : Int)) := fun o => (cell_alloc_lt w1 o ⟨p2, 0, none⟩ q2).trans g2
  have e3 : ∀ o, (w1.alloc o).cell? ⟨p3, 0, none⟩ = some (.int .i64 (hi : Int)) := fun o => (cell_alloc_lt w1 o ⟨p3, 0, none⟩ q3).trans g3
  have y2 : ∀ o, (w1.alloc o).frozen? ⟨p2, 0, none⟩ = false := fun o => (frozen_alloc_lt w1 o ⟨p2, 0, none⟩ q2).trans z2
  have y3 : ∀ o, (w1.alloc o).frozen? ⟨p3, 0, none⟩ = false := fun o => (frozen_alloc_lt w1 o ⟨p3, 0, none⟩ q3).trans z3
  have s23 : ∀ o x, ((w1.alloc o).setCell ⟨p2, 0, none⟩ x).cell? ⟨p3, 0, none⟩ = some (.int .i64 (hi : Int)) := fun o x => (cell_set_ne _ _ ⟨p3, 0, none⟩ _ (Ne.symm d4)).trans (e3 o)
  have s32 : ∀ o x, ((w1.alloc o).setCell ⟨p3, 0, none⟩ x).cell? ⟨p2, 0, none⟩ = some (.int .i64 (lo : Int)) := fun o x => (cell_set_ne _ _ ⟨p2, 0, none⟩ _ d4).trans (e2 o)
  have a23 : ∀ o x y k, (((w1.alloc o).setCell ⟨p2, 0, none⟩ x).setCell ⟨p3, 0, none⟩ y).cell? ⟨w1.heap.size, k, none⟩ = (w1.alloc o).cell? ⟨w1.heap.size, k, none⟩ := fun o x y k => (cell_set_ne _ _ ⟨w1.heap.size, k, none⟩ _ (by simp; omega)).trans (cell_set_ne _ _ ⟨w1.heap.size, k, none⟩ _ (by simp; omega))
  have a32 : ∀ o x y k, (((w1.alloc o).setCell ⟨p3, 0, none⟩ x).setCell ⟨p2, 0, none⟩ y).cell? ⟨w1.heap.size, k, none⟩ = (w1.alloc o).cell? ⟨w1.heap.size, k, none⟩ := fun o x y k => (cell_set_ne _ _ ⟨w1.heap.size, k, none⟩ _ (by simp; omega)).trans (cell_set_ne _ _ ⟨w1.heap.size, k, none⟩ _ (by simp; omega))
  have b23 : ∀ o x y k, (((w1.alloc o).setCell ⟨p2, 0, none⟩ x).setCell ⟨p3, 0, none⟩ y).cell? ⟨w.heap.size, k, none⟩ = w1.cell? ⟨w.heap.size, k, none⟩ := fun o x y k => ((cell_set_ne _ _ ⟨w.heap.size, k, none⟩ _ (by simp; omega)).trans (cell_set_ne _ _ ⟨w.heap.size, k, none⟩ _ (by simp; omega))).trans (cell_alloc_lt _ _ ⟨w.heap.size, k, none⟩ hw1)
  have b32 : ∀ o x y k, (((w1.alloc o).setCell ⟨p3, 0, none⟩ x).setCell ⟨p2, 0, none⟩ y).cell? ⟨w.heap.size, k, none⟩ = w1.cell? ⟨w.heap.size, k, none⟩ := fun o x y k => ((cell_set_ne _ _ ⟨w.heap.size, k, none⟩ _ (by simp; omega)).trans (cell_set_ne _ _ ⟨w.heap.size, k, none⟩ _ (by simp; omega))).trans (cell_alloc_lt _ _ ⟨w.heap.size, k, none⟩ hw1)
  have u0 : ∀ o k, (w1.alloc o).frozen? ⟨w.heap.size, k, none⟩ = w1.frozen? ⟨w.heap.size, k, none⟩ := fun o k => frozen_alloc_lt w1 o ⟨w.heap.size, k, none⟩ hw1
  cases r with
  | bad k =>
    obtain ⟨t1, n1, S1, rfl⟩ := he
    go_wp2_with fail
    go_region
    all_goals go_wp2_with fail
    refine bodyPost_ret (v := .tuple #[.agg #[.int .i64 t1, .int .i64 n1, .string S1, .slice none 0 0], .bool false]) (by simp [results, Tryz.results81, go_sem, *]) rfl ?_
    exact ⟨⟨.none _ _ _ _ _ _, RD.drew (RD.alloc (RD.far4 ((HR1.out.far (Ne.symm d2) _).far (Ne.symm d3) _) (by omega) _ _ _ _) _), (Kp.alloc (Kp.own4 ((HK1.out.set ⟨p2, 0, none⟩ (.inr (.inl rfl)) _).set ⟨p3, 0, none⟩ (.inr (.inr rfl)) _) (Nat.le_refl _) _ _ _ _) (by rw [size4, size_set', size_set']; omega) _).drew⟩, fun v m h => by cases h⟩
  | ok v k =>
    obtain ⟨oe, ce, rfl, hrep⟩ := he
    have HP := Lib.hid hrep
    obtain ⟨hl1, hl2, l, rfl⟩ := HLE.out v k rfl
    clear hrep HLE
    go_wp2_with fail
    go_region
    all_goals go_wp2_with fail
    refine bodyPost_ret (v := .tuple #[.agg #[.int .i64 6, .int .i64 0, .string ⟨#[]⟩, .slice oe l.length ce], .bool true]) (by simp [results, Tryz.results81, go_sem, V.t, V.n, V.s, V.l, *]) rfl ?_
    have KY : ∀ o x y r0 r1 r2 r3, Kp w1.heap.size (YRow w.heap.size p2 p3) w1 (((((((w1.setCell ⟨p2, 0, none⟩ x).setCell ⟨p3, 0, none⟩ y).setCell ⟨w.heap.size, 0, none⟩ r0).setCell ⟨w.heap.size, 1, none⟩ r1).setCell ⟨w.heap.size, 2, none⟩ r2).setCell ⟨w.heap.size, 3, none⟩ r3).alloc o).drew := fun o x y r0 r1 r2 r3 =>
      ((((((((Kp.refl w1.heap.size (YRow w.heap.size p2 p3) w1).set ⟨p2, 0, none⟩ (.inr (.inl rfl)) x).set ⟨p3, 0, none⟩ (.inr (.inr rfl)) y).set ⟨w.heap.size, 0, none⟩ (.inl rfl) r0).set ⟨w.heap.size, 1, none⟩ (.inl rfl) r1).set ⟨w.heap.size, 2, none⟩ (.inl rfl) r2).set ⟨w.heap.size, 3, none⟩ (.inl rfl) r3).alloc (by rw [size4, size_set', size_set']; exact Nat.le_refl _) o).drew
    refine ⟨⟨⟨oe, ce, rfl, Kp.rep (KY _ _ _ _ _ _ _) HP.out (Nat.le_refl _) (fun k h1 _ hy => by simp at h1; unfold YRow at hy; omega) (by simp) (KY _ _ _ _ _ _ _).size⟩, RD.drew (RD.alloc (RD.far4 ((HR1.out.far (Ne.symm d2) _).far (Ne.symm d3) _) (by omega) _ _ _ _) _), (Kp.alloc (Kp.own4 ((HK1.out.set ⟨p2, 0, none⟩ (.inr (.inl rfl)) _).set ⟨p3, 0, none⟩ (.inr (.inr rfl)) _) (Nat.le_refl _) _ _ _ _) (by rw [size4, size_set', size_set']; omega) _).drew⟩, fun v m h => ?_⟩
    obtain ⟨rfl, rfl⟩ : v = .mk 6 0 ⟨#[]⟩ l ∧ m = k := by cases h; exact ⟨rfl, rfl⟩
    refine ⟨((KY _ _ _ _ _ _ _).block p1 (by omega) (by unfold YRow; omega)).trans HI1.out.1, ?_, ?_⟩
    · exact ICell.drew (ICell.alloc (ICell.far (ICell.far (ICell.far (ICell.far ((HI1.out.2.1.set l.length).far d4 _) (by omega) _) (by omega) _) (by omega) _) (by omega) _) _)
    · exact ICell.drew (ICell.alloc (ICell.far (ICell.far (ICell.far (ICell.far ((HI1.out.2.2.far (Ne.symm d4) _).set l.length) (by omega) _) (by omega) _) (by omega) _) (by omega) _) _)
end

section
open Go.RowKit

/-- The world of table when it calls items. -/
def tabW (w : World) (b : Nat) : World := (((w.alloc (.cells #[.pointer (some ⟨b, 0, none⟩)] 80)).alloc (.cells #[.int .i64 0, .int .i64 0, .string ⟨#[]⟩, .slice none 0 0] 34)).alloc (.cells #[.int .i64 1] 3)).alloc (.cells #[.int .i64 8] 3)
theorem tabW_size (w : World) (b : Nat) : (tabW w b).heap.size = w.heap.size + 4 := by simp [tabW]
theorem tabW_old (w : World) (b k : Nat) (h : k < w.heap.size) : (tabW w b).heap[k]? = w.heap[k]? := by
  unfold tabW
  rw [Below.heap_alloc _ _ _ (by simp; omega), Below.heap_alloc _ _ _ (by simp; omega), Below.heap_alloc _ _ _ (by simp; omega), Below.heap_alloc _ _ _ h]
theorem tabW_0 (w : World) (b : Nat) : (tabW w b).heap[w.heap.size]? = some (.cells #[.pointer (some ⟨b, 0, none⟩)] 80 (0, 0)) := by
  unfold tabW
  rw [Below.heap_alloc _ _ _ (by simp; omega), Below.heap_alloc _ _ _ (by simp; omega), Below.heap_alloc _ _ _ (by simp)]
  exact heap_new w _
theorem tabW_1 (w : World) (b : Nat) : (tabW w b).heap[w.heap.size + 1]? = some (.cells #[.int .i64 0, .int .i64 0, .string ⟨#[]⟩, .slice none 0 0] 34 (0, 0)) := by
  unfold tabW
  rw [Below.heap_alloc _ _ _ (by simp), Below.heap_alloc _ _ _ (by simp)]
  exact two_new' w _ _
theorem tabW_2 (w : World) (b : Nat) : (tabW w b).heap[w.heap.size + 2]? = some (.cells #[.int .i64 1] 3 (0, 0)) := by
  unfold tabW
  rw [Below.heap_alloc _ _ _ (by simp)]
  have := heap_new ((w.alloc (.cells #[.pointer (some ⟨b, 0, none⟩)] 80)).alloc (.cells #[.int .i64 0, .int .i64 0, .string ⟨#[]⟩, .slice none 0 0] 34)) (.cells #[.int .i64 1] 3)
  simpa using this
theorem tabW_3 (w : World) (b : Nat) : (tabW w b).heap[w.heap.size + 3]? = some (.cells #[.int .i64 8] 3 (0, 0)) := by
  have := heap_new (((w.alloc (.cells #[.pointer (some ⟨b, 0, none⟩)] 80)).alloc (.cells #[.int .i64 0, .int .i64 0, .string ⟨#[]⟩, .slice none 0 0] 34)).alloc (.cells #[.int .i64 1] 3)) (.cells #[.int .i64 8] 3)
  simpa [tabW] using this
theorem tabW_zero (w : World) (b : Nat) : Zero4 (tabW w b) (w.heap.size + 1) := by
  have h := tabW_1 w b
  refine ⟨?_, ?_, ?_, ?_, fun o => ?_⟩
  · unfold World.cell?; rw [h]; rfl
  · unfold World.cell?; rw [h]; rfl
  · unfold World.cell?; rw [h]; rfl
  · unfold World.cell?; rw [h]; rfl
  · unfold World.frozen?; rw [h]; simp
def RInv (b n : Nat) (acc : List V) (w : World) : Prop := RowI b n (n + 2) (n + 3) (loC acc) (hiC acc) w ∧ hiC acc ≤ 16

set_option maxRecDepth 100000 in
set_option maxHeartbeats 1600000 in
theorem table_any (w : World) (b : Nat) (s : ByteArray) (i : Nat) (h : RD w b s i) (hi : i ≤ s.size) (hs : s.size ≤ 1000000) (h60 : pk s.data.toList i = 60) :
    Calls Tryz.prog 58 #[.pointer (some ⟨b, 0, none⟩)] w (OutV (Is b) b s w (tableL s.data.toList i)) := by
  have hblt : b < w.heap.size := h.lt
  have hsz := tabW_size w b
  have hR0 : RD (tabW w b) b s i := (tabW_old w b b hblt).trans h
  have HQ : Hid (Calls Tryz.prog 55 #[.pointer (some ⟨b, 0, none⟩), .string ⟨#[60, 62]⟩, .int .i64 0, .int .i64 8, .func (.func 81) #[] #[.pointer (some ⟨w.heap.size, 0, none⟩), .pointer (some ⟨w.heap.size + 2, 0, none⟩), .pointer (some ⟨w.heap.size + 3, 0, none⟩)]] (tabW w b) fun e w' => LsE (tabW w b) w' (if pk s.data.toList i = 60 then itemsL (rowL s.data.toList) 62 0 s.data.toList 8 [] (i + 1) else .bad i) e ∧ RD w' b s (if pk s.data.toList i = 60 then itemsL (rowL s.data.toList) 62 0 s.data.toList 8 [] (i + 1) else .bad i).fin ∧ Kp (tabW w b).heap.size (XRow b (w.heap.size + 2) (w.heap.size + 3)) (tabW w b) w') :=
    Lib.hid (items_row (tabW w b) b s i w.heap.size (w.heap.size + 2) (w.heap.size + 3) hR0 hi hs 0 8 (by decide) (rowL s.data.toList) (RInv b w.heap.size) (XRow b (w.heap.size + 2) (w.heap.size + 3))
      (fun acc j w' hInv hr hj hw' => (row_any w' b s j w.heap.size (w.heap.size + 2) (w.heap.size + 3) (loC acc) (hiC acc) hr hj hs hInv.2 hInv.1 (by omega) (by omega) (by omega) (by omega) (by omega) (by omega)).mono fun e w'' ⟨h1, h2⟩ => ⟨h1, fun v m hv => by
        have hrow := h2 v m hv
        obtain ⟨l1, l2, _⟩ := textsL_len hv
        cases acc with
        | nil => exact ⟨hrow, Nat.le_trans l2 (by decide)⟩
        | cons a r =>
          have e1 : v.l.length = a.l.length := Nat.le_antisymm l2 l1
          refine ⟨?_, hInv.2⟩
          rw [e1] at hrow
          exact hrow⟩)
      (fun k hk => by unfold XRow at hk; omega) (.inl rfl) ⟨⟨tabW_0 w b, tabW_2 w b, tabW_3 w b⟩, by decide⟩
      (fun acc w' w'' hI hw hk => ⟨hI.1.kp hk (by omega) (by omega) (by omega) (by unfold Is; omega) (by unfold Is; omega) (by unfold Is; omega), hI.2⟩)
      (fun acc w' w'' hI hw hk => ⟨hI.1.kp hk (by omega) (by omega) (by omega) (by unfold Is; omega) (by unfold Is; omega) (by unfold Is; omega), hI.2⟩)
      (fun acc j hj => by
        have := textsL_bd (loC acc) (hiC acc) s.data.toList j (by rw [lt_len]; exact hj)
        rwa [lt_len] at this))
  rw [tableL_at _ _ h60]
  have HZ := Lib.hid (tabW_zero w b)
  have HK : Hid (Kp w.heap.size (Is b) w (tabW w b)) := Lib.hid ⟨rfl, rfl, rfl, by omega, fun k hk _ => tabW_old w b k hk⟩
  have hw0 : w.heap.size + 1 < (tabW w b).heap.size := by omega
  have k0 : (tabW w b).cell? ⟨w.heap.size, 0, none⟩ = some (.pointer (some ⟨b, 0, none⟩)) := by unfold World.cell?; rw [tabW_0]; rfl
  have htw : (((w.alloc (.cells #[.pointer (some ⟨b, 0, none⟩)] 80)).alloc (.cells #[.int .i64 0, .int .i64 0, .string ⟨#[]⟩, .slice none 0 0] 34)).alloc (.cells #[.int .i64 1] 3)).alloc (.cells #[.int .i64 8] 3) = tabW w b := rfl
  clear h hR0
  generalize (if pk s.data.toList i = 60 then itemsL (rowL s.data.toList) 62 0 s.data.toList 8 [] (i + 1) else .bad i) = r at *
  clear h60
  go_enter Tryz.func58, Tryz.ntmps58
  go_wp2_with fail
  refine HQ.out.mono ?_
  rintro e w1 ⟨he, hR1, hk1⟩
  have HZ1 : Hid (Zero4 w1 (w.heap.size + 1)) := Lib.hid (Box4.kp HZ.out hk1 hw0 (by unfold XRow; omega))
  have HK1 : Hid (Kp w.heap.size (Is b) w w1) := Lib.hid (HK.out.trans (hk1.mono (by omega) (fun k hk h => by unfold XRow at h; unfold Is; omega)))
  have hw1 : w.heap.size + 1 < w1.heap.size := Nat.lt_of_lt_of_le hw0 hk1.size
  have HR1 := Lib.hid hR1
  obtain ⟨c0, c1, c2, c3, cz⟩ := HZ1.out
  have f0 := cz 0
  have f1 := cz 1
  have f2 := cz 2
  have f3 := cz 3
  clear hR1 hk1 HQ HZ HK cz htw k0
  cases r with
  | bad k =>
    obtain rfl : e = .returned (.tuple #[.slice none 0 0, .bool false]) := he
    go_wp2_with fail
    refine bodyPost_ret (v := .tuple #[.agg #[.int .i64 7, .int .i64 0, .string ⟨#[]⟩, .slice none 0 0], .bool false]) (by simp [results, Tryz.results58, go_sem, *]) rfl ?_
    exact ⟨.none _ _ _ _ _ _, HR1.out.far4 (by omega) _ _ _ _, HK1.out.own4 (Nat.le_succ _) _ _ _ _⟩
  | ok l k =>
    obtain ⟨oe, ce, rfl, hrep⟩ := he
    have HP := Lib.hid hrep
    clear hrep
    go_wp2_with fail
    refine bodyPost_ret (v := .tuple #[.agg #[.int .i64 7, .int .i64 0, .string ⟨#[]⟩, .slice oe l.length ce], .bool true]) (by simp [results, Tryz.results58, go_sem, *]) rfl ?_
    refine ⟨⟨oe, ce, rfl, ?_⟩, HR1.out.far4 (by omega) _ _ _ _, HK1.out.own4 (Nat.le_succ _) _ _ _ _⟩
    exact rep4 HP.out (by omega) _ (by omega) _ _ _ _
end

end Go.Proofs.YtmbmlcnipncgnaaGreatDoor
