/-
  Patterns in memory: syntax trees as slices of six cells, the reader, lists of trees that a call builds. Nothing is assumed.
-/
import Derived.Test.YtaipaddfehpmgaaDoorPtPure
import Derived.Test.YtaipaddfehpmgaaDoorProg
import Derived.OwnWalk
import Derived.Deep.AppendLies
import Derived.Deep.LoopGhost
import Derived.Deep.QuietTactic
import Derived.WalkSpells
import Derived.WalkLawsBesides
import Derived.BigQuiet
import Derived.Lib.Hide
namespace Go.Proofs.YtaipaddfehpmgaaDoor
open Go.RowKit

theorem ret_int {k : IntKind} {a b : Int} (h : a = b) : Ending.returned (.int k a) = .returned (.int k b) := by rw [h]
theorem ret_bool {a b : Bool} (h : a = b) : Ending.returned (.bool a) = .returned (.bool b) := by rw [h]
theorem below1 (w : World) (o : Obj) : Below w.heap.size w (w.alloc o) := (Below.refl _ _).alloc (Nat.le_refl _) o
theorem below2 (w : World) (o o' : Obj) : Below w.heap.size w ((w.alloc o).alloc o') := ((Below.refl _ _).alloc (Nat.le_refl _) o).alloc (by simp) o'
theorem below_drewN (w : World) (B n : Nat) : Below B w (w.drewN n) := ⟨rfl, rfl, rfl, Nat.le_refl _, fun _ _ => rfl⟩

/-- A tree as the program hands it on. -/
def PT.cs (v : PT) (sl : Value) : List Value := [.int .i64 v.k, .int .u64 v.s.a, .int .u64 v.s.b, .int .u64 v.s.c, .int .u64 v.s.d, sl]
def PT.val (v : PT) (sl : Value) : Value := .agg #[.int .i64 v.k, .int .u64 v.s.a, .int .u64 v.s.b, .int .u64 v.s.c, .int .u64 v.s.d, sl]
def flatP (l : List (PT × Value)) : List Value := l.flatMap fun p => p.1.cs p.2
theorem flatP_len (l : List (PT × Value)) : (flatP l).length = l.length * 6 := by
  induction l with
  | nil => rfl
  | cons a l ih => simp only [flatP, List.flatMap_cons, List.length_append, List.length_cons] at *; rw [ih]; simp [PT.cs]; omega
theorem flatP_at (l : List (PT × Value)) : ∀ (i j : Nat) (p : PT × Value), l[i]? = some p → j < 6 → (flatP l)[i * 6 + j]? = (p.1.cs p.2)[j]? := by
  induction l with
  | nil => intro i j p h; simp at h
  | cons a l ih =>
    intro i j p h hj
    cases i with
    | zero =>
      simp only [List.getElem?_cons_zero, Option.some.injEq] at h
      subst h
      simp only [flatP, List.flatMap_cons]
      rw [List.getElem?_append_left (by simp [PT.cs]; omega)]
      simp
    | succ i =>
      have := ih i j p (by simpa using h) hj
      simp only [flatP, List.flatMap_cons]
      rw [List.getElem?_append_right (by simp [PT.cs]; omega)]
      have e : (i + 1) * 6 + j - (a.1.cs a.2).length = i * 6 + j := by simp [PT.cs]; omega
      rw [e]
      exact this
theorem flatP_snoc (l : List (PT × Value)) (p : PT × Value) : flatP (l ++ [p]) = flatP l ++ p.1.cs p.2 := by simp [flatP]

theorem infoTree : (Tryd.prog.info? 36).map (fun i => (i.zero, i.size, i.bytes)) = some (some (.agg #[.int .i64 0, .int .u64 0, .int .u64 0, .int .u64 0, .int .u64 0, .slice none 0 0]), 6, 64) := by kernel_rfl

/-- The slice value holds the list of trees, in blocks of a set. -/
inductive HT (w : World) (S : Nat → Prop) : Value → List PT → Prop
  | empty (oa : Option Addr) (cap : Nat) : HT w S (.slice oa 0 cap) []
  | arr (b off cap : Nat) (l : List PT) (sl : Nat → Value) (hb : S b) (hl : l.length ≤ cap) (hm : l.length ≤ 1000000)
      (hc : ∀ i v, l[i]? = some v → ∀ j u, (v.cs (sl i))[j]? = some u → w.cell? ⟨b, off + i * 6 + j, none⟩ = some u)
      (hr : ∀ i v, l[i]? = some v → HT w S (sl i) v.l) : HT w S (.slice (some ⟨b, off, none⟩) l.length cap) l
theorem HT.nil {w : World} {S : Nat → Prop} : HT w S (.slice none 0 0) [] := .empty none 0
theorem HT.later {w w' : World} {S T : Nat → Prop} {x : Value} {l : List PT} (h : HT w S x l) (hT : ∀ b, S b → T b) (hS : ∀ b, S b → ∀ o, w'.cell? ⟨b, o, none⟩ = w.cell? ⟨b, o, none⟩) : HT w' T x l := by
  induction h with
  | empty oa cap => exact .empty oa cap
  | arr b off cap l sl hb hl hm hc hr ih =>
    refine .arr b off cap l sl (hT b hb) hl hm (fun i v hv j u hu => ?_) ih
    rw [hS b hb]
    exact hc i v hv j u hu
theorem HT.form {w : World} {S : Nat → Prop} {x : Value} {l : List PT} (h : HT w S x l) : ∃ oa cap, x = .slice oa l.length cap ∧ l.length ≤ cap ∨ l = [] ∧ x = .slice oa l.length cap := by
  cases h with
  | empty oa cap => exact ⟨oa, cap, .inr ⟨rfl, rfl⟩⟩
  | arr b off cap l sl hb hl hm hc hr => exact ⟨_, cap, .inl ⟨rfl, hl⟩⟩
theorem HT.shape {w : World} {S : Nat → Prop} {x : Value} {l : List PT} (h : HT w S x l) : ∃ oa cap, x = .slice oa l.length cap := by
  obtain ⟨oa, cap, h | h⟩ := h.form
  · exact ⟨oa, cap, h.1⟩
  · exact ⟨oa, cap, h.2⟩
theorem HT.at_ {w : World} {S : Nat → Prop} {oa : Option Addr} {n cap : Nat} {l : List PT} (h : HT w S (.slice oa n cap) l) {i : Nat} {v : PT} (hv : l[i]? = some v) :
    ∃ (b off : Nat) (oe : Option Addr) (ce : Nat), oa = some ⟨b, off, none⟩ ∧ S b ∧ HT w S (.slice oe v.l.length ce) v.l ∧
      w.cell? ⟨b, off + i * 6, none⟩ = some (.int .i64 v.k) ∧ w.cell? ⟨b, off + i * 6 + 1, none⟩ = some (.int .u64 v.s.a) ∧ w.cell? ⟨b, off + i * 6 + 2, none⟩ = some (.int .u64 v.s.b) ∧
      w.cell? ⟨b, off + i * 6 + 3, none⟩ = some (.int .u64 v.s.c) ∧ w.cell? ⟨b, off + i * 6 + 4, none⟩ = some (.int .u64 v.s.d) ∧ w.cell? ⟨b, off + i * 6 + 5, none⟩ = some (.slice oe v.l.length ce) := by
  generalize hx : Value.slice oa n cap = x at h
  cases h with
  | empty => simp at hv
  | arr b off cap' l sl hb hl hm hc hr =>
    cases hx
    have hR := hr i v hv
    have hC := hc i v hv
    obtain ⟨oe, ce, he⟩ := hR.shape
    rw [he] at hR hC
    exact ⟨b, off, oe, ce, rfl, hb, hR, hC 0 _ rfl, hC 1 _ rfl, hC 2 _ rfl, hC 3 _ rfl, hC 4 _ rfl, hC 5 _ rfl⟩
theorem HT.len {w : World} {S : Nat → Prop} {oa : Option Addr} {n cap : Nat} {l : List PT} (h : HT w S (.slice oa n cap) l) : l.length = n ∧ l.length ≤ 1000000 := by
  generalize hx : Value.slice oa n cap = x at h
  cases h with
  | empty => cases hx; exact ⟨rfl, by simp⟩
  | arr b off cap' l sl hb hl hm hc hr => cases hx; exact ⟨rfl, hm⟩

/-- A slice of trees that the call has built, its blocks told. -/
theorem HT.of_owns {w : World} {base e : Nat} {x : Value} {ps : List (PT × Value)} {S : Nat → Prop} (h : w.ownsRow base e 6 x ps.length (flatP ps)) (hr : ∀ p, p ∈ ps → HT w S p.2 p.1.l) (hm : ps.length ≤ 1000000)
    (hS : ∀ g, base ≤ g → g < w.heap.size → S g) : HT w S x (ps.map (·.1)) := by
  rcases h.2 with ⟨rfl, h0⟩ | ⟨g, cap, cur, rfl, hg, hh, hcap, _, hsz, htk⟩
  · obtain rfl := List.eq_nil_of_length_eq_zero h0
    exact HT.nil
  · have hlt : g < w.heap.size := by
      rcases Nat.lt_or_ge g w.heap.size with h | h
      · exact h
      · rw [Array.getElem?_eq_none h] at hh; cases hh
    have cell : ∀ o u, (flatP ps)[o]? = some u → w.cell? ⟨g, o, none⟩ = some u := by
      intro o u hu
      have ho : o < ps.length * 6 := by
        have := (List.getElem?_eq_some_iff.1 hu).1
        rwa [flatP_len] at this
      have h1 : cur.toList[o]? = some u := by
        rw [← htk, List.getElem?_take] at hu
        rw [if_pos ho] at hu
        exact hu
      unfold World.cell?
      rw [hh]
      simpa using h1
    have key : (ps.map (·.1)).length = ps.length := by simp
    rw [← key]
    refine .arr g 0 cap (ps.map (·.1)) (fun i => ((ps[i]?).map (·.2)).getD .nilIface) (hS g hg hlt) (by omega) (by omega) (fun i v hv j u hu => ?_) (fun i v hv => ?_)
    · simp only [List.getElem?_map, Option.map_eq_some_iff] at hv
      obtain ⟨p, hp, rfl⟩ := hv
      simp only [hp, Option.map_some, Option.getD_some] at hu
      have hj : j < 6 := (List.getElem?_eq_some_iff.1 hu).1
      have f := flatP_at ps i j p hp hj
      rw [hu] at f
      rw [Nat.zero_add]
      exact cell _ _ f
    · simp only [List.getElem?_map, Option.map_eq_some_iff] at hv
      obtain ⟨p, hp, rfl⟩ := hv
      simp only [hp, Option.map_some, Option.getD_some]
      exact hr p (List.mem_of_getElem? hp)

/-- The blocks from lo on, below hi. -/
def Btw (lo hi : Nat) (b : Nat) : Prop := lo ≤ b ∧ b < hi

/-- All blocks below N but those in X are as they were. -/
structure Kp (N : Nat) (X : Nat → Prop) (w w' : World) : Prop where
  os : w'.os = w.os
  tape : w'.tape = w.tape
  output : w'.output = w.output
  size : w.heap.size ≤ w'.heap.size
  block : ∀ k, k < N → ¬ X k → w'.heap[k]? = w.heap[k]?
theorem Kp.refl (N : Nat) (X : Nat → Prop) (w : World) : Kp N X w w := ⟨rfl, rfl, rfl, Nat.le_refl _, fun _ _ _ => rfl⟩
theorem Kp.trans {N : Nat} {X : Nat → Prop} {a b c : World} (h : Kp N X a b) (k : Kp N X b c) : Kp N X a c :=
  ⟨k.os.trans h.os, k.tape.trans h.tape, k.output.trans h.output, Nat.le_trans h.size k.size, fun i hi hx => (k.block i hi hx).trans (h.block i hi hx)⟩
theorem Kp.mono {N M : Nat} {X Y : Nat → Prop} {a b : World} (h : Kp M Y a b) (hN : N ≤ M) (hX : ∀ k, k < N → Y k → X k) : Kp N X a b :=
  ⟨h.os, h.tape, h.output, h.size, fun i hi hx => h.block i (Nat.lt_of_lt_of_le hi hN) fun hy => hx (hX i hi hy)⟩
theorem Kp.less {N M : Nat} {X : Nat → Prop} {a b : World} (h : Kp M X a b) (hN : N ≤ M) : Kp N X a b := h.mono hN fun _ _ h => h
theorem Kp.of {N M : Nat} {X : Nat → Prop} {a b : World} (h : Below M a b) (hN : N ≤ M) : Kp N X a b := ⟨h.os, h.tape, h.output, h.size, fun i hi _ => h.block i (Nat.lt_of_lt_of_le hi hN)⟩
theorem Kp.below {N M : Nat} {X : Nat → Prop} {a b : World} (h : Kp N X a b) (hM : M ≤ N) (hX : ∀ k, k < M → ¬ X k) : Below M a b := ⟨h.os, h.tape, h.output, h.size, fun i hi => h.block i (Nat.lt_of_lt_of_le hi hM) (hX i hi)⟩
theorem Kp.drewN {N : Nat} {X : Nat → Prop} {a b : World} (h : Kp N X a b) (n : Nat) : Kp N X a (b.drewN n) := ⟨h.os, h.tape, h.output, h.size, h.block⟩
theorem Kp.drew {N : Nat} {X : Nat → Prop} {a b : World} (h : Kp N X a b) : Kp N X a b.drew := ⟨h.os, h.tape, h.output, h.size, h.block⟩
theorem Kp.alloc {N : Nat} {X : Nat → Prop} {a b : World} (h : Kp N X a b) (hN : N ≤ b.heap.size) (o : Obj) : Kp N X a (b.alloc o) := h.trans (.of ((Below.refl N b).alloc hN o) (Nat.le_refl _))
theorem Kp.set {N : Nat} {X : Nat → Prop} {a b : World} (h : Kp N X a b) (p : Addr) (hp : X p.block) (u : Value) : Kp N X a (b.setCell p u) :=
  h.trans ⟨rfl, rfl, rfl, by simp [World.setCell], fun k hk hx => Below.heap_setCell _ _ _ _ (fun e => hx (e ▸ hp))⟩
theorem Kp.cell {N : Nat} {X : Nat → Prop} {w w' : World} (h : Kp N X w w') {p : Addr} (hp : p.block < N) (hx : ¬ X p.block) : w'.cell? p = w.cell? p := World.cell?_of_block (w := w) (h.block p.block hp hx)
theorem Kp.rep {N lo hi : Nat} {X : Nat → Prop} {w w' : World} (h : Kp N X w w') {x : Value} {l : List PT} (hr : HT w (Btw lo hi) x l) (hN : hi ≤ N) (hX : ∀ k, lo ≤ k → k < hi → ¬ X k) {lo' hi' : Nat} (h1 : lo' ≤ lo) (h2 : hi ≤ hi') : HT w' (Btw lo' hi') x l :=
  hr.later (fun _ hb => ⟨Nat.le_trans h1 hb.1, Nat.lt_of_lt_of_le hb.2 h2⟩) fun b hb o => h.cell (p := ⟨b, o, none⟩) (Nat.lt_of_lt_of_le hb.2 hN) (hX b hb.1 hb.2)

/-- A reader of s in block b, at offset i. -/
def RD (w : World) (b : Nat) (s : ByteArray) (i : Nat) : Prop := w.heap[b]? = some (.cells #[.string s, .int .i64 (i : Int)] 95 (0, 0))
theorem RD.text {w : World} {b : Nat} {s : ByteArray} {i : Nat} (h : RD w b s i) : w.cell? ⟨b, 0, none⟩ = some (.string s) := by unfold World.cell?; rw [h]; rfl
theorem RD.at {w : World} {b : Nat} {s : ByteArray} {i : Nat} (h : RD w b s i) : w.cell? ⟨b, 1, none⟩ = some (.int .i64 (i : Int)) := by unfold World.cell?; rw [h]; rfl
theorem RD.free {w : World} {b : Nat} {s : ByteArray} {i : Nat} (h : RD w b s i) (k : Nat) : w.frozen? ⟨b, k, none⟩ = false := by unfold World.frozen?; rw [h]; simp
theorem RD.lt {w : World} {b : Nat} {s : ByteArray} {i : Nat} (h : RD w b s i) : b < w.heap.size := (Array.getElem?_eq_some_iff.1 h).1
theorem RD.move {w : World} {b : Nat} {s : ByteArray} {i : Nat} (h : RD w b s i) (j : Nat) : RD (w.setCell ⟨b, 1, none⟩ (.int .i64 (j : Int))) b s j := by
  unfold RD at *
  simp [World.setCell, Array.getElem?_modify, h]
theorem RD.later {w w' : World} {b N : Nat} {s : ByteArray} {i : Nat} {X : Nat → Prop} (h : RD w b s i) (hk : Kp N X w w') (hb : b < N) (hX : ¬ X b) : RD w' b s i := (hk.block b hb hX).trans h
theorem RD.new (w : World) (s : ByteArray) (i : Int) (j : Nat) (hj : i = (j : Int)) : RD (w.alloc (.cells #[.string s, .int .i64 i] 95)) w.heap.size s j := by
  subst hj
  show (w.heap.push _)[w.heap.size]? = some _
  rw [Array.getElem?_push, if_pos rfl]

/-- Block b alone. -/
def Is (b k : Nat) : Prop := k = b
theorem Is.self (b : Nat) : Is b b := rfl
theorem RD.alloc {w : World} {b : Nat} {s : ByteArray} {i : Nat} (h : RD w b s i) (o : Obj) : RD (w.alloc o) b s i := by
  unfold RD
  rw [Below.heap_alloc _ _ _ h.lt]
  exact h
theorem RD.drewN {w : World} {b : Nat} {s : ByteArray} {i : Nat} (h : RD w b s i) (m : Nat) : RD (w.drewN m) b s i := h

/-- The blocks from lo on, below hi, but one. -/
def Off (lo hi : Nat) (row : Option Nat) (b : Nat) : Prop := Btw lo hi b ∧ row ≠ some b
/-- The slice value holds the list, in blocks from base on; its own row can be appended to. -/
def Acc (w : World) (base : Nat) (sl : Value) (l : List PT) : Prop :=
  ∃ ps : List (PT × Value), ps.map (·.1) = l ∧ w.ownsRow base 36 6 sl ps.length (flatP ps) ∧ ∀ p, p ∈ ps → HT w (Off base w.heap.size sl.ownBlock) p.2 p.1.l
theorem Acc.nil (w : World) (base : Nat) : Acc w base (.slice none 0 0) [] := ⟨[], rfl, ⟨rfl, .inl ⟨rfl, rfl⟩⟩, fun p hp => by cases hp⟩
theorem Acc.form {w : World} {base : Nat} {sl : Value} {l : List PT} (h : Acc w base sl l) : ∃ oc cc, sl = .slice oc l.length cc := by
  obtain ⟨ps, rfl, ho, -⟩ := h
  rw [List.length_map]
  rcases ho.2 with ⟨h1, h2⟩ | ⟨g, cap, cur, h1, _⟩
  · exact ⟨none, 0, by rw [h1, h2]⟩
  · exact ⟨_, _, h1⟩
theorem owns_kp {w w' : World} {base e size n N : Nat} {v : Value} {xs : List Value} {X : Nat → Prop} (h : w.ownsRow base e size v n xs) (hk : Kp N X w w') (hN : w.heap.size ≤ N) (hX : ∀ k, base ≤ k → ¬ X k) : w'.ownsRow base e size v n xs := by
  refine ⟨h.1, ?_⟩
  rcases h.2 with h0 | ⟨g, cap, cur, hv, hg, hh, r⟩
  · exact .inl h0
  · exact .inr ⟨g, cap, cur, hv, hg, (hk.block g (Nat.lt_of_lt_of_le (Array.getElem?_eq_some_iff.1 hh).1 hN) (hX g hg)).trans hh, r⟩
theorem Acc.kp {w w' : World} {base N : Nat} {sl : Value} {l : List PT} {X : Nat → Prop} (h : Acc w base sl l) (hk : Kp N X w w') (hN : w.heap.size ≤ N) (hX : ∀ k, base ≤ k → ¬ X k) : Acc w' base sl l := by
  obtain ⟨ps, hp, ho, hr⟩ := h
  refine ⟨ps, hp, owns_kp ho hk hN hX, fun p hp => (hr p hp).later (fun b hb => ⟨⟨hb.1.1, Nat.lt_of_lt_of_le hb.1.2 hk.size⟩, hb.2⟩) fun b hb o => hk.cell (p := ⟨b, o, none⟩) (Nat.lt_of_lt_of_le hb.1.2 hN) (hX b hb.1.1)⟩
theorem Acc.alloc {w : World} {base : Nat} {sl : Value} {l : List PT} (h : Acc w base sl l) (o : Obj) : Acc (w.alloc o) base sl l := h.kp (X := fun _ => False) (.of (below1 w o) (Nat.le_refl _)) (Nat.le_refl _) fun _ _ h => h
theorem Acc.drewN {w : World} {base : Nat} {sl : Value} {l : List PT} (h : Acc w base sl l) (m : Nat) : Acc (w.drewN m) base sl l := h.kp (X := fun _ => False) ((Kp.refl w.heap.size _ w).drewN m) (Nat.le_refl _) fun _ _ h => h
theorem own_lt {w : World} {base e size n : Nat} {v : Value} {xs : List Value} (h : w.ownsRow base e size v n xs) : ∀ q, v.ownBlock = some q → base ≤ q ∧ q < w.heap.size := World.ownsRow.lt h
theorem Acc.repS {w : World} {base : Nat} {sl : Value} {l : List PT} (h : Acc w base sl l) (hm : l.length ≤ 1000000) : HT w (Btw base w.heap.size) sl l := by
  obtain ⟨ps, rfl, ho, hr⟩ := h
  rw [List.length_map] at hm
  exact HT.of_owns ho (fun p hp => (hr p hp).later (fun b hb => hb.1) fun _ _ _ => rfl) (by omega) (fun g h1 h2 => ⟨h1, h2⟩)
/-- One element more. -/
theorem Acc.snoc {w w1 : World} {base e g cap : Nat} {sl slv : Value} {v : PT} {ps : List (PT × Value)} {H : Nat} (_ho : w.ownsRow base e 6 sl ps.length (flatP ps)) (hr : ∀ p, p ∈ ps → HT w (Off base w.heap.size sl.ownBlock) p.2 p.1.l)
    (hv : HT w (Btw H w.heap.size) slv v.l) (hH : base ≤ H) (hlt : ∀ q, sl.ownBlock = some q → q < H)
    (hown : w1.ownsRow base 36 6 (.slice (some ⟨g, 0, none⟩) (ps.length + 1) cap) (ps.length + 1) (flatP ps ++ v.cs slv)) (hg : w.grownBy w1 sl.ownBlock) (hat : sl.ownBlock = some g ∨ g = w.heap.size) (_hgl : g < w1.heap.size) :
    Acc w1 base (.slice (some ⟨g, 0, none⟩) (ps.length + 1) cap) (ps.map (·.1) ++ [v]) := by
  have hs := hg.size
  refine ⟨ps ++ [(v, slv)], by simp, ?_, fun p hp => ?_⟩
  · rw [List.length_append, flatP_snoc]
    exact hown
  · rcases List.mem_append.1 hp with hp | hp
    · refine (hr p hp).later (fun q hq => ⟨⟨hq.1.1, Nat.lt_of_lt_of_le hq.1.2 hs⟩, ?_⟩) (fun q hq o => hg.cell_far ⟨q, o, none⟩ hq.1.2 (Ne.symm hq.2))
      simp only [Value.ownBlock, ne_eq, Option.some.injEq]
      rintro rfl
      rcases hat with h | h
      · exact hq.2 h
      · have := hq.1.2; omega
    · obtain rfl := List.mem_singleton.1 hp
      refine hv.later (fun q hq => ⟨⟨Nat.le_trans hH hq.1, Nat.lt_of_lt_of_le hq.2 hs⟩, ?_⟩) (fun q hq o => hg.cell_far ⟨q, o, none⟩ hq.2 (fun e => by have := hlt q e.symm; have := hq.1; omega))
      simp only [Value.ownBlock, ne_eq, Option.some.injEq]
      rintro rfl
      rcases hat with h | h
      · have := hlt _ h; have := hq.1; omega
      · have := hq.2; omega
end Go.Proofs.YtaipaddfehpmgaaDoor
