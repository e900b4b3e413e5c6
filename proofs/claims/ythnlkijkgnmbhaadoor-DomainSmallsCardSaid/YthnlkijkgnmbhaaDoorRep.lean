/-
  How a finite tree of values lies in memory: a slice value 'sl' holds the list 'l' in the world w, below block B. Nothing is assumed.
-/
import Derived.Test.YthnlkijkgnmbhaaDoorPlain
namespace Go.Proofs.YthnlkijkgnmbhaaDoor
open Go.RowKit

theorem ret_int {k : IntKind} {a b : Int} (h : a = b) : Ending.returned (.int k a) = .returned (.int k b) := by rw [h]
theorem ret_bool {a b : Bool} (h : a = b) : Ending.returned (.bool a) = .returned (.bool b) := by rw [h]
theorem ret_string {a b : ByteArray} (h : a = b) : Ending.returned (.string a) = .returned (.string b) := by rw [h]

theorem str_inj {a b : ByteArray} (h : a.toList = b.toList) : a = b := by
  rw [ByteArray.toList_eq, ByteArray.toList_eq] at h
  obtain ⟨⟨a⟩⟩ := a
  obtain ⟨⟨b⟩⟩ := b
  simpa using h
theorem str_ne {a b : ByteArray} (h : a ≠ b) : (a.toList == b.toList) = false := beq_eq_false_iff_ne.2 fun e => h (str_inj e)
theorem str_neq {a b : ByteArray} (h : a ≠ b) : (a.toList != b.toList) = true := bne_iff_ne.2 fun e => h (str_inj e)

theorem below1 (w : World) (o : Obj) : Below w.heap.size w (w.alloc o) := (Below.refl _ _).alloc (Nat.le_refl _) o
theorem below2 (w : World) (o o' : Obj) : Below w.heap.size w ((w.alloc o).alloc o') := ((Below.refl _ _).alloc (Nat.le_refl _) o).alloc (by simp) o'
theorem below3 (w : World) (o o' o'' : Obj) : Below w.heap.size w (((w.alloc o).alloc o').alloc o'') := (below2 w o o').alloc (by simp; omega) o''

/-- The slice value holds the list of values in the world, all of it in blocks below B. -/
inductive Rep (w : World) (B : Nat) : Value → List V → Prop
  | empty (oa : Option Addr) (cap : Nat) : Rep w B (.slice oa 0 cap) []
  | arr (b off cap : Nat) (l : List V) (sl : Nat → Value) (hb : b < B) (hl : l.length ≤ cap) (hm : l.length ≤ 9223372036854775807)
      (hc : ∀ i v, l[i]? = some v → w.cell? ⟨b, off + i * 4, none⟩ = some (.int .i64 v.t) ∧ w.cell? ⟨b, off + i * 4 + 1, none⟩ = some (.int .i64 v.n) ∧
        w.cell? ⟨b, off + i * 4 + 2, none⟩ = some (.string v.s) ∧ w.cell? ⟨b, off + i * 4 + 3, none⟩ = some (sl i))
      (hr : ∀ i v, l[i]? = some v → Rep w B (sl i) v.l) : Rep w B (.slice (some ⟨b, off, none⟩) l.length cap) l

/-- A later world in which all blocks below B are as they were. -/
theorem Rep.later {w w' : World} {B : Nat} {x : Value} {l : List V} (h : Rep w B x l) (hw : Below B w w') : Rep w' B x l := by
  induction h with
  | empty oa cap => exact .empty oa cap
  | arr b off cap l sl hb hl hm hc hr ih =>
    refine .arr b off cap l sl hb hl hm (fun i v hv => ?_) ih
    obtain ⟨h0, h1, h2, h3⟩ := hc i v hv
    exact ⟨(hw.cell (p := ⟨b, _, none⟩) hb).trans h0, (hw.cell (p := ⟨b, _, none⟩) hb).trans h1, (hw.cell (p := ⟨b, _, none⟩) hb).trans h2, (hw.cell (p := ⟨b, _, none⟩) hb).trans h3⟩

theorem Rep.mono {w : World} {B C : Nat} {x : Value} {l : List V} (h : Rep w B x l) (hBC : B ≤ C) : Rep w C x l := by
  induction h with
  | empty oa cap => exact .empty oa cap
  | arr b off cap l sl hb hl hm hc hr ih => exact .arr b off cap l sl (Nat.lt_of_lt_of_le hb hBC) hl hm hc ih

theorem Rep.nil {w : World} {B : Nat} : Rep w B (.slice none 0 0) [] := .empty none 0

/-- Opened in one form for a nil slice and any other. -/
theorem Rep.slice {w : World} {B : Nat} {x : Value} {l : List V} (h : Rep w B x l) :
    ∃ (oa : Option Addr) (cap : Nat), x = .slice oa l.length cap ∧ l.length ≤ cap ∧ l.length ≤ 9223372036854775807 ∧
      ∀ i v, l[i]? = some v → ∃ (b off : Nat) (oe : Option Addr) (ce : Nat), oa = some ⟨b, off, none⟩ ∧ b < B ∧
        w.cell? ⟨b, off + i * 4, none⟩ = some (.int .i64 v.t) ∧ w.cell? ⟨b, off + i * 4 + 1, none⟩ = some (.int .i64 v.n) ∧
        w.cell? ⟨b, off + i * 4 + 2, none⟩ = some (.string v.s) ∧ w.cell? ⟨b, off + i * 4 + 3, none⟩ = some (.slice oe v.l.length ce) ∧ Rep w B (.slice oe v.l.length ce) v.l := by
  cases h with
  | empty oa cap => exact ⟨oa, cap, rfl, Nat.zero_le _, by simp, fun i v hv => by simp at hv⟩
  | arr b off cap l sl hb hl hm hc hr =>
    refine ⟨_, cap, rfl, hl, hm, fun i v hv => ?_⟩
    obtain ⟨h0, h1, h2, h3⟩ := hc i v hv
    have hR := hr i v hv
    obtain ⟨oe, ce, he⟩ : ∃ oe ce, sl i = .slice oe v.l.length ce := by
      generalize sl i = x at *
      generalize v.l = m at *
      cases hR with
      | empty oa cap => exact ⟨oa, cap, rfl⟩
      | arr b' off' cap' => exact ⟨_, cap', rfl⟩
    rw [he] at h3 hR
    exact ⟨b, off, oe, ce, rfl, hb, h0, h1, h2, h3, hR⟩

/-- A list of one element, in a block of its own. -/
theorem Rep.one {w : World} {B b cap : Nat} {sl : Value} {v : V} (h : Rep w B sl v.l) (hb : b < B) (hcap : 1 ≤ cap)
    (h0 : w.cell? ⟨b, 0, none⟩ = some (.int .i64 v.t)) (h1 : w.cell? ⟨b, 1, none⟩ = some (.int .i64 v.n)) (h2 : w.cell? ⟨b, 2, none⟩ = some (.string v.s)) (h3 : w.cell? ⟨b, 3, none⟩ = some sl) :
    Rep w B (.slice (some ⟨b, 0, none⟩) 1 cap) [v] := by
  refine .arr b 0 cap [v] (fun _ => sl) hb hcap (by simp) (fun i x hx => ?_) (fun i x hx => ?_)
  · have hi : i = 0 := by
      have := (List.getElem?_eq_some_iff.1 hx).1
      simp at this
      omega
    subst hi
    simp at hx
    subst hx
    exact ⟨h0, h1, h2, h3⟩
  · have hi : i = 0 := by
      have := (List.getElem?_eq_some_iff.1 hx).1
      simp at this
      omega
    subst hi
    simp at hx
    subst hx
    exact h

theorem cell_at (w : World) (xs : Array Value) (t o : Nat) (x : Value) (h : xs[o]? = some x) : (w.alloc (.cells xs t)).cell? ⟨w.heap.size, o, none⟩ = some x := by
  rw [World.cell?_alloc_at _ _ _ _ rfl]; exact h

/-- The four cells of a boxed value, in a later world. -/
theorem box_later {w w1 : World} {a b c d : Value} {t : Nat} (h : Below (w.heap.size + 1) (w.alloc (.cells #[a, b, c, d] t)) w1) :
    w1.cell? ⟨w.heap.size, 0, none⟩ = some a ∧ w1.cell? ⟨w.heap.size, 1, none⟩ = some b ∧ w1.cell? ⟨w.heap.size, 2, none⟩ = some c ∧ w1.cell? ⟨w.heap.size, 3, none⟩ = some d :=
  ⟨(h.cell (p := ⟨w.heap.size, 0, none⟩) (Nat.lt_succ_self _)).trans (cell_at _ _ _ _ _ rfl), (h.cell (p := ⟨w.heap.size, 1, none⟩) (Nat.lt_succ_self _)).trans (cell_at _ _ _ _ _ rfl),
    (h.cell (p := ⟨w.heap.size, 2, none⟩) (Nat.lt_succ_self _)).trans (cell_at _ _ _ _ _ rfl), (h.cell (p := ⟨w.heap.size, 3, none⟩) (Nat.lt_succ_self _)).trans (cell_at _ _ _ _ _ rfl)⟩

/-- A list of one element that has just been laid. -/
theorem Rep.new1 {w : World} {B C n : Nat} {sl : Value} {v : V} {t : Nat} (h : Rep w B sl v.l) (hB : B ≤ w.heap.size) (hn : w.heap.size = n) (hC : n + 1 ≤ C) :
    Rep (w.alloc (.cells #[.int .i64 v.t, .int .i64 v.n, .string v.s, sl] t)) C (.slice (some ⟨n, 0, none⟩) 1 1) [v] := by
  subst hn
  exact Rep.one ((h.later ((below1 w _).mono hB)).mono (by omega)) (by omega) (Nat.le_refl _) (cell_at _ _ _ _ _ rfl) (cell_at _ _ _ _ _ rfl) (cell_at _ _ _ _ _ rfl) (cell_at _ _ _ _ _ rfl)

end Go.Proofs.YthnlkijkgnmbhaaDoor
