/-
  A row of values in a block of its own, known at some places; what it holds as a list; which values are small enough to be copied. Nothing is assumed.
-/
import Derived.Test.YthnlkijkgnmbhaaDoorDmSize
import Derived.Test.YthnlkijkgnmbhaaDoorLst
import Derived.OwnWalk
import Derived.Deep.AppendLies
namespace Go.Proofs.YthnlkijkgnmbhaaDoor
open Go.RowKit

theorem infoValue : (Tryd.prog.info? 48).map (fun i => (i.zero, i.size, i.bytes)) = some (some (.agg #[.int .i64 0, .int .i64 0, .string ⟨#[]⟩, .slice none 0 0]), 4, 56) := by kernel_rfl

/-- As Rep, told by the set of the blocks. -/
inductive RepS (w : World) (S : Nat → Prop) : Value → List V → Prop
  | empty (oa : Option Addr) (cap : Nat) : RepS w S (.slice oa 0 cap) []
  | arr (b off cap : Nat) (l : List V) (sl : Nat → Value) (hb : S b) (hl : l.length ≤ cap) (hm : l.length ≤ 9223372036854775807)
      (hc : ∀ i v, l[i]? = some v → w.cell? ⟨b, off + i * 4, none⟩ = some (.int .i64 v.t) ∧ w.cell? ⟨b, off + i * 4 + 1, none⟩ = some (.int .i64 v.n) ∧
        w.cell? ⟨b, off + i * 4 + 2, none⟩ = some (.string v.s) ∧ w.cell? ⟨b, off + i * 4 + 3, none⟩ = some (sl i))
      (hr : ∀ i v, l[i]? = some v → RepS w S (sl i) v.l) : RepS w S (.slice (some ⟨b, off, none⟩) l.length cap) l

theorem RepS.nil {w : World} {S : Nat → Prop} : RepS w S (.slice none 0 0) [] := .empty none 0
theorem RepS.rep {w : World} {S : Nat → Prop} {B : Nat} {x : Value} {l : List V} (h : RepS w S x l) (hS : ∀ b, S b → b < B) : Rep w B x l := by
  induction h with
  | empty oa cap => exact .empty oa cap
  | arr b off cap l sl hb hl hm hc hr ih => exact .arr b off cap l sl (hS b hb) hl hm hc ih
theorem RepS.of {w : World} {B : Nat} {x : Value} {l : List V} (h : Rep w B x l) : RepS w (· < B) x l := by
  induction h with
  | empty oa cap => exact .empty oa cap
  | arr b off cap l sl hb hl hm hc hr ih => exact .arr b off cap l sl hb hl hm hc ih
theorem RepS.keep {w w' : World} {S T : Nat → Prop} {x : Value} {l : List V} (h : RepS w S x l) (hT : ∀ b, S b → T b) (hS : ∀ b, S b → w'.heap[b]? = w.heap[b]?) : RepS w' T x l := by
  induction h with
  | empty oa cap => exact .empty oa cap
  | arr b off cap l sl hb hl hm hc hr ih =>
    refine .arr b off cap l sl (hT b hb) hl hm (fun i v hv => ?_) ih
    obtain ⟨c0, c1, c2, c3⟩ := hc i v hv
    have e := hS b hb
    exact ⟨(World.cell?_of_block (w := w) e).trans c0, (World.cell?_of_block (w := w) e).trans c1, (World.cell?_of_block (w := w) e).trans c2, (World.cell?_of_block (w := w) e).trans c3⟩
/-- .. where only the cells are known to stand. -/
theorem RepS.keepC {w w' : World} {S T : Nat → Prop} {x : Value} {l : List V} (h : RepS w S x l) (hT : ∀ b, S b → T b) (hS : ∀ b (o : Nat) v, S b → w.cell? ⟨b, o, none⟩ = some v → w'.cell? ⟨b, o, none⟩ = some v) : RepS w' T x l := by
  induction h with
  | empty oa cap => exact .empty oa cap
  | arr b off cap l sl hb hl hm hc hr ih =>
    refine .arr b off cap l sl (hT b hb) hl hm (fun i v hv => ?_) ih
    obtain ⟨c0, c1, c2, c3⟩ := hc i v hv
    exact ⟨hS b _ _ hb c0, hS b _ _ hb c1, hS b _ _ hb c2, hS b _ _ hb c3⟩
theorem RepS.form {w : World} {S : Nat → Prop} {x : Value} {l : List V} (h : RepS w S x l) : ∃ (oa : Option Addr) (cap : Nat), x = .slice oa l.length cap ∧ l.length ≤ cap := by
  cases h with
  | empty oa cap => exact ⟨oa, cap, rfl, Nat.zero_le _⟩
  | arr b off cap l sl hb hl hm hc hr => exact ⟨_, cap, rfl, hl⟩

/-- Block g is a row of at least n values, known at the places that f names. -/
def RowV (w : World) (g n : Nat) (f : Nat → Option (V × Value)) : Prop :=
  ∃ (cur : Array Value) (t : TypeId), w.heap[g]? = some (.cells cur t (0, 0)) ∧ n * 4 ≤ cur.size ∧ ∀ i p, i < n → f i = some p → ∀ j, j < 4 → cur[i * 4 + j]? = (V.cs p)[j]?
theorem RowV.lt {w : World} {g n : Nat} {f : Nat → Option (V × Value)} (h : RowV w g n f) : g < w.heap.size := by
  obtain ⟨cur, t, h1, _⟩ := h
  exact (Array.getElem?_eq_some_iff.1 h1).1
theorem RowV.keep {w w' : World} {g n : Nat} {f : Nat → Option (V × Value)} (h : RowV w g n f) (hb : w'.heap[g]? = w.heap[g]?) : RowV w' g n f := by
  obtain ⟨cur, t, h1, h2⟩ := h
  exact ⟨cur, t, hb.trans h1, h2⟩
theorem RowV.weak {w : World} {g n : Nat} {f f' : Nat → Option (V × Value)} (h : RowV w g n f) (hf : ∀ i p, i < n → f' i = some p → f i = some p) : RowV w g n f' := by
  obtain ⟨cur, t, h1, h2, h3⟩ := h
  exact ⟨cur, t, h1, h2, fun i p hi hp => h3 i p hi (hf i p hi hp)⟩
theorem RowV.cells {w : World} {g n : Nat} {f : Nat → Option (V × Value)} (h : RowV w g n f) {i : Nat} {p : V × Value} (hi : i < n) (hp : f i = some p) :
    w.cell? ⟨g, i * 4, none⟩ = some (.int .i64 p.1.t) ∧ w.cell? ⟨g, i * 4 + 1, none⟩ = some (.int .i64 p.1.n) ∧ w.cell? ⟨g, i * 4 + 2, none⟩ = some (.string p.1.s) ∧ w.cell? ⟨g, i * 4 + 3, none⟩ = some p.2 := by
  obtain ⟨cur, t, h1, h2, h3⟩ := h
  have a := h3 i p hi hp
  have key : ∀ j, j < 4 → w.cell? ⟨g, i * 4 + j, none⟩ = (V.cs p)[j]? := fun j hj => by
    unfold World.cell?
    rw [h1]
    simpa using a j hj
  exact ⟨key 0 (by omega), key 1 (by omega), key 2 (by omega), key 3 (by omega)⟩
theorem RowV.there {w : World} {g n : Nat} {f : Nat → Option (V × Value)} (h : RowV w g n f) {o : Nat} (ho : o < n * 4) : ∃ v, w.cell? ⟨g, o, none⟩ = some v := by
  obtain ⟨cur, t, h1, h2, h3⟩ := h
  refine ⟨cur[o]'(by omega), ?_⟩
  unfold World.cell?
  rw [h1]
  simp [show o < cur.size by omega]
theorem RowV.frozen {w : World} {g n : Nat} {f : Nat → Option (V × Value)} (h : RowV w g n f) (o : Nat) : w.frozen? ⟨g, o, none⟩ = false := by
  obtain ⟨cur, t, h1, h2, h3⟩ := h
  unfold World.frozen?
  rw [h1]
  simp
/-- The world with a value stored at place k of block g. -/
def put4 (w : World) (g k : Nat) (v : V) (s : Value) : World :=
  (((w.setCell ⟨g, k * 4, none⟩ (.int .i64 v.t)).setCell ⟨g, k * 4 + 1, none⟩ (.int .i64 v.n)).setCell ⟨g, k * 4 + 2, none⟩ (.string v.s)).setCell ⟨g, k * 4 + 3, none⟩ s
theorem put4_other (w : World) (g k : Nat) (v : V) (s : Value) {b : Nat} (hb : b ≠ g) : (put4 w g k v s).heap[b]? = w.heap[b]? :=
  (heap_setCell_other _ _ _ _ hb).trans ((heap_setCell_other _ _ _ _ hb).trans ((heap_setCell_other _ _ _ _ hb).trans (heap_setCell_other _ _ _ _ hb)))
theorem put4_size (w : World) (g k : Nat) (v : V) (s : Value) : (put4 w g k v s).heap.size = w.heap.size := by simp [put4]
theorem put4_below {w w0 : World} {B g k : Nat} {v : V} {s : Value} (h : Below B w0 w) (hg : B ≤ g) : Below B w0 (put4 w g k v s) :=
  (((h.setCell (p := ⟨g, _, none⟩) hg _).setCell (p := ⟨g, _, none⟩) hg _).setCell (p := ⟨g, _, none⟩) hg _).setCell (p := ⟨g, _, none⟩) hg _
theorem RowV.store {w : World} {g n k : Nat} {f : Nat → Option (V × Value)} (h : RowV w g n f) (hn : k < n) (v : V) (s : Value) : RowV (put4 w g k v s) g n (fun i => if i = k then some (v, s) else f i) := by
  obtain ⟨cur, t, h1, h2, h3⟩ := h
  refine ⟨_, t, heap_setCell_same _ _ _ _ _ _ (heap_setCell_same _ _ _ _ _ _ (heap_setCell_same _ _ _ _ _ _ (heap_setCell_same _ _ _ _ _ _ h1))), by simpa using h2, fun i p hi hp j hj => ?_⟩
  have hks : k * 4 + 3 < cur.size := by omega
  by_cases e : i = k
  · subst e
    simp only [if_pos] at hp
    cases hp
    have hc : j = 0 ∨ j = 1 ∨ j = 2 ∨ j = 3 := by omega
    rcases hc with rfl | rfl | rfl | rfl
    · rw [Array.getElem?_setIfInBounds_ne (by omega), Array.getElem?_setIfInBounds_ne (by omega), Array.getElem?_setIfInBounds_ne (by omega), Nat.add_zero, Array.getElem?_setIfInBounds_self_of_lt (by omega)]
      rfl
    · rw [Array.getElem?_setIfInBounds_ne (by omega), Array.getElem?_setIfInBounds_ne (by omega), Array.getElem?_setIfInBounds_self_of_lt (by simp; omega)]
      rfl
    · rw [Array.getElem?_setIfInBounds_ne (by omega), Array.getElem?_setIfInBounds_self_of_lt (by simp; omega)]
      rfl
    · rw [Array.getElem?_setIfInBounds_self_of_lt (by simp; omega)]
      rfl
  · simp only [if_neg e] at hp
    rw [Array.getElem?_setIfInBounds_ne (by omega), Array.getElem?_setIfInBounds_ne (by omega), Array.getElem?_setIfInBounds_ne (by omega), Array.getElem?_setIfInBounds_ne (by omega)]
    exact h3 i p hi hp j hj
/-- A row that is known at all places holds the list. -/
theorem RowV.repS {w : World} {g cap : Nat} {f : Nat → Option (V × Value)} {l : List V} {S : Nat → Prop} (h : RowV w g l.length f) (hS : S g) (hc : l.length ≤ cap) (hm : l.length ≤ 9223372036854775807)
    (hf : ∀ i v, l[i]? = some v → ∃ s, f i = some (v, s) ∧ RepS w S s v.l) : RepS w S (.slice (some ⟨g, 0, none⟩) l.length cap) l := by
  refine .arr g 0 cap l (fun i => match f i with | some p => p.2 | none => .nilIface) hS hc hm (fun i v hv => ?_) (fun i v hv => ?_)
  · obtain ⟨s, h1, h2⟩ := hf i v hv
    have := h.cells (List.getElem?_eq_some_iff.1 hv).1 h1
    simp only [h1, Nat.zero_add]
    exact this
  · obtain ⟨s, h1, h2⟩ := hf i v hv
    simp only [h1]
    exact h2
/-- A row that has just been made. -/
theorem RowV.made {w : World} {base e g n m c : Nat} {xs : List Value} (h : w.ownsRow base e 4 (.slice (some ⟨g, 0, none⟩) n c) m xs) (hn : n ≤ c) : RowV w g n (fun _ => none) := by
  rcases h.2 with ⟨h0, _⟩ | ⟨g', cap, cur, hv, _, hh, hnc, _, hsz, _⟩
  · cases h0
  · cases hv
    exact ⟨cur, e, hh, by rw [hsz]; exact Nat.mul_le_mul_right 4 hn, fun i p _ h => by cases h⟩
/-- A row that has been appended to. -/
theorem RowV.of_owns {w : World} {base e g c : Nat} {ps : List (V × Value)} (h : w.ownsRow base e 4 (.slice (some ⟨g, 0, none⟩) ps.length c) ps.length (flat ps)) : base ≤ g ∧ ps.length ≤ c ∧ RowV w g ps.length (fun i => ps[i]?) := by
  rcases h.2 with ⟨h0, _⟩ | ⟨g', cap, cur, hv, hg, hh, hnc, _, hsz, htk⟩
  · cases h0
  · cases hv
    refine ⟨hg, hnc, cur, e, hh, by rw [hsz]; exact Nat.mul_le_mul_right 4 hnc, fun i p hi hp j hj => ?_⟩
    rw [← flat_at ps i j p hp hj, ← htk, List.getElem?_take, if_pos (by omega)]
    simp

/-! ### Values that are small enough -/

mutual
def V.fits : V → Bool
  | .mk _ _ _ l => if l.length ≤ 1000 then V.fitsL l else false
def V.fitsL : List V → Bool
  | [] => true
  | v :: l => v.fits && V.fitsL l
end
theorem V.fits_eq (v : V) : v.fits = if v.l.length ≤ 1000 then V.fitsL v.l else false := by cases v; rw [V.fits]; rfl
theorem V.fitsL_mem : ∀ {l : List V}, V.fitsL l = true → ∀ v, v ∈ l → v.fits = true := by
  intro l
  induction l with
  | nil => intro _ v h; cases h
  | cons x l ih =>
    intro h v hv
    rw [V.fitsL, Bool.and_eq_true] at h
    rcases List.mem_cons.1 hv with rfl | hv
    · exact h.1
    · exact ih h.2 v hv
theorem V.fits_at {v : V} (h : v.fits = true) : v.l.length ≤ 1000 ∧ ∀ x, x ∈ v.l → x.fits = true := by
  rw [V.fits_eq] at h
  split at h
  · rename_i hl
    exact ⟨hl, V.fitsL_mem h⟩
  · cases h

theorem cnts_bound (d : Nat) (hd : d ≤ 8) (hv : ∀ (v : V), v.sh (d : Int) = true → ∀ m : Int, 0 ≤ m → m ≤ 90 → 0 ≤ v.cnt m ∧ v.cnt m ≤ m + d ∧ (v.cnt m ≤ m → v.fits = true)) :
    ∀ (l : List V), V.shs (d : Int) l = true → ∀ (m a : Int), 0 ≤ a → m ≤ 90 → a ≤ m + d + 1 → a ≤ V.cnts m a l ∧ V.cnts m a l ≤ m + d + 1 ∧ (V.cnts m a l ≤ m → V.fitsL l = true ∧ a + l.length ≤ V.cnts m a l) := by
  intro l
  induction l with
  | nil => intro _ m a h0 _ h2; rw [V.cnts_nil]; exact ⟨Int.le_refl _, h2, fun _ => ⟨by rw [V.fitsL], by simp⟩⟩
  | cons v l ih =>
    intro hs m a h0 h1 h2
    rw [V.shs_cons] at hs
    split at hs
    · rename_i hvs
      by_cases ham : a ≤ m
      · obtain ⟨k1, k2, k3⟩ := hv v hvs (m - a) (by omega) (by omega)
        rw [V.cnts_in _ _ _ _ ham]
        have e1 : wrap64 (m - a) = m - a := IntWalk.wrap64_in _ (by omega)
        rw [e1]
        have e2 : wrap64 (1 + v.cnt (m - a)) = 1 + v.cnt (m - a) := IntWalk.wrap64_in _ (by omega)
        rw [e2]
        have e3 : wrap64 (a + (1 + v.cnt (m - a))) = a + (1 + v.cnt (m - a)) := IntWalk.wrap64_in _ (by omega)
        rw [e3]
        obtain ⟨j1, j2, j3⟩ := ih hs m (a + (1 + v.cnt (m - a))) (by omega) h1 (by omega)
        refine ⟨by omega, j2, fun h => ?_⟩
        obtain ⟨f1, f2⟩ := j3 h
        refine ⟨?_, by simp only [List.length_cons]; omega⟩
        rw [V.fitsL, k3 (by omega), f1]
        rfl
      · rw [V.cnts_out _ _ _ ham]
        exact ⟨Int.le_refl _, h2, fun h => absurd h ham⟩
    · cases hs
theorem cnt_bound : ∀ (d : Nat), d ≤ 8 → ∀ (v : V), v.sh (d : Int) = true → ∀ m : Int, 0 ≤ m → m ≤ 90 → 0 ≤ v.cnt m ∧ v.cnt m ≤ m + d ∧ (v.cnt m ≤ m → v.fits = true) := by
  intro d
  induction d with
  | zero =>
    intro _ v h
    rw [V.sh_eq, if_pos (.inl rfl)] at h
    cases h
  | succ d ih =>
    intro hd v h m h0 h1
    rw [V.sh_eq] at h
    split at h
    · cases h
    · have e : wrap64 (((d + 1 : Nat) : Int) - 1) = (d : Int) := by rw [show ((d + 1 : Nat) : Int) - 1 = (d : Int) by omega]; exact IntWalk.wrap64_in _ (by omega)
      rw [e] at h
      obtain ⟨j1, j2, j3⟩ := cnts_bound d (by omega) (ih (by omega)) v.l h m 0 (by omega) h1 (by omega)
      rw [V.cnt_eq]
      refine ⟨j1, by omega, fun hm => ?_⟩
      obtain ⟨f1, f2⟩ := j3 hm
      rw [V.fits_eq, if_pos (by omega), f1]
theorem small_fits {v : V} (h : v.small = true) : v.fits = true := by
  unfold V.small at h
  rw [Bool.and_eq_true, decide_eq_true_eq] at h
  obtain ⟨h1, h2⟩ := h
  have hb := cnts_bound 8 (Nat.le_refl _) (cnt_bound 8 (Nat.le_refl _)) [v] (by rw [V.shs_cons, if_pos (show v.sh ((8 : Nat) : Int) = true from h2), V.shs_nil]) 90 0 (by omega) (by omega) (by omega)
  have := (hb.2.2 h1).1
  exact V.fitsL_mem this v (by simp)
theorem smD_fits {l : List (List V)} (h : smD l = true) : l.length ≤ 12 ∧ ∀ a, a ∈ l → a.length ≤ 70 ∧ ∀ v, v ∈ a → v.fits = true := by
  obtain ⟨h1, h2⟩ := smD_mem h
  exact ⟨h1, fun a ha => ⟨(h2 a ha).1, fun v hv => small_fits (smA_mem (h2 a ha).2 v hv)⟩⟩

end Go.Proofs.YthnlkijkgnmbhaaDoor
