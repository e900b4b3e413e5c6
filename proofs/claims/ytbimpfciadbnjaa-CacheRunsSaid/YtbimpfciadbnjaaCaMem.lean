/-
  A cache in memory: the ring of its entries, the map of their places. Nothing is assumed.
-/
import Derived.Test.YtbimpfciadbnjaaTmFR
import Derived.Test.YtbimpfciadbnjaaCaPure
import Derived.Maps.OwnSet
namespace Go.Proofs.Ytbimpfciadbnjaa
open Go.RowKit

/-- A pointer to a block. -/
abbrev ptr (b : Nat) : Value := .pointer (some ⟨b, 0, none⟩)
/-- The slice value holds the list of terms, all of it in blocks of P. -/
inductive RP (w : World) (P : Nat → Prop) : Value → List T → Prop
  | empty (oa : Option Addr) (cap : Nat) : RP w P (.slice oa 0 cap) []
  | arr (b off cap : Nat) (l : List T) (sl : Nat → Value) (hb : P b) (hl : l.length ≤ cap) (hm : l.length ≤ 9223372036854775807)
      (hc : ∀ i v, l[i]? = some v → w.cell? ⟨b, off + i * 2, none⟩ = some (.int .i64 v.r) ∧ w.cell? ⟨b, off + i * 2 + 1, none⟩ = some (sl i))
      (hr : ∀ i v, l[i]? = some v → RP w P (sl i) v.l) : RP w P (.slice (some ⟨b, off, none⟩) l.length cap) l
theorem RP.keep {w w' : World} {P P' : Nat → Prop} {x : Value} {l : List T} (h : RP w P x l) (hw : ∀ k, P k → w'.heap[k]? = w.heap[k]?) (hP : ∀ k, P k → P' k) : RP w' P' x l := by
  induction h with
  | empty oa cap => exact .empty oa cap
  | arr b off cap l sl hb hl hm hc hr ih =>
    refine .arr b off cap l sl (hP b hb) hl hm (fun i v hv => ?_) ih
    obtain ⟨h0, h1⟩ := hc i v hv
    exact ⟨(World.cell?_of_block (w := w) (hw b hb)).trans h0, (World.cell?_of_block (w := w) (hw b hb)).trans h1⟩
theorem RP.mono {w : World} {P P' : Nat → Prop} {x : Value} {l : List T} (h : RP w P x l) (hP : ∀ k, P k → P' k) : RP w P' x l := h.keep (fun _ _ => rfl) hP
theorem RP.rep {w : World} {P : Nat → Prop} {x : Value} {l : List T} {B : Nat} (h : RP w P x l) (hP : ∀ k, P k → k < B) : Rep w B x l := by
  induction h with
  | empty oa cap => exact .empty oa cap
  | arr b off cap l sl hb hl hm hc hr ih => exact .arr b off cap l sl (hP b hb) hl hm hc ih
theorem RP.of {w : World} {B : Nat} {x : Value} {l : List T} (h : Rep w B x l) : RP w (fun k => k < B) x l := by
  induction h with
  | empty oa cap => exact .empty oa cap
  | arr b off cap l sl hb hl hm hc hr ih => exact .arr b off cap l sl hb hl hm hc ih
theorem RP.fr {w : World} {P : Nat → Prop} {x : Value} {l : List T} (h : FR w P x l) : RP w P x l := by
  induction h with
  | empty P oa cap => exact .empty oa cap
  | arr P b off cap l sl Q h1 h2 h3 h4 h5 h6 h7 h8 ih => exact .arr b off cap l sl h1 h2 h3 h4 (fun i v hv => (ih i v hv).mono (fun k hk => (h7 i (List.getElem?_eq_some_iff.1 hv).1 k hk).1))
theorem RP.form {w : World} {P : Nat → Prop} {x : Value} {l : List T} (h : RP w P x l) : ∃ (oa : Option Addr) (cap : Nat), x = .slice oa l.length cap ∧ l.length ≤ cap ∧ l.length ≤ 9223372036854775807 := by
  cases h with
  | empty oa cap => exact ⟨oa, cap, rfl, Nat.zero_le _, by simp⟩
  | arr b off cap l sl h1 h2 h3 h4 h5 => exact ⟨_, cap, rfl, h2, h3⟩

/-- A block that is an element of the ring with this content. -/
def El (w : World) (b : Nat) (c0 c1 c2 : Value) : Prop := ∃ p q, w.heap[b]? = some (.cells #[c0, c1, c2, p, q] 67 (0, 0))
theorem El.lt {w : World} {b : Nat} {c0 c1 c2 : Value} (h : El w b c0 c1 c2) : b < w.heap.size := by
  obtain ⟨p, q, h⟩ := h
  exact (Array.getElem?_eq_some_iff.1 h).1
theorem El.keep {w w' : World} {b : Nat} {c0 c1 c2 : Value} (h : El w b c0 c1 c2) (hw : w'.heap[b]? = w.heap[b]?) : El w' b c0 c1 c2 := by
  obtain ⟨p, q, h⟩ := h
  exact ⟨p, q, hw.trans h⟩
theorem El.cells {w : World} {b : Nat} {c0 c1 c2 : Value} (h : El w b c0 c1 c2) : w.cell? ⟨b, 0, none⟩ = some c0 ∧ w.cell? ⟨b, 1, none⟩ = some c1 ∧ w.cell? ⟨b, 2, none⟩ = some c2 ∧ (∃ p, w.cell? ⟨b, 3, none⟩ = some p) ∧ (∃ q, w.cell? ⟨b, 4, none⟩ = some q) ∧ ∀ o : Nat, w.frozen? ⟨b, o, none⟩ = false := by
  obtain ⟨p, q, h⟩ := h
  refine ⟨?_, ?_, ?_, ⟨p, ?_⟩, ⟨q, ?_⟩, fun o => ?_⟩
  · unfold World.cell?; rw [h]; rfl
  · unfold World.cell?; rw [h]; rfl
  · unfold World.cell?; rw [h]; rfl
  · unfold World.cell?; rw [h]; rfl
  · unfold World.cell?; rw [h]; rfl
  · unfold World.frozen?; rw [h]; simp
theorem El.set3 {w : World} {b : Nat} {c0 c1 c2 : Value} (h : El w b c0 c1 c2) (v : Value) : El (w.setCell ⟨b, 3, none⟩ v) b c0 c1 c2 := by
  obtain ⟨p, q, h⟩ := h
  exact ⟨v, q, heap_setCell_same _ _ _ _ _ _ h⟩
theorem El.set4 {w : World} {b : Nat} {c0 c1 c2 : Value} (h : El w b c0 c1 c2) (v : Value) : El (w.setCell ⟨b, 4, none⟩ v) b c0 c1 c2 := by
  obtain ⟨p, q, h⟩ := h
  exact ⟨p, v, heap_setCell_same _ _ _ _ _ _ h⟩
theorem El.other {w : World} {b : Nat} {c0 c1 c2 : Value} (h : El w b c0 c1 c2) (a : Addr) (hb : b ≠ a.block) (v : Value) : El (w.setCell a v) b c0 c1 c2 := h.keep (heap_setCell_other _ _ _ _ hb)
theorem El.new (w : World) (c0 c1 c2 p q : Value) : El (w.alloc (.cells #[c0, c1, c2, p, q] 67)) w.heap.size c0 c1 c2 := ⟨p, q, heap_alloc_new _ _⟩
/-- .. with any content. -/
def IsEl (w : World) (b : Nat) : Prop := ∃ c0 c1 c2, El w b c0 c1 c2

/-- From p by the elements to n: where each leads to. -/
def Aft (w : World) : Nat → List Nat → Nat → Prop
  | p, [], n => w.cell? ⟨p, 4, none⟩ = some (ptr n)
  | p, b :: l, n => w.cell? ⟨p, 4, none⟩ = some (ptr b) ∧ Aft w b l n
/-- .. and from where each is reached. -/
def Bef (w : World) : Nat → List Nat → Nat → Prop
  | p, [], n => w.cell? ⟨n, 3, none⟩ = some (ptr p)
  | p, b :: l, n => w.cell? ⟨b, 3, none⟩ = some (ptr p) ∧ Bef w b l n
def fstB : List Nat → Nat → Nat
  | [], n => n
  | b :: _, _ => b
def lstB : Nat → List Nat → Nat
  | p, [] => p
  | _, b :: l => lstB b l
theorem lstB_mem (p : Nat) (l : List Nat) : lstB p l ∈ p :: l := by
  induction l generalizing p with
  | nil => exact List.mem_cons_self ..
  | cons b l ih => exact List.mem_cons_of_mem _ (ih b)
theorem fstB_mem (l : List Nat) (n : Nat) : fstB l n ∈ n :: l := by
  cases l with
  | nil => exact List.mem_cons_self ..
  | cons b l => exact List.mem_cons_of_mem _ (List.mem_cons_self ..)
theorem aft_first {w : World} {p : Nat} {l : List Nat} {n : Nat} (h : Aft w p l n) : w.cell? ⟨p, 4, none⟩ = some (ptr (fstB l n)) := by
  cases l with
  | nil => exact h
  | cons b l => exact h.1
theorem bef_last {w : World} {l : List Nat} {n : Nat} : ∀ {p : Nat}, Bef w p l n → w.cell? ⟨n, 3, none⟩ = some (ptr (lstB p l)) := by
  induction l with
  | nil => intro p h; exact h
  | cons b l ih => intro p h; exact ih h.2
/-- .. up to the last one. -/
def HAft (w : World) : Nat → List Nat → Prop
  | _, [] => True
  | p, b :: l => w.cell? ⟨p, 4, none⟩ = some (ptr b) ∧ HAft w b l
def HBef (w : World) : Nat → List Nat → Prop
  | _, [] => True
  | p, b :: l => w.cell? ⟨b, 3, none⟩ = some (ptr p) ∧ HBef w b l
theorem aft_app {w : World} {n : Nat} {C : List Nat} : ∀ {p : Nat} {A : List Nat}, Aft w p (A ++ C) n ↔ HAft w p A ∧ Aft w (lstB p A) C n
  | p, [] => ⟨fun h => ⟨trivial, h⟩, fun h => h.2⟩
  | p, b :: A => by
    show (w.cell? ⟨p, 4, none⟩ = some (ptr b) ∧ Aft w b (A ++ C) n) ↔ (w.cell? ⟨p, 4, none⟩ = some (ptr b) ∧ HAft w b A) ∧ Aft w (lstB b A) C n
    rw [aft_app, and_assoc]
theorem bef_app {w : World} {n : Nat} {C : List Nat} : ∀ {p : Nat} {A : List Nat}, Bef w p (A ++ C) n ↔ HBef w p A ∧ Bef w (lstB p A) C n
  | p, [] => ⟨fun h => ⟨trivial, h⟩, fun h => h.2⟩
  | p, b :: A => by
    show (w.cell? ⟨b, 3, none⟩ = some (ptr p) ∧ Bef w b (A ++ C) n) ↔ (w.cell? ⟨b, 3, none⟩ = some (ptr p) ∧ HBef w b A) ∧ Bef w (lstB b A) C n
    rw [bef_app, and_assoc]
theorem HAft.keep {w w' : World} {A : List Nat} : ∀ {p : Nat}, HAft w p A → (p :: A).Nodup → (∀ b ∈ p :: A, b ≠ lstB p A → w'.cell? ⟨b, 4, none⟩ = w.cell? ⟨b, 4, none⟩) → HAft w' p A := by
  induction A with
  | nil => intro p _ _ _; trivial
  | cons b A ih =>
    intro p h hn hk
    have hn' := List.nodup_cons.1 hn
    refine ⟨(hk p (List.mem_cons_self ..) (fun e => hn'.1 ?_)).trans h.1, ih h.2 hn'.2 (fun c hc hne => hk c (List.mem_cons_of_mem _ hc) hne)⟩
    have h2 := lstB_mem b A
    have e : p = lstB b A := e
    rw [← e] at h2
    exact h2
theorem HBef.keep {w w' : World} {A : List Nat} : ∀ {p : Nat}, HBef w p A → (∀ b ∈ A, w'.cell? ⟨b, 3, none⟩ = w.cell? ⟨b, 3, none⟩) → HBef w' p A := by
  induction A with
  | nil => intro p _ _; trivial
  | cons b A ih => intro p h hk; exact ⟨(hk b (List.mem_cons_self ..)).trans h.1, ih h.2 (fun c hc => hk c (List.mem_cons_of_mem _ hc))⟩
theorem Aft.keep {w w' : World} {l : List Nat} {n : Nat} : ∀ {p : Nat}, Aft w p l n → (∀ b ∈ p :: l, w'.cell? ⟨b, 4, none⟩ = w.cell? ⟨b, 4, none⟩) → Aft w' p l n := by
  induction l with
  | nil => intro p h hk; exact (hk p (List.mem_cons_self ..)).trans h
  | cons b l ih => intro p h hk; exact ⟨(hk p (List.mem_cons_self ..)).trans h.1, ih h.2 (fun c hc => hk c (List.mem_cons_of_mem _ hc))⟩
theorem Bef.keep {w w' : World} {l : List Nat} {n : Nat} : ∀ {p : Nat}, Bef w p l n → (∀ b ∈ n :: l, w'.cell? ⟨b, 3, none⟩ = w.cell? ⟨b, 3, none⟩) → Bef w' p l n := by
  induction l with
  | nil => intro p h hk; exact (hk n (List.mem_cons_self ..)).trans h
  | cons b l ih =>
    intro p h hk
    refine ⟨(hk b (by simp)).trans h.1, ih h.2 (fun c hc => hk c ?_)⟩
    rcases List.mem_cons.1 hc with rfl | hc
    · exact List.mem_cons_self ..
    · exact List.mem_cons_of_mem _ (List.mem_cons_of_mem _ hc)
/-- The elements are reached from elsewhere. -/
theorem Aft.turn {w w' : World} {x p n : Nat} {C : List Nat} (h : Aft w x C n) (hk : ∀ b ∈ C, w'.cell? ⟨b, 4, none⟩ = w.cell? ⟨b, 4, none⟩) (hy : w'.cell? ⟨p, 4, none⟩ = some (ptr (fstB C n))) : Aft w' p C n := by
  cases C with
  | nil => exact hy
  | cons b C => exact ⟨hy, h.2.keep hk⟩
theorem Bef.turn {w w' : World} {p y n : Nat} {C : List Nat} (h : Bef w p C n) (hn : (n :: C).Nodup) (hk : ∀ b ∈ n :: C, b ≠ fstB C n → w'.cell? ⟨b, 3, none⟩ = w.cell? ⟨b, 3, none⟩) (hy : w'.cell? ⟨fstB C n, 3, none⟩ = some (ptr y)) : Bef w' y C n := by
  cases C with
  | nil => exact hy
  | cons b C =>
    refine ⟨hy, h.2.keep fun c hc => hk c ?_ ?_⟩
    · rcases List.mem_cons.1 hc with rfl | hc
      · exact List.mem_cons_self ..
      · exact List.mem_cons_of_mem _ (List.mem_cons_of_mem _ hc)
    · intro e
      have e : c = b := e
      subst e
      have hn1 := List.nodup_cons.1 hn
      have hn2 := List.nodup_cons.1 hn1.2
      rcases List.mem_cons.1 hc with rfl | hc
      · exact hn1.1 (List.mem_cons_self ..)
      · exact hn2.1 hc

/-- The elements in the blocks bs form a ring with the end e0. -/
structure Ring (w : World) (e0 : Nat) (bs : List Nat) : Prop where
  aft : Aft w e0 bs e0
  bef : Bef w e0 bs e0
  nd : (e0 :: bs).Nodup
  el : ∀ b ∈ e0 :: bs, IsEl w b

/-- What the ring's own functions leave: the contents of elements, and all other blocks. -/
structure Lk (R : Nat → Prop) (w w' : World) : Prop where
  kp : Below 0 w w'
  ot : ∀ k, k < w.heap.size → ¬ R k → w'.heap[k]? = w.heap[k]?
  ct : ∀ b c0 c1 c2, El w b c0 c1 c2 → El w' b c0 c1 c2
theorem Lk.refl (R : Nat → Prop) (w : World) : Lk R w w := ⟨Below.refl _ _, fun _ _ _ => rfl, fun _ _ _ _ h => h⟩
theorem Lk.trans {R : Nat → Prop} {a b c : World} (h : Lk R a b) (k : Lk R b c) : Lk R a c :=
  ⟨h.kp.trans k.kp, fun i hi hr => (k.ot i (Nat.lt_of_lt_of_le hi h.kp.size) hr).trans (h.ot i hi hr), fun _ _ _ _ he => k.ct _ _ _ _ (h.ct _ _ _ _ he)⟩
theorem Lk.drew {R : Nat → Prop} {a b : World} (h : Lk R a b) : Lk R a b.drew := ⟨h.kp.drew, h.ot, h.ct⟩
theorem Lk.alloc {R : Nat → Prop} {a b : World} (h : Lk R a b) (o : Obj) : Lk R a (b.alloc o) :=
  h.trans ⟨(Below.refl _ _).alloc (Nat.zero_le _) o, fun _ hk _ => Below.heap_alloc _ _ _ hk, fun _ _ _ _ he => he.keep (Below.heap_alloc _ _ _ he.lt)⟩
theorem Lk.set3 {R : Nat → Prop} {a b : World} (h : Lk R a b) {x : Nat} (hx : R x) (v : Value) : Lk R a (b.setCell ⟨x, 3, none⟩ v) :=
  h.trans ⟨(Below.refl _ _).setCell (Nat.zero_le _) v, fun k _ hr => heap_setCell_other _ _ _ _ (fun e => hr (e ▸ hx)), fun c _ _ _ he => by
    by_cases e : c = x
    · subst e; exact he.set3 v
    · exact he.other _ e v⟩
theorem Lk.set4 {R : Nat → Prop} {a b : World} (h : Lk R a b) {x : Nat} (hx : R x) (v : Value) : Lk R a (b.setCell ⟨x, 4, none⟩ v) :=
  h.trans ⟨(Below.refl _ _).setCell (Nat.zero_le _) v, fun k _ hr => heap_setCell_other _ _ _ _ (fun e => hr (e ▸ hx)), fun c _ _ _ he => by
    by_cases e : c = x
    · subst e; exact he.set4 v
    · exact he.other _ e v⟩

theorem set_at (w : World) (b o : Nat) (v : Value) (h : (w.cell? ⟨b, o, none⟩).isSome = true) : (w.setCell ⟨b, o, none⟩ v).cell? ⟨b, o, none⟩ = some v := World.cell?_setCell_same' _ _ _ h
theorem set_far (w : World) (b o c q : Nat) (v : Value) (h : b ≠ c ∨ o ≠ q) : (w.setCell ⟨b, o, none⟩ v).cell? ⟨c, q, none⟩ = w.cell? ⟨c, q, none⟩ := World.cell?_setCell_other _ _ _ _ (by
  rcases h with h | h
  · intro e; cases e; exact h rfl
  · intro e; cases e; exact h rfl)

/-- An element is taken out. -/
theorem Ring.without {w : World} {e0 x : Nat} {A C : List Nat} (h : Ring w e0 (A ++ x :: C)) :
    Ring ((w.setCell ⟨lstB e0 A, 4, none⟩ (ptr (fstB C e0))).setCell ⟨fstB C e0, 3, none⟩ (ptr (lstB e0 A))) e0 (A ++ C) ∧
    Lk (fun k => k ∈ e0 :: (A ++ x :: C)) w ((w.setCell ⟨lstB e0 A, 4, none⟩ (ptr (fstB C e0))).setCell ⟨fstB C e0, 3, none⟩ (ptr (lstB e0 A))) := by
  obtain ⟨h1, h2, h3, h4⟩ := h
  have hp := lstB_mem e0 A
  have hf := fstB_mem C e0
  have hpm : lstB e0 A ∈ e0 :: (A ++ x :: C) := by
    rcases List.mem_cons.1 hp with h | h
    · rw [h]; exact List.mem_cons_self ..
    · exact List.mem_cons_of_mem _ (List.mem_append_left _ h)
  have hfm : fstB C e0 ∈ e0 :: (A ++ x :: C) := by
    rcases List.mem_cons.1 hf with h | h
    · rw [h]; exact List.mem_cons_self ..
    · exact List.mem_cons_of_mem _ (List.mem_append_right _ (List.mem_cons_of_mem _ h))
  have hlk : Lk (fun k => k ∈ e0 :: (A ++ x :: C)) w ((w.setCell ⟨lstB e0 A, 4, none⟩ (ptr (fstB C e0))).setCell ⟨fstB C e0, 3, none⟩ (ptr (lstB e0 A))) :=
    ((Lk.refl _ _).set4 hpm _).set3 hfm _
  refine ⟨?_, hlk⟩
  obtain ⟨a1, a2⟩ := aft_app.1 h1
  obtain ⟨b1, b2⟩ := bef_app.1 h2
  have hn : (e0 :: (A ++ C)).Nodup := h3.sublist ((List.Sublist.refl _).append (List.sublist_cons_self ..) |>.cons_cons _)
  have hnA : (e0 :: A).Nodup := hn.sublist ((List.sublist_append_left ..).cons_cons _)
  have hnC : (e0 :: C).Nodup := hn.sublist ((List.sublist_append_right ..).cons_cons _)
  have hAC : ∀ a ∈ A, ∀ c ∈ C, a ≠ c := fun a ha c hc => (List.nodup_append.1 (List.nodup_cons.1 hn).2).2.2 a ha c hc
  have hA0 : e0 ∉ A := (List.nodup_cons.1 hnA).1
  have hC0 : e0 ∉ C := (List.nodup_cons.1 hnC).1
  obtain ⟨_, _, _, hpe⟩ := h4 _ hpm
  obtain ⟨_, _, _, hfe⟩ := h4 _ hfm
  obtain ⟨_, _, _, _, ⟨qp, hq⟩, _⟩ := hpe.cells
  obtain ⟨_, _, _, ⟨qf, hq3⟩, _, _⟩ := hfe.cells
  generalize hpb : lstB e0 A = pb at *
  generalize hfb : fstB C e0 = fb at *
  refine ⟨aft_app.2 ⟨a1.keep hnA fun b hb hne => ?_, ?_⟩, bef_app.2 ⟨b1.keep fun b hb => ?_, ?_⟩, hn, fun b hb => ?_⟩
  · rw [set_far _ _ _ _ _ _ (.inr (by decide)), set_far _ _ _ _ _ _ (.inl (fun e => hne (by rw [hpb]; exact e.symm)))]
  · rw [hpb]
    refine a2.2.turn (fun b hb => ?_) ?_
    · rw [set_far _ _ _ _ _ _ (.inr (by decide)), set_far _ _ _ _ _ _ (.inl ?_)]
      intro e
      rcases List.mem_cons.1 hp with h | h
      · exact hC0 (by rw [← h, e]; exact hb)
      · exact hAC _ h _ hb e
    · rw [set_far _ _ _ _ _ _ (.inr (by decide)), set_at _ _ _ _ (by rw [hq]; rfl), hfb]
  · rw [set_far _ _ _ _ _ _ (.inl ?_), set_far _ _ _ _ _ _ (.inr (by decide))]
    intro e
    rcases List.mem_cons.1 hf with h | h
    · exact hA0 (by rw [← h, e]; exact hb)
    · exact hAC _ hb _ h e.symm
  · rw [hpb]
    refine b2.2.turn hnC (fun b hb hne => ?_) ?_
    · rw [set_far _ _ _ _ _ _ (.inl (fun e => hne (by rw [hfb]; exact e.symm))), set_far _ _ _ _ _ _ (.inr (by decide))]
    · rw [hfb, set_at _ _ _ _ (by rw [set_far _ _ _ _ _ _ (.inr (by decide)), hq3]; rfl)]
  · obtain ⟨c0, c1, c2, he⟩ := h4 b (by
      rcases List.mem_cons.1 hb with h | h
      · rw [h]; exact List.mem_cons_self ..
      · rcases List.mem_append.1 h with h | h
        · exact List.mem_cons_of_mem _ (List.mem_append_left _ h)
        · exact List.mem_cons_of_mem _ (List.mem_append_right _ (List.mem_cons_of_mem _ h)))
    exact ⟨c0, c1, c2, hlk.ct _ _ _ _ he⟩

/-- An element becomes the first one. -/
theorem Ring.first {w : World} {e0 x : Nat} {bs : List Nat} (h : Ring w e0 bs) (hx : x ∉ e0 :: bs) (hE : IsEl w x) :
    Ring ((((w.setCell ⟨x, 3, none⟩ (ptr e0)).setCell ⟨x, 4, none⟩ (ptr (fstB bs e0))).setCell ⟨e0, 4, none⟩ (ptr x)).setCell ⟨fstB bs e0, 3, none⟩ (ptr x)) e0 (x :: bs) ∧
    Lk (fun k => k = x ∨ k ∈ e0 :: bs) w ((((w.setCell ⟨x, 3, none⟩ (ptr e0)).setCell ⟨x, 4, none⟩ (ptr (fstB bs e0))).setCell ⟨e0, 4, none⟩ (ptr x)).setCell ⟨fstB bs e0, 3, none⟩ (ptr x)) := by
  obtain ⟨h1, h2, h3, h4⟩ := h
  have hf := fstB_mem bs e0
  have hlk : Lk (fun k => k = x ∨ k ∈ e0 :: bs) w ((((w.setCell ⟨x, 3, none⟩ (ptr e0)).setCell ⟨x, 4, none⟩ (ptr (fstB bs e0))).setCell ⟨e0, 4, none⟩ (ptr x)).setCell ⟨fstB bs e0, 3, none⟩ (ptr x)) :=
    ((((Lk.refl _ _).set3 (.inl rfl) _).set4 (.inl rfl) _).set4 (.inr (List.mem_cons_self ..)) _).set3 (.inr hf) _
  refine ⟨?_, hlk⟩
  have hx0 : x ≠ e0 := fun e => hx (by rw [e]; exact List.mem_cons_self ..)
  have hxb : ∀ b ∈ bs, x ≠ b := fun b hb e => hx (by rw [e]; exact List.mem_cons_of_mem _ hb)
  have hxf : x ≠ fstB bs e0 := fun e => hx (by rw [e]; exact hf)
  have h0b : ∀ b ∈ bs, e0 ≠ b := fun b hb e => (List.nodup_cons.1 h3).1 (by rw [e]; exact hb)
  obtain ⟨_, _, _, hxe⟩ := hE
  obtain ⟨_, _, _, hee⟩ := h4 e0 (List.mem_cons_self ..)
  obtain ⟨_, _, _, hfe⟩ := h4 _ hf
  obtain ⟨_, _, _, ⟨x3, hx3⟩, ⟨x4, hx4⟩, _⟩ := hxe.cells
  obtain ⟨_, _, _, _, ⟨q4, hq4⟩, _⟩ := hee.cells
  obtain ⟨_, _, _, ⟨q3, hq3⟩, _, _⟩ := hfe.cells
  refine ⟨⟨?_, h1.turn (fun b hb => ?_) ?_⟩, ⟨?_, h2.turn h3 (fun b hb hne => ?_) ?_⟩, List.nodup_cons.2 ⟨fun hm => ?_, List.nodup_cons.2 ⟨fun hm => hx (List.mem_cons_of_mem _ hm), (List.nodup_cons.1 h3).2⟩⟩, fun b hb => ?_⟩
  · rw [set_far _ _ _ _ _ _ (.inr (by decide)), set_at _ _ _ _ (by rw [set_far _ _ _ _ _ _ (.inl hx0), set_far _ _ _ _ _ _ (.inl hx0), hq4]; rfl)]
  · rw [set_far _ _ _ _ _ _ (.inr (by decide)), set_far _ _ _ _ _ _ (.inl (h0b b hb)), set_far _ _ _ _ _ _ (.inl (hxb b hb)), set_far _ _ _ _ _ _ (.inl (hxb b hb))]
  · rw [set_far _ _ _ _ _ _ (.inr (by decide)), set_far _ _ _ _ _ _ (.inl hx0.symm), set_at _ _ _ _ (by rw [set_far _ _ _ _ _ _ (.inr (by decide)), hx4]; rfl)]
  · rw [set_far _ _ _ _ _ _ (.inl hxf.symm), set_far _ _ _ _ _ _ (.inl hx0.symm), set_far _ _ _ _ _ _ (.inr (by decide)), set_at _ _ _ _ (by rw [hx3]; rfl)]
  · have hxb' : x ≠ b := fun e => hx (by rw [e]; exact hb)
    rw [set_far _ _ _ _ _ _ (.inl (fun e => hne e.symm)), set_far _ _ _ _ _ _ (.inr (by decide)), set_far _ _ _ _ _ _ (.inl hxb'), set_far _ _ _ _ _ _ (.inl hxb')]
  · rw [set_at _ _ _ _ (by rw [set_far _ _ _ _ _ _ (.inr (by decide)), set_far _ _ _ _ _ _ (.inl hxf), set_far _ _ _ _ _ _ (.inl hxf), hq3]; rfl)]
  · rcases List.mem_cons.1 hm with e | hm
    · exact hx0 e.symm
    · exact (List.nodup_cons.1 h3).1 hm
  · rcases List.mem_cons.1 hb with e | hb
    · rw [e]; exact ⟨_, _, _, hlk.ct _ _ _ _ hee⟩
    · rcases List.mem_cons.1 hb with e | hb
      · rw [e]; exact ⟨_, _, _, hlk.ct _ _ _ _ hxe⟩
      · obtain ⟨c0, c1, c2, he⟩ := h4 b (List.mem_cons_of_mem _ hb)
        exact ⟨c0, c1, c2, hlk.ct _ _ _ _ he⟩
theorem Ring.keep {w w' : World} {e0 : Nat} {bs : List Nat} (h : Ring w e0 bs) (hk : ∀ b ∈ e0 :: bs, w'.heap[b]? = w.heap[b]?) : Ring w' e0 bs :=
  ⟨h.aft.keep fun b hb => World.cell?_of_block (w := w) (hk b hb), h.bef.keep fun b hb => World.cell?_of_block (w := w) (hk b hb), h.nd, fun b hb => by
    obtain ⟨c0, c1, c2, he⟩ := h.el b hb
    exact ⟨c0, c1, c2, he.keep (hk b hb)⟩⟩

end Go.Proofs.Ytbimpfciadbnjaa
