/-
  What a cache is in memory, and how it stands over what its functions do. Nothing is assumed.
-/
import Derived.Test.YtbimpfciadbnjaaCaRing
import Derived.Test.YtbimpfciadbnjaaCaClone
namespace Go.Proofs.Ytbimpfciadbnjaa
open Go.RowKit

/-- The cache's own cells. -/
def Hd (w : World) (n cap e0 mb h m r : Nat) : Prop := w.heap[n]? = some (.cells #[ptr n, .int .i64 cap, ptr e0, .map (some mb), .int .i64 h, .int .i64 m, .int .i64 r] 60 (0, 0))
theorem Hd.lt {w : World} {n cap e0 mb h m r : Nat} (H : Hd w n cap e0 mb h m r) : n < w.heap.size := (Array.getElem?_eq_some_iff.1 H).1
theorem Hd.keep {w w' : World} {n cap e0 mb h m r : Nat} (H : Hd w n cap e0 mb h m r) (hk : w'.heap[n]? = w.heap[n]?) : Hd w' n cap e0 mb h m r := hk.trans H
theorem Hd.cells {w : World} {n cap e0 mb h m r : Nat} (H : Hd w n cap e0 mb h m r) : w.cell? ⟨n, 0, none⟩ = some (ptr n) ∧ w.cell? ⟨n, 1, none⟩ = some (.int .i64 cap) ∧ w.cell? ⟨n, 2, none⟩ = some (ptr e0) ∧ w.cell? ⟨n, 3, none⟩ = some (.map (some mb)) ∧
    w.cell? ⟨n, 4, none⟩ = some (.int .i64 h) ∧ w.cell? ⟨n, 5, none⟩ = some (.int .i64 m) ∧ w.cell? ⟨n, 6, none⟩ = some (.int .i64 r) ∧ ∀ o : Nat, w.frozen? ⟨n, o, none⟩ = false := by
  unfold Hd at H
  refine ⟨?_, ?_, ?_, ?_, ?_, ?_, ?_, fun o => ?_⟩
  all_goals first | (unfold World.cell?; rw [H]; rfl) | (unfold World.frozen?; rw [H]; simp)
theorem Hd.no_el {w : World} {n cap e0 mb h m r b : Nat} (H : Hd w n cap e0 mb h m r) (hb : IsEl w b) : b ≠ n := by
  obtain ⟨_, _, _, _, _, hb⟩ := hb
  intro e
  subst e
  rw [show w.heap[b]? = _ from H] at hb
  simp at hb

/-- A node in memory. -/
def NodeIn (w : World) (P : Nat → Prop) (x : Nd) : Prop := ∃ sl, El w x.b (.string x.k) (.int .i64 x.t.r) sl ∧ RP w P sl x.t.l

/-- What a cache holds besides its own cells: the ring of the blocks bs, and the nodes l, which the map knows. -/
structure CaC (w : World) (F P : Nat → Prop) (n e0 mb : Nat) (bs : List Nat) (l : List Nd) (z : Nat) : Prop where
  ring : Ring w e0 bs
  nodes : ∀ x ∈ l, NodeIn w P x
  mp : MapE w mb z l
  sm : ∀ x ∈ l, x.k.size ≤ 60 ∧ x.t.size ≤ 20
  fn : F n
  fe : F e0
  fm : F mb
  fr : ∀ b ∈ bs, F b
  fb : ∀ x ∈ l, F x.b
  fp : ∀ k, P k → F k
  lt : ∀ k, F k → k < w.heap.size
  rn : ∀ b ∈ e0 :: bs, b ≠ n
  xn : ∀ x ∈ l, x.b ≠ n
  mn : mb ≠ n
  sn : ∀ k, P k → k ≠ n
  sm' : ∀ k, P k → k ≠ mb
  sr : ∀ k, P k → ∀ b ∈ e0 :: bs, k ≠ b
  sx : ∀ k, P k → ∀ x ∈ l, k ≠ x.b

theorem CaC.size {w : World} {F P : Nat → Prop} {n e0 mb : Nat} {bs : List Nat} {l : List Nd} {z : Nat} (h : CaC w F P n e0 mb bs l z) : n < w.heap.size ∧ e0 < w.heap.size ∧ mb < w.heap.size := ⟨h.lt _ h.fn, h.lt _ h.fe, h.lt _ h.fm⟩
/-- What happens at the cache's own cells and outside of F does not matter. -/
theorem CaC.keep {w w' : World} {F F' P : Nat → Prop} {n e0 mb : Nat} {bs : List Nat} {l : List Nd} {z : Nat} (h : CaC w F P n e0 mb bs l z) (hk : ∀ k, F k → k ≠ n → w'.heap[k]? = w.heap[k]?) (hF : ∀ k, F k → F' k) (hl : ∀ k, F' k → k < w'.heap.size) : CaC w' F' P n e0 mb bs l z where
  ring := h.ring.keep fun b hb => hk b (by
    rcases List.mem_cons.1 hb with rfl | hb
    · exact h.fe
    · exact h.fr b hb) (h.rn b hb)
  nodes x hx := by
    obtain ⟨sl, he, hr⟩ := h.nodes x hx
    exact ⟨sl, he.keep (hk _ (h.fb x hx) (h.xn x hx)), hr.keep (fun k hp => hk k (h.fp k hp) (h.sn k hp)) fun _ h => h⟩
  mp := h.mp.keep (hk _ h.fm h.mn)
  sm := h.sm
  fn := hF _ h.fn
  fe := hF _ h.fe
  fm := hF _ h.fm
  fr b hb := hF _ (h.fr b hb)
  fb x hx := hF _ (h.fb x hx)
  fp k hk := hF _ (h.fp k hk)
  lt := hl
  rn := h.rn
  xn := h.xn
  mn := h.mn
  sn := h.sn
  sm' := h.sm'
  sr := h.sr
  sx := h.sx
/-- The ring has turned. -/
theorem CaC.turned {w w' : World} {F P R : Nat → Prop} {n e0 mb : Nat} {bs bs' : List Nat} {l : List Nd} {z : Nat} (h : CaC w F P n e0 mb bs l z) (hl : Lk R w w') (hR : ∀ k, R k → IsEl w k ∧ ∀ p, P p → p ≠ k) (hr : Ring w' e0 bs') (hb : ∀ b ∈ bs', F b ∧ b ≠ n ∧ ∀ p, P p → p ≠ b) : CaC w' F P n e0 mb bs' l z where
  ring := hr
  nodes x hx := by
    obtain ⟨sl, he, hrp⟩ := h.nodes x hx
    exact ⟨sl, hl.ct _ _ _ _ he, hrp.keep (fun k hp => hl.ot k (h.lt k (h.fp k hp)) (fun hk => (hR k hk).2 k hp rfl)) fun _ h => h⟩
  mp := h.mp.keep (hl.ot mb (h.lt _ h.fm) (fun hk => by
    obtain ⟨_, _, _, _, _, he⟩ := (hR mb hk).1
    exact h.mp.not_row he rfl))
  sm := h.sm
  fn := h.fn
  fe := h.fe
  fm := h.fm
  fr b hb' := (hb b hb').1
  fb := h.fb
  fp := h.fp
  lt k hk := Nat.lt_of_lt_of_le (h.lt k hk) hl.kp.size
  rn b hb' := by
    rcases List.mem_cons.1 hb' with rfl | hb'
    · exact h.rn _ (List.mem_cons_self ..)
    · exact (hb b hb').2.1
  xn := h.xn
  mn := h.mn
  sn := h.sn
  sm' := h.sm'
  sr k hk b hb' := by
    rcases List.mem_cons.1 hb' with rfl | hb'
    · exact h.sr k hk _ (List.mem_cons_self ..)
    · exact (hb b hb').2.2 k hk
  sx := h.sx
/-- Other nodes stand in the map. -/
theorem CaC.nodes' {w w' : World} {F P P' : Nat → Prop} {n e0 mb : Nat} {bs : List Nat} {l l' : List Nd} {z z' : Nat} (h : CaC w F P n e0 mb bs l z) (hg : w.grownBy w' (some mb)) (hm : MapE w' mb z' l') (hl : ∀ x ∈ l', NodeIn w P' x ∧ x.k.size ≤ 60 ∧ x.t.size ≤ 20 ∧ F x.b ∧ x.b ≠ n)
    (hP : ∀ k, P' k → F k ∧ k ≠ n ∧ k ≠ mb ∧ (∀ b ∈ e0 :: bs, k ≠ b) ∧ ∀ x ∈ l', k ≠ x.b) : CaC w' F P' n e0 mb bs l' z' where
  ring := h.ring.keep fun b hb => hg.block b (by
    obtain ⟨_, _, _, he⟩ := h.ring.el b hb
    exact he.lt) (fun e => by
      obtain ⟨_, _, _, _, _, he⟩ := h.ring.el b hb
      exact h.mp.not_row he (by cases e; rfl))
  nodes x hx := by
    obtain ⟨⟨sl, he, hr⟩, _⟩ := hl x hx
    refine ⟨sl, he.keep (hg.block _ he.lt (fun e => ?_)), hr.keep (fun k hp => hg.block k (h.lt k (hP k hp).1) (fun e => ?_)) fun _ h => h⟩
    · obtain ⟨_, _, he⟩ := he
      exact h.mp.not_row he (by cases e; rfl)
    · exact (hP k hp).2.2.1 (by cases e; rfl)
  mp := hm
  sm x hx := ⟨(hl x hx).2.1, (hl x hx).2.2.1⟩
  fn := h.fn
  fe := h.fe
  fm := h.fm
  fr := h.fr
  fb x hx := (hl x hx).2.2.2.1
  fp k hk := (hP k hk).1
  lt k hk := Nat.lt_of_lt_of_le (h.lt k hk) hg.size
  rn := h.rn
  xn x hx := (hl x hx).2.2.2.2
  mn := h.mn
  sn k hk := (hP k hk).2.1
  sm' k hk := (hP k hk).2.2.1
  sr k hk := (hP k hk).2.2.2.1
  sx k hk := (hP k hk).2.2.2.2
theorem Hd.lk {w w' : World} {R : Nat → Prop} {n cap e0 mb h m r : Nat} (H : Hd w n cap e0 mb h m r) (hl : Lk R w w') (hR : ∀ k, R k → IsEl w k) : Hd w' n cap e0 mb h m r :=
  H.keep (hl.ot n H.lt fun hk => H.no_el (hR n hk) rfl)
theorem Hd.grown {w w' : World} {n cap e0 mb h m r : Nat} (H : Hd w n cap e0 mb h m r) (hg : w.grownBy w' (some mb)) (hne : mb ≠ n) : Hd w' n cap e0 mb h m r :=
  H.keep (hg.block n H.lt fun e => hne (by cases e; rfl))

/-- What a function of the cache leaves: the world's old blocks but those of F. -/
structure On (F : Nat → Prop) (w w' : World) : Prop where
  kp : Below 0 w w'
  ot : ∀ k, k < w.heap.size → ¬ F k → w'.heap[k]? = w.heap[k]?
theorem On.refl (F : Nat → Prop) (w : World) : On F w w := ⟨Below.refl _ _, fun _ _ _ => rfl⟩
theorem On.trans {F : Nat → Prop} {a b c : World} (h : On F a b) (k : On F b c) : On F a c := ⟨h.kp.trans k.kp, fun i hi hf => (k.ot i (Nat.lt_of_lt_of_le hi h.kp.size) hf).trans (h.ot i hi hf)⟩
theorem On.below {F : Nat → Prop} {a b : World} (h : Below a.heap.size a b) : On F a b := ⟨h.mono (Nat.zero_le _), fun k hk _ => h.block k hk⟩
theorem On.mono {F G : Nat → Prop} {a b : World} (h : On F a b) (hF : ∀ k, k < a.heap.size → F k → G k) : On G a b := ⟨h.kp, fun k hk hg => h.ot k hk fun hf => hg (hF k hk hf)⟩
theorem On.lk {F R : Nat → Prop} {a b : World} (h : Lk R a b) (hR : ∀ k, k < a.heap.size → R k → F k) : On F a b := ⟨h.kp, fun k hk hf => h.ot k hk fun hr => hf (hR k hk hr)⟩
theorem On.set {F : Nat → Prop} (a : World) {p : Addr} (hp : F p.block) (v : Value) : On F a (a.setCell p v) := ⟨(Below.refl _ _).setCell (Nat.zero_le _) v, fun _ _ hf => heap_setCell_other _ _ _ _ (fun e => hf (e ▸ hp))⟩
theorem On.grown {F : Nat → Prop} {a b : World} {m : Nat} (h : a.grownBy b (some m)) (hm : F m) : On F a b := ⟨(Below.refl 0 a).grown h (Nat.zero_le _) (fun _ _ => Nat.zero_le _), fun k hk hf => h.block k hk (fun e => hf (by cases e; exact hm))⟩
theorem On.drew {F : Nat → Prop} (a : World) : On F a a.drew := ⟨(Below.refl _ _).drew, fun _ _ _ => rfl⟩
theorem On.toBelow {F : Nat → Prop} {a b : World} {B : Nat} (h : On F a b) (hB : B ≤ a.heap.size) (hF : ∀ k, F k → B ≤ k) : Below B a b :=
  ⟨h.kp.os, h.kp.tape, h.kp.output, h.kp.size, fun k hk => h.ot k (Nat.lt_of_lt_of_le hk hB) fun hf => Nat.not_le_of_lt hk (hF k hf)⟩

/-- A cache. -/
def CaS (w : World) (F : Nat → Prop) (n cap z : Nat) (q : List Ent) (h m r : Nat) : Prop :=
  ∃ P e0 mb l, l.map Nd.e = q ∧ (q.map Prod.fst).Nodup ∧ q.length ≤ cap ∧ h ≤ z ∧ m ≤ z ∧ r ≤ z ∧ Hd w n cap e0 mb h m r ∧ CaC w F P n e0 mb (l.map Nd.b) l z
/-- F with the new blocks. -/
def gF (F : Nat → Prop) (w w' : World) : Nat → Prop := fun k => F k ∨ w.heap.size ≤ k ∧ k < w'.heap.size
theorem CaS.keep {w w' : World} {F F' : Nat → Prop} {n cap z h m r : Nat} {q : List Ent} (H : CaS w F n cap z q h m r) (hk : ∀ k, F k → w'.heap[k]? = w.heap[k]?) (hF : ∀ k, F k → F' k) (hl : ∀ k, F' k → k < w'.heap.size) : CaS w' F' n cap z q h m r := by
  obtain ⟨P, e0, mb, l, h1, h2, h3, h4, h5, h6, h7, h8⟩ := H
  exact ⟨P, e0, mb, l, h1, h2, h3, h4, h5, h6, h7.keep (hk n h8.fn), h8.keep (fun k hf _ => hk k hf) hF hl⟩
theorem CaS.lt {w : World} {F : Nat → Prop} {n cap z h m r : Nat} {q : List Ent} (H : CaS w F n cap z q h m r) : ∀ k, F k → k < w.heap.size := by
  obtain ⟨P, e0, mb, l, _, _, _, _, _, _, _, h8⟩ := H
  exact h8.lt

end Go.Proofs.Ytbimpfciadbnjaa
