/-
  A cache beside a state of the specification: what each operation keeps. Nothing is assumed.
-/
import Derived.Test.YtbimpfciadbnjaaCaAgr
import Derived.Test.YtbimpfciadbnjaaCaNew
import Derived.Test.YtbimpfciadbnjaaCaPut
import Derived.Test.YtbimpfciadbnjaaCaAwake
namespace Go.Proofs.Ytbimpfciadbnjaa
open Go.RowKit

/-- A cache and a boxed state beside each other. -/
structure Bth (W : World) (B n sb cap z : Nat) (F G : Nat → Prop) (q : List Ent) (h m r : Nat) (xk xt : Value) : Prop where
  c : CaS W F n cap z q h m r
  s : StB W sb cap h m r xk xt
  r : RefQ W G xk xt q
  g : ∀ b, G b → b < W.heap.size ∧ ¬ F b ∧ b ≠ sb
  f : ∀ b, F b → B ≤ b ∧ b ≠ sb
  l : q.length ≤ z
  b : B ≤ sb
theorem Bth.below {W W' : World} {B n sb cap z : Nat} {F G : Nat → Prop} {q : List Ent} {h m r : Nat} {xk xt : Value} (H : Bth W B n sb cap z F G q h m r xk xt) (hb : Below W.heap.size W W') : Bth W' B n sb cap z F G q h m r xk xt where
  c := H.c.below hb
  s := H.s.keep (hb.block sb H.s.lt)
  r := H.r.keep (fun b hg => hb.block b (H.g b hg).1) fun _ h => h
  g b hg := ⟨Nat.lt_of_lt_of_le (H.g b hg).1 hb.size, (H.g b hg).2⟩
  f := H.f
  l := H.l
  b := H.b
theorem CaS.more {w : World} {F : Nat → Prop} {n cap z z' h m r : Nat} {q : List Ent} (H : CaS w F n cap z q h m r) (hz : z ≤ z') : CaS w F n cap z' q h m r := by
  obtain ⟨P, e0, mb, l, h1, h2, h3, h4, h5, h6, h7, h8⟩ := H
  exact ⟨P, e0, mb, l, h1, h2, h3, by omega, by omega, by omega, h7, h8.mono hz (fun _ => Iff.rfl) rfl⟩
theorem CaS.cnt {w : World} {F : Nat → Prop} {n cap z h m r : Nat} {q : List Ent} (H : CaS w F n cap z q h m r) : h ≤ z ∧ m ≤ z ∧ r ≤ z := by
  obtain ⟨P, e0, mb, l, h1, h2, h3, h4, h5, h6, h7, h8⟩ := H
  exact ⟨h4, h5, h6⟩
theorem Bth.more {W : World} {B n sb cap z z' : Nat} {F G : Nat → Prop} {q : List Ent} {h m r : Nat} {xk xt : Value} (H : Bth W B n sb cap z F G q h m r xk xt) (hz : z ≤ z') : Bth W B n sb cap z' F G q h m r xk xt :=
  { H with c := H.c.more hz, l := Nat.le_trans H.l hz }
/-- The cache has made a step, then the specification, and the state has been stored. -/
theorem Bth.step {W W1 W2 W3 : World} {B n sb cap z z1 : Nat} {F F1 G G2 : Nat → Prop} {q q1 : List Ent} {h m r h1 m1 r1 : Nat} {xk xt yk yt : Value} (H : Bth W B n sb cap z F G q h m r xk xt)
    (hc : CaS W1 F1 n cap z1 q1 h1 m1 r1) (hw : W.heap.size ≤ W1.heap.size) (hF : ∀ b, F1 b → F b ∨ W.heap.size ≤ b ∧ b < W1.heap.size) (hb : Below W1.heap.size W1 W2) (hr : RefQ W2 G2 yk yt q1) (hG : ∀ b, G2 b → (G b ∨ b < B) ∨ W1.heap.size ≤ b ∧ b < W2.heap.size)
    (hs : StB W3 sb cap h1 m1 r1 yk yt) (hk : ∀ b, b ≠ sb → W3.heap[b]? = W2.heap[b]?) (hz : W3.heap.size = W2.heap.size) (hl : q1.length ≤ z1) : Bth W3 B n sb cap z1 F1 G2 q1 h1 m1 r1 yk yt := by
  have hsb := H.s.lt
  have h21 := hb.size
  have hF1 : ∀ b, F1 b → B ≤ b ∧ b ≠ sb := fun b hf => by
    rcases hF b hf with h | h
    · exact H.f b h
    · have := H.b; exact ⟨by omega, by omega⟩
  have hG2 : ∀ b, G2 b → b < W2.heap.size ∧ ¬ F1 b ∧ b ≠ sb := fun b hg => by
    rcases hG b hg with (h | h) | h
    · obtain ⟨h1, h2, h3⟩ := H.g b h
      refine ⟨by omega, fun hf => ?_, h3⟩
      rcases hF b hf with h | h
      · exact h2 h
      · omega
    · have := H.b
      exact ⟨by omega, fun hf => by have := (hF1 b hf).1; omega, by omega⟩
    · exact ⟨by omega, fun hf => by have := hc.lt b hf; omega, by omega⟩
  exact {
    c := (hc.below hb).keep (fun b hf => hk b (hF1 b hf).2) (fun _ h => h) (fun b hf => by have := hc.lt b hf; omega)
    s := hs
    r := hr.keep (fun b hg => hk b (hG2 b hg).2.2) fun _ h => h
    g := fun b hg => ⟨by rw [hz]; exact (hG2 b hg).1, (hG2 b hg).2⟩
    f := hF1
    l := hl
    b := H.b }
/-- What stands while the cache alone has made its step. -/
theorem Bth.half {W W1 : World} {B n sb cap z : Nat} {F G : Nat → Prop} {q : List Ent} {h m r : Nat} {xk xt : Value} (H : Bth W B n sb cap z F G q h m r xk xt) (ho : On F W W1) :
    StB W1 sb cap h m r xk xt ∧ RefQ W1 (fun b => G b ∨ b < B) xk xt q ∧ (∀ b, G b ∨ b < B → b < W1.heap.size) ∧ B ≤ W1.heap.size := by
  have hsb := H.s.lt
  have hB := H.b
  have hs := ho.kp.size
  refine ⟨H.s.keep (ho.ot sb hsb fun hf => (H.f sb hf).2 rfl), H.r.keep (fun b hg => ho.ot b (H.g b hg).1 (H.g b hg).2.1) fun _ h => .inl h, fun b hb => ?_, by omega⟩
  rcases hb with hb | hb
  · have := (H.g b hb).1; omega
  · omega

/-- The term that a missing one shows as. -/
def oT (o : Option T) : T := o.getD (.mk 0 [])
theorem RetO.any {w w' : World} {o : Option T} {e : Ending} (h : RetO w w' o e) : ∃ sl, e = .returned (.tuple #[.agg #[.int .i64 (oT o).r, sl], .bool o.isSome]) ∧ RP w' (fun b => w.heap.size ≤ b ∧ b < w'.heap.size) sl (oT o).l := by
  cases o with
  | none => exact ⟨.slice Option.none 0 0, h, .empty _ _⟩
  | some t =>
    obtain ⟨sl, h1, h2⟩ := h
    exact ⟨sl, h1, RP.fr h2⟩
theorem RetP.any {w' : World} {G : Nat → Prop} {o : Option T} {e : Ending} (h : RetP w' G o e) : ∃ sl, e = .returned (.tuple #[.agg #[.int .i64 (oT o).r, sl], .bool o.isSome]) ∧ RP w' G sl (oT o).l := by
  cases o with
  | none => exact ⟨.slice Option.none 0 0, h, .empty _ _⟩
  | some t => exact h
theorem RetG.any {w w' : World} {G : Nat → Prop} {cap h m r : Int} {q : List Ent} {o : Option T} {e : Ending} (H : RetG w w' G cap h m r q o e) : ∃ xk xt sl, e = .returned (.tuple #[stV cap h m r xk xt, .agg #[.int .i64 (oT o).r, sl], .bool o.isSome]) ∧ RefQ w' (fun b => G b ∨ w.heap.size ≤ b ∧ b < w'.heap.size) xk xt q ∧ RP w' (fun b => G b ∨ w.heap.size ≤ b ∧ b < w'.heap.size) sl (oT o).l := by
  obtain ⟨xk, xt, h1, h2⟩ := H
  cases o with
  | none => exact ⟨xk, xt, .slice none 0 0, h2, h1, .empty _ _⟩
  | some t =>
    obtain ⟨sl, h3, h4⟩ := h2
    exact ⟨xk, xt, sl, h3, h1, h4⟩
theorem oT_small {w : World} {F : Nat → Prop} {n cap z h m r : Nat} {q : List Ent} (H : CaS w F n cap z q h m r) (k : ByteArray) : (oT (fnd q k)).size ≤ 20 := by
  cases hf : fnd q k with
  | none => exact (by decide : (T.mk 0 []).size ≤ 20)
  | some t => exact (H.sound.2.2 _ (fnd_mem hf)).2
theorem putQ_up (cap : Nat) (q : List Ent) (k : ByteArray) (t : T) : (putQ cap q k t).length ≤ q.length + 1 := by
  unfold putQ
  split
  · rename_i h
    obtain ⟨u, hu⟩ := Option.isSome_iff_exists.1 h
    have := del_len hu
    simp; omega
  · split <;> simp <;> omega

end Go.Proofs.Ytbimpfciadbnjaa
