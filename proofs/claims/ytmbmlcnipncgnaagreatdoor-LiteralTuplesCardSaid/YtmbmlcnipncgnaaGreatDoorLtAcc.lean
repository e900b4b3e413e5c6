/-
  A list of values that a call builds by append. Nothing is assumed.
-/
import Derived.Test.YtmbmlcnipncgnaaGreatDoorLtReader
import Derived.Deep.AppendLies
namespace Go.Proofs.YtmbmlcnipncgnaaGreatDoor
open Go.RowKit

/-- The blocks from lo on, below hi, but one. -/
def Off (lo hi : Nat) (row : Option Nat) (b : Nat) : Prop := Btw lo hi b ∧ row ≠ some b
/-- The slice value holds the list, in blocks from base on; its own row can be appended to. -/
def Acc (w : World) (base : Nat) (sl : Value) (l : List V) : Prop :=
  ∃ ps : List (V × Value), ps.map (·.1) = l ∧ w.ownsRow base 34 4 sl ps.length (flat ps) ∧ ∀ p, p ∈ ps → RepS w (Off base w.heap.size sl.ownBlock) p.2 p.1.l
theorem Acc.nil (w : World) (base : Nat) : Acc w base (.slice none 0 0) [] := ⟨[], rfl, ⟨rfl, .inl ⟨rfl, rfl⟩⟩, fun p hp => by cases hp⟩
theorem Acc.form {w : World} {base : Nat} {sl : Value} {l : List V} (h : Acc w base sl l) : ∃ oc cc, sl = .slice oc l.length cc := by
  obtain ⟨ps, rfl, ho, -⟩ := h
  rw [List.length_map]
  rcases ho.2 with ⟨h1, h2⟩ | ⟨g, cap, cur, h1, _⟩
  · exact ⟨none, 0, by rw [h1, h2]⟩
  · exact ⟨_, _, h1⟩
theorem owns_kp {w w' : World} {base e size n N : Nat} {v : Value} {xs : List Value} {X : Nat → Prop} (h : w.ownsRow base e size v n xs) (hk : Kp N X w w') (hN : w.heap.size ≤ N) (hX : ∀ k, base ≤ k → ¬ X k) : w'.ownsRow base e size v n xs := by
  refine ⟨h.1, ?_⟩
  rcases h.2 with h0 | ⟨g, cap, cur, hv, hg, hh, r⟩
  · exact .inl h0
  · exact .inr ⟨g, cap, cur, hv, hg, (hk.block g (Nat.lt_of_lt_of_le (Array.getElem?_eq_some_iff.1 hh).1 hN) (hX g hg)).trans hh, r⟩
theorem Acc.kp {w w' : World} {base N : Nat} {sl : Value} {l : List V} {X : Nat → Prop} (h : Acc w base sl l) (hk : Kp N X w w') (hN : w.heap.size ≤ N) (hX : ∀ k, base ≤ k → ¬ X k) : Acc w' base sl l := by
  obtain ⟨ps, hp, ho, hr⟩ := h
  refine ⟨ps, hp, owns_kp ho hk hN hX, fun p hp => (hr p hp).later (fun b hb => ⟨⟨hb.1.1, Nat.lt_of_lt_of_le hb.1.2 hk.size⟩, hb.2⟩) fun b hb o => hk.cell (p := ⟨b, o, none⟩) (Nat.lt_of_lt_of_le hb.1.2 hN) (hX b hb.1.1)⟩
theorem Acc.alloc {w : World} {base : Nat} {sl : Value} {l : List V} (h : Acc w base sl l) (o : Obj) : Acc (w.alloc o) base sl l := h.kp (X := fun _ => False) (.of (below1 w o) (Nat.le_refl _)) (Nat.le_refl _) fun _ _ h => h
theorem Acc.drewN {w : World} {base : Nat} {sl : Value} {l : List V} (h : Acc w base sl l) (m : Nat) : Acc (w.drewN m) base sl l := h.kp (X := fun _ => False) ((Kp.refl w.heap.size _ w).drewN m) (Nat.le_refl _) fun _ _ h => h
theorem own_lt {w : World} {base e size n : Nat} {v : Value} {xs : List Value} (h : w.ownsRow base e size v n xs) : ∀ q, v.ownBlock = some q → base ≤ q ∧ q < w.heap.size := World.ownsRow.lt h
theorem Acc.repS {w : World} {base : Nat} {sl : Value} {l : List V} (h : Acc w base sl l) (hm : l.length ≤ 1000000) : RepS w (Btw base w.heap.size) sl l := by
  obtain ⟨ps, rfl, ho, hr⟩ := h
  rw [List.length_map] at hm
  exact RepS.of_owns ho (fun p hp => (hr p hp).later (fun b hb => hb.1) fun _ _ _ => rfl) (by omega) (fun g h1 h2 => ⟨h1, h2⟩)
/-- One element more. -/
theorem Acc.snoc {w w1 : World} {base e g cap : Nat} {sl slv : Value} {v : V} {ps : List (V × Value)} {H : Nat} (_ho : w.ownsRow base e 4 sl ps.length (flat ps)) (hr : ∀ p, p ∈ ps → RepS w (Off base w.heap.size sl.ownBlock) p.2 p.1.l)
    (hv : RepS w (Btw H w.heap.size) slv v.l) (hH : base ≤ H) (hlt : ∀ q, sl.ownBlock = some q → q < H)
    (hown : w1.ownsRow base 34 4 (.slice (some ⟨g, 0, none⟩) (ps.length + 1) cap) (ps.length + 1) (flat ps ++ [.int .i64 v.t, .int .i64 v.n, .string v.s, slv])) (hg : w.grownBy w1 sl.ownBlock) (hat : sl.ownBlock = some g ∨ g = w.heap.size) (_hgl : g < w1.heap.size) :
    Acc w1 base (.slice (some ⟨g, 0, none⟩) (ps.length + 1) cap) (ps.map (·.1) ++ [v]) := by
  have hs := hg.size
  refine ⟨ps ++ [(v, slv)], by simp, ?_, fun p hp => ?_⟩
  · rw [List.length_append, flat_snoc]
    exact hown
  · rcases List.mem_append.1 hp with hp | hp
    · refine (hr p hp).later (fun q hq => ⟨⟨hq.1.1, Nat.lt_of_lt_of_le hq.1.2 hs⟩, ?_⟩) (fun q hq o => hg.cell_far ⟨q, o, none⟩ hq.1.2 (Ne.symm hq.2))
      simp only [Value.ownBlock, ne_eq, Option.some.injEq]
      rintro rfl
      rcases hat with h | h
      · exact hq.2 h
      · have := hq.1.2; omega
    · obtain rfl := List.mem_singleton.1 hp
      refine hv.later (fun q hq => ⟨⟨Nat.le_trans hH hq.1, Nat.lt_of_lt_of_le hq.2 hs⟩, ?_⟩) (fun q hq o => hg.cell_far ⟨q, o, none⟩ hq.2 (fun e => by have := hlt q e.symm; have := hq.1; omega))
      simp only [Value.ownBlock, ne_eq, Option.some.injEq]
      rintro rfl
      rcases hat with h | h
      · have := hlt _ h; have := hq.1; omega
      · have := hq.2; omega
end Go.Proofs.YtmbmlcnipncgnaaGreatDoor
