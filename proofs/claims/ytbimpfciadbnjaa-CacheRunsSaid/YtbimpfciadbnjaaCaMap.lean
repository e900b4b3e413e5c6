/-
  The map of a cache's places; what a cache is in memory. Nothing is assumed.
-/
import Derived.Test.YtbimpfciadbnjaaCaMem
namespace Go.Proofs.Ytbimpfciadbnjaa
open Go.RowKit Go.Maps

/-- How an element of the map reads: its block. -/
def ptrE : Value → Option (DataW Unit × List MemPlace)
  | .pointer (some a) => if a.off = 0 ∧ a.spot = none then some (.lit (.int .i64 a.block), []) else none
  | .pointer none => some (.lit (.int .i64 (-1)), [])
  | _ => none
theorem ptrE_some {v : Value} {b : Nat} {ps : List MemPlace} (h : ptrE v = some (.lit (.int .i64 b), ps)) : v = ptr b := by
  unfold ptrE at h
  split at h
  · rename_i a
    split at h
    · rename_i e
      obtain ⟨ab, ao, as'⟩ := a
      simp at h e
      obtain ⟨rfl, rfl⟩ := e
      obtain ⟨h1, _⟩ := h
      have h1 : ab = b := by omega
      rw [h1]
    · cases h
  · simp at h
  · cases h
theorem ptrE_none {v : Value} {ps : List MemPlace} (h : ptrE v = some (.lit (.int .i64 (-1)), ps)) : v = .pointer none := by
  unfold ptrE at h
  split at h
  · split at h
    · simp at h
    · cases h
  · rfl
  · cases h
theorem ptrE_mk (b : Nat) : ptrE (ptr b) = some (.lit (.int .i64 b), []) := by simp [ptrE]
theorem ptrE_nil : ptrE (.pointer none) = some (.lit (.int .i64 (-1)), []) := rfl
abbrev zPtr : DataW Unit := .lit (.int .i64 (-1))
/-- A key as it reads. -/
def kLit (k : ByteArray) : Lit := .string k.data.toList
theorem kLit_inj {a b : ByteArray} (h : kLit a = kLit b) : a = b := by
  unfold kLit at h
  have h1 : a.data.toList = b.data.toList := by simpa using h
  have h2 : a.data = b.data := Array.toList_inj.1 h1
  cases a; cases b; simp at h2; rw [h2]
theorem lawStr : Keyed Try.prog 9 := string_keyed Try.underlying9
theorem zeroPtr (w : World) : (zeroValue 55).run Try.prog w = .ok (.pointer none) w := by kernel_rfl
theorem keyStr {k : ByteArray} (h : k.size ≤ 60) : keyOf Try.prog 9 (.string k) = some (kLit k) := Go.WideMaps.keyOf_string_mk Try.underlying9 (by unfold maxLen; omega)
theorem isKeyStr (k : ByteArray) : WideAt.IsKeyLit (kLit k) := by
  unfold kLit; simp [WideAt.IsKeyLit]

/-- The map in block mb gives each node's block under its key, and nothing else. -/
def MapE (w : World) (mb n : Nat) (l : List Nd) : Prop :=
  ∃ D : DataW Unit, w.ownsMap Try.prog 9 ptrE mb n D ∧ Maps.size D = l.length ∧ (∀ x ∈ l, Maps.has D (kLit x.k) = true ∧ D.atKey (kLit x.k) zPtr = .lit (.int .i64 x.b)) ∧ ∀ k, (∀ x ∈ l, x.k ≠ k) → Maps.has D (kLit k) = false
theorem MapE.lt {w : World} {mb n : Nat} {l : List Nd} (h : MapE w mb n l) : mb < w.heap.size := by
  obtain ⟨D, h1, _⟩ := h
  exact h1.lt
theorem MapE.keep {w w' : World} {mb n : Nat} {l : List Nd} (h : MapE w mb n l) (hb : w'.heap[mb]? = w.heap[mb]?) : MapE w' mb n l := by
  obtain ⟨D, ⟨es, c, h1, h2⟩, h3⟩ := h
  exact ⟨D, ⟨es, c, hb.trans h1, h2⟩, h3⟩
theorem MapE.same {w : World} {mb n : Nat} {l l' : List Nd} (h : MapE w mb n l) (hm : ∀ x, x ∈ l' ↔ x ∈ l) (hl : l'.length = l.length) : MapE w mb n l' := by
  obtain ⟨D, h1, h2, h3, h4⟩ := h
  exact ⟨D, h1, h2.trans hl.symm, fun x hx => h3 x ((hm x).1 hx), fun k hk => h4 k fun x hx => hk x ((hm x).2 hx)⟩
theorem MapE.mono {w : World} {mb n n' : Nat} {l : List Nd} (h : MapE w mb n l) (hn : n ≤ n') : MapE w mb n' l := by
  obtain ⟨D, h1, h2⟩ := h
  exact ⟨D, h1.mono hn, h2⟩
theorem MapE.made (w : World) (n : Nat) : MapE (w.alloc (.map #[] 0)) w.heap.size n [] :=
  ⟨.map [], (World.ownsMap_made w _ _ _).mono (Nat.zero_le _), rfl, (fun _ hx => absurd hx (List.not_mem_nil)), fun _ _ => rfl⟩
theorem MapE.not_row {w : World} {mb n : Nat} {l : List Nd} (h : MapE w mb n l) {b : Nat} {cs : Array Value} {t : TypeId} {fz : Nat × Nat} (hb : w.heap[b]? = some (.cells cs t fz)) : mb ≠ b := by
  obtain ⟨D, ⟨es, c, h1, _⟩, _⟩ := h
  intro e
  subst e
  rw [h1] at hb
  cases hb

theorem not_mid {α : Type} {A C : List α} {x : α} (h : (A ++ x :: C).Nodup) : x ∉ A ++ C := by
  have h1 := List.nodup_append.1 h
  intro hm
  rcases List.mem_append.1 hm with hm | hm
  · exact h1.2.2 x hm x (List.mem_cons_self ..) rfl
  · exact (List.nodup_cons.1 h1.2.1).1 hm

section
variable {w : World} {mb n : Nat} {l : List Nd}
theorem MapE.ask_no (h : MapE w mb n l) {k : ByteArray} (hk : k.size ≤ 60) (hno : ∀ x ∈ l, x.k ≠ k) : (Instr.lookup 58 (.map (some mb)) (.string k) true).run Try.prog w = .ok (.tuple #[.pointer none, .bool false]) w := by
  obtain ⟨D, h1, h2, h3, h4⟩ := h
  obtain ⟨v, ps, hr, hv⟩ := h1.look_ok lawStr Try.underlying58 (zeroPtr w) ptrE_nil (keyStr hk)
  have hh := h4 k hno
  rw [Maps.atKey_of_not_has hh] at hv
  rw [hr, hh, ptrE_none hv]
theorem MapE.ask_yes (h : MapE w mb n l) {x : Nd} (hx : x ∈ l) (hk : x.k.size ≤ 60) : (Instr.lookup 58 (.map (some mb)) (.string x.k) true).run Try.prog w = .ok (.tuple #[ptr x.b, .bool true]) w := by
  obtain ⟨D, h1, h2, h3, h4⟩ := h
  obtain ⟨v, ps, hr, hv⟩ := h1.look_ok lawStr Try.underlying58 (zeroPtr w) ptrE_nil (keyStr hk)
  obtain ⟨e1, e2⟩ := h3 x hx
  rw [e2] at hv
  rw [hr, e1, ptrE_some hv]
theorem MapE.len (h : MapE w mb n l) (ty : TypeId) : (Builtin.len_ #[58] ty #[.map (some mb)]).run Try.prog w = .ok (.int .i64 l.length) w := by
  obtain ⟨D, h1, h2, _⟩ := h
  rw [h1.len Try.underlying58 ty, h2]
theorem MapE.put_new (h : MapE w mb n l) (hn : n < maxLen) {k : ByteArray} (hk : k.size ≤ 60) (hno : ∀ x ∈ l, x.k ≠ k) (b : Nat) (t : T) :
    ∃ w', (Instr.mapUpdate 58 (.map (some mb)) (.string k) (ptr b)).run Try.prog w = .ok () w' ∧ MapE w' mb (n + 1) (⟨b, k, t⟩ :: l) ∧ w.grownBy w' (some mb) ∧ w'.heap.size = w.heap.size := by
  obtain ⟨D, h1, h2, h3, h4⟩ := h
  obtain ⟨w', hr, g1, g2⟩ := h1.store lawStr Try.underlying58 hn (keyStr hk) (ptrE_mk b)
  refine ⟨w', hr, ⟨_, g1, ?_, fun x hx => ?_, fun q hq => ?_⟩, g2.grown, ?_⟩
  · rw [Maps.size_put (h1.tidy lawStr), h4 k hno, h2]
    simp
  · rcases List.mem_cons.1 hx with rfl | hx
    · exact ⟨Maps.has_put_same h1.isMap (isKeyStr k) _, Maps.atKey_put_same h1.isMap (isKeyStr k) _ _⟩
    · have hne : kLit x.k ≠ kLit k := fun e => hno x hx (kLit_inj e)
      rw [Maps.has_put_other hne, Maps.atKey_put_other hne]
      exact h3 x hx
  · have hne : kLit q ≠ kLit k := fun e => hq ⟨b, k, t⟩ (List.mem_cons_self ..) (kLit_inj e).symm
    rw [Maps.has_put_other hne]
    exact h4 q fun x hx => hq x (List.mem_cons_of_mem _ hx)
  · obtain ⟨es, c, es', c', hb, rfl⟩ := g2
    simp [ChangeMaps.setBlock]
theorem MapE.put_old {A C : List Nd} {x : Nd} (h : MapE w mb n (A ++ x :: C)) (hn : n < maxLen) (hk : x.k.size ≤ 60) (hks : ((A ++ x :: C).map Nd.k).Nodup) (b : Nat) (t : T) :
    ∃ w', (Instr.mapUpdate 58 (.map (some mb)) (.string x.k) (ptr b)).run Try.prog w = .ok () w' ∧ MapE w' mb (n + 1) (⟨b, x.k, t⟩ :: (A ++ C)) ∧ w.grownBy w' (some mb) ∧ w'.heap.size = w.heap.size := by
  obtain ⟨D, h1, h2, h3, h4⟩ := h
  obtain ⟨w', hr, g1, g2⟩ := h1.store lawStr Try.underlying58 hn (keyStr hk) (ptrE_mk b)
  obtain ⟨e1, _⟩ := h3 x (by simp)
  have hne' : ∀ y ∈ A ++ C, y.k ≠ x.k := by
    intro y hy e
    rw [List.map_append, List.map_cons] at hks
    exact not_mid hks (by rw [← List.map_append, ← e]; exact List.mem_map_of_mem hy)
  refine ⟨w', hr, ⟨_, g1, ?_, fun y hy => ?_, fun q hq => ?_⟩, g2.grown, ?_⟩
  · rw [Maps.size_put (h1.tidy lawStr), e1, h2]
    simp
    omega
  · rcases List.mem_cons.1 hy with rfl | hy
    · exact ⟨Maps.has_put_same h1.isMap (isKeyStr _) _, Maps.atKey_put_same h1.isMap (isKeyStr _) _ _⟩
    · have hne : kLit y.k ≠ kLit x.k := fun e => hne' y hy (kLit_inj e)
      rw [Maps.has_put_other hne, Maps.atKey_put_other hne]
      exact h3 y (by
        rcases List.mem_append.1 hy with hy | hy
        · exact List.mem_append_left _ hy
        · exact List.mem_append_right _ (List.mem_cons_of_mem _ hy))
  · have hne : kLit q ≠ kLit x.k := fun e => hq ⟨b, x.k, t⟩ (List.mem_cons_self ..) (kLit_inj e).symm
    rw [Maps.has_put_other hne]
    refine h4 q fun y hy => ?_
    rcases List.mem_append.1 hy with hy | hy
    · exact hq y (List.mem_cons_of_mem _ (List.mem_append_left _ hy))
    · rcases List.mem_cons.1 hy with rfl | hy
      · exact fun e => hne (by rw [e])
      · exact hq y (List.mem_cons_of_mem _ (List.mem_append_right _ hy))
  · obtain ⟨es, c, es', c', hb, rfl⟩ := g2
    simp [ChangeMaps.setBlock]
theorem MapE.drop_last {A : List Nd} {x : Nd} (h : MapE w mb n (A ++ [x])) (hk : x.k.size ≤ 60) (hks : ((A ++ [x]).map Nd.k).Nodup) (ty : TypeId) :
    ∃ w', (Builtin.delete_ #[58, 9] ty #[.map (some mb), .string x.k]).run Try.prog w = .ok (.tuple #[]) w' ∧ MapE w' mb n A ∧ w.grownBy w' (some mb) ∧ w'.heap.size = w.heap.size := by
  obtain ⟨D, h1, h2, h3, h4⟩ := h
  obtain ⟨w', hr, g1, g2⟩ := h1.drop lawStr Try.underlying58 (keyStr hk) ty
  obtain ⟨e1, _⟩ := h3 x (by simp)
  have hne' : ∀ y ∈ A, y.k ≠ x.k := by
    intro y hy e
    rw [List.map_append, List.map_cons] at hks
    exact not_mid hks (by rw [← e]; exact List.mem_append_left _ (List.mem_map_of_mem hy))
  refine ⟨w', hr, ⟨_, g1, ?_, fun y hy => ?_, fun q hq => ?_⟩, g2.grown, ?_⟩
  · have := Maps.size_del (h1.tidy lawStr) (k := kLit x.k)
    rw [e1, h2] at this
    simp at this
    omega
  · have hne : kLit y.k ≠ kLit x.k := fun e => hne' y hy (kLit_inj e)
    rw [Maps.has_del_other hne, Maps.atKey_del_other hne]
    exact h3 y (List.mem_append_left _ hy)
  · by_cases e : q = x.k
    · rw [e]; exact Maps.has_del_same
    · have hne : kLit q ≠ kLit x.k := fun h => e (kLit_inj h)
      rw [Maps.has_del_other hne]
      refine h4 q fun y hy => ?_
      rcases List.mem_append.1 hy with hy | hy
      · exact hq y hy
      · rcases List.mem_singleton.1 hy with rfl
        exact fun h => e h.symm
  · obtain ⟨es, c, es', c', hb, rfl⟩ := g2
    simp [ChangeMaps.setBlock]
end

end Go.Proofs.Ytbimpfciadbnjaa
