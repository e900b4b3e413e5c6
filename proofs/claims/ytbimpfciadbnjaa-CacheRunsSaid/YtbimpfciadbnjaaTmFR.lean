/-
  Terms in memory whose blocks are known: a set of blocks, those of different arguments apart; the place to which a path leads; what a store there makes. Nothing is assumed.
-/
import Derived.Test.YtbimpfciadbnjaaTmBase
namespace Go.Proofs.Ytbimpfciadbnjaa
open Go.RowKit

/-- The slice value holds the list of terms; all its blocks are in P; those of two arguments, and the list's own, are apart; they may be written. -/
inductive FR (w : World) : (Nat → Prop) → Value → List T → Prop
  | empty (P : Nat → Prop) (oa : Option Addr) (cap : Nat) : FR w P (.slice oa 0 cap) []
  | arr (P : Nat → Prop) (b off cap : Nat) (l : List T) (sl : Nat → Value) (Q : Nat → Nat → Prop) (hP : P b) (hl : l.length ≤ cap) (hm : l.length ≤ 9223372036854775807)
      (hc : ∀ i v, l[i]? = some v → w.cell? ⟨b, off + i * 2, none⟩ = some (.int .i64 v.r) ∧ w.cell? ⟨b, off + i * 2 + 1, none⟩ = some (sl i))
      (hz : ∀ o : Nat, w.frozen? ⟨b, o, none⟩ = false)
      (hr : ∀ i v, l[i]? = some v → FR w (Q i) (sl i) v.l)
      (hQ : ∀ i, i < l.length → ∀ k, Q i k → P k ∧ k ≠ b) (hd : ∀ i j, i < l.length → j < l.length → i ≠ j → ∀ k, Q i k → ¬ Q j k) : FR w P (.slice (some ⟨b, off, none⟩) l.length cap) l

theorem FR.mono {w : World} {P P' : Nat → Prop} {x : Value} {l : List T} (h : FR w P x l) (hP : ∀ k, P k → P' k) : FR w P' x l := by
  cases h with
  | empty _ oa cap => exact .empty _ oa cap
  | arr _ b off cap l sl Q h1 h2 h3 h4 h5 h6 h7 h8 => exact .arr _ b off cap l sl Q (hP _ h1) h2 h3 h4 h5 h6 (fun i hi k hk => ⟨hP _ (h7 i hi k hk).1, (h7 i hi k hk).2⟩) h8

/-- What happens in blocks outside P does not matter. -/
theorem FR.keep {w w' : World} {P : Nat → Prop} {x : Value} {l : List T} (h : FR w P x l) (hw : ∀ k, P k → w'.heap[k]? = w.heap[k]?) : FR w' P x l := by
  induction h with
  | empty P oa cap => exact .empty _ oa cap
  | arr P b off cap l sl Q h1 h2 h3 h4 h5 h6 h7 h8 ih =>
    refine .arr P b off cap l sl Q h1 h2 h3 (fun i v hv => ?_) (fun o => ?_) (fun i v hv => ih i v hv (fun k hk => hw k (h7 i (List.getElem?_eq_some_iff.1 hv).1 k hk).1)) h7 h8
    · obtain ⟨c0, c1⟩ := h4 i v hv
      exact ⟨(World.cell?_of_block (w := w) (hw b h1)).trans c0, (World.cell?_of_block (w := w) (hw b h1)).trans c1⟩
    · exact (World.frozen?_of_block (w := w) (hw b h1)).trans (h5 o)
theorem FR.later {w w' : World} {P : Nat → Prop} {x : Value} {l : List T} {B : Nat} (h : FR w P x l) (hb : Below B w w') (hP : ∀ k, P k → k < B) : FR w' P x l := h.keep fun k hk => hb.block k (hP k hk)

theorem FR.rep {w : World} {P : Nat → Prop} {B : Nat} {x : Value} {l : List T} (h : FR w P x l) (hP : ∀ k, P k → k < B) : Rep w B x l := by
  induction h with
  | empty P oa cap => exact .empty oa cap
  | arr P b off cap l sl Q h1 h2 h3 h4 h5 h6 h7 h8 ih =>
    exact .arr b off cap l sl (hP b h1) h2 h3 h4 (fun i v hv => ih i v hv (fun k hk => hP k (h7 i (List.getElem?_eq_some_iff.1 hv).1 k hk).1))
theorem FR.form {w : World} {P : Nat → Prop} {x : Value} {l : List T} (h : FR w P x l) : ∃ (oa : Option Addr) (cap : Nat), x = .slice oa l.length cap ∧ l.length ≤ cap ∧ l.length ≤ 9223372036854775807 := by
  cases h with
  | empty _ oa cap => exact ⟨oa, cap, rfl, Nat.zero_le _, by simp⟩
  | arr _ b off cap l sl Q h1 h2 h3 h4 h5 h6 h7 h8 => exact ⟨_, cap, rfl, h2, h3⟩

/-- A term in two cells of block b at o, its arguments' blocks in P. -/
def FN (w : World) (P : Nat → Prop) (b o : Nat) (v : T) : Prop := ∃ sl, w.cell? ⟨b, o, none⟩ = some (.int .i64 v.r) ∧ w.cell? ⟨b, o + 1, none⟩ = some sl ∧ FR w P sl v.l ∧ ¬ P b

/-- The term to which a path leads. -/
def T.follow : T → List Int → Option T
  | v, [] => some v
  | v, i :: p => if 0 ≤ i then (match v.l[i.toNat]? with | some x => x.follow p | none => none) else none
def T.repl (x : T) : T → List Int → T
  | _, [] => x
  | v, i :: p => match v.l[i.toNat]? with | some u => .mk v.r (v.l.set i.toNat (T.repl x u p)) | none => v
theorem T.follow_append (p q : List Int) : ∀ v : T, v.follow (p ++ q) = (v.follow p).bind fun u => u.follow q := by
  induction p with
  | nil => intro v; rw [List.nil_append, T.follow]; rfl
  | cons i p ih =>
    intro v
    rw [List.cons_append, T.follow, T.follow]
    split
    · split
      · exact ih _
      · rfl
    · rfl

/-- The place to which a path leads from a place on. -/
inductive Place (w : World) : Nat → Nat → T → List Int → Nat → Nat → T → Prop
  | here (b o : Nat) (v : T) : Place w b o v [] b o v
  | step (b o b1 off cap : Nat) (v u x : T) (i : Nat) (p : List Int) (b2 o2 : Nat) (hc : w.cell? ⟨b, o + 1, none⟩ = some (.slice (some ⟨b1, off, none⟩) v.l.length cap)) (hu : v.l[i]? = some u) (h : Place w b1 (off + i * 2) u p b2 o2 x) : Place w b o v ((i : Int) :: p) b2 o2 x
theorem Place.follow {w : World} {b o b2 o2 : Nat} {v x : T} {p : List Int} (h : Place w b o v p b2 o2 x) : v.follow p = some x := by
  induction h with
  | here b o v => rw [T.follow]
  | step b o b1 off cap v u x i p b2 o2 hc hu h ih => rw [T.follow, if_pos (by omega)]; simp only [Int.toNat_natCast, hu]; exact ih
theorem Place.snoc {w : World} {b o b1 o1 b2 off cap : Nat} {v x u : T} {p : List Int} {i : Nat} (h : Place w b o v p b1 o1 x) (hc : w.cell? ⟨b1, o1 + 1, none⟩ = some (.slice (some ⟨b2, off, none⟩) x.l.length cap)) (hu : x.l[i]? = some u) :
    Place w b o v (p ++ [(i : Int)]) b2 (off + i * 2) u := by
  induction h with
  | here b o v => exact .step b o b2 off cap v u u i [] b2 (off + i * 2) hc hu (.here _ _ _)
  | step b o b1 off' cap' v u' x i' p b2' o2 hc' hu' h ih => exact .step b o b1 off' cap' v u' u i' (p ++ [(i : Int)]) b2 (off + i * 2) hc' hu' (ih hc hu)

/-- What a store of another term at the place makes of the term. -/
theorem FN.store {w w' : World} {x : T} {slx : Value} {P' : Nat → Prop} {p : List Int} {b2 o2 : Nat} {y : T} {b o : Nat} {v : T} (hpl : Place w b o v p b2 o2 y) :
    ∀ {P : Nat → Prop}, FN w P b o v → (∀ k, P k → ¬ P' k) → ¬ P' b →
    (∀ k, k ≠ b2 → w'.heap[k]? = w.heap[k]?) → (∀ q, q ≠ o2 → q ≠ o2 + 1 → w'.cell? ⟨b2, q, none⟩ = w.cell? ⟨b2, q, none⟩) → (∀ q : Nat, w'.frozen? ⟨b2, q, none⟩ = w.frozen? ⟨b2, q, none⟩) →
    w'.cell? ⟨b2, o2, none⟩ = some (.int .i64 x.r) → w'.cell? ⟨b2, o2 + 1, none⟩ = some slx → FR w' P' slx x.l →
    FN w' (fun k => P k ∨ P' k) b o (x.repl v p) ∧ (b2 = b ∨ P b2) ∧ (p = [] → b2 = b ∧ o2 = o) ∧ (p ≠ [] → P b2) := by
  induction hpl with
  | here b o v =>
    intro P hn hd hb h1 h2 h3 h4 h5 h6
    obtain ⟨sl, c0, c1, hF, hnb⟩ := hn
    refine ⟨⟨slx, ?_, h5, h6.mono (fun k hk => .inr hk), fun h => ?_⟩, .inl rfl, fun _ => ⟨rfl, rfl⟩, fun h => absurd rfl h⟩
    · rw [T.repl]; exact h4
    · rcases h with h | h
      · exact hnb h
      · exact hb h
  | step b o b1 off cap v u y i p b2 o2 hc hu hpl ih =>
    intro P hn hd hb h1 h2 h3 h4 h5 h6
    obtain ⟨sl, c0, c1, hF, hnb⟩ := hn
    rw [hc] at c1
    cases c1
    have hi : i < v.l.length := (List.getElem?_eq_some_iff.1 hu).1
    generalize hsv : Value.slice (some ⟨b1, off, none⟩) v.l.length cap = sv at hF
    generalize hlv : v.l = lv at hF
    cases hF with
    | empty _ oa cap' => rw [hlv] at hi; simp at hi
    | arr _ b1' off' cap' l sl Q g1 g2 g3 g4 g5 g6 g7 g8 =>
      have e1 : b1 = b1' ∧ off = off' ∧ cap = cap' := by
        rw [hlv] at hsv
        simp at hsv
        exact ⟨hsv.1.1, hsv.1.2, hsv.2⟩
      obtain ⟨rfl, rfl, rfl⟩ := e1
      subst hlv
      obtain ⟨d0, d1⟩ := g4 i u hu
      have hbb : b ≠ b1 := fun e => hnb (e ▸ g1)
      obtain ⟨⟨sl2, k0, k1, kF, kn⟩, kb, ke, kne⟩ := ih (P := Q i) ⟨sl i, d0, d1, g6 i u hu, fun h => (g7 i hi b1 h).2 rfl⟩ (fun k hk => hd k (g7 i hi k hk).1) (fun h => hd b1 g1 h) h1 h2 h3 h4 h5 h6
      have hb2 : P b2 := by
        rcases kb with rfl | h
        · exact g1
        · exact (g7 i hi b2 h).1
      have hb2b : b2 ≠ b := fun e => hnb (e ▸ hb2)
      have hfb : ∀ q, q ≠ off + i * 2 → q ≠ off + i * 2 + 1 → w'.cell? ⟨b1, q, none⟩ = w.cell? ⟨b1, q, none⟩ := fun q hq hq' => by
        by_cases e : b1 = b2
        · subst e
          cases hp : p with
          | nil => obtain ⟨_, e2⟩ := ke hp; subst e2; exact h2 q hq hq'
          | cons a r => exact absurd (kne (by rw [hp]; simp)) (fun h => (g7 i hi _ h).2 rfl)
        · exact World.cell?_of_block (w := w) (h1 b1 e)
      have hfz : ∀ q : Nat, w'.frozen? ⟨b1, q, none⟩ = false := fun q => by
        by_cases e : b1 = b2
        · subst e; exact (h3 q).trans (g5 q)
        · exact (World.frozen?_of_block (w := w) (h1 b1 e)).trans (g5 q)
      refine ⟨⟨.slice (some ⟨b1, off, none⟩) v.l.length cap, ?_, ?_, ?_, ?_⟩, .inr hb2, (fun h => by cases h), fun _ => hb2⟩
      · rw [T.repl]
        simp only [Int.toNat_natCast, hu]
        exact (World.cell?_of_block (w := w) (h1 b (fun e => hb2b e.symm))).trans c0
      · exact (World.cell?_of_block (w := w) (h1 b (fun e => hb2b e.symm))).trans hc
      · rw [T.repl]
        simp only [Int.toNat_natCast, hu]
        have hlen : (v.l.set i (x.repl u p)).length = v.l.length := by simp
        show FR w' _ (.slice (some ⟨b1, off, none⟩) v.l.length cap) (v.l.set i (x.repl u p))
        rw [← hlen]
        refine .arr _ b1 off cap (v.l.set i (x.repl u p)) (fun j => if j = i then sl2 else sl j) (fun j k => if j = i then Q i k ∨ P' k else Q j k) (.inl g1) (by simpa using g2) (by simpa using g3) (fun j z hj => ?_) hfz (fun j z hj => ?_) (fun j hj k hk => ?_) (fun j j' hj hj' hne k hk => ?_)
        · by_cases e : j = i
          · subst e
            rw [List.getElem?_set_self hi] at hj
            cases hj
            simp only [if_pos]
            exact ⟨k0, k1⟩
          · rw [List.getElem?_set_ne (fun h => e h.symm)] at hj
            obtain ⟨m0, m1⟩ := g4 j z hj
            simp only [if_neg e]
            exact ⟨(hfb _ (by omega) (by omega)).trans m0, (hfb _ (by omega) (by omega)).trans m1⟩
        · by_cases e : j = i
          · subst e
            rw [List.getElem?_set_self hi] at hj
            cases hj
            simp only [if_pos]
            exact kF
          · rw [List.getElem?_set_ne (fun h => e h.symm)] at hj
            simp only [if_neg e]
            have hjl := (List.getElem?_eq_some_iff.1 hj).1
            refine (g6 j z hj).keep (fun k hk => h1 k (fun e2 => ?_))
            subst e2
            rcases kb with e3 | h
            · subst e3; exact (g7 j hjl _ hk).2 rfl
            · exact g8 j i hjl hi e _ hk h
        · have hjl : j < v.l.length := by simpa using hj
          by_cases e : j = i
          · subst e
            simp only [if_pos] at hk
            rcases hk with hk | hk
            · exact ⟨.inl (g7 _ hjl k hk).1, (g7 _ hjl k hk).2⟩
            · exact ⟨.inr hk, fun e2 => hd b1 g1 (e2 ▸ hk)⟩
          · simp only [if_neg e] at hk
            exact ⟨.inl (g7 j hjl k hk).1, (g7 j hjl k hk).2⟩
        · have hjl : j < v.l.length := by simpa using hj
          have hjl' : j' < v.l.length := by simpa using hj'
          by_cases e : j = i
          · subst e
            have e' : j' ≠ j := fun h => hne h.symm
            simp only [if_pos] at hk
            simp only [if_neg e']
            rcases hk with hk | hk
            · exact g8 _ _ hjl hjl' hne k hk
            · exact fun h => hd k (g7 _ hjl' k h).1 hk
          · simp only [if_neg e] at hk
            by_cases e' : j' = i
            · subst e'
              simp only [if_pos]
              rintro (h | h)
              · exact g8 _ _ hjl hjl' hne k hk h
              · exact hd k (g7 _ hjl k hk).1 h
            · simp only [if_neg e']
              exact g8 _ _ hjl hjl' hne k hk
      · rintro (h | h)
        · exact hnb h
        · exact hb h

end Go.Proofs.Ytbimpfciadbnjaa
