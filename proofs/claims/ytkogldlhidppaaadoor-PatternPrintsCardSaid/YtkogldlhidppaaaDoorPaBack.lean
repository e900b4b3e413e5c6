/-
  A printed tree is read again (but for the texts of classes, which are asked for here). With no program in it. Nothing is assumed.
-/
import Derived.Test.YtkogldlhidppaaaDoorPaSub
import Derived.Test.YtkogldlhidppaaaDoorPaText
namespace Go.Proofs.YtkogldlhidppaaaDoor
open Go.RowKit

theorem wrap_par (g : Bool) (x : List UInt8) : wrapQ g x = parW g x := by cases g <;> rfl
/-- A part of a concatenation is one tree. -/
theorem rep_at {L : List UInt8} {t : PT} (h : PtOk L t) (g : Bool) (h5 : t.k = 5 → g = true) (h4 : t.k = 4 → g = true) (A B : List UInt8) (d : Nat) (hB : pk B 0 ≠ 42) (hd : (parW g L).length ≤ d) :
    repL (patL (A ++ (parW g L ++ B)) d) (A ++ (parW g L ++ B)) A.length = .ok t (A.length + (parW g L).length) := by
  cases g with
  | true =>
    unfold parW at hd ⊢
    rw [if_pos rfl] at hd ⊢
    have hl : ([40] ++ L ++ [41] : List UInt8).length = L.length + 2 := by simp
    rw [hl] at hd ⊢
    unfold repL
    rw [group_at h A B d (by omega)]
    show (if pk (A ++ ([40] ++ L ++ [41] ++ B)) (A.length + (L.length + 2)) = 42 then _ else _) = _
    rw [if_neg]
    rw [pk_app, ← hl, pk_app0]
    exact hB
  | false =>
    obtain ⟨l, rfl, h2⟩ := cat_in h (fun h => by cases h5 h)
    unfold parW at hd ⊢
    rw [if_neg (by decide)] at hd ⊢
    have hS := sub_of A L B
    have hlen : L.length + A.length ≤ (A ++ (L ++ B)).length := by simp; omega
    cases h2 with
    | cons h3 h6 h7 =>
      obtain ⟨v, r, rfl⟩ := sevr_ne h7
      exact absurd (h4 rfl) (by decide)
    | @one v _ _ h3 =>
      have h8 := rep_loc hS (pat_good L L.length) (loc_of hS hlen hd) (Nat.zero_le _) (.inr (by rw [sub_end]; exact hB)) h3
      rw [Nat.zero_add, Nat.add_comm] at h8
      exact h8
/-- An alternative is one tree. -/
theorem cat_at {L : List UInt8} {t : PT} (h : PtOk L t) (g : Bool) (h5 : t.k = 5 → g = true) (A B : List UInt8) (d : Nat) (hB : pk B 0 ≠ 42) (hB2 : begA (pk B 0) = false) (hd : (parW g L).length ≤ d) :
    catL (patL (A ++ (parW g L ++ B)) d) (A ++ (parW g L ++ B)) A.length = .ok t (A.length + (parW g L).length) := by
  cases g with
  | true =>
    have h1 := rep_at h true (fun _ => rfl) (fun _ => rfl) A B d hB hd
    refine cat_of (pat_good _ d) (by simp) (.one h1) ?_
    unfold sepC
    rw [if_neg]
    rw [pk_app, pk_app0, hB2]
    decide
  | false =>
    obtain ⟨l5, rfl, h1, -⟩ := pat_to h
    cases h1 with
    | cons h2 h3 h4 =>
      obtain ⟨v, r, rfl⟩ := sevr_ne h4
      exact absurd (h5 rfl) (by decide)
    | @one v _ _ h2 =>
      unfold parW at hd ⊢
      rw [if_neg (by decide)] at hd ⊢
      have hS := sub_of A L B
      have hlen : L.length + A.length ≤ (A ++ (L ++ B)).length := by simp; omega
      have h8 := cat_loc hS (pat_good L L.length) (pat_good _ d) (loc_of hS hlen hd) hlen (Nat.zero_le _) h2 (.inr (by rw [sub_end]; exact ⟨hB, hB2⟩))
      rw [Nat.zero_add, Nat.add_comm] at h8
      exact h8
/-- What a tree's parts must be. -/
def Back (v : PT) : Prop := PtOk v.txt v
theorem cats_back : ∀ (l : List PT) (v : PT) (A L' : List UInt8), L' = A ++ (wrapQ (parQ v.k 4) v.txt ++ PT.txtr 4 l) → Back v → (∀ u, u ∈ l → Back u) → SevR (repL (patL L' L'.length) L') (sepC L') (v :: l) A.length L'.length
  | [], v, A, L', hL', hv, _ => by
    rw [PT.txtr, wrap_par] at hL'
    have h1 := rep_at hv (parQ v.k 4) (fun h => by rw [h]; rfl) (fun h => by rw [h]; rfl) A [] L'.length (by decide) (by rw [hL']; simp)
    rw [← hL'] at h1
    refine .one (h1.trans ?_)
    rw [hL']
    simp
  | u :: r, v, A, L', hL', hv, hl => by
    have hu := hl u (List.mem_cons_self ..)
    rw [PT.txtr, if_neg (by decide), List.nil_append] at hL'
    obtain ⟨B, hB⟩ : ∃ B, B = wrapQ (parQ u.k 4) u.txt ++ PT.txtr 4 r := ⟨_, rfl⟩
    have hbeg : begA (pk B 0) = true := by
      have hb := begins hu
      have hpos : 0 < u.txt.length := pk_ne _ 0 (fun h0 => by rw [h0] at hb; revert hb; decide)
      rw [hB]
      cases hq : parQ u.k 4 with
      | true => exact (by decide : begA 40 = true)
      | false =>
        show begA (pk (u.txt ++ PT.txtr 4 r) 0) = true
        unfold pk at hb ⊢
        rw [List.getElem?_append_left hpos]
        exact hb
    have hB42 : pk B 0 ≠ 42 := fun h => by rw [h] at hbeg; revert hbeg; decide
    rw [← hB, wrap_par] at hL'
    have h1 := rep_at hv (parQ v.k 4) (fun h => by rw [h]; rfl) (fun h => by rw [h]; rfl) A B L'.length hB42 (by rw [hL']; simp; omega)
    rw [← hL'] at h1
    have e2 : L' = (A ++ parW (parQ v.k 4) v.txt) ++ (wrapQ (parQ u.k 4) u.txt ++ PT.txtr 4 r) := by rw [hL', hB, List.append_assoc]
    have h2 := cats_back r u (A ++ parW (parQ v.k 4) v.txt) L' e2 hu (fun x hx => hl x (List.mem_cons_of_mem _ hx))
    rw [List.length_append] at h2
    refine .cons h1 ?_ h2
    unfold sepC
    rw [if_pos]
    rw [hL', pk_app, pk_app0]
    exact hbeg
theorem alts_back : ∀ (l : List PT) (v : PT) (A L' : List UInt8), L' = A ++ (wrapQ (parQ v.k 5) v.txt ++ PT.txtr 5 l) → Back v → (∀ u, u ∈ l → Back u) → SevR (catL (patL L' L'.length) L') (sepP L') (v :: l) A.length L'.length
  | [], v, A, L', hL', hv, _ => by
    rw [PT.txtr, wrap_par] at hL'
    have h1 := cat_at hv (parQ v.k 5) (fun h => by rw [h]; rfl) A [] L'.length (by decide) (by decide) (by rw [hL']; simp)
    rw [← hL'] at h1
    refine .one (h1.trans ?_)
    rw [hL']
    simp
  | u :: r, v, A, L', hL', hv, hl => by
    have hu := hl u (List.mem_cons_self ..)
    rw [PT.txtr, if_pos rfl] at hL'
    obtain ⟨B, hB⟩ : ∃ B, B = [124] ++ (wrapQ (parQ u.k 5) u.txt ++ PT.txtr 5 r) := ⟨_, rfl⟩
    have hb0 : pk B 0 = 124 := by rw [hB]; rfl
    rw [← hB, wrap_par] at hL'
    have h1 := cat_at hv (parQ v.k 5) (fun h => by rw [h]; rfl) A B L'.length (by rw [hb0]; decide) (by rw [hb0]; decide) (by rw [hL']; simp; omega)
    rw [← hL'] at h1
    have e2 : L' = (A ++ parW (parQ v.k 5) v.txt ++ [124]) ++ (wrapQ (parQ u.k 5) u.txt ++ PT.txtr 5 r) := by rw [hL', hB]; simp only [List.append_assoc]
    have h2 := alts_back r u (A ++ parW (parQ v.k 5) v.txt ++ [124]) L' e2 hu (fun x hx => hl x (List.mem_cons_of_mem _ hx))
    rw [List.length_append, List.length_append, List.length_singleton] at h2
    refine .cons h1 ?_ h2
    unfold sepP
    rw [if_pos]
    rw [hL', pk_app, pk_app0]
    exact hb0
theorem star_pt {L : List UInt8} {t : PT} (h : PtOk L t) (g : Bool) (hg : 4 ≤ t.k → g = true) : PtOk (parW g L ++ [42]) (.mk 6 .zero [t]) := by
  obtain ⟨N, hN⟩ : ∃ N, N = parW g L ++ [42] := ⟨_, rfl⟩
  rw [← hN]
  have hl : N.length = (parW g L).length + 1 := by rw [hN]; simp
  have hat : atomL (patL N N.length) N 0 = .ok t (parW g L).length := by
    cases g with
    | true =>
      have h1 := group_at h [] [42] N.length (by rw [hl]; unfold parW; rw [if_pos rfl]; simp)
      rw [hN]
      unfold parW
      rw [if_pos rfl]
      have h2 : ([40] ++ L ++ [41] : List UInt8).length = 0 + (L.length + 2) := by simp
      rw [h2]
      rw [hN] at h1
      unfold parW at h1
      rw [if_pos rfl] at h1
      exact h1
    | false =>
      have h4 : ¬ 4 ≤ t.k := fun h => by cases hg h
      obtain ⟨l, rfl, h2⟩ := cat_in h (by omega)
      cases h2 with
      | cons h3 h5 h6 =>
        obtain ⟨v, r, rfl⟩ := sevr_ne h6
        exact absurd (Int.le_refl 4) h4
      | @one v _ _ h3 =>
        unfold repL at h3
        cases hq : atomL (patL L L.length) L 0 with
        | bad q => rw [hq] at h3; cases h3
        | ok w q =>
          rw [hq] at h3
          replace h3 : (if pk L q = 42 then .ok (.mk 6 .zero [w]) (q + 1) else .ok w q : PR PT) = .ok v L.length := h3
          split at h3
          · injection h3 with h6 _
            subst h6
            exact absurd (by decide : (4 : Int) ≤ 6) h4
          · cases h3
            unfold parW at hN hl ⊢
            rw [if_neg (by decide)] at hN hl ⊢
            have S1 : Sub L N 0 := by rw [hN]; exact sub_of [] L [42]
            exact atom_loc S1 (pat_good L L.length) (loc_of S1 (by omega) (by omega : L.length ≤ N.length)) (Nat.zero_le _) hq
  have h42 : pk N (parW g L).length = 42 := by rw [hN, pk_app0]; rfl
  have h9 : SevR (repL (patL N N.length) N) (sepC N) [.mk 6 .zero [t]] 0 N.length := by
    refine .one ?_
    unfold repL
    rw [hat]
    show (if pk N (parW g L).length = 42 then _ else _) = _
    rw [if_pos h42, hl]
  exact ptok_cat h9
theorem isZ_zero {s : S4} (h : s.isZ = true) : s = S4.zero := by
  unfold S4.isZ at h
  simp only [Bool.and_eq_true, beq_iff_eq] at h
  obtain ⟨a, b, c, d⟩ := s
  obtain ⟨⟨⟨h1, h2⟩, h3⟩, h4⟩ := h
  have e1 : a = 0 := h1
  have e2 : b = 0 := h2
  have e3 : c = 0 := h3
  have e4 : d = 0 := h4
  rw [e1, e2, e3, e4]; rfl
theorem may_k {k : Int} {n : Nat} (h : mayH k n = true) : (k = 1 ∧ n = 0) ∨ (k = 2 ∧ n = 0) ∨ (k = 3 ∧ n = 0) ∨ (k = 6 ∧ n = 1) ∨ (k = 4 ∧ 2 ≤ n) ∨ (k = 5 ∧ 2 ≤ n) := by
  unfold mayH at h
  split at h
  · rename_i hk
    have : n = 0 := by simpa using h
    omega
  split at h
  · have : n = 1 := by simpa using h
    omega
  split at h
  · have : 2 ≤ n := by simpa using h
    omega
  · cases h
theorem ok_parts {v : PT} (h : v.prop = true) : (v.s.isZ = !decide (v.k = 3)) ∧ (v.s.without S4.alpha).isZ = true ∧ mayH v.k v.l.length = true ∧ ∀ u, u ∈ v.l → u.prop = true := by
  rw [PT.prop_eq, Bool.and_eq_true, PT.props_eq, List.all_eq_true] at h
  obtain ⟨h1, h2⟩ := h
  unfold PT.okH at h1
  rw [Bool.and_eq_true, Bool.and_eq_true] at h1
  obtain ⟨⟨h3, h4⟩, h5⟩ := h1
  refine ⟨?_, h4, h5, h2⟩
  revert h3
  cases v.s.isZ <;> cases decide (v.k = 3) <;> simp
/-- A proper tree's text is read as this tree, if this is so of the texts of sets. -/
theorem back_of (hcls : ∀ s : S4, s.isZ = false → (s.without S4.alpha).isZ = true → s.Ok → PtOk (classE s) (.mk 3 s [])) (v : PT) : v.prop = true → Sok v → Back v := by
  induction v using PT.ind with
  | h v ih =>
  intro hp hs
  obtain ⟨h1, h2, h3, h4⟩ := ok_parts hp
  have hsl : ∀ u, u ∈ v.l → Sok u := fun u hu => hs.mem hu
  have hso : v.s.Ok := hs.here
  obtain ⟨k, s, l⟩ := v
  replace h1 : s.isZ = !decide (k = 3) := h1
  replace h2 : (s.without S4.alpha).isZ = true := h2
  replace h3 : mayH k l.length = true := h3
  have hb : ∀ u, u ∈ l → Back u := fun u hu => ih u hu (h4 u hu) (hsl u hu)
  unfold Back
  rw [PT.txt]
  rcases may_k h3 with ⟨rfl, hn⟩ | ⟨rfl, hn⟩ | ⟨rfl, hn⟩ | ⟨rfl, hn⟩ | ⟨rfl, hn⟩ | ⟨rfl, hn⟩
  · obtain rfl := List.length_eq_zero_iff.1 hn
    obtain rfl := isZ_zero (s := s) (by rw [h1]; decide)
    rw [if_pos rfl]
    show patL [91, 93] 3 0 = .ok (.mk 1 .zero []) 2
    rfl
  · obtain rfl := List.length_eq_zero_iff.1 hn
    obtain rfl := isZ_zero (s := s) (by rw [h1]; decide)
    rw [if_neg (by decide), if_pos rfl]
    show patL [40, 41] 3 0 = .ok (.mk 2 .zero []) 2
    rfl
  · obtain rfl := List.length_eq_zero_iff.1 hn
    rw [if_neg (by decide), if_neg (by decide), if_pos rfl]
    exact hcls s (by rw [h1]; decide) h2 hso
  · obtain rfl := isZ_zero (s := s) (by rw [h1]; decide)
    rw [if_neg (by decide), if_neg (by decide), if_neg (by decide), if_pos rfl]
    match l, hn, hb, h4 with
    | [u], _, hb, h4 =>
      have hu := may_k (ok_parts (h4 u (List.mem_cons_self ..))).2.2.1
      rw [PT.txt1, wrap_par]
      refine star_pt (hb u (List.mem_cons_self ..)) _ fun h => ?_
      have : u.k = 4 ∨ u.k = 5 ∨ u.k = 6 := by omega
      rcases this with h | h | h <;> rw [h] <;> rfl
  · obtain rfl := isZ_zero (s := s) (by rw [h1]; decide)
    rw [if_neg (by decide), if_neg (by decide), if_neg (by decide), if_neg (by decide)]
    match l, hn, hb with
    | a :: b :: r, _, hb =>
      have h9 := cats_back (b :: r) a [] (PT.txts 4 (a :: b :: r)) (by rw [PT.txts]; rfl) (hb a (List.mem_cons_self ..)) (fun u hu => hb u (List.mem_cons_of_mem _ hu))
      exact ptok_cat h9
  · obtain rfl := isZ_zero (s := s) (by rw [h1]; decide)
    rw [if_neg (by decide), if_neg (by decide), if_neg (by decide), if_neg (by decide)]
    match l, hn, hb with
    | a :: b :: r, _, hb =>
      have h9 := alts_back (b :: r) a [] (PT.txts 5 (a :: b :: r)) (by rw [PT.txts]; rfl) (hb a (List.mem_cons_self ..)) (fun u hu => hb u (List.mem_cons_of_mem _ hu))
      have e3 : sepP (PT.txts 5 (a :: b :: r)) (PT.txts 5 (a :: b :: r)).length = none := by
        unfold sepP
        rw [pk_out _ _ (Nat.le_refl _)]; rfl
      exact pat_of (Nat.zero_le _) h9 e3
end Go.Proofs.YtkogldlhidppaaaDoor
