/-
  A pattern within a greater pattern is read as it is read alone; trees of concatenations, alternatives and repetitions (the pure part of the text of PatternWays, for the other rows of the layer; printed by gen/pq.py). With no program in it. Nothing is assumed.
-/
import Derived.Test.YtkogldlhidppaaaDoorGlC
namespace Go.Proofs.YtkogldlhidppaaaDoor
open Go.RowKit

theorem pk_app (P M : List UInt8) (j : Nat) : pk (P ++ M) (P.length + j) = pk M j := by
  unfold pk
  rw [List.getElem?_append_right (Nat.le_add_right _ _), Nat.add_sub_cancel_left]
theorem pk_app0 (P M : List UInt8) : pk (P ++ M) P.length = pk M 0 := pk_app P M 0
theorem isPl_ne {c : Nat} (h : isSp c = false) : c ≠ 40 ∧ c ≠ 91 ∧ c ≠ 46 ∧ c ≠ 92 ∧ c ≠ 42 ∧ c ≠ 124 := by
  refine ⟨?_, ?_, ?_, ?_, ?_, ?_⟩ <;> (rintro rfl; revert h; decide)
/-- A text that lies in another one, from a on. -/
structure Sub (L L' : List UInt8) (a : Nat) : Prop where
  at_ : ∀ j, j < L.length → pk L' (j + a) = pk L j
  len : L.length ≤ L'.length
theorem mem_loc {L L' : List UInt8} {a : Nat} (S : Sub L L' a) {least i c m : Nat} (h : memL L least i = .ok c m) (hm : m ≤ L.length) : memL L' least (i + a) = .ok c (m + a) := by
  unfold memL at h
  by_cases h92 : pk L i = 92
  · rw [if_pos h92] at h
    split at h
    · cases h
    rename_i c1
    split at h
    · cases h
    rename_i c2
    split at h
    · cases h
    rename_i c3
    cases h
    have e0 := S.at_ i (by omega)
    have e1 := S.at_ (i + 1) (by omega)
    unfold memL
    rw [show i + a + 1 = i + 1 + a by omega, e0, e1, if_pos h92, if_neg c1, if_neg c2, if_neg c3]
    rw [show i + a + 2 = i + 2 + a by omega]
  · rw [if_neg h92] at h
    split at h
    · cases h
    rename_i c1
    split at h
    · cases h
    rename_i c2
    cases h
    have e0 := S.at_ i (by omega)
    unfold memL
    rw [e0, if_neg h92, if_neg c1, if_neg c2]
    rw [show i + a + 1 = i + 1 + a by omega]
theorem item_loc {L L' : List UInt8} {a : Nat} (S : Sub L L' a) {s s' : S4} {i m : Nat} (hi : i ≤ L.length) (h : itemL L s i = .ok s' m) (hm : m < L.length) : itemL L' s (i + a) = .ok s' (m + a) := by
  unfold itemL at h
  have f1 := (memL_fwd L 32 i hi).1
  cases hq : memL L 32 i with
  | bad q => rw [hq] at h; cases h
  | ok f q =>
    rw [hq] at h f1
    replace h : (if pk L q = 45 then (memL L f (q + 1)).bind fun l r => .ok (addsL (l + 1 - f) s f) r else .ok (addsL 1 s f) q : PR S4) = .ok s' m := h
    have f2 : i < q ∧ q ≤ L.length := f1
    unfold itemL
    by_cases h45 : pk L q = 45
    · rw [if_pos h45] at h
      have hql := pk_is h45 (by decide)
      have f3 := (memL_fwd L f (q + 1) (by omega)).1
      cases hl : memL L f (q + 1) with
      | bad r => rw [hl] at h; cases h
      | ok l r =>
        rw [hl] at h f3
        cases h
        have f4 : q + 1 < m ∧ m ≤ L.length := f3
        rw [mem_loc S hq (by omega)]
        show (if pk L' (q + a) = 45 then (memL L' f (q + a + 1)).bind fun l r => .ok (addsL (l + 1 - f) s f) r else .ok (addsL 1 s f) (q + a) : PR S4) = _
        rw [S.at_ q (by omega), if_pos h45, show q + a + 1 = q + 1 + a by omega, mem_loc S hl (by omega)]
        rfl
    · rw [if_neg h45] at h
      cases h
      rw [mem_loc S hq (by omega)]
      show (if pk L' (m + a) = 45 then (memL L' f (m + a + 1)).bind fun l r => .ok (addsL (l + 1 - f) s f) r else .ok (addsL 1 s f) (m + a) : PR S4) = _
      rw [S.at_ m (by omega), if_neg h45]
theorem set_loc {L L' : List UInt8} {a : Nat} (S : Sub L L' a) : ∀ (g : Nat) (s : S4) (i : Nat), i ≤ L.length → ∀ s' m, setL L g s i = .ok s' m → ∀ g', g ≤ g' → setL L' g' s (i + a) = .ok s' (m + a)
  | 0, _, _, _, _, _, h => by cases h
  | g + 1, s, i, hi, s', m, h => by
    intro g' hg
    obtain ⟨g', rfl⟩ : ∃ k, g' = k + 1 := ⟨g' - 1, by omega⟩
    rw [setL] at h ⊢
    by_cases hc : s.isZ = false ∧ pk L i = 93
    · rw [if_pos hc] at h
      have hil := pk_is hc.2 (by decide)
      cases h
      rw [S.at_ i hil, if_pos hc, show i + a + 1 = i + 1 + a by omega]
    · rw [if_neg hc] at h
      have f1 := itemL_fwd L s i hi
      cases hq : itemL L s i with
      | bad q => rw [hq] at h; cases h
      | ok s2 q =>
        rw [hq] at h f1
        replace h : setL L g s2 q = .ok s' m := h
        have f2 : i < q ∧ q ≤ L.length := f1
        have f3 := setL_fwd L g s2 q f2.2
        rw [h] at f3
        have f4 : q < m ∧ m ≤ L.length := f3
        rw [S.at_ i (by omega), if_neg hc, item_loc S hi hq (by omega)]
        exact set_loc S g s2 q f2.2 s' m h g' (by omega)
theorem brack_loc {L L' : List UInt8} {a : Nat} (S : Sub L L' a) {i m : Nat} {t : PT} (hi : i < L.length) (h : brackL L i = .ok t m) : brackL L' (i + a) = .ok t (m + a) := by
  unfold brackL at h
  unfold brackL
  by_cases h93 : pk L (i + 1) = 93
  · have hl := pk_is h93 (by decide)
    rw [if_pos h93] at h
    cases h
    rw [show i + a + 1 = i + 1 + a by omega, S.at_ _ hl, if_pos h93, show i + a + 2 = i + 2 + a by omega]
  · rw [if_neg h93] at h
    have hn : negL L (i + 1) ≤ L.length ∧ i + 1 ≤ negL L (i + 1) := by
      unfold negL
      split
      · rename_i h94
        have := pk_is h94 (by decide)
        omega
      · omega
    have f1 := setL_fwd L (L.length + 1) .zero _ hn.1
    cases hq : setL L (L.length + 1) .zero (negL L (i + 1)) with
    | bad q => rw [hq] at h; cases h
    | ok s q =>
      rw [hq] at h f1
      cases h
      have f2 : negL L (i + 1) < m ∧ m ≤ L.length := f1
      have e1 := S.at_ (i + 1) (by omega)
      have en : negL L' (i + 1 + a) = negL L (i + 1) + a := by
        unfold negL
        rw [e1]
        split <;> omega
      have := set_loc S _ _ _ hn.1 s m hq (L'.length + 1) (by have := S.len; omega)
      rw [show i + a + 1 = i + 1 + a by omega, e1, if_neg h93, en, this]
      rfl
/-- The reading in the greater text. -/
def Loc (L : List UInt8) (a : Nat) (f f' : Nat → PR PT) : Prop := ∀ i t m, i ≤ L.length → f i = .ok t m → m < L.length → f' (i + a) = .ok t (m + a)
theorem atom_loc {L L' : List UInt8} {a : Nat} (S : Sub L L' a) {pat pat' : Nat → PR PT} (hg : Good L pat) (hp : Loc L a pat pat') {i m : Nat} {t : PT} (hi : i ≤ L.length) (h : atomL pat L i = .ok t m) : atomL pat' L' (i + a) = .ok t (m + a) := by
  have f1 := (atom_good hg i hi).1
  rw [h] at f1
  have f2 : i < m ∧ m ≤ L.length := f1
  have e0 := S.at_ i (by omega)
  unfold atomL at h
  unfold atomL
  rw [e0]
  split at h
  · rename_i h40
    rw [if_pos h40]
    unfold groupL at h
    unfold groupL
    split at h
    · rename_i h41
      have hl := pk_is h41 (by decide)
      cases h
      rw [show i + a + 1 = i + 1 + a by omega, S.at_ _ hl, if_pos h41, show i + a + 2 = i + 2 + a by omega]
    · rename_i h41
      cases hq : pat (i + 1) with
      | bad q => rw [hq] at h; cases h
      | ok t' q =>
        rw [hq] at h
        replace h : (if pk L q = 41 then .ok t' (q + 1) else .bad q : PR PT) = .ok t m := h
        split at h
        · rename_i hc
          cases h
          have hql := pk_is hc (by decide)
          have f3 := (hg (i + 1) (by omega)).1
          rw [hq] at f3
          have f4 : i + 1 < q ∧ q ≤ L.length := f3
          rw [show i + a + 1 = i + 1 + a by omega, S.at_ (i + 1) (by omega), if_neg h41, hp (i + 1) _ _ (by omega) hq hql]
          show (if pk L' (q + a) = 41 then .ok t (q + a + 1) else .bad (q + a) : PR PT) = _
          rw [S.at_ q hql, if_pos hc, show q + a + 1 = q + 1 + a by omega]
        · cases h
  rename_i h40
  rw [if_neg h40]
  split at h
  · rename_i h91
    rw [if_pos h91]
    exact brack_loc S (by omega) h
  rename_i h91
  rw [if_neg h91]
  split at h
  · rename_i h46
    cases h
    rw [if_pos h46, show i + a + 1 = i + 1 + a by omega]
  rename_i h46
  rw [if_neg h46]
  split at h
  · rename_i h92
    rw [if_pos h92]
    split at h
    · rename_i hsp
      cases h
      have e1 := S.at_ (i + 1) (by omega)
      rw [show i + a + 1 = i + 1 + a by omega, e1, if_pos hsp, show i + a + 2 = i + 2 + a by omega]
    · cases h
  rename_i h92
  rw [if_neg h92]
  split at h
  · rename_i hpl
    cases h
    rw [if_pos hpl, show i + a + 1 = i + 1 + a by omega]
  · cases h
theorem rep_loc {L L' : List UInt8} {a : Nat} (S : Sub L L' a) {pat pat' : Nat → PR PT} (hg : Good L pat) (hp : Loc L a pat pat') {i m : Nat} {t : PT} (hi : i ≤ L.length) (hb : m < L.length ∨ pk L' (L.length + a) ≠ 42) (h : repL pat L i = .ok t m) : repL pat' L' (i + a) = .ok t (m + a) := by
  unfold repL at h
  unfold repL
  have f1 := (atom_good hg i hi).1
  cases hq : atomL pat L i with
  | bad q => rw [hq] at h; cases h
  | ok t' q =>
    rw [hq] at h f1
    have f2 : i < q ∧ q ≤ L.length := f1
    replace h : (if pk L q = 42 then .ok (.mk 6 .zero [t']) (q + 1) else .ok t' q : PR PT) = .ok t m := h
    rw [atom_loc S hg hp hi hq]
    show (if pk L' (q + a) = 42 then .ok (.mk 6 .zero [t']) (q + a + 1) else .ok t' (q + a) : PR PT) = _
    by_cases h42 : pk L q = 42
    · rw [if_pos h42] at h
      have hql := pk_is h42 (by decide)
      cases h
      rw [S.at_ q hql, if_pos h42, show q + a + 1 = q + 1 + a by omega]
    · rw [if_neg h42] at h
      cases h
      rw [if_neg]
      rcases Nat.lt_or_ge m L.length with hl | hl
      · rw [S.at_ m hl]; exact h42
      · obtain rfl : m = L.length := by omega
        exact hb.resolve_left (Nat.lt_irrefl _)
/-- Several trees, one behind the other. -/
inductive SevR (one : Nat → PR PT) (sep : Nat → Option Nat) : List PT → Nat → Nat → Prop
  | one {t : PT} {i m : Nat} : one i = .ok t m → SevR one sep [t] i m
  | cons {t : PT} {l : List PT} {i j k m : Nat} : one i = .ok t j → sep j = some k → SevR one sep l k m → SevR one sep (t :: l) i m
theorem SevR.app {one : Nat → PR PT} {sep : Nat → Option Nat} {l l' : List PT} {i j k m : Nat} (h : SevR one sep l i j) (hs : sep j = some k) (h' : SevR one sep l' k m) : SevR one sep (l ++ l') i m := by
  induction h with
  | one h1 => exact .cons h1 hs h'
  | cons h1 h2 _ ih => exact .cons h1 h2 (ih hs)
theorem sev_to {one : Nat → PR PT} {sep : Nat → Option Nat} : ∀ (g : Nat) (acc : List PT) (i : Nat) (l : List PT) (m : Nat), sevL one sep g acc i = .ok l m →
    sep m = none ∧ ((acc.length = 0 ∧ ∃ l0, l = acc ++ l0 ∧ SevR one sep l0 i m) ∨ (acc.length ≠ 0 ∧ ((l = acc ∧ m = i) ∨ ∃ k l0, sep i = some k ∧ l = acc ++ l0 ∧ SevR one sep l0 k m)))
  | 0, _, _, _, _, h => by cases h
  | g + 1, acc, i, l, m, h => by
    have step : ∀ j, ((one j).bind fun t m => sevL one sep g (acc ++ [t]) m) = .ok l m → sep m = none ∧ ∃ l0, l = acc ++ l0 ∧ SevR one sep l0 j m := fun j hh => by
      cases hq : one j with
      | bad q => rw [hq] at hh; cases hh
      | ok t q =>
        rw [hq] at hh
        replace hh : sevL one sep g (acc ++ [t]) q = .ok l m := hh
        obtain ⟨h1, h2 | ⟨-, h2⟩⟩ := sev_to g (acc ++ [t]) q l m hh
        · exact absurd h2.1 (by simp)
        · refine ⟨h1, ?_⟩
          rcases h2 with ⟨rfl, rfl⟩ | ⟨k, l0, h3, rfl, h4⟩
          · exact ⟨[t], rfl, .one hq⟩
          · exact ⟨t :: l0, by simp, .cons hq h3 h4⟩
    rw [sevL] at h
    split at h
    · rename_i h0
      obtain ⟨h1, h2⟩ := step i h
      exact ⟨h1, .inl ⟨h0, h2⟩⟩
    · rename_i h0
      cases hs : sep i with
      | none => rw [hs] at h; cases h; exact ⟨hs, .inr ⟨h0, .inl ⟨rfl, rfl⟩⟩⟩
      | some j =>
        rw [hs] at h
        obtain ⟨h1, l0, h2, h3⟩ := step j h
        exact ⟨h1, .inr ⟨h0, .inr ⟨j, l0, rfl, h2, h3⟩⟩⟩
theorem sev_of {one : Nat → PR PT} {sep : Nat → Option Nat} {l : List PT} {i m : Nat} (h : SevR one sep l i m) (hs : sep m = none) : ∀ (g : Nat) (acc : List PT) (i' : Nat), l.length < g → (acc.length = 0 ∧ i' = i ∨ acc.length ≠ 0 ∧ sep i' = some i) → sevL one sep g acc i' = .ok (acc ++ l) m := by
  induction h with
  | @one t i m h1 =>
    intro g acc i' hg ha
    obtain ⟨g, rfl⟩ : ∃ k, g = k + 1 := ⟨g - 1, by simp at hg; omega⟩
    obtain ⟨g, rfl⟩ : ∃ k, g = k + 1 := ⟨g - 1, by simp at hg; omega⟩
    have hend : sevL one sep (g + 1) (acc ++ [t]) m = .ok (acc ++ [t]) m := by
      rw [sevL, if_neg (by simp), hs]
    rw [sevL]
    rcases ha with ⟨h0, rfl⟩ | ⟨h0, h2⟩
    · rw [if_pos h0, h1]; exact hend
    · rw [if_neg h0, h2]
      show (one i).bind _ = _
      rw [h1]; exact hend
  | @cons t l i j k m h1 h2 _ ih =>
    intro g acc i' hg ha
    obtain ⟨g, rfl⟩ : ∃ k, g = k + 1 := ⟨g - 1, by simp at hg; omega⟩
    have hend := ih hs g (acc ++ [t]) j (by simp at hg; omega) (.inr ⟨by simp, h2⟩)
    rw [List.append_assoc] at hend
    rw [sevL]
    rcases ha with ⟨h0, rfl⟩ | ⟨h0, h3⟩
    · rw [if_pos h0, h1]; exact hend
    · rw [if_neg h0, h3]
      show (one i).bind _ = _
      rw [h1]; exact hend
theorem cat_to {L : List UInt8} {pat : Nat → PR PT} {i m : Nat} {t : PT} (h : catL pat L i = .ok t m) : ∃ l, t = joinT 4 l ∧ SevR (repL pat L) (sepC L) l i m ∧ sepC L m = none := by
  unfold catL at h
  cases hq : sevL (repL pat L) (sepC L) (L.length + 1) [] i with
  | bad q => rw [hq] at h; cases h
  | ok l q =>
    rw [hq] at h
    cases h
    obtain ⟨h1, ⟨-, l0, rfl, h2⟩ | ⟨h2, -⟩⟩ := sev_to _ _ _ _ _ hq
    · exact ⟨_, rfl, h2, h1⟩
    · exact absurd rfl h2
theorem pat_to {L : List UInt8} {d i m : Nat} {t : PT} (h : patL L (d + 1) i = .ok t m) : ∃ l, t = joinT 5 l ∧ SevR (catL (patL L d) L) (sepP L) l i m ∧ sepP L m = none := by
  rw [patL] at h
  cases hq : sevL (catL (patL L d) L) (sepP L) (L.length + 1) [] i with
  | bad q => rw [hq] at h; cases h
  | ok l q =>
    rw [hq] at h
    cases h
    obtain ⟨h1, ⟨-, l0, rfl, h2⟩ | ⟨h2, -⟩⟩ := sev_to _ _ _ _ _ hq
    · exact ⟨_, rfl, h2, h1⟩
    · exact absurd rfl h2
theorem SevR.len {L : List UInt8} {one : Nat → PR PT} {sep : Nat → Option Nat} (ho : Good L one) (hs : SepOk L sep) {l : List PT} {i m : Nat} (h : SevR one sep l i m) : i ≤ L.length → l.length + i ≤ m ∧ m ≤ L.length := by
  induction h with
  | @one t i m h1 =>
    intro hi
    have f1 := (ho i hi).1
    rw [h1] at f1
    have f2 : i < m ∧ m ≤ L.length := f1
    exact ⟨by simp; omega, f2.2⟩
  | @cons t l i j k m h1 h2 _ ih =>
    intro hi
    have f1 := (ho i hi).1
    rw [h1] at f1
    have f2 : i < j ∧ j ≤ L.length := f1
    obtain ⟨h3, h4⟩ := hs j k h2 f2.2
    have := ih h4
    exact ⟨by simp; omega, this.2⟩
theorem cat_of {L : List UInt8} {pat : Nat → PR PT} (hg : Good L pat) {l : List PT} {i m : Nat} (hi : i ≤ L.length) (h : SevR (repL pat L) (sepC L) l i m) (hs : sepC L m = none) : catL pat L i = .ok (joinT 4 l) m := by
  have := h.len (rep_good hg) (sepC_ok L) hi
  unfold catL
  rw [sev_of h hs (L.length + 1) [] i (by omega) (.inl ⟨rfl, rfl⟩)]
  rfl
theorem pat_of {L : List UInt8} {d : Nat} {l : List PT} {i m : Nat} (hi : i ≤ L.length) (h : SevR (catL (patL L d) L) (sepP L) l i m) (hs : sepP L m = none) : patL L (d + 1) i = .ok (joinT 5 l) m := by
  have := h.len (cat_good (pat_good L d)) (sepP_ok L) hi
  rw [patL, sev_of h hs (L.length + 1) [] i (by omega) (.inl ⟨rfl, rfl⟩)]
  rfl
theorem sepC_fact {L : List UInt8} {j k : Nat} (h : sepC L j = some k) : k = j ∧ j < L.length ∧ begA (pk L j) = true := by
  unfold sepC at h
  split at h
  · rename_i hb
    cases h
    exact ⟨rfl, pk_ne L j (fun h0 => by rw [h0] at hb; revert hb; decide), hb⟩
  · cases h
theorem sepP_fact {L : List UInt8} {j k : Nat} (h : sepP L j = some k) : k = j + 1 ∧ j < L.length ∧ pk L j = 124 := by
  unfold sepP at h
  split at h
  · rename_i hb
    cases h
    exact ⟨rfl, pk_is hb (by decide), hb⟩
  · cases h
/-- A list of repetitions in the greater text. -/
theorem reps_loc {L L' : List UInt8} {a : Nat} (S : Sub L L' a) {pat pat' : Nat → PR PT} (hg : Good L pat) (hp : Loc L a pat pat') {l : List PT} {i m : Nat} (h : SevR (repL pat L) (sepC L) l i m) : i ≤ L.length → (m < L.length ∨ pk L' (L.length + a) ≠ 42) → SevR (repL pat' L') (sepC L') l (i + a) (m + a) := by
  induction h with
  | one h1 => exact fun hi hb => .one (rep_loc S hg hp hi hb h1)
  | @cons t l i j k m h1 h2 _ ih =>
    intro hi hb
    obtain ⟨rfl, hj, hbg⟩ := sepC_fact h2
    refine .cons (rep_loc S hg hp hi (.inl hj) h1) ?_ (ih (Nat.le_of_lt hj) hb)
    unfold sepC
    rw [S.at_ _ hj, if_pos hbg]
theorem cat_loc {L L' : List UInt8} {a : Nat} (S : Sub L L' a) {pat pat' : Nat → PR PT} (hg : Good L pat) (hg' : Good L' pat') (hp : Loc L a pat pat') (ha : L.length + a ≤ L'.length) {i m : Nat} {t : PT} (hi : i ≤ L.length) (h : catL pat L i = .ok t m) (hb : m < L.length ∨ (pk L' (L.length + a) ≠ 42 ∧ begA (pk L' (L.length + a)) = false)) : catL pat' L' (i + a) = .ok t (m + a) := by
  obtain ⟨l, rfl, h1, h2⟩ := cat_to h
  have h3 := h1.len (rep_good hg) (sepC_ok L) hi
  refine cat_of hg' (by omega) (reps_loc S hg hp h1 hi (hb.imp id And.left)) ?_
  unfold sepC
  rw [if_neg]
  rcases Nat.lt_or_ge m L.length with hl | hl
  · rw [S.at_ m hl]
    intro hq
    unfold sepC at h2
    rw [if_pos hq] at h2
    cases h2
  · obtain rfl : m = L.length := by omega
    rw [(hb.resolve_left (Nat.lt_irrefl _)).2]; decide
theorem cats_loc {L L' : List UInt8} {a : Nat} (S : Sub L L' a) {pat pat' : Nat → PR PT} (hg : Good L pat) (hg' : Good L' pat') (hp : Loc L a pat pat') (ha : L.length + a ≤ L'.length) {l : List PT} {i m : Nat} (h : SevR (catL pat L) (sepP L) l i m) : i ≤ L.length → (m < L.length ∨ (pk L' (L.length + a) ≠ 42 ∧ begA (pk L' (L.length + a)) = false)) → SevR (catL pat' L') (sepP L') l (i + a) (m + a) := by
  induction h with
  | one h1 => exact fun hi hb => .one (cat_loc S hg hg' hp ha hi h1 hb)
  | @cons t l i j k m h1 h2 _ ih =>
    intro hi hb
    obtain ⟨rfl, hj, h124⟩ := sepP_fact h2
    have h3 := ih (by omega) hb
    rw [show j + 1 + a = j + a + 1 by omega] at h3
    refine .cons (cat_loc S hg hg' hp ha hi h1 (.inl hj)) ?_ h3
    unfold sepP
    rw [S.at_ _ hj, if_pos h124]
/-- A pattern in the greater text, if nothing follows that would belong to it. -/
theorem pat_loc {L L' : List UInt8} {a : Nat} (S : Sub L L' a) (ha : L.length + a ≤ L'.length) : ∀ (d d' : Nat), d ≤ d' → ∀ i t m, i ≤ L.length → patL L d i = .ok t m →
    (m < L.length ∨ (pk L' (L.length + a) ≠ 42 ∧ begA (pk L' (L.length + a)) = false ∧ pk L' (L.length + a) ≠ 124)) → patL L' d' (i + a) = .ok t (m + a)
  | 0, _, _, i, t, m, _, h, _ => by cases h
  | d + 1, d', hd, i, t, m, hi, h, hb => by
    obtain ⟨d', rfl⟩ : ∃ k, d' = k + 1 := ⟨d' - 1, by omega⟩
    have hp : Loc L a (patL L d) (patL L' d') := fun i t m hi h hm => pat_loc S ha d d' (by omega) i t m hi h (.inl hm)
    obtain ⟨l, rfl, h1, h2⟩ := pat_to h
    have h3 := h1.len (cat_good (pat_good L d)) (sepP_ok L) hi
    refine pat_of (by omega) (cats_loc S (pat_good L d) (pat_good L' d') hp ha h1 hi (hb.imp id fun h => ⟨h.1, h.2.1⟩)) ?_
    unfold sepP
    rw [if_neg]
    rcases Nat.lt_or_ge m L.length with hl | hl
    · rw [S.at_ m hl]
      intro hq
      unfold sepP at h2
      rw [if_pos hq] at h2
      cases h2
    · obtain rfl : m = L.length := by omega
      exact (hb.resolve_left (Nat.lt_irrefl _)).2.2
theorem loc_of {L L' : List UInt8} {a : Nat} (S : Sub L L' a) (ha : L.length + a ≤ L'.length) {d d' : Nat} (hd : d ≤ d') : Loc L a (patL L d) (patL L' d') := fun i t m hi h hm => pat_loc S ha d d' hd i t m hi h (.inl hm)
theorem sub_of (A L B : List UInt8) : Sub L (A ++ (L ++ B)) A.length := ⟨fun j hj => by
  rw [show j + A.length = A.length + j by omega, pk_app]
  unfold pk
  rw [List.getElem?_append_left hj], by simp; omega⟩
theorem sub_end (A L B : List UInt8) : pk (A ++ (L ++ B)) (L.length + A.length) = pk B 0 := by
  rw [show L.length + A.length = A.length + L.length by omega, pk_app, pk_app0]
/-- A text that is read as a tree. -/
def PtOk (L : List UInt8) (t : PT) : Prop := patL L (L.length + 1) 0 = .ok t L.length
theorem ptok_parse {L : List UInt8} {t : PT} (h : PtOk L t) : parseT L = .ok t L.length := by
  unfold parseT
  rw [h]
  show (if L.length = L.length then _ else _) = _
  rw [if_pos rfl]
theorem parse_ptok {L : List UInt8} {t : PT} {m : Nat} (h : parseT L = .ok t m) : PtOk L t := by
  unfold parseT at h
  unfold PtOk
  cases hq : patL L (L.length + 1) 0 with
  | bad q => rw [hq] at h; cases h
  | ok t' q =>
    rw [hq] at h
    replace h : (if q = L.length then PR.ok t' q else .bad q) = .ok t m := h
    split at h
    · rename_i he
      cases h
      rw [he]
    · cases h
/-- It begins with the first byte of an atom. -/
theorem begins {L : List UInt8} {t : PT} (h : PtOk L t) : begA (pk L 0) = true := by
  obtain ⟨l, -, h1, -⟩ := pat_to h
  have hc : ∃ t m, catL (patL L L.length) L 0 = .ok t m := by cases h1 with
    | one h => exact ⟨_, _, h⟩
    | cons h _ _ => exact ⟨_, _, h⟩
  obtain ⟨t2, m2, h2⟩ := hc
  obtain ⟨l2, -, h3, -⟩ := cat_to h2
  have hr : ∃ t m, repL (patL L L.length) L 0 = .ok t m := by cases h3 with
    | one h => exact ⟨_, _, h⟩
    | cons h _ _ => exact ⟨_, _, h⟩
  obtain ⟨t3, m3, h4⟩ := hr
  unfold repL at h4
  cases hq : atomL (patL L L.length) L 0 with
  | bad q => rw [hq] at h4; cases h4
  | ok t4 q =>
    unfold atomL at hq
    unfold begA
    by_cases c1 : pk L 0 = 40
    · rw [c1]; decide
    by_cases c2 : pk L 0 = 91
    · rw [c2]; decide
    by_cases c3 : pk L 0 = 46
    · rw [c3]; decide
    by_cases c4 : pk L 0 = 92
    · rw [c4]; decide
    rw [if_neg c1, if_neg c2, if_neg c3, if_neg c4] at hq
    split at hq
    · rename_i hp
      rw [hp]; rfl
    · cases hq
/-- A pattern in parentheses. -/
theorem group_at {L : List UInt8} {t : PT} (h : PtOk L t) (A B : List UInt8) (d : Nat) (hd : L.length + 1 ≤ d) : atomL (patL (A ++ ([40] ++ L ++ [41] ++ B)) d) (A ++ ([40] ++ L ++ [41] ++ B)) A.length = .ok t (A.length + (L.length + 2)) := by
  obtain ⟨L', hL'⟩ : ∃ L', L' = A ++ ([40] ++ L ++ [41] ++ B) := ⟨_, rfl⟩
  rw [← hL']
  have e1 : L' = (A ++ [40]) ++ (L ++ (41 :: B)) := by rw [hL']; simp
  have hS : Sub L L' (A ++ [40]).length := by rw [e1]; exact sub_of _ _ _
  have hE : pk L' (L.length + (A ++ [40]).length) = 41 := by rw [e1, sub_end]; rfl
  have hlen : L.length + (A ++ [40]).length ≤ L'.length := by rw [e1]; simp; omega
  have h1 := pat_loc hS hlen (L.length + 1) d hd 0 t L.length (Nat.zero_le _) h (.inr (by rw [hE]; exact ⟨by decide, by decide, by decide⟩))
  have p0 : pk L' A.length = 40 := by rw [hL', pk_app0]; rfl
  have p1 : pk L' (A.length + 1) ≠ 41 := by
    have hlp : 0 < L.length := pk_ne L 0 (fun h0 => by have := begins h; rw [h0] at this; revert this; decide)
    have := hS.at_ 0 hlp
    rw [Nat.zero_add, List.length_append, List.length_singleton] at this
    rw [this]
    intro h0
    have := begins h
    rw [h0] at this
    revert this; decide
  rw [Nat.zero_add, List.length_append, List.length_singleton] at h1
  rw [List.length_append, List.length_singleton] at hE
  unfold atomL
  rw [if_pos p0]
  unfold groupL
  rw [if_neg p1, h1]
  show (if pk L' (L.length + (A.length + 1)) = 41 then _ else _) = _
  rw [if_pos hE]
  rw [show L.length + (A.length + 1) + 1 = A.length + (L.length + 2) by omega]
theorem sevr_ne {one : Nat → PR PT} {sep : Nat → Option Nat} {l : List PT} {i m : Nat} (h : SevR one sep l i m) : ∃ t r, l = t :: r := by
  cases h with
  | one _ => exact ⟨_, _, rfl⟩
  | cons _ _ _ => exact ⟨_, _, rfl⟩
/-- A pattern whose tree is no union is one list of repetitions. -/
theorem cat_in {L : List UInt8} {t : PT} (h : PtOk L t) (h5 : t.k ≠ 5) : ∃ l, t = joinT 4 l ∧ SevR (repL (patL L L.length) L) (sepC L) l 0 L.length := by
  obtain ⟨l5, rfl, h1, -⟩ := pat_to h
  cases h1 with
  | one h2 =>
    obtain ⟨l, h3, h4, -⟩ := cat_to h2
    exact ⟨l, h3, h4⟩
  | cons h2 h3 h4 =>
    obtain ⟨v, r, rfl⟩ := sevr_ne h4
    exact absurd rfl h5
def parW (g : Bool) (L : List UInt8) : List UInt8 := if g = true then [40] ++ L ++ [41] else L
theorem ptok_cat {L : List UInt8} {l : List PT} (h : SevR (repL (patL L L.length) L) (sepC L) l 0 L.length) : PtOk L (joinT 4 l) := by
  have e1 : sepC L L.length = none := by
    unfold sepC
    rw [pk_out L _ (Nat.le_refl _)]; rfl
  have e2 : sepP L L.length = none := by
    unfold sepP
    rw [pk_out L _ (Nat.le_refl _)]; rfl
  exact pat_of (Nat.zero_le _) (.one (cat_of (pat_good L L.length) (Nat.zero_le _) h e1)) e2
end Go.Proofs.YtkogldlhidppaaaDoor
