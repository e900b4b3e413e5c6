/-
  A pattern within a greater pattern is read as it is read alone; the trees of concatenations, alternatives and repetitions, and their texts; the walk of PatternWays. Nothing is assumed.
-/
import Derived.Test.YtlonddlemlkhoaaDoorPaLawL
import Derived.Test.YtlonddlemlkhoaaDoorPaComb
namespace Go.Proofs.YtlonddlemlkhoaaDoor
open Go.RowKit

/-- A text that lies in another one, from a on. -/
structure Sub (L L' : List UInt8) (a : Nat) : Prop where
  at_ : ∀ j, j < L.length → pk L' (j + a) = pk L j
  len : L.length ≤ L'.length
theorem mem_loc {L L' : List UInt8} {a : Nat} (S : Sub L L' a) {least i c m : Nat} (h : memL L least i = .ok c m) (hm : m ≤ L.length) : memL L' least (i + a) = .ok c (m + a) := by
  unfold memL at h
  by_cases h92 : pk L i = 92
  · rw [if_pos h92] at h
    split at h
    · cases h
    rename_i c1
    split at h
    · cases h
    rename_i c2
    split at h
    · cases h
    rename_i c3
    cases h
    have e0 := S.at_ i (by omega)
    have e1 := S.at_ (i + 1) (by omega)
    unfold memL
    rw [show i + a + 1 = i + 1 + a by omega, e0, e1, if_pos h92, if_neg c1, if_neg c2, if_neg c3]
    rw [show i + a + 2 = i + 2 + a by omega]
  · rw [if_neg h92] at h
    split at h
    · cases h
    rename_i c1
    split at h
    · cases h
    rename_i c2
    cases h
    have e0 := S.at_ i (by omega)
    unfold memL
    rw [e0, if_neg h92, if_neg c1, if_neg c2]
    rw [show i + a + 1 = i + 1 + a by omega]
theorem item_loc {L L' : List UInt8} {a : Nat} (S : Sub L L' a) {s s' : S4} {i m : Nat} (hi : i ≤ L.length) (h : itemL L s i = .ok s' m) (hm : m < L.length) : itemL L' s (i + a) = .ok s' (m + a) := by
  unfold itemL at h
  have f1 := (memL_fwd L 32 i hi).1
  cases hq : memL L 32 i with
  | bad q => rw [hq] at h; cases h
  | ok f q =>
    rw [hq] at h f1
    replace h : (if pk L q = 45 then (memL L f (q + 1)).bind fun l r => .ok (addsL (l + 1 - f) s f) r else .ok (addsL 1 s f) q : PR S4) = .ok s' m := h
    have f2 : i < q ∧ q ≤ L.length := f1
    unfold itemL
    by_cases h45 : pk L q = 45
    · rw [if_pos h45] at h
      have hql := pk_is h45 (by decide)
      have f3 := (memL_fwd L f (q + 1) (by omega)).1
      cases hl : memL L f (q + 1) with
      | bad r => rw [hl] at h; cases h
      | ok l r =>
        rw [hl] at h f3
        cases h
        have f4 : q + 1 < m ∧ m ≤ L.length := f3
        rw [mem_loc S hq (by omega)]
        show (if pk L' (q + a) = 45 then (memL L' f (q + a + 1)).bind fun l r => .ok (addsL (l + 1 - f) s f) r else .ok (addsL 1 s f) (q + a) : PR S4) = _
        rw [S.at_ q (by omega), if_pos h45, show q + a + 1 = q + 1 + a by omega, mem_loc S hl (by omega)]
        rfl
    · rw [if_neg h45] at h
      cases h
      rw [mem_loc S hq (by omega)]
      show (if pk L' (m + a) = 45 then (memL L' f (m + a + 1)).bind fun l r => .ok (addsL (l + 1 - f) s f) r else .ok (addsL 1 s f) (m + a) : PR S4) = _
      rw [S.at_ m (by omega), if_neg h45]
theorem set_loc {L L' : List UInt8} {a : Nat} (S : Sub L L' a) : ∀ (g : Nat) (s : S4) (i : Nat), i ≤ L.length → ∀ s' m, setL L g s i = .ok s' m → ∀ g', g ≤ g' → setL L' g' s (i + a) = .ok s' (m + a)
  | 0, _, _, _, _, _, h => by cases h
  | g + 1, s, i, hi, s', m, h => by
    intro g' hg
    obtain ⟨g', rfl⟩ : ∃ k, g' = k + 1 := ⟨g' - 1, by omega⟩
    rw [setL] at h ⊢
    by_cases hc : s.isZ = false ∧ pk L i = 93
    · rw [if_pos hc] at h
      have hil := pk_is hc.2 (by decide)
      cases h
      rw [S.at_ i hil, if_pos hc, show i + a + 1 = i + 1 + a by omega]
    · rw [if_neg hc] at h
      have f1 := itemL_fwd L s i hi
      cases hq : itemL L s i with
      | bad q => rw [hq] at h; cases h
      | ok s2 q =>
        rw [hq] at h f1
        replace h : setL L g s2 q = .ok s' m := h
        have f2 : i < q ∧ q ≤ L.length := f1
        have f3 := setL_fwd L g s2 q f2.2
        rw [h] at f3
        have f4 : q < m ∧ m ≤ L.length := f3
        rw [S.at_ i (by omega), if_neg hc, item_loc S hi hq (by omega)]
        exact set_loc S g s2 q f2.2 s' m h g' (by omega)
theorem brack_loc {L L' : List UInt8} {a : Nat} (S : Sub L L' a) {i m : Nat} {t : PT} (hi : i < L.length) (h : brackL L i = .ok t m) : brackL L' (i + a) = .ok t (m + a) := by
  unfold brackL at h
  unfold brackL
  by_cases h93 : pk L (i + 1) = 93
  · have hl := pk_is h93 (by decide)
    rw [if_pos h93] at h
    cases h
    rw [show i + a + 1 = i + 1 + a by omega, S.at_ _ hl, if_pos h93, show i + a + 2 = i + 2 + a by omega]
  · rw [if_neg h93] at h
    have hn : negL L (i + 1) ≤ L.length ∧ i + 1 ≤ negL L (i + 1) := by
      unfold negL
      split
      · rename_i h94
        have := pk_is h94 (by decide)
        omega
      · omega
    have f1 := setL_fwd L (L.length + 1) .zero _ hn.1
    cases hq : setL L (L.length + 1) .zero (negL L (i + 1)) with
    | bad q => rw [hq] at h; cases h
    | ok s q =>
      rw [hq] at h f1
      cases h
      have f2 : negL L (i + 1) < m ∧ m ≤ L.length := f1
      have e1 := S.at_ (i + 1) (by omega)
      have en : negL L' (i + 1 + a) = negL L (i + 1) + a := by
        unfold negL
        rw [e1]
        split <;> omega
      have := set_loc S _ _ _ hn.1 s m hq (L'.length + 1) (by have := S.len; omega)
      rw [show i + a + 1 = i + 1 + a by omega, e1, if_neg h93, en, this]
      rfl
/-- The reading in the greater text. -/
def Loc (L : List UInt8) (a : Nat) (f f' : Nat → PR PT) : Prop := ∀ i t m, i ≤ L.length → f i = .ok t m → m < L.length → f' (i + a) = .ok t (m + a)
theorem atom_loc {L L' : List UInt8} {a : Nat} (S : Sub L L' a) {pat pat' : Nat → PR PT} (hg : Good L pat) (hp : Loc L a pat pat') {i m : Nat} {t : PT} (hi : i ≤ L.length) (h : atomL pat L i = .ok t m) : atomL pat' L' (i + a) = .ok t (m + a) := by
  have f1 := (atom_good hg i hi).1
  rw [h] at f1
  have f2 : i < m ∧ m ≤ L.length := f1
  have e0 := S.at_ i (by omega)
  unfold atomL at h
  unfold atomL
  rw [e0]
  split at h
  · rename_i h40
    rw [if_pos h40]
    unfold groupL at h
    unfold groupL
    split at h
    · rename_i h41
      have hl := pk_is h41 (by decide)
      cases h
      rw [show i + a + 1 = i + 1 + a by omega, S.at_ _ hl, if_pos h41, show i + a + 2 = i + 2 + a by omega]
    · rename_i h41
      cases hq : pat (i + 1) with
      | bad q => rw [hq] at h; cases h
      | ok t' q =>
        rw [hq] at h
        replace h : (if pk L q = 41 then .ok t' (q + 1) else .bad q : PR PT) = .ok t m := h
        split at h
        · rename_i hc
          cases h
          have hql := pk_is hc (by decide)
          have f3 := (hg (i + 1) (by omega)).1
          rw [hq] at f3
          have f4 : i + 1 < q ∧ q ≤ L.length := f3
          rw [show i + a + 1 = i + 1 + a by omega, S.at_ (i + 1) (by omega), if_neg h41, hp (i + 1) _ _ (by omega) hq hql]
          show (if pk L' (q + a) = 41 then .ok t (q + a + 1) else .bad (q + a) : PR PT) = _
          rw [S.at_ q hql, if_pos hc, show q + a + 1 = q + 1 + a by omega]
        · cases h
  rename_i h40
  rw [if_neg h40]
  split at h
  · rename_i h91
    rw [if_pos h91]
    exact brack_loc S (by omega) h
  rename_i h91
  rw [if_neg h91]
  split at h
  · rename_i h46
    cases h
    rw [if_pos h46, show i + a + 1 = i + 1 + a by omega]
  rename_i h46
  rw [if_neg h46]
  split at h
  · rename_i h92
    rw [if_pos h92]
    split at h
    · rename_i hsp
      cases h
      have e1 := S.at_ (i + 1) (by omega)
      rw [show i + a + 1 = i + 1 + a by omega, e1, if_pos hsp, show i + a + 2 = i + 2 + a by omega]
    · cases h
  rename_i h92
  rw [if_neg h92]
  split at h
  · rename_i hpl
    cases h
    rw [if_pos hpl, show i + a + 1 = i + 1 + a by omega]
  · cases h
theorem rep_loc {L L' : List UInt8} {a : Nat} (S : Sub L L' a) {pat pat' : Nat → PR PT} (hg : Good L pat) (hp : Loc L a pat pat') {i m : Nat} {t : PT} (hi : i ≤ L.length) (hb : m < L.length ∨ pk L' (L.length + a) ≠ 42) (h : repL pat L i = .ok t m) : repL pat' L' (i + a) = .ok t (m + a) := by
  unfold repL at h
  unfold repL
  have f1 := (atom_good hg i hi).1
  cases hq : atomL pat L i with
  | bad q => rw [hq] at h; cases h
  | ok t' q =>
    rw [hq] at h f1
    have f2 : i < q ∧ q ≤ L.length := f1
    replace h : (if pk L q = 42 then .ok (.mk 6 .zero [t']) (q + 1) else .ok t' q : PR PT) = .ok t m := h
    rw [atom_loc S hg hp hi hq]
    show (if pk L' (q + a) = 42 then .ok (.mk 6 .zero [t']) (q + a + 1) else .ok t' (q + a) : PR PT) = _
    by_cases h42 : pk L q = 42
    · rw [if_pos h42] at h
      have hql := pk_is h42 (by decide)
      cases h
      rw [S.at_ q hql, if_pos h42, show q + a + 1 = q + 1 + a by omega]
    · rw [if_neg h42] at h
      cases h
      rw [if_neg]
      rcases Nat.lt_or_ge m L.length with hl | hl
      · rw [S.at_ m hl]; exact h42
      · obtain rfl : m = L.length := by omega
        exact hb.resolve_left (Nat.lt_irrefl _)

/-- Several trees, one behind the other. -/
inductive SevR (one : Nat → PR PT) (sep : Nat → Option Nat) : List PT → Nat → Nat → Prop
  | one {t : PT} {i m : Nat} : one i = .ok t m → SevR one sep [t] i m
  | cons {t : PT} {l : List PT} {i j k m : Nat} : one i = .ok t j → sep j = some k → SevR one sep l k m → SevR one sep (t :: l) i m
theorem SevR.app {one : Nat → PR PT} {sep : Nat → Option Nat} {l l' : List PT} {i j k m : Nat} (h : SevR one sep l i j) (hs : sep j = some k) (h' : SevR one sep l' k m) : SevR one sep (l ++ l') i m := by
  induction h with
  | one h1 => exact .cons h1 hs h'
  | cons h1 h2 _ ih => exact .cons h1 h2 (ih hs)
theorem sev_to {one : Nat → PR PT} {sep : Nat → Option Nat} : ∀ (g : Nat) (acc : List PT) (i : Nat) (l : List PT) (m : Nat), sevL one sep g acc i = .ok l m →
    sep m = none ∧ ((acc.length = 0 ∧ ∃ l0, l = acc ++ l0 ∧ SevR one sep l0 i m) ∨ (acc.length ≠ 0 ∧ ((l = acc ∧ m = i) ∨ ∃ k l0, sep i = some k ∧ l = acc ++ l0 ∧ SevR one sep l0 k m)))
  | 0, _, _, _, _, h => by cases h
  | g + 1, acc, i, l, m, h => by
    have step : ∀ j, ((one j).bind fun t m => sevL one sep g (acc ++ [t]) m) = .ok l m → sep m = none ∧ ∃ l0, l = acc ++ l0 ∧ SevR one sep l0 j m := fun j hh => by
      cases hq : one j with
      | bad q => rw [hq] at hh; cases hh
      | ok t q =>
        rw [hq] at hh
        replace hh : sevL one sep g (acc ++ [t]) q = .ok l m := hh
        obtain ⟨h1, h2 | ⟨-, h2⟩⟩ := sev_to g (acc ++ [t]) q l m hh
        · exact absurd h2.1 (by simp)
        · refine ⟨h1, ?_⟩
          rcases h2 with ⟨rfl, rfl⟩ | ⟨k, l0, h3, rfl, h4⟩
          · exact ⟨[t], rfl, .one hq⟩
          · exact ⟨t :: l0, by simp, .cons hq h3 h4⟩
    rw [sevL] at h
    split at h
    · rename_i h0
      obtain ⟨h1, h2⟩ := step i h
      exact ⟨h1, .inl ⟨h0, h2⟩⟩
    · rename_i h0
      cases hs : sep i with
      | none => rw [hs] at h; cases h; exact ⟨hs, .inr ⟨h0, .inl ⟨rfl, rfl⟩⟩⟩
      | some j =>
        rw [hs] at h
        obtain ⟨h1, l0, h2, h3⟩ := step j h
        exact ⟨h1, .inr ⟨h0, .inr ⟨j, l0, rfl, h2, h3⟩⟩⟩
theorem sev_of {one : Nat → PR PT} {sep : Nat → Option Nat} {l : List PT} {i m : Nat} (h : SevR one sep l i m) (hs : sep m = none) : ∀ (g : Nat) (acc : List PT) (i' : Nat), l.length < g → (acc.length = 0 ∧ i' = i ∨ acc.length ≠ 0 ∧ sep i' = some i) → sevL one sep g acc i' = .ok (acc ++ l) m := by
  induction h with
  | @one t i m h1 =>
    intro g acc i' hg ha
    obtain ⟨g, rfl⟩ : ∃ k, g = k + 1 := ⟨g - 1, by simp at hg; omega⟩
    obtain ⟨g, rfl⟩ : ∃ k, g = k + 1 := ⟨g - 1, by simp at hg; omega⟩
    have hend : sevL one sep (g + 1) (acc ++ [t]) m = .ok (acc ++ [t]) m := by
      rw [sevL, if_neg (by simp), hs]
    rw [sevL]
    rcases ha with ⟨h0, rfl⟩ | ⟨h0, h2⟩
    · rw [if_pos h0, h1]; exact hend
    · rw [if_neg h0, h2]
      show (one i).bind _ = _
      rw [h1]; exact hend
  | @cons t l i j k m h1 h2 _ ih =>
    intro g acc i' hg ha
    obtain ⟨g, rfl⟩ : ∃ k, g = k + 1 := ⟨g - 1, by simp at hg; omega⟩
    have hend := ih hs g (acc ++ [t]) j (by simp at hg; omega) (.inr ⟨by simp, h2⟩)
    rw [List.append_assoc] at hend
    rw [sevL]
    rcases ha with ⟨h0, rfl⟩ | ⟨h0, h3⟩
    · rw [if_pos h0, h1]; exact hend
    · rw [if_neg h0, h3]
      show (one i).bind _ = _
      rw [h1]; exact hend

theorem cat_to {L : List UInt8} {pat : Nat → PR PT} {i m : Nat} {t : PT} (h : catL pat L i = .ok t m) : ∃ l, t = joinT 4 l ∧ SevR (repL pat L) (sepC L) l i m ∧ sepC L m = none := by
  unfold catL at h
  cases hq : sevL (repL pat L) (sepC L) (L.length + 1) [] i with
  | bad q => rw [hq] at h; cases h
  | ok l q =>
    rw [hq] at h
    cases h
    obtain ⟨h1, ⟨-, l0, rfl, h2⟩ | ⟨h2, -⟩⟩ := sev_to _ _ _ _ _ hq
    · exact ⟨_, rfl, h2, h1⟩
    · exact absurd rfl h2
theorem pat_to {L : List UInt8} {d i m : Nat} {t : PT} (h : patL L (d + 1) i = .ok t m) : ∃ l, t = joinT 5 l ∧ SevR (catL (patL L d) L) (sepP L) l i m ∧ sepP L m = none := by
  rw [patL] at h
  cases hq : sevL (catL (patL L d) L) (sepP L) (L.length + 1) [] i with
  | bad q => rw [hq] at h; cases h
  | ok l q =>
    rw [hq] at h
    cases h
    obtain ⟨h1, ⟨-, l0, rfl, h2⟩ | ⟨h2, -⟩⟩ := sev_to _ _ _ _ _ hq
    · exact ⟨_, rfl, h2, h1⟩
    · exact absurd rfl h2
theorem SevR.len {L : List UInt8} {one : Nat → PR PT} {sep : Nat → Option Nat} (ho : Good L one) (hs : SepOk L sep) {l : List PT} {i m : Nat} (h : SevR one sep l i m) : i ≤ L.length → l.length + i ≤ m ∧ m ≤ L.length := by
  induction h with
  | @one t i m h1 =>
    intro hi
    have f1 := (ho i hi).1
    rw [h1] at f1
    have f2 : i < m ∧ m ≤ L.length := f1
    exact ⟨by simp; omega, f2.2⟩
  | @cons t l i j k m h1 h2 _ ih =>
    intro hi
    have f1 := (ho i hi).1
    rw [h1] at f1
    have f2 : i < j ∧ j ≤ L.length := f1
    obtain ⟨h3, h4⟩ := hs j k h2 f2.2
    have := ih h4
    exact ⟨by simp; omega, this.2⟩
theorem cat_of {L : List UInt8} {pat : Nat → PR PT} (hg : Good L pat) {l : List PT} {i m : Nat} (hi : i ≤ L.length) (h : SevR (repL pat L) (sepC L) l i m) (hs : sepC L m = none) : catL pat L i = .ok (joinT 4 l) m := by
  have := h.len (rep_good hg) (sepC_ok L) hi
  unfold catL
  rw [sev_of h hs (L.length + 1) [] i (by omega) (.inl ⟨rfl, rfl⟩)]
  rfl
theorem pat_of {L : List UInt8} {d : Nat} {l : List PT} {i m : Nat} (hi : i ≤ L.length) (h : SevR (catL (patL L d) L) (sepP L) l i m) (hs : sepP L m = none) : patL L (d + 1) i = .ok (joinT 5 l) m := by
  have := h.len (cat_good (pat_good L d)) (sepP_ok L) hi
  rw [patL, sev_of h hs (L.length + 1) [] i (by omega) (.inl ⟨rfl, rfl⟩)]
  rfl
theorem sepC_fact {L : List UInt8} {j k : Nat} (h : sepC L j = some k) : k = j ∧ j < L.length ∧ begA (pk L j) = true := by
  unfold sepC at h
  split at h
  · rename_i hb
    cases h
    exact ⟨rfl, pk_ne L j (fun h0 => by rw [h0] at hb; revert hb; decide), hb⟩
  · cases h
theorem sepP_fact {L : List UInt8} {j k : Nat} (h : sepP L j = some k) : k = j + 1 ∧ j < L.length ∧ pk L j = 124 := by
  unfold sepP at h
  split at h
  · rename_i hb
    cases h
    exact ⟨rfl, pk_is hb (by decide), hb⟩
  · cases h
/-- A list of repetitions in the greater text. -/
theorem reps_loc {L L' : List UInt8} {a : Nat} (S : Sub L L' a) {pat pat' : Nat → PR PT} (hg : Good L pat) (hp : Loc L a pat pat') {l : List PT} {i m : Nat} (h : SevR (repL pat L) (sepC L) l i m) : i ≤ L.length → (m < L.length ∨ pk L' (L.length + a) ≠ 42) → SevR (repL pat' L') (sepC L') l (i + a) (m + a) := by
  induction h with
  | one h1 => exact fun hi hb => .one (rep_loc S hg hp hi hb h1)
  | @cons t l i j k m h1 h2 _ ih =>
    intro hi hb
    obtain ⟨rfl, hj, hbg⟩ := sepC_fact h2
    refine .cons (rep_loc S hg hp hi (.inl hj) h1) ?_ (ih (Nat.le_of_lt hj) hb)
    unfold sepC
    rw [S.at_ _ hj, if_pos hbg]
theorem cat_loc {L L' : List UInt8} {a : Nat} (S : Sub L L' a) {pat pat' : Nat → PR PT} (hg : Good L pat) (hg' : Good L' pat') (hp : Loc L a pat pat') (ha : L.length + a ≤ L'.length) {i m : Nat} {t : PT} (hi : i ≤ L.length) (h : catL pat L i = .ok t m) (hb : m < L.length ∨ (pk L' (L.length + a) ≠ 42 ∧ begA (pk L' (L.length + a)) = false)) : catL pat' L' (i + a) = .ok t (m + a) := by
  obtain ⟨l, rfl, h1, h2⟩ := cat_to h
  have h3 := h1.len (rep_good hg) (sepC_ok L) hi
  refine cat_of hg' (by omega) (reps_loc S hg hp h1 hi (hb.imp id And.left)) ?_
  unfold sepC
  rw [if_neg]
  rcases Nat.lt_or_ge m L.length with hl | hl
  · rw [S.at_ m hl]
    intro hq
    unfold sepC at h2
    rw [if_pos hq] at h2
    cases h2
  · obtain rfl : m = L.length := by omega
    rw [(hb.resolve_left (Nat.lt_irrefl _)).2]; decide
theorem cats_loc {L L' : List UInt8} {a : Nat} (S : Sub L L' a) {pat pat' : Nat → PR PT} (hg : Good L pat) (hg' : Good L' pat') (hp : Loc L a pat pat') (ha : L.length + a ≤ L'.length) {l : List PT} {i m : Nat} (h : SevR (catL pat L) (sepP L) l i m) : i ≤ L.length → (m < L.length ∨ (pk L' (L.length + a) ≠ 42 ∧ begA (pk L' (L.length + a)) = false)) → SevR (catL pat' L') (sepP L') l (i + a) (m + a) := by
  induction h with
  | one h1 => exact fun hi hb => .one (cat_loc S hg hg' hp ha hi h1 hb)
  | @cons t l i j k m h1 h2 _ ih =>
    intro hi hb
    obtain ⟨rfl, hj, h124⟩ := sepP_fact h2
    have h3 := ih (by omega) hb
    rw [show j + 1 + a = j + a + 1 by omega] at h3
    refine .cons (cat_loc S hg hg' hp ha hi h1 (.inl hj)) ?_ h3
    unfold sepP
    rw [S.at_ _ hj, if_pos h124]
/-- A pattern in the greater text, if nothing follows that would belong to it. -/
theorem pat_loc {L L' : List UInt8} {a : Nat} (S : Sub L L' a) (ha : L.length + a ≤ L'.length) : ∀ (d d' : Nat), d ≤ d' → ∀ i t m, i ≤ L.length → patL L d i = .ok t m →
    (m < L.length ∨ (pk L' (L.length + a) ≠ 42 ∧ begA (pk L' (L.length + a)) = false ∧ pk L' (L.length + a) ≠ 124)) → patL L' d' (i + a) = .ok t (m + a)
  | 0, _, _, i, t, m, _, h, _ => by cases h
  | d + 1, d', hd, i, t, m, hi, h, hb => by
    obtain ⟨d', rfl⟩ : ∃ k, d' = k + 1 := ⟨d' - 1, by omega⟩
    have hp : Loc L a (patL L d) (patL L' d') := fun i t m hi h hm => pat_loc S ha d d' (by omega) i t m hi h (.inl hm)
    obtain ⟨l, rfl, h1, h2⟩ := pat_to h
    have h3 := h1.len (cat_good (pat_good L d)) (sepP_ok L) hi
    refine pat_of (by omega) (cats_loc S (pat_good L d) (pat_good L' d') hp ha h1 hi (hb.imp id fun h => ⟨h.1, h.2.1⟩)) ?_
    unfold sepP
    rw [if_neg]
    rcases Nat.lt_or_ge m L.length with hl | hl
    · rw [S.at_ m hl]
      intro hq
      unfold sepP at h2
      rw [if_pos hq] at h2
      cases h2
    · obtain rfl : m = L.length := by omega
      exact (hb.resolve_left (Nat.lt_irrefl _)).2.2
theorem loc_of {L L' : List UInt8} {a : Nat} (S : Sub L L' a) (ha : L.length + a ≤ L'.length) {d d' : Nat} (hd : d ≤ d') : Loc L a (patL L d) (patL L' d') := fun i t m hi h hm => pat_loc S ha d d' hd i t m hi h (.inl hm)

theorem sub_of (A L B : List UInt8) : Sub L (A ++ (L ++ B)) A.length := ⟨fun j hj => by
  rw [show j + A.length = A.length + j by omega, pk_app]
  unfold pk
  rw [List.getElem?_append_left hj], by simp; omega⟩
theorem sub_end (A L B : List UInt8) : pk (A ++ (L ++ B)) (L.length + A.length) = pk B 0 := by
  rw [show L.length + A.length = A.length + L.length by omega, pk_app, pk_app0]

/-- A text that is read as a tree. -/
def PtOk (L : List UInt8) (t : PT) : Prop := patL L (L.length + 1) 0 = .ok t L.length
theorem ptok_parse {L : List UInt8} {t : PT} (h : PtOk L t) : parseT L = .ok t L.length := by
  unfold parseT
  rw [h]
  show (if L.length = L.length then _ else _) = _
  rw [if_pos rfl]
theorem parse_ptok {L : List UInt8} {t : PT} {m : Nat} (h : parseT L = .ok t m) : PtOk L t := by
  unfold parseT at h
  unfold PtOk
  cases hq : patL L (L.length + 1) 0 with
  | bad q => rw [hq] at h; cases h
  | ok t' q =>
    rw [hq] at h
    replace h : (if q = L.length then PR.ok t' q else .bad q) = .ok t m := h
    split at h
    · rename_i he
      cases h
      rw [he]
    · cases h
/-- It begins with the first byte of an atom. -/
theorem begins {L : List UInt8} {t : PT} (h : PtOk L t) : begA (pk L 0) = true := by
  obtain ⟨l, -, h1, -⟩ := pat_to h
  have hc : ∃ t m, catL (patL L L.length) L 0 = .ok t m := by cases h1 with
    | one h => exact ⟨_, _, h⟩
    | cons h _ _ => exact ⟨_, _, h⟩
  obtain ⟨t2, m2, h2⟩ := hc
  obtain ⟨l2, -, h3, -⟩ := cat_to h2
  have hr : ∃ t m, repL (patL L L.length) L 0 = .ok t m := by cases h3 with
    | one h => exact ⟨_, _, h⟩
    | cons h _ _ => exact ⟨_, _, h⟩
  obtain ⟨t3, m3, h4⟩ := hr
  unfold repL at h4
  cases hq : atomL (patL L L.length) L 0 with
  | bad q => rw [hq] at h4; cases h4
  | ok t4 q =>
    unfold atomL at hq
    unfold begA
    by_cases c1 : pk L 0 = 40
    · rw [c1]; decide
    by_cases c2 : pk L 0 = 91
    · rw [c2]; decide
    by_cases c3 : pk L 0 = 46
    · rw [c3]; decide
    by_cases c4 : pk L 0 = 92
    · rw [c4]; decide
    rw [if_neg c1, if_neg c2, if_neg c3, if_neg c4] at hq
    split at hq
    · rename_i hp
      rw [hp]; rfl
    · cases hq
/-- A pattern in parentheses. -/
theorem group_at {L : List UInt8} {t : PT} (h : PtOk L t) (A B : List UInt8) (d : Nat) (hd : L.length + 1 ≤ d) : atomL (patL (A ++ ([40] ++ L ++ [41] ++ B)) d) (A ++ ([40] ++ L ++ [41] ++ B)) A.length = .ok t (A.length + (L.length + 2)) := by
  obtain ⟨L', hL'⟩ : ∃ L', L' = A ++ ([40] ++ L ++ [41] ++ B) := ⟨_, rfl⟩
  rw [← hL']
  have e1 : L' = (A ++ [40]) ++ (L ++ (41 :: B)) := by rw [hL']; simp
  have hS : Sub L L' (A ++ [40]).length := by rw [e1]; exact sub_of _ _ _
  have hE : pk L' (L.length + (A ++ [40]).length) = 41 := by rw [e1, sub_end]; rfl
  have hlen : L.length + (A ++ [40]).length ≤ L'.length := by rw [e1]; simp; omega
  have h1 := pat_loc hS hlen (L.length + 1) d hd 0 t L.length (Nat.zero_le _) h (.inr (by rw [hE]; exact ⟨by decide, by decide, by decide⟩))
  have p0 : pk L' A.length = 40 := by rw [hL', pk_app0]; rfl
  have p1 : pk L' (A.length + 1) ≠ 41 := by
    have hlp : 0 < L.length := pk_ne L 0 (fun h0 => by have := begins h; rw [h0] at this; revert this; decide)
    have := hS.at_ 0 hlp
    rw [Nat.zero_add, List.length_append, List.length_singleton] at this
    rw [this]
    intro h0
    have := begins h
    rw [h0] at this
    revert this; decide
  rw [Nat.zero_add, List.length_append, List.length_singleton] at h1
  rw [List.length_append, List.length_singleton] at hE
  unfold atomL
  rw [if_pos p0]
  unfold groupL
  rw [if_neg p1, h1]
  show (if pk L' (L.length + (A.length + 1)) = 41 then _ else _) = _
  rw [if_pos hE]
  rw [show L.length + (A.length + 1) + 1 = A.length + (L.length + 2) by omega]

theorem lgc_app : ∀ (l m : List PT) (u : List UInt8), LgC (l ++ m) u ↔ ∃ x y, u = x ++ y ∧ LgC l x ∧ LgC m y
  | [], m, u => by
    rw [List.nil_append, LgC]
    constructor
    · intro h; exact ⟨[], u, rfl, rfl, h⟩
    · rintro ⟨x, y, rfl, rfl, h⟩; exact h
  | t :: l, m, u => by
    rw [List.cons_append, LgC, LgC]
    constructor
    · rintro ⟨x, y, rfl, h1, h2⟩
      obtain ⟨y1, y2, rfl, h3, h4⟩ := (lgc_app l m y).1 h2
      exact ⟨x ++ y1, y2, by rw [List.append_assoc], ⟨x, y1, rfl, h1, h3⟩, h4⟩
    · rintro ⟨x, y, rfl, ⟨x1, x2, rfl, h1, h2⟩, h3⟩
      exact ⟨x1, x2 ++ y, by rw [List.append_assoc], h1, (lgc_app l m _).2 ⟨x2, y, rfl, h2, h3⟩⟩
theorem lga_app : ∀ (l m : List PT) (u : List UInt8), LgA (l ++ m) u ↔ LgA l u ∨ LgA m u
  | [], m, u => by
    rw [List.nil_append]
    constructor
    · exact .inr
    · rintro (h | h)
      · rw [LgA] at h; exact h.elim
      · exact h
  | t :: l, m, u => by
    rw [List.cons_append, LgA, LgA]
    show (Lg t u ∨ LgA (l ++ m) u) ↔ ((Lg t u ∨ LgA l u) ∨ LgA m u)
    rw [lga_app l m u, or_assoc]
theorem lgc_one (t : PT) (u : List UInt8) : LgC [t] u ↔ Lg t u := by
  rw [LgC]
  constructor
  · rintro ⟨x, y, rfl, h1, h2⟩
    rw [LgC] at h2
    rw [h2, List.append_nil]; exact h1
  · intro h
    exact ⟨u, [], by rw [List.append_nil], h, by rw [LgC]⟩
theorem lga_one (t : PT) (u : List UInt8) : LgA [t] u ↔ Lg t u := by
  rw [LgA, LgA]
  exact ⟨fun h => h.elim id False.elim, Or.inl⟩
theorem join4_lg : ∀ (l : List PT) (u : List UInt8), Lg (joinT 4 l) u ↔ LgC l u
  | [], u => by
    show Lg (.mk 4 .zero []) u ↔ _
    rw [Lg]
    exact ⟨fun h => by
      rcases h with ⟨h, -⟩ | ⟨h, -⟩ | ⟨-, h⟩ | ⟨h, -⟩ | ⟨h, -⟩ <;> first | exact h | exact absurd h (by decide), fun h => .inr (.inr (.inl ⟨rfl, h⟩))⟩
  | [t], u => (lgc_one t u).symm
  | t :: v :: l, u => by
    show Lg (.mk 4 .zero (t :: v :: l)) u ↔ _
    rw [Lg]
    exact ⟨fun h => by
      rcases h with ⟨h, -⟩ | ⟨h, -⟩ | ⟨-, h⟩ | ⟨h, -⟩ | ⟨h, -⟩ <;> first | exact h | exact absurd h (by decide), fun h => .inr (.inr (.inl ⟨rfl, h⟩))⟩
theorem join5_lg : ∀ (l : List PT) (u : List UInt8), Lg (joinT 5 l) u ↔ LgA l u
  | [], u => by
    show Lg (.mk 5 .zero []) u ↔ _
    rw [Lg]
    exact ⟨fun h => by
      rcases h with ⟨h, -⟩ | ⟨h, -⟩ | ⟨h, -⟩ | ⟨-, h⟩ | ⟨h, -⟩ <;> first | exact h | exact absurd h (by decide), fun h => .inr (.inr (.inr (.inl ⟨rfl, h⟩)))⟩
  | [t], u => (lga_one t u).symm
  | t :: v :: l, u => by
    show Lg (.mk 5 .zero (t :: v :: l)) u ↔ _
    rw [Lg]
    exact ⟨fun h => by
      rcases h with ⟨h, -⟩ | ⟨h, -⟩ | ⟨h, -⟩ | ⟨-, h⟩ | ⟨h, -⟩ <;> first | exact h | exact absurd h (by decide), fun h => .inr (.inr (.inr (.inl ⟨rfl, h⟩)))⟩
theorem rep_lg (t : PT) (u : List UInt8) : Lg (.mk 6 .zero [t]) u ↔ Star (Lg t) u := by
  rw [Lg]
  exact ⟨fun h => by
    rcases h with ⟨h, -⟩ | ⟨h, -⟩ | ⟨h, -⟩ | ⟨h, -⟩ | ⟨-, h⟩ <;> first | (rw [LgR] at h; exact h) | exact absurd h (by decide), fun h => .inr (.inr (.inr (.inr ⟨rfl, by rw [LgR]; exact h⟩)))⟩

theorem sevr_ne {one : Nat → PR PT} {sep : Nat → Option Nat} {l : List PT} {i m : Nat} (h : SevR one sep l i m) : ∃ t r, l = t :: r := by
  cases h with
  | one _ => exact ⟨_, _, rfl⟩
  | cons _ _ _ => exact ⟨_, _, rfl⟩
/-- A pattern whose tree is no union is one list of repetitions. -/
theorem cat_in {L : List UInt8} {t : PT} (h : PtOk L t) (h5 : t.k ≠ 5) : ∃ l, t = joinT 4 l ∧ SevR (repL (patL L L.length) L) (sepC L) l 0 L.length := by
  obtain ⟨l5, rfl, h1, -⟩ := pat_to h
  cases h1 with
  | one h2 =>
    obtain ⟨l, h3, h4, -⟩ := cat_to h2
    exact ⟨l, h3, h4⟩
  | cons h2 h3 h4 =>
    obtain ⟨v, r, rfl⟩ := sevr_ne h4
    exact absurd rfl h5
def parW (g : Bool) (L : List UInt8) : List UInt8 := if g = true then [40] ++ L ++ [41] else L
/-- A pattern as a part of a concatenation. -/
theorem enc_cat {L : List UInt8} {t : PT} (h : PtOk L t) (g : Bool) (hg : t.k = 5 → g = true) : ∃ l, (∀ u, LgC l u ↔ Lg t u) ∧ begA (pk (parW g L) 0) = true ∧
    ∀ A B d, pk B 0 ≠ 42 → (parW g L).length ≤ d → SevR (repL (patL (A ++ (parW g L ++ B)) d) (A ++ (parW g L ++ B))) (sepC (A ++ (parW g L ++ B))) l A.length (A.length + (parW g L).length) := by
  cases g with
  | true =>
    refine ⟨[t], lgc_one t, (by decide : begA 40 = true), fun A B d hB hd => .one ?_⟩
    unfold parW at hd ⊢
    rw [if_pos rfl] at hd ⊢
    have hl : ([40] ++ L ++ [41] : List UInt8).length = L.length + 2 := by simp
    rw [hl] at hd ⊢
    unfold repL
    rw [group_at h A B d (by omega)]
    show (if pk (A ++ ([40] ++ L ++ [41] ++ B)) (A.length + (L.length + 2)) = 42 then _ else _) = _
    rw [if_neg]
    rw [pk_app, ← hl, pk_app0]
    exact hB
  | false =>
    have h5 : t.k ≠ 5 := fun h => by cases hg h
    obtain ⟨l, rfl, h2⟩ := cat_in h h5
    refine ⟨l, fun u => (join4_lg l u).symm, begins h, fun A B d hB hd => ?_⟩
    unfold parW at hd ⊢
    rw [if_neg (by decide)] at hd ⊢
    have hS := sub_of A L B
    have hlen : L.length + A.length ≤ (A ++ (L ++ B)).length := by simp; omega
    have h3 := reps_loc hS (pat_good L L.length) (loc_of hS hlen hd) h2 (Nat.zero_le _) (.inr (by rw [sub_end]; exact hB))
    rw [Nat.zero_add, Nat.add_comm] at h3
    exact h3
theorem ptok_cat {L : List UInt8} {l : List PT} (h : SevR (repL (patL L L.length) L) (sepC L) l 0 L.length) : PtOk L (joinT 4 l) := by
  have e1 : sepC L L.length = none := by
    unfold sepC
    rw [pk_out L _ (Nat.le_refl _)]; rfl
  have e2 : sepP L L.length = none := by
    unfold sepP
    rw [pk_out L _ (Nat.le_refl _)]; rfl
  exact pat_of (Nat.zero_le _) (.one (cat_of (pat_good L L.length) (Nat.zero_le _) h e1)) e2
theorem concat_ok {L M : List UInt8} {t v : PT} (h : PtOk L t) (h' : PtOk M v) (g g' : Bool) (hg : t.k = 5 → g = true) (hg' : v.k = 5 → g' = true) :
    ∃ z, PtOk (parW g L ++ parW g' M) z ∧ ∀ u, Lg z u ↔ ∃ x y, u = x ++ y ∧ Lg t x ∧ Lg v y := by
  obtain ⟨l, h1, h2, h3⟩ := enc_cat h g hg
  obtain ⟨m, k1, k2, k3⟩ := enc_cat h' g' hg'
  obtain ⟨P, hP⟩ : ∃ P, P = parW g L := ⟨_, rfl⟩
  obtain ⟨Q, hQ⟩ : ∃ Q, Q = parW g' M := ⟨_, rfl⟩
  rw [← hP] at h2 h3 ⊢
  rw [← hQ] at k2 k3 ⊢
  refine ⟨joinT 4 (l ++ m), ?_, fun u => ?_⟩
  · have hq : pk Q 0 ≠ 42 := fun h => by rw [h] at k2; revert k2; decide
    have a1 := h3 [] Q (P ++ Q).length hq (by simp)
    have a2 := k3 P [] (P ++ Q).length (by decide) (by simp)
    rw [List.append_nil] at a2
    have a1' : SevR (repL (patL (P ++ Q) (P ++ Q).length) (P ++ Q)) (sepC (P ++ Q)) l 0 (0 + P.length) := a1
    rw [Nat.zero_add] at a1'
    rw [← List.length_append] at a2
    refine ptok_cat (a1'.app ?_ a2)
    unfold sepC
    rw [pk_app0, if_pos k2]
  · rw [join4_lg, lgc_app]
    constructor
    · rintro ⟨x, y, rfl, hx, hy⟩; exact ⟨x, y, rfl, (h1 x).1 hx, (k1 y).1 hy⟩
    · rintro ⟨x, y, rfl, hx, hy⟩; exact ⟨x, y, rfl, (h1 x).2 hx, (k1 y).2 hy⟩
theorem alt_ok {L M : List UInt8} {t v : PT} (h : PtOk L t) (h' : PtOk M v) : ∃ z, PtOk (L ++ [124] ++ M) z ∧ ∀ u, Lg z u ↔ Lg t u ∨ Lg v u := by
  obtain ⟨l, rfl, h1, -⟩ := pat_to h
  obtain ⟨m, rfl, k1, -⟩ := pat_to h'
  obtain ⟨N, hN⟩ : ∃ N, N = L ++ [124] ++ M := ⟨_, rfl⟩
  rw [← hN]
  have e1 : N = [] ++ (L ++ (124 :: M)) := by rw [hN]; simp
  have e2 : N = (L ++ [124]) ++ (M ++ []) := by rw [hN]; simp
  have hlN : N.length = L.length + 1 + M.length := by rw [hN]; simp; omega
  have S1 : Sub L N 0 := by rw [e1]; exact sub_of [] _ _
  have S2 : Sub M N (L.length + 1) := by
    have := sub_of (L ++ [124]) M []
    rw [← e2, List.length_append, List.length_singleton] at this
    exact this
  have b1 : pk N (L.length + 0) = 124 := by rw [e1]; exact (sub_end [] L (124 :: M)).trans rfl
  have b2 : pk N (M.length + (L.length + 1)) = 0 := pk_out _ _ (by omega)
  have c1 := cats_loc S1 (pat_good L L.length) (pat_good N N.length) (loc_of S1 (by omega) (by omega : L.length ≤ N.length)) (by omega) h1 (Nat.zero_le _) (.inr (by rw [b1]; exact ⟨by decide, by decide⟩))
  have c2 := cats_loc S2 (pat_good M M.length) (pat_good N N.length) (loc_of S2 (by omega) (by omega : M.length ≤ N.length)) (by omega) k1 (Nat.zero_le _) (.inr (by rw [b2]; exact ⟨by decide, by decide⟩))
  refine ⟨joinT 5 (l ++ m), ?_, fun u => by rw [join5_lg, join5_lg, join5_lg, lga_app]⟩
  have c3 : SevR (catL (patL N N.length) N) (sepP N) (l ++ m) 0 N.length := by
    have := c1.app (k := 0 + (L.length + 1)) ?_ c2
    · rw [show M.length + (L.length + 1) = N.length by omega] at this
      exact this
    · unfold sepP
      rw [b1, if_pos rfl]
      rw [Nat.zero_add, Nat.add_zero]
  have e3 : sepP N N.length = none := by
    unfold sepP
    rw [pk_out N _ (Nat.le_refl _)]; rfl
  exact pat_of (Nat.zero_le _) c3 e3
theorem star_ok {L : List UInt8} {t : PT} (h : PtOk L t) (g : Bool) (hg : 4 ≤ t.k → g = true) : ∃ z, PtOk (parW g L ++ [42]) z ∧ ∀ u, Lg z u ↔ Star (Lg t) u := by
  refine ⟨joinT 4 [.mk 6 .zero [t]], ?_, rep_lg t⟩
  obtain ⟨N, hN⟩ : ∃ N, N = parW g L ++ [42] := ⟨_, rfl⟩
  rw [← hN]
  have hl : N.length = (parW g L).length + 1 := by rw [hN]; simp
  have hat : atomL (patL N N.length) N 0 = .ok t (parW g L).length := by
    cases g with
    | true =>
      have h1 := group_at h [] [42] N.length (by rw [hl]; unfold parW; rw [if_pos rfl]; simp)
      rw [hN]
      unfold parW
      rw [if_pos rfl]
      have h2 : ([40] ++ L ++ [41] : List UInt8).length = 0 + (L.length + 2) := by simp
      rw [h2]
      rw [hN] at h1
      unfold parW at h1
      rw [if_pos rfl] at h1
      exact h1
    | false =>
      have h4 : ¬ 4 ≤ t.k := fun h => by cases hg h
      obtain ⟨l, rfl, h2⟩ := cat_in h (by omega)
      cases h2 with
      | cons h3 h5 h6 =>
        obtain ⟨v, r, rfl⟩ := sevr_ne h6
        exact absurd (Int.le_refl 4) h4
      | @one v _ _ h3 =>
        unfold repL at h3
        cases hq : atomL (patL L L.length) L 0 with
        | bad q => rw [hq] at h3; cases h3
        | ok w q =>
          rw [hq] at h3
          replace h3 : (if pk L q = 42 then .ok (.mk 6 .zero [w]) (q + 1) else .ok w q : PR PT) = .ok v L.length := h3
          split at h3
          · injection h3 with h6 _
            subst h6
            exact absurd (by decide : (4 : Int) ≤ 6) h4
          · cases h3
            unfold parW at hN hl ⊢
            rw [if_neg (by decide)] at hN hl ⊢
            have S1 : Sub L N 0 := by rw [hN]; exact sub_of [] L [42]
            exact atom_loc S1 (pat_good L L.length) (loc_of S1 (by omega) (by omega : L.length ≤ N.length)) (Nat.zero_le _) hq
  have h42 : pk N (parW g L).length = 42 := by rw [hN, pk_app0]; rfl
  refine ptok_cat (.one ?_)
  unfold repL
  rw [hat]
  show (if pk N (parW g L).length = 42 then _ else _) = _
  rw [if_pos h42, hl]

theorem acc_pt {p : ByteArray} {t : PT} (hs : p.size ≤ 40) (h : PtOk p.data.toList t) : errP p = 0 ∧ ∀ s, (accZ p s = true ↔ Lg t s.data.toList) := by
  have hlp : 0 < p.data.toList.length := pk_ne _ 0 (fun h0 => by have := begins h; rw [h0] at this; revert this; decide)
  rw [lt_len] at hlp
  have hs' : ¬ (p.size < 1 ∨ 40 < p.size) := by omega
  exact ⟨(acc_of hs' (ptok_parse h) p).1, fun s => (acc_of hs' (ptok_parse h) s).2⟩
theorem acc_tr {p : ByteArray} (h : errP p = 0) : PtOk p.data.toList (treeU p) ∧ ∀ s, (accZ p s = true ↔ Lg (treeU p) s.data.toList) := by
  obtain ⟨t, m, h1, h2⟩ := err_ok h
  have e : treeU p = t := by unfold treeU tree; rw [if_neg h2, h1]; rfl
  rw [e]
  exact ⟨parse_ptok h1, fun s => (acc_of h2 h1 s).2⟩
theorem app_list (a b : ByteArray) : (a ++ b).data.toList = a.data.toList ++ b.data.toList := by simp [ByteArray.data_append]
theorem enc_list (ks : List Int) (p : ByteArray) : (encS ks p).data.toList = parW (hasK ks (treeU p).k) p.data.toList := by
  unfold encS parW
  split
  · rw [app_list, app_list]
  · rfl
theorem has5 (k : Int) : k = 5 → hasK [5] k = true := by rintro rfl; rfl
theorem cat_acc {p q : ByteArray} (h0 : errP p = 0) (h1 : errP q = 0) (hs : (encS [5] p ++ encS [5] q).size ≤ 40) :
    errP (encS [5] p ++ encS [5] q) = 0 ∧ ∀ s, (accZ (encS [5] p ++ encS [5] q) s = true ↔ ∃ x y, s.data.toList = x ++ y ∧ Lg (treeU p) x ∧ Lg (treeU q) y) := by
  obtain ⟨z, k1, k2⟩ := concat_ok (acc_tr h0).1 (acc_tr h1).1 (hasK [5] (treeU p).k) (hasK [5] (treeU q).k) (has5 _) (has5 _)
  rw [← enc_list, ← enc_list, ← app_list] at k1
  obtain ⟨k3, k4⟩ := acc_pt hs k1
  exact ⟨k3, fun s => (k4 s).trans (k2 _)⟩
theorem alt_acc {p q : ByteArray} (h0 : errP p = 0) (h1 : errP q = 0) (hs : (p ++ ⟨#[124]⟩ ++ q).size ≤ 40) (s : ByteArray) :
    accZ (p ++ ⟨#[124]⟩ ++ q) s = (accZ p s || accZ q s) := by
  obtain ⟨z, k1, k2⟩ := alt_ok (acc_tr h0).1 (acc_tr h1).1
  have e : (p ++ ⟨#[124]⟩ ++ q : ByteArray).data.toList = p.data.toList ++ [124] ++ q.data.toList := by rw [app_list, app_list]
  rw [← e] at k1
  rw [Bool.eq_iff_iff, (acc_pt hs k1).2 s, k2, Bool.or_eq_true, (acc_tr h0).2 s, (acc_tr h1).2 s]
theorem star_acc {p : ByteArray} (h0 : errP p = 0) (hs : (encS [4, 5, 6] p ++ ⟨#[42]⟩).size ≤ 40) :
    errP (encS [4, 5, 6] p ++ ⟨#[42]⟩) = 0 ∧ ∀ s, (accZ (encS [4, 5, 6] p ++ ⟨#[42]⟩) s = true ↔ Star (Lg (treeU p)) s.data.toList) := by
  obtain ⟨ka, kb⟩ := tree_k h0
  obtain ⟨z, k1, k2⟩ := star_ok (acc_tr h0).1 (hasK [4, 5, 6] (treeU p).k) (fun h => by
    have : (treeU p).k = 4 ∨ (treeU p).k = 5 ∨ (treeU p).k = 6 := by omega
    unfold hasK
    rcases this with h | h | h <;> rw [h] <;> rfl)
  have e : (encS [4, 5, 6] p ++ ⟨#[42]⟩ : ByteArray).data.toList = parW (hasK [4, 5, 6] (treeU p).k) p.data.toList ++ [42] := by rw [app_list, enc_list]
  rw [← e] at k1
  obtain ⟨k3, k4⟩ := acc_pt hs k1
  exact ⟨k3, fun s => (k4 s).trans (k2 _)⟩
/-- Whether the text is a concatenation, at the places below i. -/
def fndW (p q s : ByteArray) (i : Nat) : Bool := (List.range i).any fun j => accZ p (s.extract 0 j) && accZ q (s.extract j s.size)
theorem fnd_succ (p q s : ByteArray) (i : Nat) : fndW p q s (i + 1) = (fndW p q s i || (accZ p (s.extract 0 i) && accZ q (s.extract i s.size))) := by
  unfold fndW
  rw [List.range_succ, List.any_append]
  simp
theorem fnd_all {p q : ByteArray} (h0 : errP p = 0) (h1 : errP q = 0) (hs : (encS [5] p ++ encS [5] q).size ≤ 40) (s : ByteArray) : accZ (encS [5] p ++ encS [5] q) s = fndW p q s (s.size + 1) := by
  rw [Bool.eq_iff_iff, (cat_acc h0 h1 hs).2 s]
  unfold fndW
  rw [List.any_eq_true]
  constructor
  · rintro ⟨x, y, h2, hx, hy⟩
    have hl : x.length + y.length = s.size := by rw [← List.length_append, ← h2, lt_len]
    refine ⟨x.length, List.mem_range.2 (by omega), ?_⟩
    rw [Bool.and_eq_true, (acc_tr h0).2, (acc_tr h1).2, extract_list, extract_list, h2]
    refine ⟨?_, ?_⟩
    · rw [List.drop_zero, Nat.sub_zero, List.take_left]; exact hx
    · rw [List.drop_left, List.take_of_length_le (by omega)]; exact hy
  · rintro ⟨j, hj, h2⟩
    have hj' := List.mem_range.1 hj
    rw [Bool.and_eq_true, (acc_tr h0).2, (acc_tr h1).2, extract_list, extract_list] at h2
    obtain ⟨hx, hy⟩ := h2
    refine ⟨s.data.toList.take j, s.data.toList.drop j, (List.take_append_drop _ _).symm, ?_, ?_⟩
    · rw [List.drop_zero, Nat.sub_zero] at hx; exact hx
    · rw [List.take_of_length_le (by rw [List.length_drop, lt_len]; omega)] at hy; exact hy
theorem star_inv {P : List UInt8 → Prop} {u : List UInt8} (h : Star P u) : u = [] ∨ ∃ x y, u = x ++ y ∧ P x ∧ Star P y := by
  cases h with
  | nil => exact .inl rfl
  | cons x y hx hy => exact .inr ⟨x, y, rfl, hx, hy⟩
/-- A repetition is nothing, or one and a repetition. -/
theorem star_step {p s : ByteArray} (h0 : errP p = 0) (hs : (encS [4, 5, 6] p ++ ⟨#[42]⟩).size ≤ 40) (hd : (encS [5] p ++ encS [5] (encS [4, 5, 6] p ++ ⟨#[42]⟩)).size ≤ 40) :
    accZ (encS [4, 5, 6] p ++ ⟨#[42]⟩) s = (accZ (encS [5] p ++ encS [5] (encS [4, 5, 6] p ++ ⟨#[42]⟩)) s || s.toList.isEmpty) := by
  obtain ⟨hc, h2⟩ := star_acc h0 hs
  have h3 := (cat_acc h0 hc hd).2 s
  have h4 : ∀ u : ByteArray, Lg (treeU (encS [4, 5, 6] p ++ ⟨#[42]⟩)) u.data.toList ↔ Star (Lg (treeU p)) u.data.toList := fun u => ((acc_tr hc).2 u).symm.trans (h2 u)
  have h5 : ∀ u : List UInt8, Lg (treeU (encS [4, 5, 6] p ++ ⟨#[42]⟩)) u ↔ Star (Lg (treeU p)) u := fun u => by
    have := h4 (str u)
    have e : (str u).data.toList = u := by simp [str]
    rw [e] at this; exact this
  rw [Bool.eq_iff_iff, h2, Bool.or_eq_true, h3, ByteArray.toList_eq]
  constructor
  · intro h
    rcases star_inv h with h | ⟨x, y, h6, hx, hy⟩
    · right; rw [h]; rfl
    · left; exact ⟨x, y, h6, hx, (h5 y).2 hy⟩
  · rintro (⟨x, y, h6, hx, hy⟩ | h6)
    · rw [h6]; exact .cons x y hx ((h5 y).1 hy)
    · have : s.data.toList = [] := List.isEmpty_iff.1 h6
      rw [this]; exact .nil
theorem lim_ok {s : ByteArray} (h : limE s = 0) : s.size ≤ 40 ∧ limS s = s := by
  unfold limE at h
  unfold limS
  split at h
  · cases h
  · rename_i h1
    exact ⟨by omega, if_neg h1⟩
theorem two_ok {p q s : ByteArray} (h : twoE p q s = 0) : errP p = 0 ∧ errP q = 0 ∧ s.size ≤ 40 ∧ twoS p q s = s := by
  unfold twoE at h
  by_cases h0 : errP p = 0
  · rw [if_pos h0] at h
    by_cases h1 : errP q = 0
    · rw [if_pos h1] at h
      obtain ⟨h2, h3⟩ := lim_ok h
      refine ⟨h0, h1, h2, ?_⟩
      unfold twoS
      rw [if_pos h0, if_pos h1, h3]
    · rw [if_neg h1] at h
      exact absurd h h1
  · rw [if_neg h0] at h
    exact absurd h h0
theorem on_ok {p s : ByteArray} (h : onE p s = 0) : s.size ≤ 40 ∧ onS p s = s := by
  unfold onE at h
  by_cases h0 : errP p = 0
  · rw [if_pos h0] at h
    obtain ⟨h2, h3⟩ := lim_ok h
    refine ⟨h2, ?_⟩
    unfold onS
    rw [if_pos h0, h3]
  · rw [if_neg h0] at h
    exact absurd h h0
theorem two_lim {p q s : ByteArray} (h0 : errP p = 0) (h1 : errP q = 0) (h : errP (twoS p q s) = 0) : s.size ≤ 40 ∧ twoS p q s = s := by
  unfold twoS at h ⊢
  rw [if_pos h0, if_pos h1] at h ⊢
  unfold limS at h ⊢
  by_cases h2 : 40 < s.size
  · rw [if_pos h2] at h
    exact absurd h (by decide)
  · exact ⟨by omega, if_neg h2⟩

set_option maxRecDepth 100000 in
set_option maxHeartbeats 6400000 in
theorem law_pways (p q s : ByteArray) (w : World) (hA : AL w) : Calls Tryd.prog 6 #[.string p, .string q, .string s] w fun e w' => e = .returned (.bool true) ∧ Below w.heap.size w w' := by
  by_cases hbigp : 18 < p.size
  · have HA := Lib.hid (awake_any w hA)
    have hbI : (p.size : Int) > 18 := by omega
    clear hbigp
    go_enter Tryd.func6, Tryd.ntmps6
    go_wp2_with fail
    refine HA.out.mono ?_
    rintro e w1 ⟨rfl, hb⟩
    go_wp2_with fail
    go_ret
    exact ⟨rfl, hb⟩
  have hpI : ¬ (p.size : Int) > 18 := by omega
  by_cases hbigq : 18 < q.size
  · have HA := Lib.hid (awake_any w hA)
    have hbI : (q.size : Int) > 18 := by omega
    clear hbigq
    go_enter Tryd.func6, Tryd.ntmps6
    go_wp2_with fail
    refine HA.out.mono ?_
    rintro e w1 ⟨rfl, hb⟩
    go_wp2_with fail
    go_ret
    exact ⟨rfl, hb⟩
  have hqI : ¬ (q.size : Int) > 18 := by omega
  by_cases hbigs : 12 < s.size
  · have HA := Lib.hid (awake_any w hA)
    have hbI : (s.size : Int) > 12 := by omega
    clear hbigs
    go_enter Tryd.func6, Tryd.ntmps6
    go_wp2_with fail
    refine HA.out.mono ?_
    rintro e w1 ⟨rfl, hb⟩
    go_wp2_with fail
    go_ret
    exact ⟨rfl, hb⟩
  have hsI : ¬ (s.size : Int) > 12 := by omega
  have HAI := Lib.hid hA
  have HB0 := Lib.hid (Below.refl w.heap.size w)
  have HAW := Lib.hid (fun (V : World) (hV : AL V) => awake_any V hV)
  have HC1 := Lib.hid (fun (V : World) (hV : AL V) => concat_any p q V hV)
  have HC2 := Lib.hid (fun (V : World) (hV : AL V) => alternate_any p q V hV)
  clear hA hbigp hbigq
  by_cases he : ¬ twoE p q (encS [5] p ++ encS [5] q) = 0
  · have hne : ((twoE p q (encS [5] p ++ encS [5] q) != 0) : Bool) = true := by rw [bne_iff_ne]; exact he
    clear hbigs
    generalize twoE p q (encS [5] p ++ encS [5] q) = er at *
    generalize twoS p q (encS [5] p ++ encS [5] q) = xa at *
    generalize twoS p q (p ++ ⟨#[124]⟩ ++ q) = xb at *
    generalize twoE p q (p ++ ⟨#[124]⟩ ++ q) = ef at *
    go_enter Tryd.func6, Tryd.ntmps6
    go_wp2_with fail
    refine (HC1.out w (HAI.out.later HB0.out)).mono ?_
    rintro e w1 ⟨rfl, hb1⟩
    have HB1 := Lib.hid (HB0.out.trans (hb1.mono HB0.out.size))
    clear hb1 HC1
    go_wp2_with fail
    refine (HC2.out w1 (HAI.out.later HB1.out)).mono ?_
    rintro e w2 ⟨rfl, hb2⟩
    have HB2 := Lib.hid (HB1.out.trans (hb2.mono HB1.out.size))
    clear hb2 HC2
    go_wp2_with fail
    refine (HAW.out w2 (HAI.out.later HB2.out)).mono ?_
    rintro e w3 ⟨rfl, hb3⟩
    have HB3 := Lib.hid (HB2.out.trans (hb3.mono HB2.out.size))
    clear hb3 HAW
    go_wp2_with fail
    go_ret
    exact ⟨rfl, HB3.out⟩
  replace he := Classical.not_not.1 he
  rw [he] at HC1
  by_cases hf : ¬ twoE p q (p ++ ⟨#[124]⟩ ++ q) = 0
  · have hne : ((twoE p q (p ++ ⟨#[124]⟩ ++ q) != 0) : Bool) = true := by rw [bne_iff_ne]; exact hf
    clear hbigs he
    generalize twoE p q (p ++ ⟨#[124]⟩ ++ q) = er at *
    generalize twoS p q (encS [5] p ++ encS [5] q) = xa at *
    generalize twoS p q (p ++ ⟨#[124]⟩ ++ q) = xb at *
    go_enter Tryd.func6, Tryd.ntmps6
    go_wp2_with fail
    refine (HC1.out w (HAI.out.later HB0.out)).mono ?_
    rintro e w1 ⟨rfl, hb1⟩
    have HB1 := Lib.hid (HB0.out.trans (hb1.mono HB0.out.size))
    clear hb1 HC1
    go_wp2_with fail
    refine (HC2.out w1 (HAI.out.later HB1.out)).mono ?_
    rintro e w2 ⟨rfl, hb2⟩
    have HB2 := Lib.hid (HB1.out.trans (hb2.mono HB1.out.size))
    clear hb2 HC2
    go_wp2_with fail
    refine (HAW.out w2 (HAI.out.later HB2.out)).mono ?_
    rintro e w3 ⟨rfl, hb3⟩
    have HB3 := Lib.hid (HB2.out.trans (hb3.mono HB2.out.size))
    clear hb3 HAW
    go_wp2_with fail
    go_ret
    exact ⟨rfl, HB3.out⟩
  replace hf := Classical.not_not.1 hf
  rw [hf] at HC2
  obtain ⟨h0, h1, ha, ha2⟩ := two_ok he
  obtain ⟨-, -, hb, hb2⟩ := two_ok hf
  rw [ha2] at HC1
  rw [hb2] at HC2
  have HM1 := Lib.hid (fun (V : World) (hV : AL V) => match_all (encS [5] p ++ encS [5] q) s V hV (by omega))
  have HM2 := Lib.hid (fun (V : World) (hV : AL V) => match_all (p ++ ⟨#[124]⟩ ++ q) s V hV (by omega))
  rw [fnd_all h0 h1 ha] at HM1
  rw [alt_acc h0 h1 hb] at HM2
  have hex : ∀ i j, (s.extract i j).size ≤ 1000 := fun i j => by rw [ByteArray.size_extract]; omega
  have HMP := Lib.hid (fun (V : World) (hV : AL V) (i : Nat) => match_all p (s.extract 0 i) V hV (hex _ _))
  have HMQ := Lib.hid (fun (V : World) (hV : AL V) (i : Nat) => match_all q (s.extract i s.size) V hV (hex _ _))
  have HM3 := Lib.hid (fun (V : World) (hV : AL V) => match_all p s V hV (by omega))
  have HM4 := Lib.hid (fun (V : World) (hV : AL V) => match_all q s V hV (by omega))
  have HC3 := Lib.hid (fun (V : World) (hV : AL V) => star_any p V hV)
  have HFS := Lib.hid (fnd_succ p q s)
  have hs12 : s.size ≤ 12 := by omega
  clear hbigs he hf ha ha2 hb hb2 hex
  generalize encS [5] p ++ encS [5] q = xa at *
  generalize p ++ ⟨#[124]⟩ ++ q = xb at *
  generalize errP xa = ea at *
  generalize errP xb = eb at *
  go_enter Tryd.func6, Tryd.ntmps6
  go_wp2_with fail
  refine (HC1.out w (HAI.out.later HB0.out)).mono ?_
  rintro e w1 ⟨rfl, hb1⟩
  have HB1 := Lib.hid (HB0.out.trans (hb1.mono HB0.out.size))
  clear hb1 HC1
  go_wp2_with fail
  refine (HC2.out w1 (HAI.out.later HB1.out)).mono ?_
  rintro e w2 ⟨rfl, hb2⟩
  have HB2 := Lib.hid (HB1.out.trans (hb2.mono HB1.out.size))
  clear hb2 HC2
  go_wp2_with fail
  refine (HM1.out w2 (HAI.out.later HB2.out)).mono ?_
  rintro e w3 ⟨rfl, hb3⟩
  have HB3 := Lib.hid (HB2.out.trans (hb3.mono HB2.out.size))
  clear hb3 HM1
  go_wp2_with fail
  refine (HM2.out w3 (HAI.out.later HB3.out)).mono ?_
  rintro e w4 ⟨rfl, hb4⟩
  have HB4 := Lib.hid (HB3.out.trans (hb4.mono HB3.out.size))
  clear hb4 HM2
  go_wp2_with fail
  have HBS := Lib.hid HB4.out.size
  go_loopw [15, 16] (fun a b wr => ∃ i : Nat, a = .bool (fndW p q s i) ∧ b = .int .i64 (i : Int) ∧ i ≤ s.size + 1 ∧ Hid (Below w.heap.size w wr) ∧ w.heap.size ≤ wr.heap.size) (fun _ b _ => s.size + 1 - (intOf b).toNat)
  case atStart => exact ⟨0, rfl, rfl, Nat.zero_le _, HB4, HBS.out⟩
  case round =>
    obtain ⟨i, rfl, rfl, his, HBr, hsr⟩ := hrel
    by_cases hlt : i ≤ s.size
    · have hltI : (i : Int) ≤ (s.size : Int) := by omega
      have hi0 : (0 : Int) ≤ (i : Int) := by omega
      have hwi : IntKind.i64.wrap ((i : Int) + 1) = ((i + 1 : Nat) : Int) := by rw [IntWalk.i64_in _ (by omega)]; omega
      have HFi := Lib.hid (HFS.out i)
      have HP := Lib.hid (HMP.out wr (HAI.out.later HBr.out) i)
      have HQ := Lib.hid (fun (V : World) (hV : AL V) => HMQ.out V hV i)
      clear HMP HMQ HM3 HM4 HC3 HFS
      generalize fndW p q s i = F1 at *
      generalize accZ p (s.extract 0 i) = U1 at *
      generalize accZ q (s.extract i s.size) = V1 at *
      go_wp2_with fail
      refine HP.out.mono ?_
      rintro e w5 ⟨rfl, hb5⟩
      have HB5 := Lib.hid (HBr.out.trans (hb5.mono hsr))
      clear hb5 HP
      go_wp2_with fail
      refine (HQ.out w5 (HAI.out.later HB5.out)).mono ?_
      rintro e w6 ⟨rfl, hb6⟩
      have HB6 := Lib.hid (HB5.out.trans (hb6.mono HB5.out.size))
      have hs6 : w.heap.size ≤ w6.heap.size := HB6.out.size
      clear hb6 HQ
      cases F1 <;> cases U1
      all_goals
        go_wp2_with fail
        go_roundw
        case rel => exact ⟨i + 1, by rw [HFi.out]; rfl, by first | rfl | go_num, by omega, HB6, hs6⟩
        case measure => simp [intOf]; omega
    · have hltI : ¬ (i : Int) ≤ (s.size : Int) := by omega
      rw [show fndW p q s i = fndW p q s (s.size + 1) by rw [show i = s.size + 1 by omega]]
      replace HB4 := HBr
      clear HMP HMQ HFS HBr
      generalize fndW p q s (s.size + 1) = F at *
      generalize accZ p s = U at *
      generalize accZ q s = V2 at *
      by_cases hg : ¬ onE p (encS [4, 5, 6] p ++ ⟨#[42]⟩) = 0
      · have hne : ((onE p (encS [4, 5, 6] p ++ ⟨#[42]⟩) != 0) : Bool) = true := by rw [bne_iff_ne]; exact hg
        clear h0 h1
        generalize onE p (encS [4, 5, 6] p ++ ⟨#[42]⟩) = eg at *
        generalize onS p (encS [4, 5, 6] p ++ ⟨#[42]⟩) = xc at *
        go_wp2_with fail
        refine (HM3.out wr (HAI.out.later HB4.out)).mono ?_
        rintro e w5 ⟨rfl, hb5⟩
        have HB5 := Lib.hid (HB4.out.trans (hb5.mono HB4.out.size))
        clear hb5 HM3
        go_wp2_with fail
        refine (HM4.out w5 (HAI.out.later HB5.out)).mono ?_
        rintro e w6 ⟨rfl, hb6⟩
        have HB6 := Lib.hid (HB5.out.trans (hb6.mono HB5.out.size))
        clear hb6 HM4
        cases U
        all_goals
          go_wp2_with fail
          refine (HC3.out w6 (HAI.out.later HB6.out)).mono ?_
          rintro e w7 ⟨rfl, hb7⟩
          have HB7 := Lib.hid (HB6.out.trans (hb7.mono HB6.out.size))
          clear hb7 HC3
          go_wp2_with fail
          refine (HAW.out w7 (HAI.out.later HB7.out)).mono ?_
          rintro e w8 ⟨rfl, hb8⟩
          have HB8 := Lib.hid (HB7.out.trans (hb8.mono HB7.out.size))
          clear hb8 HAW
          go_wp2_with fail
          go_ret
          exact ⟨rfl, HB8.out⟩
      replace hg := Classical.not_not.1 hg
      obtain ⟨hc, hc2⟩ := on_ok hg
      rw [hg, hc2] at HC3
      obtain ⟨hce, -⟩ := star_acc h0 hc
      have HM5 := Lib.hid (fun (V : World) (hV : AL V) => match_all (encS [4, 5, 6] p ++ ⟨#[42]⟩) s V hV (by omega))
      have HC4 := Lib.hid (fun (V : World) (hV : AL V) => concat_any p (encS [4, 5, 6] p ++ ⟨#[42]⟩) V hV)
      have HM6 := Lib.hid (fun (V : World) (hV : AL V) => match_all (twoS p (encS [4, 5, 6] p ++ ⟨#[42]⟩) (encS [5] p ++ encS [5] (encS [4, 5, 6] p ++ ⟨#[42]⟩))) s V hV (by omega))
      by_cases hh : ¬ errP (twoS p (encS [4, 5, 6] p ++ ⟨#[42]⟩) (encS [5] p ++ encS [5] (encS [4, 5, 6] p ++ ⟨#[42]⟩))) = 0
      · have hne : ((errP (twoS p (encS [4, 5, 6] p ++ ⟨#[42]⟩) (encS [5] p ++ encS [5] (encS [4, 5, 6] p ++ ⟨#[42]⟩))) != 0) : Bool) = true := by rw [bne_iff_ne]; exact hh
        clear h0 h1 hg hc hc2 hce
        generalize errP (twoS p (encS [4, 5, 6] p ++ ⟨#[42]⟩) (encS [5] p ++ encS [5] (encS [4, 5, 6] p ++ ⟨#[42]⟩))) = eh at *
        generalize twoS p (encS [4, 5, 6] p ++ ⟨#[42]⟩) (encS [5] p ++ encS [5] (encS [4, 5, 6] p ++ ⟨#[42]⟩)) = xd at *
        generalize twoE p (encS [4, 5, 6] p ++ ⟨#[42]⟩) (encS [5] p ++ encS [5] (encS [4, 5, 6] p ++ ⟨#[42]⟩)) = ed at *
        generalize encS [4, 5, 6] p ++ ⟨#[42]⟩ = xc at *
        generalize accZ xd s = W at *
        generalize accZ xc s = Z at *
        generalize errP xc = ec at *
        go_wp2_with fail
        refine (HM3.out wr (HAI.out.later HB4.out)).mono ?_
        rintro e w5 ⟨rfl, hb5⟩
        have HB5 := Lib.hid (HB4.out.trans (hb5.mono HB4.out.size))
        clear hb5 HM3
        go_wp2_with fail
        refine (HM4.out w5 (HAI.out.later HB5.out)).mono ?_
        rintro e w6 ⟨rfl, hb6⟩
        have HB6 := Lib.hid (HB5.out.trans (hb6.mono HB5.out.size))
        clear hb6 HM4
        cases U
        all_goals
          go_wp2_with fail
          refine (HC3.out w6 (HAI.out.later HB6.out)).mono ?_
          rintro e w7 ⟨rfl, hb7⟩
          have HB7 := Lib.hid (HB6.out.trans (hb7.mono HB6.out.size))
          clear hb7 HC3
          go_wp2_with fail
          refine (HM5.out w7 (HAI.out.later HB7.out)).mono ?_
          rintro e w8 ⟨rfl, hb8⟩
          have HB8 := Lib.hid (HB7.out.trans (hb8.mono HB7.out.size))
          clear hb8 HM5
          go_wp2_with fail
          refine (HC4.out w8 (HAI.out.later HB8.out)).mono ?_
          rintro e w9 ⟨rfl, hb9⟩
          have HB9 := Lib.hid (HB8.out.trans (hb9.mono HB8.out.size))
          clear hb9 HC4
          go_wp2_with fail
          refine (HM6.out w9 (HAI.out.later HB9.out)).mono ?_
          rintro e w10 ⟨rfl, hb10⟩
          have HB10 := Lib.hid (HB9.out.trans (hb10.mono HB9.out.size))
          clear hb10 HM6
          go_wp2_with fail
          refine (HAW.out w10 (HAI.out.later HB10.out)).mono ?_
          rintro e w11 ⟨rfl, hb11⟩
          have HB11 := Lib.hid (HB10.out.trans (hb11.mono HB10.out.size))
          clear hb11 HAW
          go_wp2_with fail
          go_ret
          exact ⟨rfl, HB11.out⟩
      replace hh := Classical.not_not.1 hh
      obtain ⟨hd, hd2⟩ := two_lim h0 hce hh
      have hst := star_step (s := s) h0 hc hd
      rw [hd2] at hh HC4 HM6
      rw [hst] at HM5
      rw [hh] at HM6
      clear hst hh hd hd2 h0 h1 hg hc hc2 hce
      generalize twoE p (encS [4, 5, 6] p ++ ⟨#[42]⟩) (encS [5] p ++ encS [5] (encS [4, 5, 6] p ++ ⟨#[42]⟩)) = ed at *
      generalize encS [5] p ++ encS [5] (encS [4, 5, 6] p ++ ⟨#[42]⟩) = xd at *
      generalize encS [4, 5, 6] p ++ ⟨#[42]⟩ = xc at *
      generalize accZ xd s = W at *
      generalize errP xc = ec at *
      go_wp2_with fail
      refine (HM3.out wr (HAI.out.later HB4.out)).mono ?_
      rintro e w5 ⟨rfl, hb5⟩
      have HB5 := Lib.hid (HB4.out.trans (hb5.mono HB4.out.size))
      clear hb5 HM3
      go_wp2_with fail
      refine (HM4.out w5 (HAI.out.later HB5.out)).mono ?_
      rintro e w6 ⟨rfl, hb6⟩
      have HB6 := Lib.hid (HB5.out.trans (hb6.mono HB5.out.size))
      clear hb6 HM4
      cases U
      all_goals
        go_wp2_with fail
        refine (HC3.out w6 (HAI.out.later HB6.out)).mono ?_
        rintro e w7 ⟨rfl, hb7⟩
        have HB7 := Lib.hid (HB6.out.trans (hb7.mono HB6.out.size))
        clear hb7 HC3
        go_wp2_with fail
        refine (HM5.out w7 (HAI.out.later HB7.out)).mono ?_
        rintro e w8 ⟨rfl, hb8⟩
        have HB8 := Lib.hid (HB7.out.trans (hb8.mono HB7.out.size))
        clear hb8 HM5
        go_wp2_with fail
        refine (HC4.out w8 (HAI.out.later HB8.out)).mono ?_
        rintro e w9 ⟨rfl, hb9⟩
        have HB9 := Lib.hid (HB8.out.trans (hb9.mono HB8.out.size))
        clear hb9 HC4
        go_wp2_with fail
        refine (HM6.out w9 (HAI.out.later HB9.out)).mono ?_
        rintro e w10 ⟨rfl, hb10⟩
        have HB10 := Lib.hid (HB9.out.trans (hb10.mono HB9.out.size))
        clear hb10 HM6
        cases W
        all_goals
          go_wp2_with fail
          refine (HAW.out w10 (HAI.out.later HB10.out)).mono ?_
          rintro e w11 ⟨rfl, hb11⟩
          have HB11 := Lib.hid (HB10.out.trans (hb11.mono HB10.out.size))
          clear hb11 HAW
          go_wp2_with fail
          go_ret
          exact ⟨rfl, HB11.out⟩
end Go.Proofs.YtlonddlemlkhoaaDoor
