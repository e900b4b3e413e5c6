/-
  The sets of a tree that is read have bytes of the alphabet alone, and so have its texts. With no program in it. Nothing is assumed.
-/
import Derived.Test.YtedfcngadaalpaaDoorGlD
namespace Go.Proofs.YtedfcngadaalpaaDoor
open Go.RowKit

/-- A set of bytes of the alphabet. -/
def AlS (s : S4) : Prop := s.Ok ∧ ∀ d, d < 256 → s.has d = true → 32 ≤ d ∧ d ≤ 126
theorem AlS.zero : AlS S4.zero := ⟨S4.zero_ok, fun d _ h => by rw [has_zero] at h; cases h⟩
theorem AlS.add {s : S4} (h : AlS s) {c : Nat} (h1 : 32 ≤ c) (h2 : c ≤ 126) : AlS (s.add c) := ⟨S4.add_ok h.1 c, fun d hd hh => by
  rw [has_add h.1 (by omega) hd, Bool.or_eq_true, decide_eq_true_iff] at hh
  rcases hh with hh | hh
  · exact h.2 d hd hh
  · omega⟩
theorem AlS.adds : ∀ (n : Nat) (s : S4) (c : Nat), AlS s → 32 ≤ c → c + n ≤ 127 → AlS (addsL n s c)
  | 0, _, _, h, _, _ => h
  | n + 1, s, c, h, h1, h2 => by
    rw [addsL]
    exact AlS.adds n _ (c + 1) (h.add h1 (by omega)) (by omega) (by omega)
theorem AlS.alpha : AlS S4.alpha := ⟨alpha_ok, fun d hd h => by
  rw [has_alpha d hd, Bool.and_eq_true, decide_eq_true_iff, decide_eq_true_iff] at h
  exact h⟩
theorem AlS.without {s : S4} (h : s.Ok) : AlS (S4.alpha.without s) := ⟨without_ok _ _, fun d hd hh => by
  rw [has_without alpha_ok h d hd, Bool.and_eq_true] at hh
  exact AlS.alpha.2 d hd hh.1⟩
/-- Of a tree: all its sets. -/
def AlT (t : PT) : Prop := PT.rec (motive_1 := fun _ => Prop) (motive_2 := fun _ => Prop) (fun _ s _ ih => AlS s ∧ ih) True (fun _ _ a b => a ∧ b) t
theorem AlT.here {t : PT} (h : AlT t) : AlS t.s := by cases t; exact h.1
theorem AlT.mem {t x : PT} (h : AlT t) (hx : x ∈ t.l) : AlT x := by
  cases t with
  | mk k s l =>
    have h2 := h.2
    clear h
    induction l with
    | nil => cases hx
    | cons y l ih =>
      rcases List.mem_cons.1 hx with rfl | hx
      · exact h2.1
      · exact ih hx h2.2
theorem AlT.of {k : Int} {s : S4} {l : List PT} (hs : AlS s) (hl : ∀ x, x ∈ l → AlT x) : AlT (.mk k s l) := by
  refine ⟨hs, ?_⟩
  induction l with
  | nil => trivial
  | cons x l ih => exact ⟨hl x (List.mem_cons_self ..), ih (fun y hy => hl y (List.mem_cons_of_mem _ hy))⟩
def Gd3 (L : List UInt8) (f : Nat → PR PT) : Prop := ∀ i, i ≤ L.length → ∀ t m, f i = .ok t m → AlT t ∧ t.lv + i ≤ m
theorem class_al {s : S4} (hs : AlS s) : AlT (classT s) ∧ (classT s).lv ≤ 1 := by
  unfold classT
  split
  · exact ⟨AlT.of AlS.zero (fun _ h => by cases h), by rw [PT.lv, PT.lvs]; decide⟩
  · exact ⟨AlT.of hs (fun _ h => by cases h), by rw [PT.lv, PT.lvs]; decide⟩
theorem item_al {L : List UInt8} {s : S4} (hs : AlS s) (i : Nat) (hi : i ≤ L.length) {s' : S4} {m : Nat} (h : itemL L s i = .ok s' m) : AlS s' := by
  unfold itemL at h
  have h1 := memL_fwd L 32 i hi
  cases hm : memL L 32 i with
  | bad q => rw [hm] at h; cases h
  | ok f q =>
    rw [hm] at h h1
    obtain ⟨k1, k2, k3⟩ := h1.2 f q rfl
    have hq := h1.1.2
    replace h : (if pk L q = 45 then (memL L f (q + 1)).bind fun l r => .ok (addsL (l + 1 - f) s f) r else .ok (addsL 1 s f) q : PR S4) = .ok s' m := h
    split at h
    · rename_i h45
      have h46 := pk_is h45 (by decide)
      have h2 := memL_fwd L f (q + 1) (by omega)
      cases hl : memL L f (q + 1) with
      | bad r => rw [hl] at h; cases h
      | ok l r =>
        rw [hl] at h h2
        obtain ⟨k4, k5, k6⟩ := h2.2 l r rfl
        cases h
        exact AlS.adds _ _ _ hs k2 (by omega)
    · cases h; exact AlS.adds _ _ _ hs k2 (by omega)
theorem set_al {L : List UInt8} : ∀ (g : Nat) (s : S4) (i : Nat), i ≤ L.length → AlS s → ∀ s' m, setL L g s i = .ok s' m → AlS s'
  | 0, _, _, _, _, _, _, h => by cases h
  | g + 1, s, i, hi, hs, s', m, h => by
    rw [setL] at h
    split at h
    · cases h; exact hs
    · have hf := itemL_fwd L s i hi
      cases hm : itemL L s i with
      | bad q => rw [hm] at h; cases h
      | ok s2 q =>
        rw [hm] at h hf
        exact set_al g s2 q hf.2 (item_al hs i hi hm) s' m h
theorem brack_al {L : List UInt8} {i : Nat} (hi : i < L.length) {t : PT} {m : Nat} (h : brackL L i = .ok t m) : AlT t ∧ t.lv + i ≤ m := by
  have hf := brackL_fwd L i hi
  rw [h] at hf
  have him : i < m := hf.1
  unfold brackL at h
  split at h
  · cases h
    exact ⟨AlT.of AlS.zero (fun _ h => by cases h), by rw [PT.lv, PT.lvs]; simp <;> omega⟩
  · cases hm : setL L (L.length + 1) .zero (negL L (i + 1)) with
    | bad q => rw [hm] at h; cases h
    | ok s q =>
      rw [hm] at h
      have hn : negL L (i + 1) ≤ L.length := by
        unfold negL
        split
        · rename_i h94
          have := pk_is h94 (by decide)
          omega
        · omega
      have hs := set_al _ _ _ hn AlS.zero s q hm
      have hg : AlT (setT (decide (pk L (i + 1) = 94)) s) ∧ (setT (decide (pk L (i + 1) = 94)) s).lv ≤ 1 := by
        unfold setT
        refine class_al ?_
        split
        · exact AlS.without hs.1
        · exact hs
      cases h
      exact ⟨hg.1, by omega⟩
theorem one_al {c : Nat} (h : 32 ≤ c ∧ c ≤ 126) : AlT (oneT c) ∧ (oneT c).lv ≤ 1 := class_al (AlS.add AlS.zero h.1 h.2)
theorem atom_al {L : List UInt8} {pat : Nat → PR PT} (hp : Gd3 L pat) : Gd3 L (atomL pat L) := by
  intro i hi t m h
  unfold atomL at h
  split at h
  · rename_i h40
    have hl := pk_is h40 (by decide)
    unfold groupL at h
    split at h
    · cases h
      exact ⟨AlT.of AlS.zero (fun _ h => by cases h), by rw [PT.lv, PT.lvs]; simp <;> omega⟩
    · cases hq : pat (i + 1) with
      | bad q => rw [hq] at h; cases h
      | ok t' q =>
        rw [hq] at h
        replace h : (if pk L q = 41 then .ok t' (q + 1) else .bad q : PR PT) = .ok t m := h
        split at h
        · cases h
          obtain ⟨h1, h2⟩ := hp (i + 1) (by omega) _ q hq
          exact ⟨h1, by omega⟩
        · cases h
  split at h
  · rename_i h91
    exact brack_al (pk_is h91 (by decide)) h
  split at h
  · cases h
    obtain ⟨h1, h2⟩ := class_al AlS.alpha
    exact ⟨h1, by omega⟩
  split at h
  · split at h
    · cases h
      rename_i hsp
      obtain ⟨h1, h2⟩ := one_al (isSp_lt hsp)
      exact ⟨h1, by omega⟩
    · cases h
  split at h
  · cases h
    rename_i hpl
    obtain ⟨h1, h2⟩ := one_al (inA_lt (by unfold isPl at hpl; rw [Bool.and_eq_true] at hpl; exact hpl.1))
    exact ⟨h1, by omega⟩
  · cases h
theorem rep_al {L : List UInt8} {pat : Nat → PR PT} (hp : Gd3 L pat) : Gd3 L (repL pat L) := by
  intro i hi t m h
  unfold repL at h
  cases hq : atomL pat L i with
  | bad q => rw [hq] at h; cases h
  | ok t' q =>
    rw [hq] at h
    obtain ⟨h1, h2⟩ := atom_al hp i hi t' q hq
    replace h : (if pk L q = 42 then .ok (.mk 6 .zero [t']) (q + 1) else .ok t' q : PR PT) = .ok t m := h
    split at h
    · cases h
      refine ⟨AlT.of AlS.zero (fun x hx => by obtain rfl := List.mem_singleton.1 hx; exact h1), ?_⟩
      rw [PT.lv, PT.lvs_cons, PT.lvs_nil]
      simp
      omega
    · cases h; exact ⟨h1, h2⟩
theorem sev_al {L : List UInt8} {one : Nat → PR PT} {sep : Nat → Option Nat} (ho : Good L one) (h2 : Gd3 L one) (hs : SepOk L sep) (i0 : Nat) : ∀ (g : Nat) (acc : List PT) (i : Nat), i ≤ L.length → (∀ x, x ∈ acc → AlT x) → PT.lvs acc + i0 ≤ i → ∀ l m, sevL one sep g acc i = .ok l m → (∀ x, x ∈ l → AlT x) ∧ PT.lvs l + i0 ≤ m
  | 0, _, _, _, _, _, _, _, h => by cases h
  | g + 1, acc, i, hi, ha, hl, l, m, h => by
    have step : ∀ j, i ≤ j → j ≤ L.length → ((one j).bind fun t m => sevL one sep g (acc ++ [t]) m) = .ok l m → (∀ x, x ∈ l → AlT x) ∧ PT.lvs l + i0 ≤ m := fun j hij hj hh => by
      have hg := (ho j hj).1
      cases hq : one j with
      | bad q => rw [hq] at hh; cases hh
      | ok t q =>
        rw [hq] at hh hg
        obtain ⟨k1, k2⟩ := h2 j hj t q hq
        exact sev_al ho h2 hs i0 g (acc ++ [t]) q hg.2 (fun x hx => by
          rcases List.mem_append.1 hx with hx | hx
          · exact ha x hx
          · obtain rfl := List.mem_singleton.1 hx; exact k1) (by rw [lvs_snoc]; omega) l m hh
    rw [sevL] at h
    split at h
    · exact step i (Nat.le_refl _) hi h
    · cases hsep : sep i with
      | none => rw [hsep] at h; cases h; exact ⟨ha, hl⟩
      | some j =>
        rw [hsep] at h
        obtain ⟨h3, h4⟩ := hs i j hsep hi
        exact step j h3 h4 h
theorem join_al {kind : Int} (hk : kind ≠ 3) {l : List PT} (h : ∀ x, x ∈ l → AlT x) : AlT (joinT kind l) ∧ (joinT kind l).lv = PT.lvs l := by
  match l, h with
  | [], h => exact ⟨AlT.of AlS.zero h, by show PT.lv (.mk kind .zero []) = _; rw [PT.lv, if_neg hk, Nat.zero_add]⟩
  | [t], h => exact ⟨h t (List.mem_cons_self ..), by rw [PT.lvs_cons, PT.lvs_nil]; rfl⟩
  | t :: u :: r, h => exact ⟨AlT.of AlS.zero h, by show PT.lv (.mk kind .zero (t :: u :: r)) = _; rw [PT.lv, if_neg hk, Nat.zero_add]⟩
theorem several_al {L : List UInt8} {one : Nat → PR PT} {sep : Nat → Option Nat} (ho : Good L one) (h2 : Gd3 L one) (hs : SepOk L sep) {kind : Int} (hk : kind ≠ 3) : Gd3 L fun i => (sevL one sep (L.length + 1) [] i).map (joinT kind) := by
  intro i hi t m h
  replace h : (sevL one sep (L.length + 1) [] i).map (joinT kind) = .ok t m := h
  cases hq : sevL one sep (L.length + 1) [] i with
  | bad q => rw [hq] at h; cases h
  | ok l q =>
    rw [hq] at h
    cases h
    obtain ⟨h3, h4⟩ := sev_al ho h2 hs i _ [] i hi (fun _ h => by cases h) (by rw [PT.lvs_nil]; omega) l _ hq
    obtain ⟨h5, h6⟩ := join_al hk h3
    exact ⟨h5, by rw [h6]; exact h4⟩
theorem pat_al (L : List UInt8) : ∀ d, Gd3 L (patL L d) := by
  intro d
  induction d with
  | zero => exact fun i hi t m h => by cases h
  | succ d ih => exact several_al (cat_good (pat_good L d)) (several_al (rep_good (pat_good L d)) (rep_al ih) (sepC_ok L) (by decide)) (sepP_ok L) (by decide)
theorem parse_al {L : List UInt8} {t : PT} {m : Nat} (h : parseT L = .ok t m) : AlT t ∧ t.lv ≤ L.length ∧ t.fit = true := by
  unfold parseT at h
  cases hq : patL L (L.length + 1) 0 with
  | bad q => rw [hq] at h; cases h
  | ok t' q =>
    rw [hq] at h
    replace h : (if q = L.length then PR.ok t' q else .bad q) = .ok t m := h
    split at h
    · cases h
      obtain ⟨h1, h2⟩ := pat_al L (L.length + 1) 0 (Nat.zero_le _) _ _ hq
      have h3 := ((pat_good L (L.length + 1) 0 (Nat.zero_le _)).2 _ _ hq).1
      exact ⟨h1, by omega, h3⟩
    · cases h

/-- A list of bytes of the alphabet. -/
def AlL (u : List UInt8) : Prop := ∀ c, c ∈ u → 32 ≤ c.toNat ∧ c.toNat ≤ 126
theorem AlL.app {u v : List UInt8} (h : AlL u) (h' : AlL v) : AlL (u ++ v) := fun c hc => by
  rcases List.mem_append.1 hc with hc | hc
  · exact h c hc
  · exact h' c hc
theorem star_al {P : List UInt8 → Prop} (hP : ∀ u, P u → AlL u) {u : List UInt8} (h : Star P u) : AlL u := by
  induction h with
  | nil => exact fun c hc => by cases hc
  | cons x y h1 _ ih => exact (hP x h1).app ih
theorem lg_al (t : PT) : AlT t → ∀ u, Lg t u → AlL u := by
  induction t using PT.ind with
  | h t ih =>
  intro ha u hu
  have hm : ∀ x, x ∈ t.l → ∀ u, Lg x u → AlL u := fun x hx => ih x hx (ha.mem hx)
  rw [Lg_eq] at hu
  rcases hu with ⟨_, rfl⟩ | ⟨_, c, rfl, hc⟩ | ⟨_, h⟩ | ⟨_, h⟩ | ⟨_, h⟩
  · exact fun c hc => by cases hc
  · intro d hd
    rw [List.mem_singleton.1 hd]
    exact ha.here.2 _ c.toNat_lt hc
  · revert hm u
    generalize t.l = l
    intro u hm h
    induction l generalizing u with
    | nil => have : u = [] := h; subst this; exact fun c hc => by cases hc
    | cons x l ihl =>
      obtain ⟨a, b, rfl, h1, h2⟩ := h
      exact (hm x (List.mem_cons_self ..) a h1).app (ihl b (fun y hy => hm y (List.mem_cons_of_mem _ hy)) h2)
  · revert hm u
    generalize t.l = l
    intro u hm h
    induction l with
    | nil => exact absurd h id
    | cons x l ihl =>
      rcases h with h | h
      · exact hm x (List.mem_cons_self ..) u h
      · exact ihl (fun y hy => hm y (List.mem_cons_of_mem _ hy)) h
  · revert hm u
    generalize t.l = l
    intro u hm h
    cases l with
    | nil => exact absurd h id
    | cons x l => exact star_al (hm x (List.mem_cons_self ..)) h
theorem TP.al {p : ByteArray} {t : PT} (h : TP p t) : AlT t := by
  obtain ⟨m, hm⟩ := h.parse
  exact (parse_al hm).1
end Go.Proofs.YtedfcngadaalpaaDoor
