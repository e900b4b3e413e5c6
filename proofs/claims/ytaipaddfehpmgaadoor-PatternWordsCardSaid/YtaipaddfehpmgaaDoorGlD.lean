/-
  The trees that are read from patterns have sets of bytes, and not more classes than the pattern has bytes. With no program in it. Nothing is assumed.
-/
import Derived.Test.YtaipaddfehpmgaaDoorGlC
namespace Go.Proofs.YtaipaddfehpmgaaDoor
open Go.RowKit

theorem Sok.of {k : Int} {s : S4} {l : List PT} (hs : s.Ok) (hl : ∀ x, x ∈ l → Sok x) : Sok (.mk k s l) := by
  refine ⟨hs, ?_⟩
  induction l with
  | nil => trivial
  | cons x l ih => exact ⟨hl x (List.mem_cons_self ..), ih (fun y hy => hl y (List.mem_cons_of_mem _ hy))⟩
def Gd2 (L : List UInt8) (f : Nat → PR PT) : Prop := ∀ i, i ≤ L.length → ∀ t m, f i = .ok t m → Sok t ∧ t.lv + i ≤ m
theorem class_gd {s : S4} (hs : s.Ok) : Sok (classT s) ∧ (classT s).lv ≤ 1 := by
  unfold classT
  split
  · exact ⟨Sok.of S4.zero_ok (fun _ h => by cases h), by rw [PT.lv, PT.lvs]; decide⟩
  · exact ⟨Sok.of hs (fun _ h => by cases h), by rw [PT.lv, PT.lvs]; decide⟩
theorem item_ok {L : List UInt8} {s : S4} (hs : s.Ok) (i : Nat) {s' : S4} {m : Nat} (h : itemL L s i = .ok s' m) : s'.Ok := by
  unfold itemL at h
  cases hm : memL L 32 i with
  | bad q => rw [hm] at h; cases h
  | ok f q =>
    rw [hm] at h
    replace h : (if pk L q = 45 then (memL L f (q + 1)).bind fun l r => .ok (addsL (l + 1 - f) s f) r else .ok (addsL 1 s f) q : PR S4) = .ok s' m := h
    split at h
    · cases hl : memL L f (q + 1) with
      | bad r => rw [hl] at h; cases h
      | ok l r => rw [hl] at h; cases h; exact addsL_ok _ _ _ hs
    · cases h; exact addsL_ok _ _ _ hs
theorem set_ok {L : List UInt8} : ∀ (g : Nat) (s : S4) (i : Nat), s.Ok → ∀ s' m, setL L g s i = .ok s' m → s'.Ok
  | 0, _, _, _, _, _, h => by cases h
  | g + 1, s, i, hs, s', m, h => by
    rw [setL] at h
    split at h
    · cases h; exact hs
    · cases hm : itemL L s i with
      | bad q => rw [hm] at h; cases h
      | ok s2 q => rw [hm] at h; exact set_ok g s2 q (item_ok hs i hm) s' m h
theorem brack_gd {L : List UInt8} {i : Nat} (hi : i < L.length) {t : PT} {m : Nat} (h : brackL L i = .ok t m) : Sok t ∧ t.lv + i ≤ m := by
  have hf := brackL_fwd L i hi
  rw [h] at hf
  have him : i < m := hf.1
  unfold brackL at h
  split at h
  · cases h
    exact ⟨Sok.of S4.zero_ok (fun _ h => by cases h), by rw [PT.lv, PT.lvs]; simp <;> omega⟩
  · cases hm : setL L (L.length + 1) .zero (negL L (i + 1)) with
    | bad q => rw [hm] at h; cases h
    | ok s q =>
      rw [hm] at h
      have hs := set_ok _ _ _ S4.zero_ok s q hm
      have hg : Sok (setT (decide (pk L (i + 1) = 94)) s) ∧ (setT (decide (pk L (i + 1) = 94)) s).lv ≤ 1 := by
        unfold setT
        refine class_gd ?_
        split
        · exact without_ok _ _
        · exact hs
      cases h
      exact ⟨hg.1, by omega⟩
theorem one_gd (c : Nat) : Sok (oneT c) ∧ (oneT c).lv ≤ 1 := class_gd (S4.add_ok S4.zero_ok c)
theorem atom_gd {L : List UInt8} {pat : Nat → PR PT} (hp : Gd2 L pat) : Gd2 L (atomL pat L) := by
  intro i hi t m h
  unfold atomL at h
  split at h
  · rename_i h40
    have hl := pk_is h40 (by decide)
    unfold groupL at h
    split at h
    · cases h
      exact ⟨Sok.of S4.zero_ok (fun _ h => by cases h), by rw [PT.lv, PT.lvs]; simp <;> omega⟩
    · cases hq : pat (i + 1) with
      | bad q => rw [hq] at h; cases h
      | ok t' q =>
        rw [hq] at h
        replace h : (if pk L q = 41 then .ok t' (q + 1) else .bad q : PR PT) = .ok t m := h
        split at h
        · cases h
          obtain ⟨h1, h2⟩ := hp (i + 1) (by omega) _ q hq
          exact ⟨h1, by omega⟩
        · cases h
  split at h
  · rename_i h91
    exact brack_gd (pk_is h91 (by decide)) h
  split at h
  · cases h
    obtain ⟨h1, h2⟩ := class_gd alpha_ok
    exact ⟨h1, by omega⟩
  split at h
  · split at h
    · cases h
      obtain ⟨h1, h2⟩ := one_gd (pk L (i + 1))
      exact ⟨h1, by omega⟩
    · cases h
  split at h
  · cases h
    obtain ⟨h1, h2⟩ := one_gd (pk L i)
    exact ⟨h1, by omega⟩
  · cases h
theorem rep_gd {L : List UInt8} {pat : Nat → PR PT} (hp : Gd2 L pat) : Gd2 L (repL pat L) := by
  intro i hi t m h
  unfold repL at h
  cases hq : atomL pat L i with
  | bad q => rw [hq] at h; cases h
  | ok t' q =>
    rw [hq] at h
    obtain ⟨h1, h2⟩ := atom_gd hp i hi t' q hq
    replace h : (if pk L q = 42 then .ok (.mk 6 .zero [t']) (q + 1) else .ok t' q : PR PT) = .ok t m := h
    split at h
    · cases h
      refine ⟨Sok.of S4.zero_ok (fun x hx => by obtain rfl := List.mem_singleton.1 hx; exact h1), ?_⟩
      rw [PT.lv, PT.lvs_cons, PT.lvs_nil]
      simp
      omega
    · cases h; exact ⟨h1, h2⟩
theorem lvs_snoc (l : List PT) (t : PT) : PT.lvs (l ++ [t]) = PT.lvs l + t.lv := by
  induction l with
  | nil => rw [List.nil_append, PT.lvs_cons, PT.lvs_nil]; omega
  | cons v l ih => rw [List.cons_append, PT.lvs_cons, PT.lvs_cons, ih]; omega
theorem sev_gd {L : List UInt8} {one : Nat → PR PT} {sep : Nat → Option Nat} (ho : Good L one) (h2 : Gd2 L one) (hs : SepOk L sep) (i0 : Nat) : ∀ (g : Nat) (acc : List PT) (i : Nat), i ≤ L.length → (∀ x, x ∈ acc → Sok x) → PT.lvs acc + i0 ≤ i → ∀ l m, sevL one sep g acc i = .ok l m → (∀ x, x ∈ l → Sok x) ∧ PT.lvs l + i0 ≤ m
  | 0, _, _, _, _, _, _, _, h => by cases h
  | g + 1, acc, i, hi, ha, hl, l, m, h => by
    have step : ∀ j, i ≤ j → j ≤ L.length → ((one j).bind fun t m => sevL one sep g (acc ++ [t]) m) = .ok l m → (∀ x, x ∈ l → Sok x) ∧ PT.lvs l + i0 ≤ m := fun j hij hj hh => by
      have hg := (ho j hj).1
      cases hq : one j with
      | bad q => rw [hq] at hh; cases hh
      | ok t q =>
        rw [hq] at hh hg
        obtain ⟨k1, k2⟩ := h2 j hj t q hq
        exact sev_gd ho h2 hs i0 g (acc ++ [t]) q hg.2 (fun x hx => by
          rcases List.mem_append.1 hx with hx | hx
          · exact ha x hx
          · obtain rfl := List.mem_singleton.1 hx; exact k1) (by rw [lvs_snoc]; omega) l m hh
    rw [sevL] at h
    split at h
    · exact step i (Nat.le_refl _) hi h
    · cases hsep : sep i with
      | none => rw [hsep] at h; cases h; exact ⟨ha, hl⟩
      | some j =>
        rw [hsep] at h
        obtain ⟨h3, h4⟩ := hs i j hsep hi
        exact step j h3 h4 h
theorem join_gd {kind : Int} (hk : kind ≠ 3) {l : List PT} (h : ∀ x, x ∈ l → Sok x) : Sok (joinT kind l) ∧ (joinT kind l).lv = PT.lvs l := by
  match l, h with
  | [], h => exact ⟨Sok.of S4.zero_ok h, by show PT.lv (.mk kind .zero []) = _; rw [PT.lv, if_neg hk, Nat.zero_add]⟩
  | [t], h => exact ⟨h t (List.mem_cons_self ..), by rw [PT.lvs_cons, PT.lvs_nil]; rfl⟩
  | t :: u :: r, h => exact ⟨Sok.of S4.zero_ok h, by show PT.lv (.mk kind .zero (t :: u :: r)) = _; rw [PT.lv, if_neg hk, Nat.zero_add]⟩
theorem several_gd {L : List UInt8} {one : Nat → PR PT} {sep : Nat → Option Nat} (ho : Good L one) (h2 : Gd2 L one) (hs : SepOk L sep) {kind : Int} (hk : kind ≠ 3) : Gd2 L fun i => (sevL one sep (L.length + 1) [] i).map (joinT kind) := by
  intro i hi t m h
  replace h : (sevL one sep (L.length + 1) [] i).map (joinT kind) = .ok t m := h
  cases hq : sevL one sep (L.length + 1) [] i with
  | bad q => rw [hq] at h; cases h
  | ok l q =>
    rw [hq] at h
    cases h
    obtain ⟨h3, h4⟩ := sev_gd ho h2 hs i _ [] i hi (fun _ h => by cases h) (by rw [PT.lvs_nil]; omega) l _ hq
    obtain ⟨h5, h6⟩ := join_gd hk h3
    exact ⟨h5, by rw [h6]; exact h4⟩
theorem pat_gd (L : List UInt8) : ∀ d, Gd2 L (patL L d) := by
  intro d
  induction d with
  | zero => exact fun i hi t m h => by cases h
  | succ d ih => exact several_gd (cat_good (pat_good L d)) (several_gd (rep_good (pat_good L d)) (rep_gd ih) (sepC_ok L) (by decide)) (sepP_ok L) (by decide)
theorem parse_gd {L : List UInt8} {t : PT} {m : Nat} (h : parseT L = .ok t m) : Sok t ∧ t.lv ≤ L.length ∧ t.fit = true := by
  unfold parseT at h
  cases hq : patL L (L.length + 1) 0 with
  | bad q => rw [hq] at h; cases h
  | ok t' q =>
    rw [hq] at h
    replace h : (if q = L.length then PR.ok t' q else .bad q) = .ok t m := h
    split at h
    · cases h
      obtain ⟨h1, h2⟩ := pat_gd L (L.length + 1) 0 (Nat.zero_le _) _ _ hq
      have h3 := ((pat_good L (L.length + 1) 0 (Nat.zero_le _)).2 _ _ hq).1
      exact ⟨h1, by omega, h3⟩
    · cases h
/-- A pattern that is read as a tree. -/
structure TP (p : ByteArray) (t : PT) : Prop where
  err : errP p = 0
  parse : ∃ m, parseT p.data.toList = .ok t m
  fit : t.fit = true
  sok : Sok t
  lv : 1 + t.lv ≤ 64
theorem TP.of {p : ByteArray} (h : errP p = 0) : ∃ t, TP p t := by
  obtain ⟨t, m, h1, h2⟩ := err_ok h
  obtain ⟨h3, h4, h5⟩ := parse_gd h1
  rw [lt_len] at h4
  exact ⟨t, h, ⟨m, h1⟩, h5, h3, by omega⟩
theorem build_u (t : PT) (hl : 1 + t.lv ≤ 64) : U6 (buildT t).2 := by
  obtain ⟨k1, k2, k3, k4⟩ := add_spec t [⟨.zero, 0⟩] (by simpa using hl)
  show U6 (if (addT [⟨.zero, 0⟩] t).2.e = true then orS (addT [⟨.zero, 0⟩] t).2.t 1 else (addT [⟨.zero, 0⟩] t).2.t)
  split
  · exact or_u _ _
  · exact k4.ut
end Go.Proofs.YtaipaddfehpmgaaDoor
