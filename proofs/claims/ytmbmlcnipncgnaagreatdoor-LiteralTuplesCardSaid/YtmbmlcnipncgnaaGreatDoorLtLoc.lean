/-
  A reading depends only on the bytes that it passes, and on the next one. Nothing is assumed.
-/
import Derived.Test.YtmbmlcnipncgnaaGreatDoorLtPure
namespace Go.Proofs.YtmbmlcnipncgnaaGreatDoor
open Go.RowKit

/-- M has the bytes of L below e; at e the byte of L, or none. -/
structure Sim (e : Nat) (L M : List UInt8) : Prop where
  below : ∀ j, j < e → pk M j = pk L j
  at' : pk M e = pk L e ∨ pk M e = 0
theorem Sim.less {e d : Nat} {L M : List UInt8} (h : Sim e L M) (hd : d ≤ e) : Sim d L M := by
  refine ⟨fun j hj => h.below j (by omega), ?_⟩
  rcases Nat.lt_or_ge d e with h1 | h1
  · exact .inl (h.below d h1)
  · obtain rfl : d = e := by omega
    exact h.at'
theorem Sim.no {e c : Nat} {L M : List UInt8} (h : Sim e L M) {j : Nat} (hj : j ≤ e) (hn : pk L j ≠ c) (hc : c ≠ 0) : pk M j ≠ c := by
  rcases (h.less hj).at' with h1 | h1
  · rw [h1]; exact hn
  · rw [h1]; exact fun e => hc e.symm
theorem Sim.digit {e : Nat} {L M : List UInt8} (h : Sim e L M) {j : Nat} (hj : j ≤ e) (hn : isD (pk L j) = false) : isD (pk M j) = false := by
  rcases (h.less hj).at' with h1 | h1
  · rw [h1]; exact hn
  · rw [h1]; rfl
theorem Sim.hexd {e : Nat} {L M : List UInt8} (h : Sim e L M) {j : Nat} (hj : j ≤ e) (hn : hexv (pk L j) = none) : hexv (pk M j) = none := by
  rcases (h.less hj).at' with h1 | h1
  · rw [h1]; exact hn
  · rw [h1]; rfl
theorem Sim.take (L : List UInt8) (e k : Nat) (h : e ≤ k) : Sim e L (L.take k) := by
  refine ⟨fun j hj => ?_, ?_⟩
  · unfold pk
    rw [List.getElem?_take, if_pos (by omega)]
  · by_cases h1 : e < k
    · left
      unfold pk
      rw [List.getElem?_take, if_pos h1]
    · right
      unfold pk
      rw [List.getElem?_take, if_neg h1]
theorem Sim.app (L x : List UInt8) (e : Nat) (h : e < L.length) : Sim e L (L ++ x) :=
  ⟨fun j hj => by unfold pk; rw [List.getElem?_append_left (by omega)], .inl (by unfold pk; rw [List.getElem?_append_left h])⟩

/-- The reading P is local. -/
def Loc {α : Type} (P : List UInt8 → Nat → PR α) : Prop := ∀ (L M : List UInt8) (i : Nat), i ≤ L.length → Sim (P L i).fin L M → P M i = P L i
def Ins {α : Type} (P : List UInt8 → Nat → PR α) : Prop := ∀ (L : List UInt8) (i : Nat), i ≤ L.length → (P L i).In i L.length

theorem bind_loc {α β : Type} {P : List UInt8 → Nat → PR α} {Q : α → List UInt8 → Nat → PR β} (hP : Loc P) (hI : Ins P) (hQ : ∀ v, Loc (Q v)) (hQI : ∀ v, Ins (Q v)) : Loc fun L i => (P L i).bind fun v j => Q v L j := by
  intro L M i hi hs
  cases hx : P L i with
  | bad j =>
    simp only [hx] at hs
    have := hP L M i hi (by rw [hx]; exact hs)
    simp only [this, hx, PR.bind_bad]
  | ok v j =>
    simp only [hx, PR.bind_ok] at hs
    have hin := hI L i hi
    rw [hx] at hin
    have h2 := hQI v L j hin.2
    have := hP L M i hi (by rw [hx]; exact hs.less h2.1)
    simp only [this, hx, PR.bind_ok]
    exact hQ v L M j hin.2 hs
theorem ret_loc {α β : Type} (f : α → β) (v : α) : Loc fun (_ : List UInt8) j => PR.ok (f v) j := fun _ _ _ _ _ => rfl
theorem ret_ins {α : Type} (v : α) : Ins fun (_ : List UInt8) j => PR.ok v j := fun _ _ h => ⟨Nat.le_refl _, h⟩

theorem wordL_loc (w : List UInt8) (hw : ∀ c, c ∈ w → c ≠ 0) : Loc (wordL w) := by
  induction w with
  | nil => intro L M i _ _; rfl
  | cons c w ih =>
    intro L M i hi hs
    have hw' := fun c hc => hw c (List.mem_cons_of_mem _ hc)
    have hc0 : c.toNat ≠ 0 := fun e => hw c (List.mem_cons_self ..) (UInt8.toNat_inj.1 e)
    rw [wordL] at hs ⊢
    rw [wordL]
    by_cases h : pk L i = c.toNat
    · rw [if_pos h] at hs ⊢
      have hi' : i < L.length := pk_ne L i (by rw [h]; exact hc0)
      have hb := wordL_bd w L (i + 1) hi' hw'
      rw [if_pos ((hs.below i (by omega)).trans h)]
      exact ih hw' L M (i + 1) hi' hs
    · rw [if_neg h] at hs ⊢
      rw [if_neg (hs.no (j := i) (Nat.le_refl _) h hc0)]
theorem wordL_ins (w : List UInt8) (hw : ∀ c, c ∈ w → c ≠ 0) : Ins (wordL w) := fun L i h => wordL_bd w L i h hw

theorem numL_loc (L M : List UInt8) : ∀ (g n i : Nat), L.length ≤ i + g → i ≤ L.length → Sim (numL (L.drop i) n i).2 L M → numL (M.drop i) n i = numL (L.drop i) n i := by
  intro g
  induction g with
  | zero =>
    intro n i hg hi hs
    have e : pk L i = 0 := pk_out L i (by omega)
    have hno : ¬ (0 < n ∧ isD (pk L i) = true ∧ 10 * n + (pk L i - 48) ≤ 1000000) := by rw [e]; intro h; exact absurd h.2.1 (by decide)
    rw [numL_stop L n i hno] at hs ⊢
    refine numL_stop M n i fun h => ?_
    have := hs.digit (j := i) (Nat.le_refl _) (show isD (pk L i) = false by rw [e]; rfl)
    rw [this] at h
    exact absurd h.2.1 (by decide)
  | succ g ih =>
    intro n i hg hi hs
    by_cases h : 0 < n ∧ isD (pk L i) = true ∧ 10 * n + (pk L i - 48) ≤ 1000000
    · have hi' := pk_isD h.2.1
      rw [numL_go L n i h] at hs ⊢
      have hb := numL_bd (L.drop (i + 1)) (10 * n + (pk L i - 48)) (i + 1) h.2.2
      have e := hs.below i (by omega)
      rw [numL_go M n i (by rw [e]; exact h), e]
      exact ih _ _ (by omega) hi' hs
    · rw [numL_stop L n i h] at hs ⊢
      refine numL_stop M n i fun h2 => ?_
      rcases hs.at' with e | e
      · simp only at e
        rw [e] at h2
        exact h h2
      · simp only at e
        rw [e] at h2
        exact absurd h2.2.1 (by decide)
theorem natL_loc {L M : List UInt8} {j : Nat} (h : isD (pk L j) = true) (hs : Sim (natL L j).2 L M) : natL M j = natL L j := by
  have hj := pk_isD h
  have hb := natL_bd L j h
  unfold natL at hs hb ⊢
  rw [hs.below j (by omega)]
  exact numL_loc L M L.length _ (j + 1) (by omega) hj hs
theorem intL_loc : Loc intL := by
  intro L M i hi hs
  have hbd := intL_bd L i hi
  unfold intL at hs hbd ⊢
  by_cases h45 : pk L i = 45
  · rw [if_pos h45] at hs hbd ⊢
    have hi' := pk_ne L i (by rw [h45]; decide)
    by_cases hd : isD (pk L (i + 1)) = false ∨ pk L (i + 1) = 48
    · rw [if_pos hd] at hs ⊢
      rw [if_pos ((hs.below i (Nat.lt_succ_self _)).trans h45), if_pos]
      rcases hs.at' with e | e
      · simp only [PR.fin] at e
        rw [e]; exact hd
      · simp only [PR.fin] at e
        rw [e]; exact .inl rfl
    · rw [if_neg hd] at hs ⊢
      have hdt : isD (pk L (i + 1)) = true := by
        cases h : isD (pk L (i + 1)) with
        | true => rfl
        | false => exact absurd (.inl h) hd
      have hb := natL_bd L (i + 1) hdt
      simp only [PR.fin] at hs
      rw [if_pos ((hs.below i (by omega)).trans h45), hs.below (i + 1) (by omega), if_neg hd, natL_loc hdt hs]
  · rw [if_neg h45] at hs hbd ⊢
    by_cases hd : isD (pk L i) = false
    · rw [if_pos hd] at hs ⊢
      simp only [PR.fin] at hs
      rw [if_neg (hs.no (j := i) (Nat.le_refl _) h45 (by decide)), if_pos (hs.digit (j := i) (Nat.le_refl _) hd)]
    · rw [if_neg hd] at hs ⊢
      simp only [PR.fin] at hs
      have hdt : isD (pk L i) = true := by simpa using hd
      have hb := natL_bd L i hdt
      rw [hs.below i (by omega), if_neg h45, if_neg hd, natL_loc hdt hs]

theorem qrun_zero (least most : Nat) (any : Bool) (st : QSt) (C : List UInt8) (M : List UInt8) (i : Nat) (h : pk M i = 0) : qrun least most any st C (M.drop i) i = .bad i := by
  rcases Nat.lt_or_ge i M.length with hi | hi
  · obtain ⟨c, h1, h2⟩ := pk_drop M i hi
    rw [h1, qrun_go _ _ _ _ _ _ _ _ (by rw [h2, h]; simp), h2, h]
    cases st <;> simp [qstep, hexv]
  · rw [List.drop_eq_nil_of_le hi, qrun_nil]
theorem qstep_zero (most : Nat) (any : Bool) (C : List UInt8) (st : QSt) : qstep most any C 0 st = none := by cases st <;> simp [qstep, hexv]
theorem qrun_loc (least most : Nat) (any : Bool) (L M : List UInt8) : ∀ (g : Nat) (st : QSt) (C : List UInt8) (i : Nat), L.length ≤ i + g → i ≤ L.length → Sim (qrun least most any st C (L.drop i) i).fin L M →
    qrun least most any st C (M.drop i) i = qrun least most any st C (L.drop i) i := by
  intro g
  induction g with
  | zero =>
    intro st C i hg hi hs
    have e : pk L i = 0 := pk_out L i (by omega)
    rw [qrun_zero _ _ _ _ _ L i e] at hs ⊢
    refine qrun_zero _ _ _ _ _ M i ?_
    rcases hs.at' with h | h
    · exact h.trans e
    · exact h
  | succ g ih =>
    intro st C i hg hi hs
    rcases Nat.lt_or_ge i L.length with hl | hl
    · obtain ⟨c, h1, h2⟩ := pk_drop L i hl
      by_cases hend : st.isWhole = true ∧ c.toNat = 34 ∧ least ≤ C.length
      · have e1 : qrun least most any st C (L.drop i) i = .ok C (i + 1) := by rw [h1, qrun, if_pos hend]
        rw [e1] at hs ⊢
        have e := hs.below i (Nat.lt_succ_self _)
        have hm : i < M.length := pk_ne M i (by rw [e, ← h2, hend.2.1]; decide)
        obtain ⟨d, k1, k2⟩ := pk_drop M i hm
        rw [k1, qrun, if_pos ⟨hend.1, by rw [k2, e, ← h2]; exact hend.2.1, hend.2.2⟩]
      · cases hq : qstep most any C c.toNat st with
        | none =>
          have e1 : qrun least most any st C (L.drop i) i = .bad i := by rw [h1, qrun_go _ _ _ _ _ _ _ _ hend, hq]
          rw [e1] at hs ⊢
          rcases hs.at' with e | e
          · simp only [PR.fin] at e
            rcases Nat.lt_or_ge i M.length with hm | hm
            · obtain ⟨d, k1, k2⟩ := pk_drop M i hm
              have hdc : d.toNat = c.toNat := by rw [k2, e, h2]
              rw [k1, qrun_go _ _ _ _ _ _ _ _ (by rw [hdc]; exact hend), hdc, hq]
            · rw [List.drop_eq_nil_of_le hm, qrun_nil]
          · exact qrun_zero _ _ _ _ _ M i e
        | some p =>
          obtain ⟨st', C'⟩ := p
          have e1 : qrun least most any st C (L.drop i) i = qrun least most any st' C' (L.drop (i + 1)) (i + 1) := by rw [h1, qrun_go _ _ _ _ _ _ _ _ hend, hq]
          rw [e1] at hs ⊢
          have hb := qrun_bd least most any (L.drop (i + 1)) st' C' (i + 1)
          have e := hs.below i (by omega)
          have hc0 : pk M i ≠ 0 := by
            rw [e, ← h2]
            intro h
            rw [h, qstep_zero] at hq
            cases hq
          obtain ⟨d, k1, k2⟩ := pk_drop M i (pk_ne M i hc0)
          have hdc : d.toNat = c.toNat := by rw [k2, e, h2]
          rw [k1, qrun_go _ _ _ _ _ _ _ _ (by rw [hdc]; exact hend), hdc, hq]
          exact ih st' C' (i + 1) (by omega) hl hs
    · have e : pk L i = 0 := pk_out L i hl
      rw [qrun_zero _ _ _ _ _ L i e] at hs ⊢
      refine qrun_zero _ _ _ _ _ M i ?_
      rcases hs.at' with h | h
      · exact h.trans e
      · exact h
theorem qL_at (least most : Nat) (any : Bool) (L : List UInt8) (i : Nat) : qL least most any L i = if pk L i = 34 then qrun least most any .whole [] (L.drop (i + 1)) (i + 1) else .bad i := by
  unfold qL
  rcases Nat.lt_or_ge i L.length with hl | hl
  · obtain ⟨c, h1, h2⟩ := pk_drop L i hl
    rw [h1]
    simp only [h2]
  · rw [List.drop_eq_nil_of_le hl, pk_out L i hl, if_neg (by decide)]
theorem qL_loc (least most : Nat) (any : Bool) : Loc (qL least most any) := by
  intro L M i hi hs
  rw [qL_at] at hs ⊢
  rw [qL_at]
  by_cases h : pk L i = 34
  · rw [if_pos h] at hs ⊢
    have hl := pos_of_pk h (by decide)
    have hb := qrun_bd least most any (L.drop (i + 1)) .whole [] (i + 1)
    rw [if_pos ((hs.below i (by omega)).trans h)]
    exact qrun_loc least most any L M L.length _ _ (i + 1) (by omega) hl hs
  · rw [if_neg h] at hs ⊢
    rw [if_neg (hs.no (j := i) (Nat.le_refl _) h (by decide))]
theorem qL_ins (least most : Nat) (any : Bool) : Ins (qL least most any) := fun L i h => qL_bd least most any L i h
theorem textL_loc : Loc textL := bind_loc (Q := fun C _ j => .ok (V.mk 3 0 (str C) []) j) (qL_loc 0 64 false) (qL_ins _ _ _) (fun _ _ _ _ _ _ => rfl) fun _ _ _ h => ⟨Nat.le_refl _, h⟩
theorem patL_loc : Loc patL := bind_loc (Q := fun C _ j => .ok (V.mk 8 0 (str C) []) j) (qL_loc 1 40 false) (qL_ins _ _ _) (fun _ _ _ _ _ _ => rfl) fun _ _ _ h => ⟨Nat.le_refl _, h⟩
theorem sepL_loc (acc : List V) : Loc (sepL acc) := by
  intro L M i hi hs
  unfold sepL at *
  by_cases h : acc = []
  · rw [if_pos h, if_pos h]
  · rw [if_neg h] at hs ⊢
    rw [if_neg h]
    exact wordL_loc _ (by simp) L M i hi hs
theorem sepL_ins (acc : List V) : Ins (sepL acc) := fun L i h => sepL_bd acc L i h
theorem itemsL_loc (el : List UInt8 → List V → Nat → PR V) (close least : Nat) (hc : close ≠ 0) (hel : ∀ acc, Loc fun L j => el L acc j) (hI : ∀ acc, Ins fun L j => el L acc j) :
    ∀ (k : Nat) (acc : List V), Loc fun L i => itemsL (el L) close least L k acc i := by
  intro k
  induction k with
  | zero =>
    intro acc L M i hi hs
    simp only [itemsL] at hs ⊢
    by_cases h : pk L i = close ∧ least ≤ acc.length
    · rw [if_pos h] at hs ⊢
      rw [if_pos ⟨(hs.below i (Nat.lt_succ_self _)).trans h.1, h.2⟩]
    · rw [if_neg h] at hs ⊢
      rw [if_neg]
      rintro ⟨h1, h2⟩
      exact hs.no (j := i) (Nat.le_refl _) (fun e => h ⟨e, h2⟩) hc h1
  | succ k ih =>
    intro acc L M i hi hs
    simp only [itemsL] at hs ⊢
    by_cases h : pk L i = close ∧ least ≤ acc.length
    · rw [if_pos h] at hs ⊢
      rw [if_pos ⟨(hs.below i (Nat.lt_succ_self _)).trans h.1, h.2⟩]
    · rw [if_neg h] at hs ⊢
      have hin : ∀ (k : Nat) (acc : List V), Ins fun L i => itemsL (el L) close least L k acc i := fun k acc L i hi => itemsL_bd (el L) close least L hc (fun acc j hj => hI acc L j hj) k acc i hi
      have key := bind_loc (P := sepL acc) (Q := fun _ L j => (el L acc j).bind fun v m => itemsL (el L) close least L k (acc ++ [v]) m) (sepL_loc acc) (sepL_ins acc)
        (fun _ => bind_loc (Q := fun v L m => itemsL (el L) close least L k (acc ++ [v]) m) (hel acc) (hI acc) (fun v => ih (acc ++ [v])) fun v => hin k (acc ++ [v]))
        (fun _ L j hj => PR.In.bind (hI acc L j hj) fun v m _ _ h4 => hin k (acc ++ [v]) L m h4)
      have hge : i ≤ ((sepL acc L i).bind fun _ j => (el L acc j).bind fun v m => itemsL (el L) close least L k (acc ++ [v]) m).fin :=
        (PR.In.bind (sepL_bd acc L i hi) fun _ j _ _ h2 => PR.In.bind (hI acc L j h2) fun v m _ _ h4 => hin k (acc ++ [v]) L m h4).1
      rw [if_neg]
      · exact key L M i hi hs
      · rintro ⟨h1, h2⟩
        exact hs.no hge (fun e => h ⟨e, h2⟩) hc h1
theorem textsL_loc (least most : Nat) : Loc (textsL least most) := by
  intro L M i hi hs
  unfold textsL at hs ⊢
  by_cases h : pk L i = 123
  · rw [if_pos h] at hs ⊢
    have hl := pos_of_pk h (by decide)
    have hI : Ins fun L i => itemsL (fun _ j => textL L j) 125 least L most [] i := fun L i h => itemsL_bd _ 125 least L (by decide) (fun _ j hj => textL_bd L j hj) most [] i h
    have key := bind_loc (P := fun L i => itemsL (fun _ j => textL L j) 125 least L most [] i) (Q := fun l _ j => .ok (V.mk 6 0 ⟨#[]⟩ l) j)
      (itemsL_loc (fun L _ j => textL L j) 125 least (by decide) (fun _ => textL_loc) (fun _ L j hj => textL_bd L j hj) most []) hI (fun _ _ _ _ _ _ => rfl) (fun _ _ _ h => ⟨Nat.le_refl _, h⟩)
    have hge : i + 1 ≤ ((itemsL (fun _ j => textL L j) 125 least L most [] (i + 1)).bind fun l j => PR.ok (V.mk 6 0 ⟨#[]⟩ l) j).fin := (PR.In.bind (f := fun l j => PR.ok (V.mk 6 0 ⟨#[]⟩ l) j) (hI L (i + 1) hl) fun _ _ _ _ h2 => .ret (Nat.le_refl _) h2).1
    rw [if_pos ((hs.below i (by omega)).trans h)]
    exact key L M (i + 1) hl hs
  · rw [if_neg h] at hs ⊢
    rw [if_neg (hs.no (j := i) (Nat.le_refl _) h (by decide))]
theorem intsL_loc (L M : List UInt8) (i : Nat) (hl : i < L.length) (hs : Sim (intsL L i).fin L M) : intsL M i = intsL L i := by
  have hI : Ins fun L i => itemsL (fun _ j => intL L j) 93 0 L 16 [] i := fun L i h => itemsL_bd _ 93 0 L (by decide) (fun _ j hj => intL_bd L j hj) 16 [] i h
  exact bind_loc (P := fun L i => itemsL (fun _ j => intL L j) 93 0 L 16 [] i) (Q := fun l _ j => .ok (V.mk 5 0 ⟨#[]⟩ l) j)
      (itemsL_loc (fun L _ j => intL L j) 93 0 (by decide) (fun _ => intL_loc) (fun _ L j hj => intL_bd L j hj) 16 []) hI (fun _ _ _ _ _ _ => rfl) (fun _ _ _ h => ⟨Nat.le_refl _, h⟩) L M (i + 1) hl hs
theorem tableL_loc (L M : List UInt8) (i : Nat) (hl : i < L.length) (hs : Sim (tableL L i).fin L M) : tableL M i = tableL L i := by
  have hI : Ins fun L i => itemsL (rowL L) 62 0 L 8 [] i := fun L i h => itemsL_bd _ 62 0 L (by decide) (fun _ j hj => textsL_bd _ _ L j hj) 8 [] i h
  exact bind_loc (P := fun L i => itemsL (rowL L) 62 0 L 8 [] i) (Q := fun l _ j => .ok (V.mk 7 0 ⟨#[]⟩ l) j)
      (itemsL_loc rowL 62 0 (by decide) (fun acc => textsL_loc (loC acc) (hiC acc)) (fun acc L j hj => textsL_bd _ _ L j hj) 8 []) hI (fun _ _ _ _ _ _ => rfl) (fun _ _ _ h => ⟨Nat.le_refl _, h⟩) L M (i + 1) hl hs
theorem bitsL_loc (L M : List UInt8) (i : Nat) (hl : i + 1 < L.length) (hs : Sim (bitsL L i).fin L M) : bitsL M i = bitsL L i := by
  have hb := bitsL_bd L i hl
  unfold bitsL at hs ⊢
  cases h1 : hexv (pk L (i + 2)) with
  | none =>
    simp only [h1, PR.fin] at hs
    simp only [hs.hexd (Nat.le_refl _) h1]
  | some h =>
    simp only [h1] at hs
    cases h2 : hexv (pk L (i + 3)) with
    | none =>
      simp only [h2, PR.fin] at hs
      simp only [hs.below (i + 2) (by omega), h1, hs.hexd (Nat.le_refl _) h2]
    | some l =>
      simp only [h2, PR.fin] at hs
      simp only [hs.below (i + 2) (by omega), h1, hs.below (i + 3) (by omega), h2]
theorem boolL_loc (w : List UInt8) (n : Int) (hw : ∀ c, c ∈ w → c ≠ 0) : Loc (boolL w n) := bind_loc (Q := fun _ _ j => .ok (V.mk 1 n ⟨#[]⟩ []) j) (wordL_loc w hw) (wordL_ins w hw) (fun _ _ _ _ _ _ => rfl) fun _ _ _ h => ⟨Nat.le_refl _, h⟩
theorem wTrue_gt (L : List UInt8) (i : Nat) (h : pk L i = 116) : i < (boolL wTrue 1 L i).fin := by
  have hl := pos_of_pk h (by decide)
  have := wordL_bd [114, 117, 101] L (i + 1) hl (by decide)
  unfold boolL wTrue
  rw [wordL, if_pos (show pk L i = UInt8.toNat 116 from h)]
  cases hx : wordL [114, 117, 101] L (i + 1) with
  | bad j => rw [hx] at this; exact this.1
  | ok v j => rw [hx] at this; exact this.1
theorem wFalse_gt (L : List UInt8) (i : Nat) (h : pk L i = 102) : i < (boolL wFalse 0 L i).fin := by
  have hl := pos_of_pk h (by decide)
  have := wordL_bd [97, 108, 115, 101] L (i + 1) hl (by decide)
  unfold boolL wFalse
  rw [wordL, if_pos (show pk L i = UInt8.toNat 102 from h)]
  cases hx : wordL [97, 108, 115, 101] L (i + 1) with
  | bad j => rw [hx] at this; exact this.1
  | ok v j => rw [hx] at this; exact this.1
theorem textL_gt (L : List UInt8) (i : Nat) (h : pk L i = 34) : i < (textL L i).fin := by
  have hb := qrun_bd 0 64 false (L.drop (i + 1)) .whole [] (i + 1)
  unfold textL
  rw [qL_at, if_pos h]
  cases hx : qrun 0 64 false .whole [] (L.drop (i + 1)) (i + 1) with
  | bad j => rw [hx] at hb; exact hb.1
  | ok v j => rw [hx] at hb; exact hb.1
theorem bindok_fin {α β : Type} (x : PR α) (f : α → β) : (x.bind fun v j => PR.ok (f v) j).fin = x.fin := by cases x <;> rfl
theorem textsL_gt (least most : Nat) (L : List UInt8) (i : Nat) (h : pk L i = 123) : i < (textsL least most L i).fin := by
  have hl := pos_of_pk h (by decide)
  unfold textsL
  rw [if_pos h, bindok_fin]
  exact (itemsL_bd _ 125 least L (by decide) (fun _ j hj => textL_bd L j hj) most [] (i + 1) hl).1
theorem intsL_gt (L : List UInt8) (i : Nat) (hl : i < L.length) : i < (intsL L i).fin := by
  unfold intsL
  rw [bindok_fin]
  exact (itemsL_bd _ 93 0 L (by decide) (fun _ j hj => intL_bd L j hj) 16 [] (i + 1) hl).1
theorem tableL_gt (L : List UInt8) (i : Nat) (hl : i < L.length) : i < (tableL L i).fin := by
  unfold tableL
  rw [bindok_fin]
  exact (itemsL_bd _ 62 0 L (by decide) (fun _ j hj => textsL_bd _ _ L j hj) 8 [] (i + 1) hl).1
theorem bitsL_gt (L : List UInt8) (i : Nat) : i + 1 < (bitsL L i).fin := by
  unfold bitsL
  split
  · simp [PR.fin]
  · split <;> simp only [PR.fin] <;> omega
/-- A literal is local. -/
theorem oneL_loc : Loc oneL := by
  intro L M i hi hs
  have no : ∀ c, pk L i ≠ c → c ≠ 0 → pk M i ≠ c := fun c h hc => hs.no (oneL_bd L i hi).1 h hc
  unfold oneL at hs ⊢
  by_cases h1 : pk L i = 116
  · rw [if_pos h1] at hs ⊢
    have e := hs.below i (wTrue_gt L i h1)
    rw [if_pos (e.trans h1)]
    exact boolL_loc _ _ (by decide) L M i hi hs
  rw [if_neg h1] at hs ⊢
  rw [if_neg (no _ h1 (by decide))]
  by_cases h2 : pk L i = 102
  · rw [if_pos h2] at hs ⊢
    have e := hs.below i (wFalse_gt L i h2)
    rw [if_pos (e.trans h2)]
    exact boolL_loc _ _ (by decide) L M i hi hs
  rw [if_neg h2] at hs ⊢
  rw [if_neg (no _ h2 (by decide))]
  by_cases h3 : pk L i = 34
  · rw [if_pos h3] at hs ⊢
    have e := hs.below i (textL_gt L i h3)
    rw [if_pos (e.trans h3)]
    exact textL_loc L M i hi hs
  rw [if_neg h3] at hs ⊢
  rw [if_neg (no _ h3 (by decide))]
  by_cases h4 : pk L i = 114
  · rw [if_pos h4] at hs ⊢
    have hl := pos_of_pk h4 (by decide)
    have e := hs.below i (Nat.lt_of_lt_of_le (Nat.lt_succ_self _) (patL_bd L (i + 1) hl).1)
    rw [if_pos (e.trans h4)]
    exact patL_loc L M (i + 1) hl hs
  rw [if_neg h4] at hs ⊢
  rw [if_neg (no _ h4 (by decide))]
  by_cases h5 : pk L i = 91
  · rw [if_pos h5] at hs ⊢
    have hl := pos_of_pk h5 (by decide)
    have e := hs.below i (intsL_gt L i hl)
    rw [if_pos (e.trans h5)]
    exact intsL_loc L M i hl hs
  rw [if_neg h5] at hs ⊢
  rw [if_neg (no _ h5 (by decide))]
  by_cases h6 : pk L i = 123
  · rw [if_pos h6] at hs ⊢
    have e := hs.below i (textsL_gt _ _ L i h6)
    rw [if_pos (e.trans h6)]
    exact textsL_loc _ _ L M i hi hs
  rw [if_neg h6] at hs ⊢
  rw [if_neg (no _ h6 (by decide))]
  by_cases h7 : pk L i = 60
  · rw [if_pos h7] at hs ⊢
    have hl := pos_of_pk h7 (by decide)
    have e := hs.below i (tableL_gt L i hl)
    rw [if_pos (e.trans h7)]
    exact tableL_loc L M i hl hs
  rw [if_neg h7] at hs ⊢
  rw [if_neg (no _ h7 (by decide))]
  by_cases h8 : pk L i = 48 ∧ pk L (i + 1) = 120
  · rw [if_pos h8] at hs ⊢
    have hl := pos_of_pk h8.2 (by decide)
    have hg := bitsL_gt L i
    rw [if_pos ⟨(hs.below i (by omega)).trans h8.1, (hs.below (i + 1) hg).trans h8.2⟩]
    exact bitsL_loc L M i hl hs
  · rw [if_neg h8] at hs ⊢
    rw [if_neg]
    · exact intL_loc L M i hi hs
    · rintro ⟨k1, k2⟩
      by_cases h0 : pk L i = 48
      · have hin : intL L i = .ok (.mk 2 ((natL L i).1 : Int) ⟨#[]⟩ []) (natL L i).2 := by
          unfold intL
          rw [if_neg (by omega), if_neg (by rw [h0]; decide)]
        have hb := natL_bd L i (by rw [h0]; decide)
        rw [hin] at hs
        exact hs.no (show i + 1 ≤ _ from hb.2.1) (fun e => h8 ⟨h0, e⟩) (by decide) k2
      · exact no _ h0 (by decide) k1
/-- Parse is local: its end, and whether it is good, do not change when what stands behind the next byte is changed. -/
theorem oneL_take (L : List UInt8) (k : Nat) (h : (oneL L 0).fin ≤ k) : oneL (L.take k) 0 = oneL L 0 := oneL_loc L _ 0 (Nat.zero_le _) (Sim.take L _ k h)
theorem oneL_app (L x : List UInt8) (h : (oneL L 0).fin < L.length) : oneL (L ++ x) 0 = oneL L 0 := oneL_loc L _ 0 (Nat.zero_le _) (Sim.app L x _ h)
end Go.Proofs.YtmbmlcnipncgnaaGreatDoor
