/-
  What Words and Same say of the texts that are matched. With no program in it. Nothing is assumed.
-/
import Derived.Test.YtaipaddfehpmgaaDoorPaWords
import Derived.Test.YtaipaddfehpmgaaDoorPaSame
import Derived.Test.YtaipaddfehpmgaaDoorGlD
namespace Go.Proofs.YtaipaddfehpmgaaDoor

section
open Go.RowKit

section
variable {K : Type}

theorem nodup_sub [DecidableEq K] : ∀ (A F : List K), A.Nodup → (∀ x, x ∈ A → x ∈ F) → A.length ≤ F.length
  | [], F, _, _ => Nat.zero_le _
  | a :: A, F, hn, hs => by
    have h1 := List.nodup_cons.1 hn
    have ha := hs a (List.mem_cons_self ..)
    have h2 := nodup_sub A (F.erase a) h1.2 (fun x hx => (List.mem_erase_of_ne (fun e => h1.1 (by rw [← e]; exact hx))).2 (hs x (List.mem_cons_of_mem _ hx)))
    have h3 := List.length_erase_of_mem ha
    have h4 := List.length_pos_of_mem ha
    rw [h3] at h2
    rw [List.length_cons]
    omega
theorem addsE_spec [DecidableEq K] (r : List K) : ∀ (found : List K) (tt : List Nat), found.Nodup →
    (addsE found r tt).1.Nodup ∧ (∃ m, (addsE found r tt).1 = found ++ m) ∧ (∃ ks, (addsE found r tt).2 = tt ++ ks ∧ ks.length = r.length ∧ ∀ (j k : Nat), ks[j]? = some k → (addsE found r tt).1[k]? = r[j]?) ∧ ∀ x, x ∈ (addsE found r tt).1 → x ∈ found ∨ x ∈ r := by
  induction r with
  | nil =>
    intro found tt hn
    rw [addsE]
    exact ⟨hn, ⟨[], by simp⟩, ⟨[], by simp, rfl, fun j k h => by simp at h⟩, fun x hx => .inl hx⟩
  | cons y r ih =>
    intro found tt hn
    cases h : idxL found y with
    | some k0 =>
      rw [addsE_some h]
      obtain ⟨h1, ⟨m, h2⟩, ⟨ks, h3, h4, h5⟩, h6⟩ := ih found (tt ++ [k0]) hn
      refine ⟨h1, ⟨m, h2⟩, ⟨k0 :: ks, by rw [h3]; simp, by simp [h4], fun j k hj => ?_⟩, fun x hx => ?_⟩
      · cases j with
        | zero =>
          simp at hj
          subst hj
          have h7 := idxL_some h
          have h8 := idxL_lt h
          rw [h2, List.getElem?_append_left h8, h7]
          rfl
        | succ j => exact h5 j k (by simpa using hj)
      · rcases h6 x hx with h7 | h7
        · exact .inl h7
        · exact .inr (List.mem_cons_of_mem _ h7)
    | none =>
      rw [addsE_none h]
      have hy := idxL_none h
      have hn2 : (found ++ [y]).Nodup := by
        rw [List.nodup_append]
        refine ⟨hn, by simp, fun a ha b hb => ?_⟩
        rw [List.mem_singleton] at hb
        subst hb
        exact fun e => hy (by rw [← e]; exact ha)
      obtain ⟨h1, ⟨m, h2⟩, ⟨ks, h3, h4, h5⟩, h6⟩ := ih (found ++ [y]) (tt ++ [found.length]) hn2
      refine ⟨h1, ⟨[y] ++ m, by rw [h2]; simp⟩, ⟨found.length :: ks, by rw [h3]; simp, by simp [h4], fun j k hj => ?_⟩, fun x hx => ?_⟩
      · cases j with
        | zero =>
          simp at hj
          subst hj
          rw [h2]
          simp
        | succ j => exact h5 j k (by simpa using hj)
      · rcases h6 x hx with h7 | h7
        · rcases List.mem_append.1 h7 with h7 | h7
          · exact .inl h7
          · exact .inr (by rw [List.mem_singleton.1 h7]; exact List.mem_cons_self ..)
        · exact .inr (List.mem_cons_of_mem _ h7)
/-- What a search from s has found: no state twice, each step of a state that is done leads tt what has been found. -/
structure ExG (next : K → List K) (s : K) (F : List K) (E : List (List Nat)) : Prop where
  nd : F.Nodup
  hd : F[0]? = some s
  le : E.length ≤ F.length
  ed : ∀ (i : Nat) x, i < E.length → F[i]? = some x → ∃ tt, E[i]? = some tt ∧ tt.length = (next x).length ∧ ∀ (j k : Nat), tt[j]? = some k → F[k]? = (next x)[j]?
  rc : ∀ P : K → Prop, P s → (∀ x, P x → ∀ y, y ∈ next x → P y) → ∀ x, x ∈ F → P x
theorem ExG.start (next : K → List K) (s : K) : ExG next s [s] [] := ⟨by simp, rfl, by simp, fun i x h => by simp at h, fun P h _ x hx => by rw [List.mem_singleton.1 hx]; exact h⟩
theorem ExG.step [DecidableEq K] {next : K → List K} {s : K} {F : List K} {E : List (List Nat)} (h : ExG next s F E) {x : K} (hx : F[E.length]? = some x) :
    ExG next s (addsE F (next x) []).1 (E ++ [(addsE F (next x) []).2]) := by
  obtain ⟨h1, ⟨m, h2⟩, ⟨ks, h3, h4, h5⟩, h6⟩ := addsE_spec (next x) F [] h.nd
  rw [List.nil_append] at h3
  have hxl := (List.getElem?_eq_some_iff.1 hx).1
  refine ⟨h1, ?_, ?_, ?_, ?_⟩
  · rw [h2, List.getElem?_append_left (by omega)]
    exact h.hd
  · rw [h2, List.length_append, List.length_append, List.length_singleton]
    omega
  · intro i y hi hy
    rw [List.length_append, List.length_singleton] at hi
    by_cases hE : i < E.length
    · have hFi : i < F.length := Nat.lt_of_lt_of_le hE h.le
      rw [h2, List.getElem?_append_left hFi] at hy
      obtain ⟨tt, e1, e2, e3⟩ := h.ed i y hE hy
      refine ⟨tt, by rw [List.getElem?_append_left hE]; exact e1, e2, fun j k hj => ?_⟩
      have hj2 := (List.getElem?_eq_some_iff.1 hj).1
      have hs := e3 j k hj
      obtain ⟨z, hz⟩ : ∃ z, (next y)[j]? = some z := ⟨_, List.getElem?_eq_getElem (by omega)⟩
      rw [hz] at hs ⊢
      rw [h2, List.getElem?_append_left (List.getElem?_eq_some_iff.1 hs).1]
      exact hs
    · obtain rfl : i = E.length := by omega
      rw [h2, List.getElem?_append_left hxl, hx] at hy
      cases hy
      exact ⟨ks, by rw [h3]; simp, h4, h5⟩
  · intro P hP hc y hy
    rcases h6 y hy with h7 | h7
    · exact h.rc P hP hc y h7
    · exact hc x (h.rc P hP hc x (List.mem_of_getElem? hx)) y h7
theorem exL_some [DecidableEq K] {next : K → List K} {s : K} : ∀ (g : Nat) (F : List K) (E : List (List Nat)) (F' : List K) (E' : List (List Nat)), ExG next s F E → F.length ≤ 4096 → exL next g F E = some (F', E') → ExG next s F' E' ∧ F'.length ≤ 4096 ∧ E'.length = F'.length
  | 0, _, _, _, _, _, _, h => by cases h
  | g + 1, F, E, F', E', hG, hl, h => by
    rw [exL] at h
    cases hx : F[E.length]? with
    | none =>
      rw [hx] at h
      cases h
      have := List.getElem?_eq_none_iff.1 hx
      have := hG.le
      exact ⟨hG, hl, by omega⟩
    | some x =>
      rw [hx] at h
      dsimp only at h
      split at h
      · cases h
      · rename_i hm
        exact exL_some g _ _ F' E' (hG.step hx) (by omega) h
theorem exL_over [DecidableEq K] {next : K → List K} {s : K} : ∀ (g : Nat) (F : List K) (E : List (List Nat)), ExG next s F E → F.length ≤ 4096 → 4098 ≤ E.length + g → exL next g F E = none → ∃ F' E', ExG next s F' E' ∧ 4096 < F'.length
  | 0, F, E, hG, hl, hg, _ => by
    have := hG.le
    omega
  | g + 1, F, E, hG, hl, hg, h => by
    rw [exL] at h
    cases hx : F[E.length]? with
    | none => rw [hx] at h; cases h
    | some x =>
      rw [hx] at h
      dsimp only at h
      split at h
      · rename_i hm
        exact ⟨_, _, hG.step hx, hm⟩
      · rename_i hm
        exact exL_over g _ _ (hG.step hx) (by omega) (by rw [List.length_append, List.length_singleton]; omega) h
/-- Whole: the search has ended. -/
structure Whole (next : K → List K) (s : K) (F : List K) (E : List (List Nat)) : Prop where
  g : ExG next s F E
  lm : F.length ≤ 4096
  el : E.length = F.length
theorem search [DecidableEq K] {next : K → List K} (s : K) : (exL next 4098 [s] [] = none ∧ ∃ F E, ExG next s F E ∧ 4096 < F.length) ∨ ∃ F E, exL next 4098 [s] [] = some (F, E) ∧ Whole next s F E := by
  cases h : exL next 4098 [s] [] with
  | none => exact .inl ⟨rfl, exL_over 4098 [s] [] (ExG.start next s) (by simp) (by simp) h⟩
  | some FE =>
    obtain ⟨F, E⟩ := FE
    obtain ⟨h1, h2, h3⟩ := exL_some 4098 [s] [] F E (ExG.start next s) (by simp) h
    exact .inr ⟨F, E, rfl, h1, h2, h3⟩
theorem Whole.closed {next : K → List K} {s : K} {F : List K} {E : List (List Nat)} (h : Whole next s F E) {x y : K} (hx : x ∈ F) (hy : y ∈ next x) : y ∈ F := by
  obtain ⟨i, hi⟩ := List.mem_iff_getElem?.1 hx
  have hil := (List.getElem?_eq_some_iff.1 hi).1
  obtain ⟨tt, e1, e2, e3⟩ := h.g.ed i x (by rw [h.el]; exact hil) hi
  obtain ⟨j, hj⟩ := List.mem_iff_getElem?.1 hy
  have hjl := (List.getElem?_eq_some_iff.1 hj).1
  obtain ⟨k, hk⟩ : ∃ k, tt[j]? = some k := ⟨_, List.getElem?_eq_getElem (by omega)⟩
  have := e3 j k hk
  rw [hj] at this
  exact List.mem_of_getElem? this
theorem Whole.start {next : K → List K} {s : K} {F : List K} {E : List (List Nat)} (h : Whole next s F E) : s ∈ F := List.mem_of_getElem? h.g.hd

/-- How many texts of a length lead from a state tt one that accepts; no more than the greatest number and one. -/
def cntG (next : K → List K) (acc : K → Bool) : Nat → K → Int
  | 0, x => if acc x = true then 1 else 0
  | n + 1, x => (next x).foldl (fun s y => capA (s + cntG next acc n y)) 0
theorem sum_fold {C : List Int} (f : K → Int) : ∀ (tt : List Nat) (r : List K) (s : Int), tt.length = r.length → (∀ (j k : Nat) y, tt[j]? = some k → r[j]? = some y → C[k]? = some (f y)) → sumL C tt s = r.foldl (fun s y => capA (s + f y)) s
  | [], [], s, _, _ => rfl
  | [], _ :: _, _, h, _ => by simp at h
  | _ :: _, [], _, h, _ => by simp at h
  | k :: tt, y :: r, s, h, hc => by
    have h0 := hc 0 k y rfl rfl
    rw [sumL, h0, List.foldl_cons]
    exact sum_fold f tt r _ (by simpa using h) (fun j k y h1 h2 => hc (j + 1) k y (by simpa using h1) (by simpa using h2))
theorem Whole.count {next : K → List K} {s : K} {F : List K} {E : List (List Nat)} (h : Whole next s F E) (acc : K → Bool) {C : List Int} (hC : ∀ (i : Nat) x, F[i]? = some x → C[i]? = some (if acc x = true then 1 else 0)) : ∀ (n i : Nat) x, F[i]? = some x → (iterL E C n)[i]? = some (cntG next acc n x)
  | 0, i, x, hi => hC i x hi
  | n + 1, i, x, hi => by
    have hil := (List.getElem?_eq_some_iff.1 hi).1
    obtain ⟨tt, e1, e2, e3⟩ := h.g.ed i x (by rw [h.el]; exact hil) hi
    rw [iterL]
    unfold longL
    rw [List.getElem?_map, e1, cntG]
    exact congrArg some (sum_fold (cntG next acc n) tt (next x) 0 e2 (fun j k y h1 h2 => by
      have h3 := e3 j k h1
      rw [h2] at h3
      exact h.count acc hC n k y h3))
theorem cap_ge {f : K → Int} (hf : ∀ y, 0 ≤ f y) : ∀ (r : List K) (s : Int), 0 ≤ s → 0 ≤ r.foldl (fun s y => capA (s + f y)) s ∧ (1 ≤ s → 1 ≤ r.foldl (fun s y => capA (s + f y)) s) ∧ ∀ y, y ∈ r → 1 ≤ f y → 1 ≤ r.foldl (fun s y => capA (s + f y)) s
  | [], s, h => ⟨h, id, fun y hy => by cases hy⟩
  | a :: r, s, h => by
    have h0 := hf a
    have h1 : 0 ≤ capA (s + f a) := by unfold capA; omega
    obtain ⟨k1, k2, k3⟩ := cap_ge hf r (capA (s + f a)) h1
    rw [List.foldl_cons]
    refine ⟨k1, fun hs => k2 (by unfold capA; omega), fun y hy h2 => ?_⟩
    rcases List.mem_cons.1 hy with rfl | hy
    · exact k2 (by unfold capA; omega)
    · exact k3 y hy h2
theorem cnt_nonneg (next : K → List K) (acc : K → Bool) : ∀ (n : Nat) (x : K), 0 ≤ cntG next acc n x
  | 0, x => by rw [cntG]; split <;> decide
  | n + 1, x => by
    rw [cntG]
    exact (cap_ge (cnt_nonneg next acc n) (next x) 0 (Int.le_refl _)).1
theorem cnt_pos (next : K → List K) (acc : K → Bool) {n : Nat} {x y : K} (hy : y ∈ next x) (h : 1 ≤ cntG next acc n y) : 1 ≤ cntG next acc (n + 1) x := by
  rw [cntG]
  exact (cap_ge (cnt_nonneg next acc n) (next x) 0 (Int.le_refl _)).2.2 y hy h
/-- Each sum is at most as long as the list, where no summand is greater than one. -/
theorem cap_le {f : K → Int} (hf : ∀ y, 0 ≤ f y ∧ f y ≤ 1) : ∀ (r : List K) (s : Int), r.foldl (fun s y => capA (s + f y)) s ≤ s + r.length
  | [], s => by simp
  | a :: r, s => by
    have h0 := hf a
    have h1 := cap_le hf r (capA (s + f a))
    rw [List.foldl_cons, List.length_cons]
    unfold capA at h1 ⊢
    omega
end
/-- Two machines in step: what is told of all pairs holds of the numbers. -/
theorem cnt_pair {next next' : Int → List Int} {acc acc' : Int → Bool} (hl : ∀ x y, (next x).length = (next' y).length) {F : List (Int × Int)} (hc : ∀ x y, (x, y) ∈ F → ∀ z, z ∈ List.zip (next x) (next' y) → z ∈ F) (ha : ∀ x y, (x, y) ∈ F → acc x = acc' y) : ∀ (n : Nat) x y, (x, y) ∈ F → cntG next acc n x = cntG next' acc' n y
  | 0, x, y, h => by rw [cntG, cntG, ha x y h]
  | n + 1, x, y, h => by
    rw [cntG, cntG]
    have key : ∀ (r r' : List Int) (s : Int), r.length = r'.length → (∀ z, z ∈ List.zip r r' → z ∈ F) → r.foldl (fun s y => capA (s + cntG next acc n y)) s = r'.foldl (fun s y => capA (s + cntG next' acc' n y)) s := by
      intro r
      induction r with
      | nil => intro r' s h1 _; cases r' with
        | nil => rfl
        | cons _ _ => simp at h1
      | cons a r ih =>
        intro r' s h1 h2
        cases r' with
        | nil => simp at h1
        | cons b r' =>
          rw [List.foldl_cons, List.foldl_cons, cnt_pair hl hc ha n a b (h2 (a, b) (by simp))]
          exact ih r' _ (by simpa using h1) (fun z hz => h2 z (by rw [List.zip_cons_cons]; exact List.mem_cons_of_mem _ hz))
    exact key _ _ 0 (hl x y) (hc x y h)
end

section
open Go.RowKit

/-- A set of bytes of the alphabet. -/
def AlS (s : S4) : Prop := s.Ok ∧ ∀ d, d < 256 → s.has d = true → 32 ≤ d ∧ d ≤ 126
theorem AlS.zero : AlS S4.zero := ⟨S4.zero_ok, fun d _ h => by rw [has_zero] at h; cases h⟩
theorem AlS.add {s : S4} (h : AlS s) {c : Nat} (h1 : 32 ≤ c) (h2 : c ≤ 126) : AlS (s.add c) := ⟨S4.add_ok h.1 c, fun d hd hh => by
  rw [has_add h.1 (by omega) hd, Bool.or_eq_true, decide_eq_true_iff] at hh
  rcases hh with hh | hh
  · exact h.2 d hd hh
  · omega⟩
theorem AlS.adds : ∀ (n : Nat) (s : S4) (c : Nat), AlS s → 32 ≤ c → c + n ≤ 127 → AlS (addsL n s c)
  | 0, _, _, h, _, _ => h
  | n + 1, s, c, h, h1, h2 => by
    rw [addsL]
    exact AlS.adds n _ (c + 1) (h.add h1 (by omega)) (by omega) (by omega)
theorem AlS.alpha : AlS S4.alpha := ⟨alpha_ok, fun d hd h => by
  rw [has_alpha d hd, Bool.and_eq_true, decide_eq_true_iff, decide_eq_true_iff] at h
  exact h⟩
theorem AlS.without {s : S4} (h : s.Ok) : AlS (S4.alpha.without s) := ⟨without_ok _ _, fun d hd hh => by
  rw [has_without alpha_ok h d hd, Bool.and_eq_true] at hh
  exact AlS.alpha.2 d hd hh.1⟩
/-- Of a tree: all its sets. -/
def AlT (t : PT) : Prop := PT.rec (motive_1 := fun _ => Prop) (motive_2 := fun _ => Prop) (fun k s _ ih => (AlS s ∧ 1 ≤ k ∧ k ≤ 6) ∧ ih) True (fun _ _ a b => a ∧ b) t
theorem AlT.here {t : PT} (h : AlT t) : AlS t.s := by cases t; exact h.1.1
theorem AlT.kind {t : PT} (h : AlT t) : 1 ≤ t.k ∧ t.k ≤ 6 := by cases t; exact h.1.2
theorem AlT.mem {t x : PT} (h : AlT t) (hx : x ∈ t.l) : AlT x := by
  cases t with
  | mk k s l =>
    have h2 := h.2
    clear h
    induction l with
    | nil => cases hx
    | cons y l ih =>
      rcases List.mem_cons.1 hx with rfl | hx
      · exact h2.1
      · exact ih hx h2.2
theorem AlT.of {k : Int} {s : S4} {l : List PT} (hk : 1 ≤ k ∧ k ≤ 6) (hs : AlS s) (hl : ∀ x, x ∈ l → AlT x) : AlT (.mk k s l) := by
  refine ⟨⟨hs, hk⟩, ?_⟩
  induction l with
  | nil => trivial
  | cons x l ih => exact ⟨hl x (List.mem_cons_self ..), ih (fun y hy => hl y (List.mem_cons_of_mem _ hy))⟩
def Gd3 (L : List UInt8) (f : Nat → PR PT) : Prop := ∀ i, i ≤ L.length → ∀ t m, f i = .ok t m → AlT t ∧ t.lv + i ≤ m
theorem class_al {s : S4} (hs : AlS s) : AlT (classT s) ∧ (classT s).lv ≤ 1 := by
  unfold classT
  split
  · exact ⟨AlT.of (by decide) AlS.zero (fun _ h => by cases h), by rw [PT.lv, PT.lvs]; decide⟩
  · exact ⟨AlT.of (by decide) hs (fun _ h => by cases h), by rw [PT.lv, PT.lvs]; decide⟩
theorem item_al {L : List UInt8} {s : S4} (hs : AlS s) (i : Nat) (hi : i ≤ L.length) {s' : S4} {m : Nat} (h : itemL L s i = .ok s' m) : AlS s' := by
  unfold itemL at h
  have h1 := memL_fwd L 32 i hi
  cases hm : memL L 32 i with
  | bad q => rw [hm] at h; cases h
  | ok f q =>
    rw [hm] at h h1
    obtain ⟨k1, k2, k3⟩ := h1.2 f q rfl
    have hq := h1.1.2
    replace h : (if pk L q = 45 then (memL L f (q + 1)).bind fun l r => .ok (addsL (l + 1 - f) s f) r else .ok (addsL 1 s f) q : PR S4) = .ok s' m := h
    split at h
    · rename_i h45
      have h46 := pk_is h45 (by decide)
      have h2 := memL_fwd L f (q + 1) (by omega)
      cases hl : memL L f (q + 1) with
      | bad r => rw [hl] at h; cases h
      | ok l r =>
        rw [hl] at h h2
        obtain ⟨k4, k5, k6⟩ := h2.2 l r rfl
        cases h
        exact AlS.adds _ _ _ hs k2 (by omega)
    · cases h; exact AlS.adds _ _ _ hs k2 (by omega)
theorem set_al {L : List UInt8} : ∀ (g : Nat) (s : S4) (i : Nat), i ≤ L.length → AlS s → ∀ s' m, setL L g s i = .ok s' m → AlS s'
  | 0, _, _, _, _, _, _, h => by cases h
  | g + 1, s, i, hi, hs, s', m, h => by
    rw [setL] at h
    split at h
    · cases h; exact hs
    · have hf := itemL_fwd L s i hi
      cases hm : itemL L s i with
      | bad q => rw [hm] at h; cases h
      | ok s2 q =>
        rw [hm] at h hf
        exact set_al g s2 q hf.2 (item_al hs i hi hm) s' m h
theorem brack_al {L : List UInt8} {i : Nat} (hi : i < L.length) {t : PT} {m : Nat} (h : brackL L i = .ok t m) : AlT t ∧ t.lv + i ≤ m := by
  have hf := brackL_fwd L i hi
  rw [h] at hf
  have him : i < m := hf.1
  unfold brackL at h
  split at h
  · cases h
    exact ⟨AlT.of (by decide) AlS.zero (fun _ h => by cases h), by rw [PT.lv, PT.lvs]; simp <;> omega⟩
  · cases hm : setL L (L.length + 1) .zero (negL L (i + 1)) with
    | bad q => rw [hm] at h; cases h
    | ok s q =>
      rw [hm] at h
      have hn : negL L (i + 1) ≤ L.length := by
        unfold negL
        split
        · rename_i h94
          have := pk_is h94 (by decide)
          omega
        · omega
      have hs := set_al _ _ _ hn AlS.zero s q hm
      have hg : AlT (setT (decide (pk L (i + 1) = 94)) s) ∧ (setT (decide (pk L (i + 1) = 94)) s).lv ≤ 1 := by
        unfold setT
        refine class_al ?_
        split
        · exact AlS.without hs.1
        · exact hs
      cases h
      exact ⟨hg.1, by omega⟩
theorem one_al {c : Nat} (h : 32 ≤ c ∧ c ≤ 126) : AlT (oneT c) ∧ (oneT c).lv ≤ 1 := class_al (AlS.add AlS.zero h.1 h.2)
theorem atom_al {L : List UInt8} {pat : Nat → PR PT} (hp : Gd3 L pat) : Gd3 L (atomL pat L) := by
  intro i hi t m h
  unfold atomL at h
  split at h
  · rename_i h40
    have hl := pk_is h40 (by decide)
    unfold groupL at h
    split at h
    · cases h
      exact ⟨AlT.of (by decide) AlS.zero (fun _ h => by cases h), by rw [PT.lv, PT.lvs]; simp <;> omega⟩
    · cases hq : pat (i + 1) with
      | bad q => rw [hq] at h; cases h
      | ok t' q =>
        rw [hq] at h
        replace h : (if pk L q = 41 then .ok t' (q + 1) else .bad q : PR PT) = .ok t m := h
        split at h
        · cases h
          obtain ⟨h1, h2⟩ := hp (i + 1) (by omega) _ q hq
          exact ⟨h1, by omega⟩
        · cases h
  split at h
  · rename_i h91
    exact brack_al (pk_is h91 (by decide)) h
  split at h
  · cases h
    obtain ⟨h1, h2⟩ := class_al AlS.alpha
    exact ⟨h1, by omega⟩
  split at h
  · split at h
    · cases h
      rename_i hsp
      obtain ⟨h1, h2⟩ := one_al (isSp_lt hsp)
      exact ⟨h1, by omega⟩
    · cases h
  split at h
  · cases h
    rename_i hpl
    obtain ⟨h1, h2⟩ := one_al (inA_lt (by unfold isPl at hpl; rw [Bool.and_eq_true] at hpl; exact hpl.1))
    exact ⟨h1, by omega⟩
  · cases h
theorem rep_al {L : List UInt8} {pat : Nat → PR PT} (hp : Gd3 L pat) : Gd3 L (repL pat L) := by
  intro i hi t m h
  unfold repL at h
  cases hq : atomL pat L i with
  | bad q => rw [hq] at h; cases h
  | ok t' q =>
    rw [hq] at h
    obtain ⟨h1, h2⟩ := atom_al hp i hi t' q hq
    replace h : (if pk L q = 42 then .ok (.mk 6 .zero [t']) (q + 1) else .ok t' q : PR PT) = .ok t m := h
    split at h
    · cases h
      refine ⟨AlT.of (by decide) AlS.zero (fun x hx => by obtain rfl := List.mem_singleton.1 hx; exact h1), ?_⟩
      rw [PT.lv, PT.lvs_cons, PT.lvs_nil]
      simp
      omega
    · cases h; exact ⟨h1, h2⟩
theorem sev_al {L : List UInt8} {one : Nat → PR PT} {sep : Nat → Option Nat} (ho : Good L one) (h2 : Gd3 L one) (hs : SepOk L sep) (i0 : Nat) : ∀ (g : Nat) (acc : List PT) (i : Nat), i ≤ L.length → (∀ x, x ∈ acc → AlT x) → PT.lvs acc + i0 ≤ i → ∀ l m, sevL one sep g acc i = .ok l m → (∀ x, x ∈ l → AlT x) ∧ PT.lvs l + i0 ≤ m
  | 0, _, _, _, _, _, _, _, h => by cases h
  | g + 1, acc, i, hi, ha, hl, l, m, h => by
    have step : ∀ j, i ≤ j → j ≤ L.length → ((one j).bind fun t m => sevL one sep g (acc ++ [t]) m) = .ok l m → (∀ x, x ∈ l → AlT x) ∧ PT.lvs l + i0 ≤ m := fun j hij hj hh => by
      have hg := (ho j hj).1
      cases hq : one j with
      | bad q => rw [hq] at hh; cases hh
      | ok t q =>
        rw [hq] at hh hg
        obtain ⟨k1, k2⟩ := h2 j hj t q hq
        exact sev_al ho h2 hs i0 g (acc ++ [t]) q hg.2 (fun x hx => by
          rcases List.mem_append.1 hx with hx | hx
          · exact ha x hx
          · obtain rfl := List.mem_singleton.1 hx; exact k1) (by rw [lvs_snoc]; omega) l m hh
    rw [sevL] at h
    split at h
    · exact step i (Nat.le_refl _) hi h
    · cases hsep : sep i with
      | none => rw [hsep] at h; cases h; exact ⟨ha, hl⟩
      | some j =>
        rw [hsep] at h
        obtain ⟨h3, h4⟩ := hs i j hsep hi
        exact step j h3 h4 h
theorem join_al {kind : Int} (hk2 : 1 ≤ kind ∧ kind ≤ 6) (hk : kind ≠ 3) {l : List PT} (h : ∀ x, x ∈ l → AlT x) : AlT (joinT kind l) ∧ (joinT kind l).lv = PT.lvs l := by
  match l, h with
  | [], h => exact ⟨AlT.of hk2 AlS.zero h, by show PT.lv (.mk kind .zero []) = _; rw [PT.lv, if_neg hk, Nat.zero_add]⟩
  | [t], h => exact ⟨h t (List.mem_cons_self ..), by rw [PT.lvs_cons, PT.lvs_nil]; rfl⟩
  | t :: u :: r, h => exact ⟨AlT.of hk2 AlS.zero h, by show PT.lv (.mk kind .zero (t :: u :: r)) = _; rw [PT.lv, if_neg hk, Nat.zero_add]⟩
theorem several_al {L : List UInt8} {one : Nat → PR PT} {sep : Nat → Option Nat} (ho : Good L one) (h2 : Gd3 L one) (hs : SepOk L sep) {kind : Int} (hk2 : 1 ≤ kind ∧ kind ≤ 6) (hk : kind ≠ 3) : Gd3 L fun i => (sevL one sep (L.length + 1) [] i).map (joinT kind) := by
  intro i hi t m h
  replace h : (sevL one sep (L.length + 1) [] i).map (joinT kind) = .ok t m := h
  cases hq : sevL one sep (L.length + 1) [] i with
  | bad q => rw [hq] at h; cases h
  | ok l q =>
    rw [hq] at h
    cases h
    obtain ⟨h3, h4⟩ := sev_al ho h2 hs i _ [] i hi (fun _ h => by cases h) (by rw [PT.lvs_nil]; omega) l _ hq
    obtain ⟨h5, h6⟩ := join_al hk2 hk h3
    exact ⟨h5, by rw [h6]; exact h4⟩
theorem pat_al (L : List UInt8) : ∀ d, Gd3 L (patL L d) := by
  intro d
  induction d with
  | zero => exact fun i hi t m h => by cases h
  | succ d ih => exact several_al (cat_good (pat_good L d)) (several_al (rep_good (pat_good L d)) (rep_al ih) (sepC_ok L) (by decide) (by decide)) (sepP_ok L) (by decide) (by decide)
theorem parse_al {L : List UInt8} {t : PT} {m : Nat} (h : parseT L = .ok t m) : AlT t ∧ t.lv ≤ L.length ∧ t.fit = true := by
  unfold parseT at h
  cases hq : patL L (L.length + 1) 0 with
  | bad q => rw [hq] at h; cases h
  | ok t' q =>
    rw [hq] at h
    replace h : (if q = L.length then PR.ok t' q else .bad q) = .ok t m := h
    split at h
    · cases h
      obtain ⟨h1, h2⟩ := pat_al L (L.length + 1) 0 (Nat.zero_le _) _ _ hq
      have h3 := ((pat_good L (L.length + 1) 0 (Nat.zero_le _)).2 _ _ hq).1
      exact ⟨h1, by omega, h3⟩
    · cases h

/-- A list of bytes of the alphabet. -/
def AlL (u : List UInt8) : Prop := ∀ c, c ∈ u → 32 ≤ c.toNat ∧ c.toNat ≤ 126
theorem AlL.app {u v : List UInt8} (h : AlL u) (h' : AlL v) : AlL (u ++ v) := fun c hc => by
  rcases List.mem_append.1 hc with hc | hc
  · exact h c hc
  · exact h' c hc
theorem star_al {P : List UInt8 → Prop} (hP : ∀ u, P u → AlL u) {u : List UInt8} (h : Star P u) : AlL u := by
  induction h with
  | nil => exact fun c hc => by cases hc
  | cons x y h1 _ ih => exact (hP x h1).app ih
theorem lg_al (t : PT) : AlT t → ∀ u, Lg t u → AlL u := by
  induction t using PT.ind with
  | h t ih =>
  intro ha u hu
  have hm : ∀ x, x ∈ t.l → ∀ u, Lg x u → AlL u := fun x hx => ih x hx (ha.mem hx)
  rw [Lg_eq] at hu
  rcases hu with ⟨_, rfl⟩ | ⟨_, c, rfl, hc⟩ | ⟨_, h⟩ | ⟨_, h⟩ | ⟨_, h⟩
  · exact fun c hc => by cases hc
  · intro d hd
    rw [List.mem_singleton.1 hd]
    exact ha.here.2 _ c.toNat_lt hc
  · revert hm u
    generalize t.l = l
    intro u hm h
    induction l generalizing u with
    | nil => have : u = [] := h; subst this; exact fun c hc => by cases hc
    | cons x l ihl =>
      obtain ⟨a, b, rfl, h1, h2⟩ := h
      exact (hm x (List.mem_cons_self ..) a h1).app (ihl b (fun y hy => hm y (List.mem_cons_of_mem _ hy)) h2)
  · revert hm u
    generalize t.l = l
    intro u hm h
    induction l with
    | nil => exact absurd h id
    | cons x l ihl =>
      rcases h with h | h
      · exact hm x (List.mem_cons_self ..) u h
      · exact ihl (fun y hy => hm y (List.mem_cons_of_mem _ hy)) h
  · revert hm u
    generalize t.l = l
    intro u hm h
    cases l with
    | nil => exact absurd h id
    | cons x l => exact star_al (hm x (List.mem_cons_self ..)) h
theorem TP.al {p : ByteArray} {t : PT} (h : TP p t) : AlT t := by
  obtain ⟨m, hm⟩ := h.parse
  exact (parse_al hm).1
end

section
open Go.RowKit

theorem bt_nat {n : Nat} (hn : n < 2 ^ 64) (i : Nat) : bt (n : Int) i = n.testBit i := by
  unfold bt
  rw [BitVec.ofInt_natCast, BitVec.getLsbD_ofNat]
  by_cases hi : i < 64
  · simp [hi]
  · have : n.testBit i = false := Nat.testBit_lt_two_pow (Nat.lt_of_lt_of_le hn (Nat.pow_le_pow_right (by decide) (by omega)))
    simp [hi, this]
theorem u_small {x : Int} (h : U6 x) {k : Nat} (hb : ∀ i, k ≤ i → bt x i = false) : ∃ n : Nat, x = (n : Int) ∧ n < 2 ^ k := by
  obtain ⟨n, rfl⟩ := Int.eq_ofNat_of_zero_le h.1
  have hn : n < 2 ^ 64 := by have := h.2; omega
  refine ⟨n, rfl, Nat.lt_pow_two_of_testBit n fun i hi => ?_⟩
  have := hb i hi
  rwa [bt_nat hn] at this
/-- A step of a machine. -/
def stB (ps : List Ps) (b : Nat) (x : Int) : Int := bits BinOp.and IntKind.u64 (afterL x 0 ps 0) (readsL b 0 ps 0)
theorem step_mem {ps : List Ps} {x : Int} {b : Nat} (h : 32 ≤ b ∧ b ≤ 126) : stB ps b x ∈ stepL ps x := by
  unfold stepL rdL
  rw [List.map_map, List.mem_map]
  exact ⟨b - 32, List.mem_range.2 (by omega), by show bits BinOp.and IntKind.u64 (afterL x 0 ps 0) (readsL (32 + (b - 32)) 0 ps 0) = _; rw [show 32 + (b - 32) = b by omega]; rfl⟩
theorem step_of {ps : List Ps} {x y : Int} (h : y ∈ stepL ps x) : ∃ b, (32 ≤ b ∧ b ≤ 126) ∧ y = stB ps b x := by
  unfold stepL rdL at h
  rw [List.map_map, List.mem_map] at h
  obtain ⟨k, hk, rfl⟩ := h
  exact ⟨32 + k, by have := List.mem_range.1 hk; omega, rfl⟩
theorem step_zip {ps qs : List Ps} {x y : Int} {b : Nat} (h : 32 ≤ b ∧ b ≤ 126) : (stB ps b x, stB qs b y) ∈ stepP ps qs (x, y) := by
  unfold stepP stepL rdL
  rw [List.map_map, List.map_map]
  refine List.mem_iff_getElem?.2 ⟨b - 32, ?_⟩
  refine List.getElem?_zip_eq_some.2 ⟨?_, ?_⟩
  · rw [List.getElem?_map, List.getElem?_range (by omega)]
    show some (bits BinOp.and IntKind.u64 (afterL x 0 ps 0) (readsL (32 + (b - 32)) 0 ps 0)) = _
    rw [show 32 + (b - 32) = b by omega]; rfl
  · rw [List.getElem?_map, List.getElem?_range (by omega)]
    show some (bits BinOp.and IntKind.u64 (afterL y 0 qs 0) (readsL (32 + (b - 32)) 0 qs 0)) = _
    rw [show 32 + (b - 32) = b by omega]; rfl
theorem step_bt {ps : List Ps} {b : Nat} {x : Int} (i : Nat) (h : ps.length ≤ i) : bt (stB ps b x) i = false := by
  unfold stB
  rw [bt_and]
  cases hr : bt (readsL b 0 ps 0) i with
  | false => rw [Bool.and_false]
  | true =>
    obtain ⟨p, hp, _⟩ := (reads_bt b ps i).1 hr
    have := (List.getElem?_eq_some_iff.1 hp).1
    omega
theorem build_len (t : PT) (hl : 1 + t.lv ≤ 64) : (buildT t).1.length ≤ 1 + t.lv := by
  obtain ⟨k1, _⟩ := add_spec t [⟨.zero, 0⟩] (by simpa using hl)
  unfold buildT
  dsimp only
  rw [List.length_set]
  simpa using k1
/-- A machine with few positions has few states. -/
theorem few_states {ps : List Ps} (hp : ps.length ≤ 11) {F : List Int} {E : List (List Nat)} (h : ExG (stepL ps) 1 F E) : F.length ≤ 2048 := by
  have h1 := h.rc (fun x => ∃ n : Nat, x = (n : Int) ∧ n < 2048) ⟨1, rfl, by decide⟩ (fun x _ y hy => by
    obtain ⟨b, _, rfl⟩ := step_of hy
    obtain ⟨n, h2, h3⟩ := u_small (x := stB ps b x) (and_u _ _) (k := 11) (fun i hi => step_bt i (by omega))
    exact ⟨n, h2, h3⟩)
  have := nodup_sub F ((List.range 2048).map fun n : Nat => (n : Int)) h.nd (fun x hx => by
    obtain ⟨n, rfl, h2⟩ := h1 x hx
    exact List.mem_map.2 ⟨n, List.mem_range.2 h2, rfl⟩)
  simpa using this
/-- How many texts of a length a tree has; no more than the greatest number and one. -/
def cntT (t : PT) (n : Nat) : Int := cntG (stepL (buildT t).1) (accQ (buildT t).2) n 1
theorem acc0_at (last : Int) (F : List Int) (i : Nat) (x : Int) (h : F[i]? = some x) : (acc0 last F)[i]? = some (if accQ last x = true then 1 else 0) := by
  unfold acc0 accQ
  rw [List.getElem?_map, h]
  simp only [Option.map_some, decide_eq_true_eq]
theorem words_whole {t : PT} {F : List Int} {E : List (List Nat)} (h : Whole (stepL (buildT t).1) 1 F E) (he : exL (stepL (buildT t).1) 4098 [1] [] = some (F, E)) (n : Nat) :
    wordsT t n = if 1152921504606846976 < cntT t n then (0, 11) else (cntT t n, 0) := by
  have h1 : hd0 (iterL E (acc0 (buildT t).2 F) n) = cntT t n := by
    unfold hd0
    rw [h.count (accQ (buildT t).2) (acc0_at _ _) n 0 1 h.g.hd]
    rfl
  unfold wordsT
  rw [he]
  dsimp only
  rw [h1]
theorem words_few {t : PT} (hl : t.lv ≤ 10) (n : Nat) : wordsT t n = if 1152921504606846976 < cntT t n then (0, 11) else (cntT t n, 0) := by
  have hp := build_len t (by omega)
  rcases search (next := stepL (buildT t).1) (1 : Int) with ⟨_, F, E, h1, h2⟩ | ⟨F, E, h1, h2⟩
  · have := few_states (by omega) h1
    omega
  · exact words_whole h2 h1 n
theorem cnt_of_fwd (ps : List Ps) (last : Int) : ∀ (L : List UInt8) (x : Int), AlL L → accQ last (fwdL ps L x) = true → 1 ≤ cntG (stepL ps) (accQ last) L.length x
  | [], x, _, h => by
    rw [fwdL] at h
    show 1 ≤ cntG (stepL ps) (accQ last) 0 x
    rw [cntG, if_pos h]
    decide
  | c :: r, x, hA, h => by
    rw [fwdL] at h
    rw [List.length_cons]
    exact cnt_pos (stepL ps) (accQ last) (step_mem (hA c (List.mem_cons_self ..))) (cnt_of_fwd ps last r _ (fun d hd => hA d (List.mem_cons_of_mem _ hd)) h)
theorem acc_fwd (ps : List Ps) (last : Int) (L : List UInt8) : accT ps last L = accQ last (fwdL ps L 1) := rfl
theorem acc_al {t : PT} (hl : 1 + t.lv ≤ 64) (ha : AlT t) {L : List UInt8} (h : accT (buildT t).1 (buildT t).2 L = true) : AlL L := lg_al t ha L ((build_acc t hl L).1 h)
theorem cnt_of_acc {t : PT} (hl : 1 + t.lv ≤ 64) (ha : AlT t) {L : List UInt8} (h : accT (buildT t).1 (buildT t).2 L = true) : 1 ≤ cntT t L.length := by
  have hA := acc_al hl ha h
  rw [acc_fwd] at h
  exact cnt_of_fwd _ _ L 1 hA h
/-- What is told where two patterns are the same. -/
theorem same_pairs {t u : PT} (h : sameT t u = (true, 0)) : ∃ F : List P2, (1, 1) ∈ F ∧ (∀ x y, (x, y) ∈ F → ∀ z, z ∈ stepP (buildT t).1 (buildT u).1 (x, y) → z ∈ F) ∧ ∀ x y, (x, y) ∈ F → accQ (buildT t).2 x = accQ (buildT u).2 y := by
  rcases search (next := stepP (buildT t).1 (buildT u).1) ((1 : Int), (1 : Int)) with ⟨h1, _⟩ | ⟨F, E, h1, h2⟩
  · unfold sameT at h
    rw [h1] at h
    cases h
  · unfold sameT at h
    rw [h1] at h
    have h3 : alikeL (buildT t).2 (buildT u).2 F = true := congrArg Prod.fst h
    refine ⟨F, h2.start, fun x y hx z hz => h2.closed hx hz, fun x y hx => ?_⟩
    unfold alikeL at h3
    have := List.all_eq_true.1 h3 (x, y) hx
    simpa using this
theorem same_cnt {t u : PT} (h : sameT t u = (true, 0)) (n : Nat) : cntT t n = cntT u n := by
  obtain ⟨F, h1, h2, h3⟩ := same_pairs h
  exact cnt_pair (F := F) (fun x y => by rw [stepL_len, stepL_len]) (fun x y hx z hz => h2 x y hx z hz) h3 n 1 1 h1
theorem same_fwd {ps qs : List Ps} {F : List P2} (h2 : ∀ x y, (x, y) ∈ F → ∀ z, z ∈ stepP ps qs (x, y) → z ∈ F) : ∀ (L : List UInt8) (x y : Int), AlL L → (x, y) ∈ F → (fwdL ps L x, fwdL qs L y) ∈ F
  | [], _, _, _, h => h
  | c :: r, x, y, hA, h => same_fwd h2 r _ _ (fun d hd => hA d (List.mem_cons_of_mem _ hd)) (h2 x y h _ (step_zip (hA c (List.mem_cons_self ..))))
theorem same_acc {t u : PT} (h : sameT t u = (true, 0)) (hl : 1 + t.lv ≤ 64) (hu : 1 + u.lv ≤ 64) (ha : AlT t) (hb : AlT u) (L : List UInt8) : accT (buildT t).1 (buildT t).2 L = accT (buildT u).1 (buildT u).2 L := by
  by_cases hA : AlL L
  · obtain ⟨F, h1, h2, h3⟩ := same_pairs h
    exact h3 _ _ (same_fwd h2 L 1 1 hA h1)
  · cases h1 : accT (buildT t).1 (buildT t).2 L with
    | true => exact absurd (acc_al hl ha h1) hA
    | false =>
      cases h2 : accT (buildT u).1 (buildT u).2 L with
      | true => exact absurd (acc_al hu hb h2) hA
      | false => rfl
end

end Go.Proofs.YtaipaddfehpmgaaDoor
