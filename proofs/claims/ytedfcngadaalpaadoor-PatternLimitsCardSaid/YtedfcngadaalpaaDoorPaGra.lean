/-
  What a search has found is closed under the steps and has no state twice; the numbers of texts as a recursion over the steps. With no program in it. Nothing is assumed.
-/
import Derived.Test.YtedfcngadaalpaaDoorPaWords
import Derived.Test.YtedfcngadaalpaaDoorPaSame
namespace Go.Proofs.YtedfcngadaalpaaDoor
open Go.RowKit

section
variable {K : Type}

theorem nodup_sub [DecidableEq K] : ∀ (A F : List K), A.Nodup → (∀ x, x ∈ A → x ∈ F) → A.length ≤ F.length
  | [], F, _, _ => Nat.zero_le _
  | a :: A, F, hn, hs => by
    have h1 := List.nodup_cons.1 hn
    have ha := hs a (List.mem_cons_self ..)
    have h2 := nodup_sub A (F.erase a) h1.2 (fun x hx => (List.mem_erase_of_ne (fun e => h1.1 (by rw [← e]; exact hx))).2 (hs x (List.mem_cons_of_mem _ hx)))
    have h3 := List.length_erase_of_mem ha
    have h4 := List.length_pos_of_mem ha
    rw [h3] at h2
    rw [List.length_cons]
    omega
theorem addsE_spec [DecidableEq K] (r : List K) : ∀ (found : List K) (tt : List Nat), found.Nodup →
    (addsE found r tt).1.Nodup ∧ (∃ m, (addsE found r tt).1 = found ++ m) ∧ (∃ ks, (addsE found r tt).2 = tt ++ ks ∧ ks.length = r.length ∧ ∀ (j k : Nat), ks[j]? = some k → (addsE found r tt).1[k]? = r[j]?) ∧ ∀ x, x ∈ (addsE found r tt).1 → x ∈ found ∨ x ∈ r := by
  induction r with
  | nil =>
    intro found tt hn
    rw [addsE]
    exact ⟨hn, ⟨[], by simp⟩, ⟨[], by simp, rfl, fun j k h => by simp at h⟩, fun x hx => .inl hx⟩
  | cons y r ih =>
    intro found tt hn
    cases h : idxL found y with
    | some k0 =>
      rw [addsE_some h]
      obtain ⟨h1, ⟨m, h2⟩, ⟨ks, h3, h4, h5⟩, h6⟩ := ih found (tt ++ [k0]) hn
      refine ⟨h1, ⟨m, h2⟩, ⟨k0 :: ks, by rw [h3]; simp, by simp [h4], fun j k hj => ?_⟩, fun x hx => ?_⟩
      · cases j with
        | zero =>
          simp at hj
          subst hj
          have h7 := idxL_some h
          have h8 := idxL_lt h
          rw [h2, List.getElem?_append_left h8, h7]
          rfl
        | succ j => exact h5 j k (by simpa using hj)
      · rcases h6 x hx with h7 | h7
        · exact .inl h7
        · exact .inr (List.mem_cons_of_mem _ h7)
    | none =>
      rw [addsE_none h]
      have hy := idxL_none h
      have hn2 : (found ++ [y]).Nodup := by
        rw [List.nodup_append]
        refine ⟨hn, by simp, fun a ha b hb => ?_⟩
        rw [List.mem_singleton] at hb
        subst hb
        exact fun e => hy (by rw [← e]; exact ha)
      obtain ⟨h1, ⟨m, h2⟩, ⟨ks, h3, h4, h5⟩, h6⟩ := ih (found ++ [y]) (tt ++ [found.length]) hn2
      refine ⟨h1, ⟨[y] ++ m, by rw [h2]; simp⟩, ⟨found.length :: ks, by rw [h3]; simp, by simp [h4], fun j k hj => ?_⟩, fun x hx => ?_⟩
      · cases j with
        | zero =>
          simp at hj
          subst hj
          rw [h2]
          simp
        | succ j => exact h5 j k (by simpa using hj)
      · rcases h6 x hx with h7 | h7
        · rcases List.mem_append.1 h7 with h7 | h7
          · exact .inl h7
          · exact .inr (by rw [List.mem_singleton.1 h7]; exact List.mem_cons_self ..)
        · exact .inr (List.mem_cons_of_mem _ h7)
/-- What a search from s has found: no state twice, each step of a state that is done leads tt what has been found. -/
structure ExG (next : K → List K) (s : K) (F : List K) (E : List (List Nat)) : Prop where
  nd : F.Nodup
  hd : F[0]? = some s
  le : E.length ≤ F.length
  ed : ∀ (i : Nat) x, i < E.length → F[i]? = some x → ∃ tt, E[i]? = some tt ∧ tt.length = (next x).length ∧ ∀ (j k : Nat), tt[j]? = some k → F[k]? = (next x)[j]?
  rc : ∀ P : K → Prop, P s → (∀ x, P x → ∀ y, y ∈ next x → P y) → ∀ x, x ∈ F → P x
theorem ExG.start (next : K → List K) (s : K) : ExG next s [s] [] := ⟨by simp, rfl, by simp, fun i x h => by simp at h, fun P h _ x hx => by rw [List.mem_singleton.1 hx]; exact h⟩
theorem ExG.step [DecidableEq K] {next : K → List K} {s : K} {F : List K} {E : List (List Nat)} (h : ExG next s F E) {x : K} (hx : F[E.length]? = some x) :
    ExG next s (addsE F (next x) []).1 (E ++ [(addsE F (next x) []).2]) := by
  obtain ⟨h1, ⟨m, h2⟩, ⟨ks, h3, h4, h5⟩, h6⟩ := addsE_spec (next x) F [] h.nd
  rw [List.nil_append] at h3
  have hxl := (List.getElem?_eq_some_iff.1 hx).1
  refine ⟨h1, ?_, ?_, ?_, ?_⟩
  · rw [h2, List.getElem?_append_left (by omega)]
    exact h.hd
  · rw [h2, List.length_append, List.length_append, List.length_singleton]
    omega
  · intro i y hi hy
    rw [List.length_append, List.length_singleton] at hi
    by_cases hE : i < E.length
    · have hFi : i < F.length := Nat.lt_of_lt_of_le hE h.le
      rw [h2, List.getElem?_append_left hFi] at hy
      obtain ⟨tt, e1, e2, e3⟩ := h.ed i y hE hy
      refine ⟨tt, by rw [List.getElem?_append_left hE]; exact e1, e2, fun j k hj => ?_⟩
      have hj2 := (List.getElem?_eq_some_iff.1 hj).1
      have hs := e3 j k hj
      obtain ⟨z, hz⟩ : ∃ z, (next y)[j]? = some z := ⟨_, List.getElem?_eq_getElem (by omega)⟩
      rw [hz] at hs ⊢
      rw [h2, List.getElem?_append_left (List.getElem?_eq_some_iff.1 hs).1]
      exact hs
    · obtain rfl : i = E.length := by omega
      rw [h2, List.getElem?_append_left hxl, hx] at hy
      cases hy
      exact ⟨ks, by rw [h3]; simp, h4, h5⟩
  · intro P hP hc y hy
    rcases h6 y hy with h7 | h7
    · exact h.rc P hP hc y h7
    · exact hc x (h.rc P hP hc x (List.mem_of_getElem? hx)) y h7
theorem exL_some [DecidableEq K] {next : K → List K} {s : K} : ∀ (g : Nat) (F : List K) (E : List (List Nat)) (F' : List K) (E' : List (List Nat)), ExG next s F E → F.length ≤ 4096 → exL next g F E = some (F', E') → ExG next s F' E' ∧ F'.length ≤ 4096 ∧ E'.length = F'.length
  | 0, _, _, _, _, _, _, h => by cases h
  | g + 1, F, E, F', E', hG, hl, h => by
    rw [exL] at h
    cases hx : F[E.length]? with
    | none =>
      rw [hx] at h
      cases h
      have := List.getElem?_eq_none_iff.1 hx
      have := hG.le
      exact ⟨hG, hl, by omega⟩
    | some x =>
      rw [hx] at h
      dsimp only at h
      split at h
      · cases h
      · rename_i hm
        exact exL_some g _ _ F' E' (hG.step hx) (by omega) h
theorem exL_over [DecidableEq K] {next : K → List K} {s : K} : ∀ (g : Nat) (F : List K) (E : List (List Nat)), ExG next s F E → F.length ≤ 4096 → 4098 ≤ E.length + g → exL next g F E = none → ∃ F' E', ExG next s F' E' ∧ 4096 < F'.length
  | 0, F, E, hG, hl, hg, _ => by
    have := hG.le
    omega
  | g + 1, F, E, hG, hl, hg, h => by
    rw [exL] at h
    cases hx : F[E.length]? with
    | none => rw [hx] at h; cases h
    | some x =>
      rw [hx] at h
      dsimp only at h
      split at h
      · rename_i hm
        exact ⟨_, _, hG.step hx, hm⟩
      · rename_i hm
        exact exL_over g _ _ (hG.step hx) (by omega) (by rw [List.length_append, List.length_singleton]; omega) h
/-- Whole: the search has ended. -/
structure Whole (next : K → List K) (s : K) (F : List K) (E : List (List Nat)) : Prop where
  g : ExG next s F E
  lm : F.length ≤ 4096
  el : E.length = F.length
theorem search [DecidableEq K] {next : K → List K} (s : K) : (exL next 4098 [s] [] = none ∧ ∃ F E, ExG next s F E ∧ 4096 < F.length) ∨ ∃ F E, exL next 4098 [s] [] = some (F, E) ∧ Whole next s F E := by
  cases h : exL next 4098 [s] [] with
  | none => exact .inl ⟨rfl, exL_over 4098 [s] [] (ExG.start next s) (by simp) (by simp) h⟩
  | some FE =>
    obtain ⟨F, E⟩ := FE
    obtain ⟨h1, h2, h3⟩ := exL_some 4098 [s] [] F E (ExG.start next s) (by simp) h
    exact .inr ⟨F, E, rfl, h1, h2, h3⟩
theorem Whole.closed {next : K → List K} {s : K} {F : List K} {E : List (List Nat)} (h : Whole next s F E) {x y : K} (hx : x ∈ F) (hy : y ∈ next x) : y ∈ F := by
  obtain ⟨i, hi⟩ := List.mem_iff_getElem?.1 hx
  have hil := (List.getElem?_eq_some_iff.1 hi).1
  obtain ⟨tt, e1, e2, e3⟩ := h.g.ed i x (by rw [h.el]; exact hil) hi
  obtain ⟨j, hj⟩ := List.mem_iff_getElem?.1 hy
  have hjl := (List.getElem?_eq_some_iff.1 hj).1
  obtain ⟨k, hk⟩ : ∃ k, tt[j]? = some k := ⟨_, List.getElem?_eq_getElem (by omega)⟩
  have := e3 j k hk
  rw [hj] at this
  exact List.mem_of_getElem? this
theorem Whole.start {next : K → List K} {s : K} {F : List K} {E : List (List Nat)} (h : Whole next s F E) : s ∈ F := List.mem_of_getElem? h.g.hd

/-- How many texts of a length lead from a state tt one that accepts; no more than the greatest number and one. -/
def cntG (next : K → List K) (acc : K → Bool) : Nat → K → Int
  | 0, x => if acc x = true then 1 else 0
  | n + 1, x => (next x).foldl (fun s y => capA (s + cntG next acc n y)) 0
theorem sum_fold {C : List Int} (f : K → Int) : ∀ (tt : List Nat) (r : List K) (s : Int), tt.length = r.length → (∀ (j k : Nat) y, tt[j]? = some k → r[j]? = some y → C[k]? = some (f y)) → sumL C tt s = r.foldl (fun s y => capA (s + f y)) s
  | [], [], s, _, _ => rfl
  | [], _ :: _, _, h, _ => by simp at h
  | _ :: _, [], _, h, _ => by simp at h
  | k :: tt, y :: r, s, h, hc => by
    have h0 := hc 0 k y rfl rfl
    rw [sumL, h0, List.foldl_cons]
    exact sum_fold f tt r _ (by simpa using h) (fun j k y h1 h2 => hc (j + 1) k y (by simpa using h1) (by simpa using h2))
theorem Whole.count {next : K → List K} {s : K} {F : List K} {E : List (List Nat)} (h : Whole next s F E) (acc : K → Bool) {C : List Int} (hC : ∀ (i : Nat) x, F[i]? = some x → C[i]? = some (if acc x = true then 1 else 0)) : ∀ (n i : Nat) x, F[i]? = some x → (iterL E C n)[i]? = some (cntG next acc n x)
  | 0, i, x, hi => hC i x hi
  | n + 1, i, x, hi => by
    have hil := (List.getElem?_eq_some_iff.1 hi).1
    obtain ⟨tt, e1, e2, e3⟩ := h.g.ed i x (by rw [h.el]; exact hil) hi
    rw [iterL]
    unfold longL
    rw [List.getElem?_map, e1, cntG]
    exact congrArg some (sum_fold (cntG next acc n) tt (next x) 0 e2 (fun j k y h1 h2 => by
      have h3 := e3 j k h1
      rw [h2] at h3
      exact h.count acc hC n k y h3))
theorem cap_ge {f : K → Int} (hf : ∀ y, 0 ≤ f y) : ∀ (r : List K) (s : Int), 0 ≤ s → 0 ≤ r.foldl (fun s y => capA (s + f y)) s ∧ (1 ≤ s → 1 ≤ r.foldl (fun s y => capA (s + f y)) s) ∧ ∀ y, y ∈ r → 1 ≤ f y → 1 ≤ r.foldl (fun s y => capA (s + f y)) s
  | [], s, h => ⟨h, id, fun y hy => by cases hy⟩
  | a :: r, s, h => by
    have h0 := hf a
    have h1 : 0 ≤ capA (s + f a) := by unfold capA; omega
    obtain ⟨k1, k2, k3⟩ := cap_ge hf r (capA (s + f a)) h1
    rw [List.foldl_cons]
    refine ⟨k1, fun hs => k2 (by unfold capA; omega), fun y hy h2 => ?_⟩
    rcases List.mem_cons.1 hy with rfl | hy
    · exact k2 (by unfold capA; omega)
    · exact k3 y hy h2
theorem cnt_nonneg (next : K → List K) (acc : K → Bool) : ∀ (n : Nat) (x : K), 0 ≤ cntG next acc n x
  | 0, x => by rw [cntG]; split <;> decide
  | n + 1, x => by
    rw [cntG]
    exact (cap_ge (cnt_nonneg next acc n) (next x) 0 (Int.le_refl _)).1
theorem cnt_pos (next : K → List K) (acc : K → Bool) {n : Nat} {x y : K} (hy : y ∈ next x) (h : 1 ≤ cntG next acc n y) : 1 ≤ cntG next acc (n + 1) x := by
  rw [cntG]
  exact (cap_ge (cnt_nonneg next acc n) (next x) 0 (Int.le_refl _)).2.2 y hy h
/-- Each sum is at most as long as the list, where no summand is greater than one. -/
theorem cap_le {f : K → Int} (hf : ∀ y, 0 ≤ f y ∧ f y ≤ 1) : ∀ (r : List K) (s : Int), r.foldl (fun s y => capA (s + f y)) s ≤ s + r.length
  | [], s => by simp
  | a :: r, s => by
    have h0 := hf a
    have h1 := cap_le hf r (capA (s + f a))
    rw [List.foldl_cons, List.length_cons]
    unfold capA at h1 ⊢
    omega
end
/-- Two machines in step: what is told of all pairs holds of the numbers. -/
theorem cnt_pair {next next' : Int → List Int} {acc acc' : Int → Bool} (hl : ∀ x y, (next x).length = (next' y).length) {F : List (Int × Int)} (hc : ∀ x y, (x, y) ∈ F → ∀ z, z ∈ List.zip (next x) (next' y) → z ∈ F) (ha : ∀ x y, (x, y) ∈ F → acc x = acc' y) : ∀ (n : Nat) x y, (x, y) ∈ F → cntG next acc n x = cntG next' acc' n y
  | 0, x, y, h => by rw [cntG, cntG, ha x y h]
  | n + 1, x, y, h => by
    rw [cntG, cntG]
    have key : ∀ (r r' : List Int) (s : Int), r.length = r'.length → (∀ z, z ∈ List.zip r r' → z ∈ F) → r.foldl (fun s y => capA (s + cntG next acc n y)) s = r'.foldl (fun s y => capA (s + cntG next' acc' n y)) s := by
      intro r
      induction r with
      | nil => intro r' s h1 _; cases r' with
        | nil => rfl
        | cons _ _ => simp at h1
      | cons a r ih =>
        intro r' s h1 h2
        cases r' with
        | nil => simp at h1
        | cons b r' =>
          rw [List.foldl_cons, List.foldl_cons, cnt_pair hl hc ha n a b (h2 (a, b) (by simp))]
          exact ih r' _ (by simpa using h1) (fun z hz => h2 z (by rw [List.zip_cons_cons]; exact List.mem_cons_of_mem _ hz))
    exact key _ _ 0 (hl x y) (hc x y h)
end Go.Proofs.YtedfcngadaalpaaDoor
