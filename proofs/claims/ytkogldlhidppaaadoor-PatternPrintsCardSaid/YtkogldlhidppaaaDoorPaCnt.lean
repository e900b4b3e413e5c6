/-
  How many bytes a set has, and the only one; the text of a class as the specification computes it. With no program in it. Nothing is assumed.
-/
import Derived.Test.YtkogldlhidppaaaDoorPaText
import Derived.Test.YtkogldlhidppaaaDoorPaSub
import Derived.Test.YtkogldlhidppaaaDoorPaBack
namespace Go.Proofs.YtkogldlhidppaaaDoor

section
open Go.RowKit

theorem nz_of_has {s : S4} {d : Nat} (h : s.has d = true) : s.isZ = false := by
  cases hz : s.isZ
  · rfl
  · exfalso
    have : s = .zero := by
      unfold S4.isZ at hz
      simp at hz
      obtain ⟨⟨⟨h0, h1⟩, h2⟩, h3⟩ := hz
      cases s
      simp_all [S4.zero]
    rw [this, has_zero] at h
    cases h
theorem pk_lits (R : List UInt8) (hR : ∀ c ∈ R, inA c.toNat = true) : pk (litsL R) 0 ≠ 42 ∧ pk (litsL R) 0 ≠ 124 := by
  cases R with
  | nil => exact ⟨by decide, by decide⟩
  | cons c R =>
    rw [litsL]
    unfold escL
    split
    · exact ⟨(by decide : (92 : Nat) ≠ 42), (by decide : (92 : Nat) ≠ 124)⟩
    · rename_i h
      have h' : isSp c.toNat = false := by simpa using h
      have := isPl_ne h'
      exact ⟨this.2.2.2.2.1, this.2.2.2.2.2⟩
theorem rep_lit (pat : Nat → PR PT) (P R : List UInt8) (c : UInt8) (hc : inA c.toNat = true) (hR : ∀ c ∈ R, inA c.toNat = true) :
    repL pat (P ++ (escL c ++ litsL R)) P.length = .ok (oneT c.toNat) (P.length + (escL c).length) ∧ begA (pk (P ++ (escL c ++ litsL R)) P.length) = true := by
  have hn := (pk_lits R hR).1
  unfold repL atomL
  by_cases hs : isSp c.toNat = true
  · have e1 : escL c = [92, c] := by unfold escL; rw [if_pos hs]
    rw [e1]
    have p0 : pk (P ++ ([92, c] ++ litsL R)) P.length = 92 := pk_app0 _ _
    have p1 : pk (P ++ ([92, c] ++ litsL R)) (P.length + 1) = c.toNat := pk_app _ _ 1
    have p2 : pk (P ++ ([92, c] ++ litsL R)) (P.length + 2) ≠ 42 := by
      rw [pk_app]
      exact hn
    rw [p0, p1]
    refine ⟨?_, by decide⟩
    rw [if_neg (by decide), if_neg (by decide), if_neg (by decide), if_pos rfl, if_pos hs]
    show (if pk (P ++ ([92, c] ++ litsL R)) (P.length + 2) = 42 then _ else _) = _
    rw [if_neg p2]
    rfl
  · have hs' : isSp c.toNat = false := by simpa using hs
    have e1 : escL c = [c] := by unfold escL; rw [if_neg hs]
    rw [e1]
    have p0 : pk (P ++ ([c] ++ litsL R)) P.length = c.toNat := pk_app0 _ _
    have p1 : pk (P ++ ([c] ++ litsL R)) (P.length + 1) ≠ 42 := by
      rw [pk_app]
      exact hn
    obtain ⟨n1, n2, n3, n4, -, -⟩ := isPl_ne hs'
    have hpl : isPl c.toNat = true := by unfold isPl; rw [hc, hs']; rfl
    rw [p0]
    refine ⟨?_, by unfold begA; rw [hpl]; rfl⟩
    rw [if_neg n1, if_neg n2, if_neg n3, if_neg n4, if_pos hpl]
    show (if pk (P ++ ([c] ++ litsL R)) (P.length + 1) = 42 then _ else _) = _
    rw [if_neg p1]
    rfl
theorem sev_lit (pat : Nat → PR PT) (L : List UInt8) : ∀ (R P : List UInt8) (g : Nat) (acc : List PT), L = P ++ litsL R → (∀ c ∈ R, inA c.toNat = true) → (acc ≠ [] ∨ R ≠ []) → R.length < g →
    sevL (repL pat L) (sepC L) g acc P.length = .ok (acc ++ R.map (fun c => oneT c.toNat)) L.length
  | [], P, g, acc, hL, _, ha, hg => by
    obtain ⟨g, rfl⟩ : ∃ g', g = g' + 1 := ⟨g - 1, by simp at hg; omega⟩
    have ha' : acc ≠ [] := by rcases ha with h | h; exact h; exact absurd rfl h
    have hl : acc.length ≠ 0 := fun h => ha' (List.length_eq_zero_iff.1 h)
    obtain rfl : L = P := by rw [hL, litsL, List.append_nil]
    rw [sevL, if_neg hl]
    have hb : sepC L L.length = none := by
      unfold sepC
      rw [pk_out L _ (Nat.le_refl _)]
      rfl
    rw [hb, List.map_nil, List.append_nil]
  | c :: R, P, g, acc, hL, hR, _, hg => by
    obtain ⟨g, rfl⟩ : ∃ g', g = g' + 1 := ⟨g - 1, by simp at hg; omega⟩
    have hR' : ∀ x ∈ R, inA x.toNat = true := fun x hx => hR x (List.mem_cons_of_mem _ hx)
    obtain ⟨h1, h2⟩ := rep_lit pat P R c (hR c (List.mem_cons_self ..)) hR'
    have hL' : L = P ++ (escL c ++ litsL R) := by rw [hL, litsL]
    rw [← hL'] at h1 h2
    have ih := sev_lit pat L R (P ++ escL c) g (acc ++ [oneT c.toNat]) (by rw [hL', List.append_assoc]) hR' (.inl (by simp)) (by simp at hg; omega)
    rw [List.length_append] at ih
    have ex : acc ++ List.map (fun c => oneT c.toNat) (c :: R) = acc ++ [oneT c.toNat] ++ List.map (fun c => oneT c.toNat) R := by simp
    have hb : sepC L P.length = some P.length := by
      unfold sepC
      rw [h2]
      rfl
    rw [sevL, hb, ex]
    split
    · rw [h1]
      exact ih
    · show (repL pat L P.length).bind _ = _
      rw [h1]
      exact ih
theorem lits_le (R : List UInt8) : R.length ≤ (litsL R).length := by
  induction R with
  | nil => exact Nat.le_refl _
  | cons c R ih =>
    have : 1 ≤ (escL c).length := by unfold escL; split <;> simp
    rw [litsL, List.length_append, List.length_cons]
    omega
theorem parse_lit (R : List UInt8) (hR : ∀ c ∈ R, inA c.toNat = true) (hn : R ≠ []) : parseT (litsL R) = .ok (joinT 4 (R.map fun c => oneT c.toNat)) (litsL R).length := by
  obtain ⟨L, hL⟩ : ∃ L, L = litsL R := ⟨_, rfl⟩
  rw [← hL]
  have hlen : R.length ≤ L.length := by rw [hL]; exact lits_le R
  have hpos : 0 < R.length := by cases R with
    | nil => exact absurd rfl hn
    | cons c R => simp
  have hc : catL (patL L L.length) L 0 = .ok (joinT 4 (R.map fun c => oneT c.toNat)) L.length := by
    unfold catL
    have := sev_lit (patL L L.length) L R [] (L.length + 1) [] (by rw [hL]; rfl) hR (.inr hn) (by omega)
    rw [show ([] : List UInt8).length = 0 from rfl] at this
    rw [this]
    rfl
  have hp : patL L (L.length + 1) 0 = .ok (joinT 4 (R.map fun c => oneT c.toNat)) L.length := by
    rw [patL, sevL, if_pos (show ([] : List PT).length = 0 from rfl), hc]
    show (sevL (catL (patL L L.length) L) (sepP L) L.length ([] ++ [joinT 4 (R.map fun c => oneT c.toNat)]) L.length).map (joinT 5) = _
    have hb : sepP L L.length = none := by
      unfold sepP
      rw [pk_out L _ (Nat.le_refl _)]
      rfl
    have hg : ∀ g, 0 < g → sevL (catL (patL L L.length) L) (sepP L) g ([] ++ [joinT 4 (R.map fun c => oneT c.toNat)]) L.length = .ok [joinT 4 (R.map fun c => oneT c.toNat)] L.length := by
      intro g h
      obtain ⟨g, rfl⟩ : ∃ g', g = g' + 1 := ⟨g - 1, by omega⟩
      rw [sevL, if_neg (by simp), hb]
      rfl
    rw [hg _ (by omega)]
    rfl
  unfold parseT
  rw [hp]
  show (if L.length = L.length then _ else _) = _
  rw [if_pos rfl]
end

section
open Go.RowKit

theorem has_adds {d : Nat} (hd : d < 256) : ∀ (n : Nat) (s : S4) (c : Nat), s.Ok → c + n ≤ 256 → (addsL n s c).has d = (s.has d || (decide (c ≤ d) && decide (d < c + n)))
  | 0, s, c, _, _ => by
    rw [addsL]
    have : (decide (c ≤ d) && decide (d < c + 0)) = false := by
      rw [Bool.and_eq_false_iff, decide_eq_false_iff_not, decide_eq_false_iff_not]; omega
    rw [this, Bool.or_false]
  | n + 1, s, c, hs, hn => by
    rw [addsL, has_adds hd n (s.add c) (c + 1) (S4.add_ok hs c) (by omega), has_add hs (by omega) hd, Bool.eq_iff_iff]
    simp only [Bool.or_eq_true, Bool.and_eq_true, decide_eq_true_eq]
    constructor
    · rintro ((h | h) | h)
      · exact .inl h
      · right; omega
      · right; omega
    · rintro (h | h)
      · exact .inl (.inl h)
      · by_cases he : c = d
        · exact .inl (.inr he)
        · right; omega
def inR (L : List (Nat × Nat)) (d : Nat) : Bool := L.any fun p => decide (p.1 ≤ d) && decide (d ≤ p.2)
theorem inR_app (L M : List (Nat × Nat)) (d : Nat) : inR (L ++ M) d = (inR L d || inR M d) := by unfold inR; rw [List.any_append]
theorem inR_one (x y d : Nat) : inR [(x, y)] d = (decide (x ≤ d) && decide (d ≤ y)) := by unfold inR; rw [List.any_cons, List.any_nil, Bool.or_false]
theorem stepR_in (s : S4) (L : List (Nat × Nat)) (b d : Nat) (h2 : ∀ p ∈ L, p.1 ≤ p.2) : inR (stepR s L b) d = (inR L d || (s.has b && decide (d = b))) := by
  have app : inR (L ++ [(b, b)]) d = (inR L d || decide (d = b)) := by
    rw [inR_app, inR_one]
    congr 1
    rw [Bool.eq_iff_iff]
    simp only [Bool.and_eq_true, decide_eq_true_eq]
    omega
  unfold stepR
  by_cases hb : s.has b = true
  · rw [if_pos hb, hb, Bool.true_and]
    cases hl : L.getLast? with
    | none => exact app
    | some p =>
      obtain ⟨x, y⟩ := p
      show inR (if y + 1 = b then L.dropLast ++ [(x, b)] else L ++ [(b, b)]) d = _
      by_cases hy : y + 1 = b
      · rw [if_pos hy]
        have e : L = L.dropLast ++ [(x, y)] := by
          obtain ⟨l', rfl⟩ := List.getLast?_eq_some_iff.1 hl
          rw [List.dropLast_concat]
        have hxy : x ≤ y := h2 (x, y) (List.mem_of_getLast? hl)
        conv => rhs; rw [e]
        rw [inR_app, inR_app, inR_one, inR_one, Bool.or_assoc]
        congr 1
        rw [Bool.eq_iff_iff]
        simp only [Bool.or_eq_true, Bool.and_eq_true, decide_eq_true_eq]
        omega
      · rw [if_neg hy]; exact app
  · have hb' : s.has b = false := by simpa using hb
    rw [if_neg hb, hb', Bool.false_and, Bool.or_false]
theorem runs_in (s : S4) (d : Nat) : ∀ k, inR (runsTo s k) d = (s.has d && decide (32 ≤ d) && decide (d < 32 + k))
  | 0 => by
    rw [runsTo]
    have : (decide (32 ≤ d) && decide (d < 32 + 0)) = false := by
      rw [Bool.and_eq_false_iff, decide_eq_false_iff_not, decide_eq_false_iff_not]; omega
    rw [Bool.and_assoc, this, Bool.and_false]; rfl
  | k + 1 => by
    rw [runsTo, stepR_in s _ _ d (fun p hp => ((runsTo_ok s k).2 p hp).1), runs_in s d k, Bool.eq_iff_iff]
    simp only [Bool.or_eq_true, Bool.and_eq_true, decide_eq_true_eq]
    constructor
    · rintro (h | ⟨h, rfl⟩)
      · exact ⟨h.1, by omega⟩
      · exact ⟨⟨h, by omega⟩, by omega⟩
    · rintro ⟨⟨h, h3⟩, h4⟩
      by_cases he : d = 32 + k
      · subst he; exact .inr ⟨h, rfl⟩
      · exact .inl ⟨⟨h, h3⟩, by omega⟩
theorem set_in {s : S4} (hs : s.Ok) (h : (s.without S4.alpha).isZ = true) (d : Nat) (hd : d < 256) : inR (runsR s) d = s.has d := by
  have h1 := has_without hs alpha_ok d hd
  rw [isZ_zero h, has_zero, has_alpha d hd] at h1
  unfold runsR
  rw [runs_in, Bool.eq_iff_iff]
  simp only [Bool.and_eq_true, decide_eq_true_eq]
  constructor
  · exact fun h => h.1.1
  · intro h2
    rw [h2, Bool.true_and] at h1
    have h3 : (decide (32 ≤ d) && decide (d ≤ 126)) = true := by
      cases hq : (decide (32 ≤ d) && decide (d ≤ 126)) with
      | true => rfl
      | false => rw [hq] at h1; cases h1
    simp only [Bool.and_eq_true, decide_eq_true_eq] at h3
    exact ⟨⟨h2, h3.1⟩, by omega⟩
/-- The set that reading the runs gives. -/
def foldR (R : List (Nat × Nat)) (s : S4) : S4 := R.foldl (fun s p => addsL (p.2 + 1 - p.1) s p.1) s
theorem fold_ok : ∀ (R : List (Nat × Nat)) (s : S4), s.Ok → (foldR R s).Ok
  | [], _, h => h
  | _ :: R, _, h => fold_ok R _ (addsL_ok _ _ _ h)
theorem fold_has {d : Nat} (hd : d < 256) : ∀ (R : List (Nat × Nat)) (s : S4), s.Ok → (∀ p ∈ R, p.1 ≤ p.2 ∧ p.2 ≤ 126) → (foldR R s).has d = (s.has d || inR R d)
  | [], s, _, _ => by show s.has d = _; unfold inR; rw [List.any_nil, Bool.or_false]
  | p :: R, s, hs, hR => by
    obtain ⟨h1, h2⟩ := hR p (List.mem_cons_self ..)
    show (foldR R (addsL (p.2 + 1 - p.1) s p.1)).has d = _
    rw [fold_has hd R _ (addsL_ok _ _ _ hs) (fun q hq => hR q (List.mem_cons_of_mem _ hq)), has_adds hd _ s _ hs (by omega)]
    unfold inR
    rw [List.any_cons, Bool.or_assoc]
    congr 2
    rw [Bool.eq_iff_iff]
    simp only [Bool.and_eq_true, decide_eq_true_eq]
    omega
/-- A member is read. -/
theorem mem_at (A B : List UInt8) (c : UInt8) (hc : inA c.toNat = true) (least : Nat) (hl : least ≤ c.toNat) : memL (A ++ (memE c ++ B)) least A.length = .ok c.toNat (A.length + (memE c).length) := by
  unfold memE
  by_cases hm : isSpM c.toNat = true
  · rw [if_pos hm]
    have p0 : pk (A ++ ([92, c] ++ B)) A.length = 92 := pk_app0 _ _
    have p1 : pk (A ++ ([92, c] ++ B)) (A.length + 1) = c.toNat := pk_app _ _ 1
    have h94 : c.toNat ≤ 94 := by
      unfold isSpM at hm
      simp at hm
      omega
    unfold memL
    rw [p0, p1, if_pos rfl, if_neg (by omega), if_neg (by rw [hm]; decide), if_neg (fun h => h.elim (fun h => absurd h (by omega)) (fun h => by rw [hc] at h; cases h))]
    rfl
  · rw [if_neg hm]
    have p0 : pk (A ++ ([c] ++ B)) A.length = c.toNat := pk_app0 _ _
    have h92 : c.toNat ≠ 92 := fun h => hm (by rw [h]; decide)
    unfold memL
    rw [p0, if_neg h92, if_neg hm, if_neg (fun h => h.elim (fun h => absurd h (by omega)) (fun h => by rw [hc] at h; cases h))]
    rfl
theorem mem_first (c : UInt8) (M : List UInt8) : pk (memE c ++ M) 0 ≠ 45 ∧ pk (memE c ++ M) 0 ≠ 93 ∧ pk (memE c ++ M) 0 ≠ 94 := by
  unfold memE
  by_cases hm : isSpM c.toNat = true
  · rw [if_pos hm]
    exact ⟨(by decide : (92 : Nat) ≠ 45), (by decide : (92 : Nat) ≠ 93), (by decide : (92 : Nat) ≠ 94)⟩
  · rw [if_neg hm]
    refine ⟨fun h => ?_, fun h => ?_, fun h => ?_⟩ <;> (replace h : c.toNat = _ := h; exact hm (by rw [h]; decide))
theorem memE_pos (c : UInt8) : 1 ≤ (memE c).length := by unfold memE; split <;> simp
theorem byte_of (n : Nat) (h : n ≤ 126) : (UInt8.ofNat n).toNat = n := by
  rw [UInt8.toNat_ofNat']; omega
/-- One member alone is read as an item. -/
theorem item_one (A B : List UInt8) (c : UInt8) (hc : inA c.toNat = true) (hB : pk B 0 ≠ 45) (s : S4) : itemL (A ++ (memE c ++ B)) s A.length = .ok (addsL 1 s c.toNat) (A.length + (memE c).length) := by
  have h := inA_lt hc
  unfold itemL
  rw [mem_at A B c hc 32 h.1]
  show (if pk (A ++ (memE c ++ B)) (A.length + (memE c).length) = 45 then _ else _) = _
  rw [if_neg]
  rw [pk_app, pk_app0]
  exact hB
/-- A run with a dash is read as an item. -/
theorem item_run (A B : List UInt8) (c d : UInt8) (hc : inA c.toNat = true) (hd : inA d.toNat = true) (hcd : c.toNat ≤ d.toNat) (s : S4) : itemL (A ++ (memE c ++ (45 :: (memE d ++ B)))) s A.length = .ok (addsL (d.toNat + 1 - c.toNat) s c.toNat) (A.length + ((memE c).length + (1 + (memE d).length))) := by
  have h := inA_lt hc
  obtain ⟨L, hL⟩ : ∃ L, L = A ++ (memE c ++ (45 :: (memE d ++ B))) := ⟨_, rfl⟩
  have e2 : L = (A ++ memE c ++ [45]) ++ (memE d ++ B) := by rw [hL]; simp
  have h1 := mem_at A (45 :: (memE d ++ B)) c hc 32 h.1
  have h2 := mem_at (A ++ memE c ++ [45]) B d hd c.toNat hcd
  have h3 : pk L (A.length + (memE c).length) = 45 := by rw [hL, pk_app, pk_app0]; rfl
  rw [← hL] at h1 ⊢
  rw [← e2, List.length_append, List.length_append, List.length_singleton] at h2
  unfold itemL
  rw [h1]
  show (if pk L (A.length + (memE c).length) = 45 then (memL L c.toNat (A.length + (memE c).length + 1)).bind _ else _) = _
  rw [if_pos h3, h2]
  show PR.ok _ _ = _
  congr 1
  omega
theorem set_step (L : List UInt8) (g : Nat) (s s2 : S4) (i j : Nat) (h : pk L i ≠ 93) (hi : itemL L s i = .ok s2 j) : setL L (g + 1) s i = setL L g s2 j := by
  rw [setL, if_neg (fun hh => h hh.2), hi]; rfl
theorem adds_two (s : S4) (c : Nat) : addsL 1 (addsL 1 s c) (c + 1) = addsL 2 s c := rfl
theorem adds_nz (s : S4) (hs : s.Ok) (n c : Nat) (hn : 0 < n) (hc : c + n ≤ 127) : (addsL n s c).isZ = false := nz_of_has (d := c) (by rw [has_adds (by omega) n s c hs (by omega)]; simp; omega)
/-- The runs up to the bracket are read. -/
theorem runs_at : ∀ (R : List (Nat × Nat)) (A B : List UInt8) (s : S4) (g : Nat), (∀ p ∈ R, p.1 ≤ p.2 ∧ 32 ≤ p.1 ∧ p.2 ≤ 126) → (s.isZ = false ∨ R ≠ []) → s.Ok → (R.flatMap pairU).length < g →
    setL (A ++ (R.flatMap pairU ++ (93 :: B))) g s A.length = .ok (foldR R s) (A.length + (R.flatMap pairU).length + 1)
  | [], A, B, s, g, _, hz, _, hg => by
    obtain ⟨g, rfl⟩ : ∃ k, g = k + 1 := ⟨g - 1, by simp at hg; omega⟩
    have hz' : s.isZ = false := by rcases hz with h | h; exact h; exact absurd rfl h
    rw [setL, if_pos ⟨hz', by rw [pk_app0]; rfl⟩]
    rfl
  | (x, y) :: R, A, B, s, g, hR, _, hs, hg => by
    obtain ⟨h1, h2, h3⟩ := hR (x, y) (List.mem_cons_self ..)
    replace h1 : x ≤ y := h1
    replace h2 : 32 ≤ x := h2
    replace h3 : y ≤ 126 := h3
    have hR' : ∀ p ∈ R, p.1 ≤ p.2 ∧ 32 ≤ p.1 ∧ p.2 ≤ 126 := fun p hp => hR p (List.mem_cons_of_mem _ hp)
    obtain ⟨M, hM⟩ : ∃ M, M = R.flatMap pairU ++ (93 :: B) := ⟨_, rfl⟩
    have hM0 : pk M 0 ≠ 45 := by
      rw [hM]
      cases R with
      | nil => exact (by decide : (93 : Nat) ≠ 45)
      | cons q R =>
        rw [List.flatMap_cons]
        unfold pairU runE
        simp only [List.append_assoc]
        exact (mem_first _ _).1
    obtain ⟨a, ha⟩ : ∃ a, a = UInt8.ofNat x := ⟨_, rfl⟩
    obtain ⟨b, hb⟩ : ∃ b, b = UInt8.ofNat y := ⟨_, rfl⟩
    have hax : a.toNat = x := by rw [ha]; exact byte_of x (by omega)
    have hby : b.toNat = y := by rw [hb]; exact byte_of y h3
    have hai : inA a.toNat = true := by rw [hax]; unfold inA; simp; omega
    have hbi : inA b.toNat = true := by rw [hby]; unfold inA; simp; omega
    have hpa := memE_pos a
    have hpb := memE_pos b
    have epair : pairU (x, y) = runE a b := by unfold pairU; rw [ha, hb]
    have eL : A ++ (((x, y) :: R).flatMap pairU ++ (93 :: B)) = A ++ (runE a b ++ M) := by
      rw [List.flatMap_cons, epair, hM, List.append_assoc]
    rw [List.flatMap_cons, epair, List.length_append] at hg
    rw [eL, List.flatMap_cons, epair, List.length_append]
    show setL _ g s A.length = .ok (foldR R (addsL (y + 1 - x) s x)) _
    have hok := addsL_ok (y + 1 - x) s x hs
    have hnz := adds_nz s hs (y + 1 - x) x (by omega) (by omega)
    unfold runE at hg ⊢
    rw [hax, hby] at hg ⊢
    by_cases c1 : 1 < y - x
    · rw [if_pos c1, if_pos (by omega)] at hg ⊢
      obtain ⟨g, rfl⟩ : ∃ k, g = k + 1 := ⟨g - 1, by simp at hg; omega⟩
      have e1 : A ++ (memE a ++ [45] ++ memE b ++ M) = A ++ (memE a ++ (45 :: (memE b ++ M))) := by simp
      have e2 : A ++ (memE a ++ [45] ++ memE b ++ M) = (A ++ (memE a ++ [45] ++ memE b)) ++ M := by simp
      have h4 := item_run A M a b hai hbi (by omega) s
      rw [hax, hby] at h4
      rw [e1, set_step _ g s _ _ _ (by rw [pk_app0]; exact (mem_first _ _).2.1) h4, ← e1, e2, hM]
      have h5 := runs_at R (A ++ (memE a ++ [45] ++ memE b)) B _ g hR' (.inl hnz) hok (by simp at hg ⊢; omega)
      rw [show A.length + ((memE a).length + (1 + (memE b).length)) = (A ++ (memE a ++ [45] ++ memE b)).length by simp; omega, h5]
      congr 1
      simp
      omega
    · rw [if_neg c1] at hg ⊢
      rw [List.append_nil] at hg ⊢
      by_cases c2 : x < y
      · rw [if_pos c2] at hg ⊢
        obtain rfl : y = x + 1 := by omega
        obtain ⟨g, rfl⟩ : ∃ k, g = k + 2 := ⟨g - 2, by simp at hg; omega⟩
        have e1 : A ++ (memE a ++ memE b ++ M) = A ++ (memE a ++ (memE b ++ M)) := by simp
        have e2 : A ++ (memE a ++ memE b ++ M) = (A ++ memE a) ++ (memE b ++ M) := by simp
        have e3 : A ++ (memE a ++ memE b ++ M) = (A ++ (memE a ++ memE b)) ++ M := by simp
        have h4 := item_one A (memE b ++ M) a hai (mem_first _ _).1 s
        have h5 := item_one (A ++ memE a) M b hbi hM0 (addsL 1 s x)
        rw [hax] at h4
        rw [hby, adds_two] at h5
        rw [e1, set_step _ (g + 1) s _ _ _ (by rw [pk_app0]; exact (mem_first _ _).2.1) h4, ← e1, e2]
        rw [show A.length + (memE a).length = (A ++ memE a).length by simp, set_step _ g _ _ _ _ (by rw [pk_app0]; exact (mem_first _ _).2.1) h5, ← e2, e3, hM]
        rw [show x + 1 + 1 - x = 2 by omega] at hnz hok ⊢
        have h6 := runs_at R (A ++ (memE a ++ memE b)) B _ g hR' (.inl hnz) hok (by simp at hg ⊢; omega)
        rw [show (A ++ memE a).length + (memE b).length = (A ++ (memE a ++ memE b)).length by simp; omega, h6]
        congr 1
        simp
        omega
      · rw [if_neg c2] at hg ⊢
        rw [List.append_nil] at hg ⊢
        obtain rfl : y = x := by omega
        obtain ⟨g, rfl⟩ : ∃ k, g = k + 1 := ⟨g - 1, by omega⟩
        have e3 : A ++ (memE a ++ M) = (A ++ memE a) ++ M := by simp
        have h4 := item_one A M a hai hM0 s
        rw [hax] at h4
        rw [set_step _ g s _ _ _ (by rw [pk_app0]; exact (mem_first _ _).2.1) h4, e3, hM]
        rw [show y + 1 - y = 1 by omega] at hnz hok ⊢
        have h6 := runs_at R (A ++ memE a) B _ g hR' (.inl hnz) hok (by omega)
        rw [show A.length + (memE a).length = (A ++ memE a).length by simp, h6]
        congr 1
        simp
        omega
theorem ptok_atom {L : List UInt8} {t : PT} (h : atomL (patL L L.length) L 0 = .ok t L.length) : PtOk L t := by
  have h1 : SevR (repL (patL L L.length) L) (sepC L) [t] 0 L.length := by
    refine .one ?_
    unfold repL
    rw [h]
    show (if pk L L.length = 42 then _ else _) = _
    rw [if_neg (by rw [pk_out L _ (Nat.le_refl _)]; decide)]
  exact ptok_cat h1
theorem class_nz {s : S4} (h : s.isZ = false) : classT s = .mk 3 s [] := by unfold classT; rw [h]; rfl
theorem bracket_pt (R : List (Nat × Nat)) (hn : R ≠ []) (hR : ∀ p ∈ R, p.1 ≤ p.2 ∧ 32 ≤ p.1 ∧ p.2 ≤ 126) : PtOk (91 :: (R.flatMap pairU ++ [93])) (classT (foldR R .zero)) := by
  refine ptok_atom ?_
  obtain ⟨L, hL⟩ : ∃ L : List UInt8, L = 91 :: (R.flatMap pairU ++ [93]) := ⟨_, rfl⟩
  rw [← hL]
  have hlen : L.length = 1 + (R.flatMap pairU).length + 1 := by rw [hL]; simp; omega
  have h1 := runs_at R [91] [] .zero (L.length + 1) hR (.inr hn) S4.zero_ok (by omega)
  have eL : L = [91] ++ (R.flatMap pairU ++ [93]) := hL
  rw [← eL] at h1
  have hp1 : pk L 1 ≠ 93 ∧ pk L 1 ≠ 94 := by
    have e : pk L 1 = pk (R.flatMap pairU ++ [93]) 0 := by rw [eL]; exact pk_app0 [91] _
    rw [e]
    cases R with
    | nil => exact absurd rfl hn
    | cons q R =>
      rw [List.flatMap_cons]
      unfold pairU runE
      simp only [List.append_assoc]
      exact ⟨(mem_first _ _).2.1, (mem_first _ _).2.2⟩
  unfold atomL
  have hp0 : pk L 0 = 91 := by rw [hL]; rfl
  rw [if_neg (by rw [hp0]; decide), if_pos hp0]
  unfold brackL
  rw [if_neg hp1.1]
  have hneg : negL L (0 + 1) = 1 := by unfold negL; rw [if_neg hp1.2]
  replace h1 : setL L (L.length + 1) .zero 1 = .ok (foldR R .zero) (1 + (R.flatMap pairU).length + 1) := h1
  rw [hneg, h1]
  show PR.ok (setT (decide (pk L 1 = 94)) (foldR R .zero)) _ = _
  rw [decide_eq_false hp1.2, hlen]
  rfl
theorem runs_pt {s : S4} (hz : s.isZ = false) (hal : (s.without S4.alpha).isZ = true) (hs : s.Ok) : runsR s ≠ [] ∧ foldR (runsR s) .zero = s := by
  have hb : ∀ p ∈ runsR s, p.1 ≤ p.2 ∧ p.2 ≤ 126 := fun p hp => by have := (runsTo_ok s 95).2 p hp; omega
  constructor
  · intro h
    have : s = S4.zero := S4.ext hs S4.zero_ok fun c hc => by rw [← set_in hs hal c hc, h, has_zero]; rfl
    rw [this] at hz
    revert hz; decide
  · exact S4.ext (fold_ok _ _ S4.zero_ok) hs fun c hc => by rw [fold_has hc _ _ S4.zero_ok hb, has_zero, Bool.false_or, set_in hs hal c hc]
theorem class_pt (s : S4) (hz : s.isZ = false) (hal : (s.without S4.alpha).isZ = true) (hs : s.Ok) : PtOk (classE s) (.mk 3 s []) := by
  obtain ⟨hn, hf⟩ := runs_pt hz hal hs
  have hb : ∀ p ∈ runsR s, p.1 ≤ p.2 ∧ 32 ≤ p.1 ∧ p.2 ≤ 126 := fun p hp => by have := (runsTo_ok s 95).2 p hp; omega
  unfold classE
  by_cases ha : isAl s = true
  · rw [if_pos ha]
    have e : s = S4.alpha := by
      unfold isAl eqQ at ha
      simp only [Bool.and_eq_true, beq_iff_eq] at ha
      obtain ⟨a, b, c, d⟩ := s
      obtain ⟨⟨⟨h1, h2⟩, h3⟩, h4⟩ := ha
      replace h1 : a = _ := h1
      replace h2 : b = _ := h2
      replace h3 : c = _ := h3
      replace h4 : d = _ := h4
      rw [h1, h2, h3, h4]
    rw [e]
    exact ptok_atom rfl
  · rw [if_neg ha]
    have hbr := bracket_pt (runsR s) hn hb
    rw [hf, class_nz hz] at hbr
    generalize hq : runsR s = R at *
    match R, hn, hb, hf, hbr, hq with
    | [p], _, hb, hf, hbr, hq =>
      show PtOk (if p.1 = p.2 then escL (UInt8.ofNat p.1) else 91 :: (pairU p ++ [93])) _
      by_cases hp : p.1 = p.2
      · rw [if_pos hp]
        obtain ⟨h1, h2, h3⟩ := hb p (List.mem_cons_self ..)
        have hc := byte_of p.1 (by omega)
        obtain ⟨c, hcc⟩ : ∃ c, c = UInt8.ofNat p.1 := ⟨_, rfl⟩
        rw [← hcc] at hc ⊢
        have hia : inA c.toNat = true := by rw [hc]; unfold inA; simp; omega
        have h4 := parse_ptok (parse_lit [c] (fun x hx => by obtain rfl := List.mem_singleton.1 hx; exact hia) (by simp))
        have e1 : litsL [c] = escL c := by rw [litsL, litsL, List.append_nil]
        have e2 : foldR [p] S4.zero = S4.zero.add c.toNat := by
          show addsL (p.2 + 1 - p.1) S4.zero p.1 = _
          rw [hc, show p.2 + 1 - p.1 = 1 by omega]; rfl
        rw [e1] at h4
        have h5 : joinT 4 ([c].map fun c => oneT c.toNat) = .mk 3 s [] := by
          show classT (S4.zero.add c.toNat) = _
          rw [← e2, hf, class_nz hz]
        rw [h5] at h4
        exact h4
      · rw [if_neg hp]
        rw [List.flatMap_cons, List.flatMap_nil, List.append_nil] at hbr
        exact hbr
    | p :: q :: r, _, _, _, hbr, _ => exact hbr
/-- A proper tree's text is read as this tree. -/
theorem back_all (v : PT) (hp : v.prop = true) (hs : Sok v) : PtOk v.txt v := back_of class_pt v hp hs
end

section
open Go.RowKit

/-- What the specification writes at one byte. -/
def refB (s : S4) (b : Nat) : List UInt8 :=
  if s.has b = true then
    (if s.has (b - 1) = true ∧ s.has (b + 1) = true then (if s.has (b - 2) = true then [] else [45]) else memE (UInt8.ofNat b))
  else []
def refO (s : S4) : Nat → List UInt8
  | 0 => []
  | k + 1 => refO s k ++ refB s (32 + k)
/-- What is written of the runs, if the last one goes on. -/
def openE (p : Nat × Nat) : List UInt8 := memE (UInt8.ofNat p.1) ++ (if p.1 < p.2 then [45] else [])
def outE (s : S4) (k : Nat) : List UInt8 := match (runsTo s k).getLast? with
  | none => []
  | some p => (runsTo s k).dropLast.flatMap pairU ++ (if p.2 + 1 = 32 + k ∧ s.has (32 + k) = true then openE p else pairU p)
/-- The last run ends before the place; it begins behind a byte that is not in the set, and all its bytes are in the set. -/
theorem last_run (s : S4) (h31 : s.has 31 = false) : ∀ k p, (runsTo s k).getLast? = some p → p.1 ≤ p.2 ∧ 32 ≤ p.1 ∧ p.2 < 32 + k ∧ s.has (p.1 - 1) = false ∧ (∀ c, p.1 ≤ c → c ≤ p.2 → s.has c = true) ∧ (∀ c, p.2 < c → c < 32 + k → s.has c = false)
  | 0, p, h => by cases h
  | k + 1, p, h => by
    rw [runsTo] at h
    unfold stepR at h
    by_cases hb : s.has (32 + k) = true
    · rw [if_pos hb] at h
      have single : (∀ q, (runsTo s k).getLast? = some q → q.2 + 1 ≠ 32 + k) → p = (32 + k, 32 + k) → p.1 ≤ p.2 ∧ 32 ≤ p.1 ∧ p.2 < 32 + (k + 1) ∧ s.has (p.1 - 1) = false ∧ (∀ c, p.1 ≤ c → c ≤ p.2 → s.has c = true) ∧ (∀ c, p.2 < c → c < 32 + (k + 1) → s.has c = false) := by
        rintro hq rfl
        refine ⟨Nat.le_refl _, by show 32 ≤ 32 + k; omega, by show 32 + k < 32 + (k + 1); omega, ?_, fun c h1 h2 => ?_, fun c h1 h2 => ?_⟩
        · show s.has (32 + k - 1) = false
          cases k with
          | zero => exact h31
          | succ k =>
            rw [show 32 + (k + 1) - 1 = 32 + k by omega]
            cases hx : s.has (32 + k) with
            | false => rfl
            | true =>
              exfalso
              cases hl : (runsTo s (k + 1)).getLast? with
              | none =>
                have hin := runs_in s (32 + k) (k + 1)
                rw [List.getLast?_eq_none_iff.1 hl, hx] at hin
                simp [inR] at hin
              | some q =>
                obtain ⟨q1, q2, q3, q4, q5, q6⟩ := last_run s h31 (k + 1) q hl
                have h7 := hq q hl
                have h8 := q6 (32 + k) (by omega) (by omega)
                rw [hx] at h8; cases h8
        · replace h1 : 32 + k ≤ c := h1
          replace h2 : c ≤ 32 + k := h2
          rw [show c = 32 + k by omega]; exact hb
        · replace h1 : 32 + k < c := h1
          omega
      cases hl : (runsTo s k).getLast? with
      | none =>
        rw [hl] at h
        replace h : (runsTo s k ++ [(32 + k, 32 + k)]).getLast? = some p := h
        rw [List.getLast?_concat] at h
        exact single (fun q hq => by rw [hl] at hq; cases hq) (by cases h; rfl)
      | some q =>
        obtain ⟨x, y⟩ := q
        rw [hl] at h
        replace h : (if y + 1 = 32 + k then (runsTo s k).dropLast ++ [(x, 32 + k)] else runsTo s k ++ [(32 + k, 32 + k)]).getLast? = some p := h
        by_cases hy : y + 1 = 32 + k
        · rw [if_pos hy, List.getLast?_concat] at h
          cases h
          obtain ⟨q1, q2, q3, q4, q5, q6⟩ := last_run s h31 k (x, y) hl
          replace q1 : x ≤ y := q1
          refine ⟨by show x ≤ 32 + k; omega, q2, by show 32 + k < 32 + (k + 1); omega, q4, fun c h1 h2 => ?_, fun c h1 h2 => ?_⟩
          · replace h2 : c ≤ 32 + k := h2
            by_cases hc : c = 32 + k
            · rw [hc]; exact hb
            · exact q5 c h1 (by show c ≤ y; omega)
          · replace h1 : 32 + k < c := h1
            omega
        · rw [if_neg hy, List.getLast?_concat] at h
          exact single (fun q hq => by rw [hl] at hq; cases hq; exact hy) (by cases h; rfl)
    · rw [if_neg hb] at h
      obtain ⟨q1, q2, q3, q4, q5, q6⟩ := last_run s h31 k p h
      refine ⟨q1, q2, by omega, q4, q5, fun c h1 h2 => ?_⟩
      by_cases hc : c = 32 + k
      · rw [hc]; simpa using hb
      · exact q6 c h1 (by omega)
theorem ref_out (s : S4) (h31 : s.has 31 = false) : ∀ k, k ≤ 95 → refO s k = outE s k
  | 0, _ => rfl
  | k + 1, hk => by
    rw [refO, ref_out s h31 k (by omega)]
    unfold refB
    by_cases hb : s.has (32 + k) = true
    · rw [if_pos hb]
      cases hl : (runsTo s k).getLast? with
      | none =>
        have hnil := List.getLast?_eq_none_iff.1 hl
        have hbef : s.has (32 + k - 1) = false := by
          cases k with
          | zero => exact h31
          | succ k =>
            have hin := runs_in s (32 + k) (k + 1)
            rw [hnil] at hin
            rw [show 32 + (k + 1) - 1 = 32 + k by omega]
            cases hx : s.has (32 + k) with
            | false => rfl
            | true => rw [hx] at hin; simp [inR] at hin
        rw [if_neg (fun h => by rw [hbef] at h; cases h.1)]
        have e1 : outE s k = [] := by unfold outE; rw [hl]
        have e2 : runsTo s (k + 1) = [(32 + k, 32 + k)] := by rw [runsTo]; unfold stepR; rw [if_pos hb, hl, hnil]; rfl
        rw [e1]
        unfold outE
        rw [e2]
        show _ = [] ++ (if 32 + k + 1 = 32 + (k + 1) ∧ s.has (32 + (k + 1)) = true then openE (32 + k, 32 + k) else pairU (32 + k, 32 + k))
        have ep : pairU (32 + k, 32 + k) = memE (UInt8.ofNat (32 + k)) := by unfold pairU runE; simp
        have eo : openE (32 + k, 32 + k) = memE (UInt8.ofNat (32 + k)) := by unfold openE; simp
        rw [ep, eo]
        split <;> rfl
      | some q =>
        obtain ⟨x, y⟩ := q
        obtain ⟨q1, q2, q3, q4, q5, q6⟩ := last_run s h31 k (x, y) hl
        replace q1 : x ≤ y := q1
        replace q2 : 32 ≤ x := q2
        replace q3 : y < 32 + k := q3
        replace q4 : s.has (x - 1) = false := q4
        replace q5 : ∀ c, x ≤ c → c ≤ y → s.has c = true := q5
        replace q6 : ∀ c, y < c → c < 32 + k → s.has c = false := q6
        have ek : outE s k = (runsTo s k).dropLast.flatMap pairU ++ (if y + 1 = 32 + k ∧ s.has (32 + k) = true then openE (x, y) else pairU (x, y)) := by unfold outE; rw [hl]
        have esplit : runsTo s k = (runsTo s k).dropLast ++ [(x, y)] := by
          obtain ⟨l', hl'⟩ := List.getLast?_eq_some_iff.1 hl
          rw [hl', List.dropLast_concat]
        by_cases hy : y + 1 = 32 + k
        · have e2 : runsTo s (k + 1) = (runsTo s k).dropLast ++ [(x, 32 + k)] := by
            rw [runsTo]; unfold stepR; rw [if_pos hb, hl]
            show (if y + 1 = 32 + k then _ else _) = _
            rw [if_pos hy]
          have e3 : outE s (k + 1) = (runsTo s k).dropLast.flatMap pairU ++ (if 32 + k + 1 = 32 + (k + 1) ∧ s.has (32 + (k + 1)) = true then openE (x, 32 + k) else pairU (x, 32 + k)) := by
            unfold outE
            rw [e2, List.getLast?_concat]
            show ((runsTo s k).dropLast ++ [(x, 32 + k)]).dropLast.flatMap pairU ++ _ = _
            rw [List.dropLast_concat]
          rw [ek, e3, if_pos (show y + 1 = 32 + k ∧ s.has (32 + k) = true from ⟨hy, hb⟩), List.append_assoc]
          congr 1
          have hbef : s.has (32 + k - 1) = true := q5 _ (by omega) (by omega)
          rw [show 32 + (k + 1) = 32 + k + 1 by omega]
          have hbx := byte_of x (by omega)
          have hbb := byte_of (32 + k) (by omega)
          by_cases haf : s.has (32 + k + 1) = true
          · rw [if_pos (show s.has (32 + k - 1) = true ∧ s.has (32 + k + 1) = true from ⟨hbef, haf⟩), if_pos (show 32 + k + 1 = 32 + k + 1 ∧ s.has (32 + k + 1) = true from ⟨rfl, haf⟩)]
            unfold openE
            by_cases hxy : x < y
            · rw [if_pos (q5 (32 + k - 2) (by omega) (by omega)), if_pos hxy, if_pos (by show x < 32 + k; omega), List.append_nil]
            · obtain rfl : x = y := by omega
              rw [if_neg (show ¬ s.has (32 + k - 2) = true by rw [show 32 + k - 2 = x - 1 by omega, q4]; decide), if_neg (show ¬ ((x, x).1 < (x, x).2) from Nat.lt_irrefl _), if_pos (show (x, 32 + k).1 < (x, 32 + k).2 by show x < 32 + k; omega), List.append_nil]
          · rw [if_neg (show ¬ (s.has (32 + k - 1) = true ∧ s.has (32 + k + 1) = true) from fun h => haf h.2), if_neg (show ¬ (32 + k + 1 = 32 + k + 1 ∧ s.has (32 + k + 1) = true) from fun h => haf h.2)]
            unfold openE pairU runE
            show _ = memE (UInt8.ofNat x) ++ (if 1 < (UInt8.ofNat (32 + k)).toNat - (UInt8.ofNat x).toNat then [45] else []) ++ (if (UInt8.ofNat x).toNat < (UInt8.ofNat (32 + k)).toNat then memE (UInt8.ofNat (32 + k)) else [])
            rw [hbx, hbb, if_pos (by omega : x < 32 + k)]
            by_cases hxy : x < y
            · rw [if_pos hxy, if_pos (by omega)]
            · rw [if_neg hxy, if_neg (by omega)]
        · have e2 : runsTo s (k + 1) = runsTo s k ++ [(32 + k, 32 + k)] := by
            rw [runsTo]; unfold stepR; rw [if_pos hb, hl]
            show (if y + 1 = 32 + k then _ else _) = _
            rw [if_neg hy]
          have e3 : outE s (k + 1) = (runsTo s k).flatMap pairU ++ (if 32 + k + 1 = 32 + (k + 1) ∧ s.has (32 + (k + 1)) = true then openE (32 + k, 32 + k) else pairU (32 + k, 32 + k)) := by
            unfold outE
            rw [e2, List.getLast?_concat]
            show (runsTo s k ++ [(32 + k, 32 + k)]).dropLast.flatMap pairU ++ _ = _
            rw [List.dropLast_concat]
          have ep : pairU (32 + k, 32 + k) = memE (UInt8.ofNat (32 + k)) := by unfold pairU runE; simp
          have eo : openE (32 + k, 32 + k) = memE (UInt8.ofNat (32 + k)) := by unfold openE; simp
          have hbef : s.has (32 + k - 1) = false := q6 _ (by omega) (by omega)
          rw [ek, e3, if_neg (show ¬ (y + 1 = 32 + k ∧ s.has (32 + k) = true) from fun h => hy h.1), if_neg (show ¬ (s.has (32 + k - 1) = true ∧ s.has (32 + k + 1) = true) from fun h => by rw [hbef] at h; cases h.1), ep, eo]
          have ef : (runsTo s k).flatMap pairU = (runsTo s k).dropLast.flatMap pairU ++ pairU (x, y) := by
            conv => lhs; rw [esplit]
            rw [List.flatMap_append, List.flatMap_cons, List.flatMap_nil, List.append_nil]
          rw [ef]
          split <;> rfl
    · have hb' : s.has (32 + k) = false := by simpa using hb
      have e2 : runsTo s (k + 1) = runsTo s k := by rw [runsTo]; unfold stepR; rw [if_neg hb]
      rw [if_neg hb, List.append_nil]
      unfold outE
      rw [e2]
      cases hl : (runsTo s k).getLast? with
      | none => rfl
      | some p =>
        obtain ⟨q1, q2, q3, q4, q5, q6⟩ := last_run s h31 k p hl
        show _ ++ (if _ then _ else _) = _ ++ (if _ then _ else _)
        rw [if_neg (fun h => by rw [hb'] at h; cases h.2), if_neg (fun h => by omega)]
theorem out_alpha {s : S4} (hs : s.Ok) (h : (s.without S4.alpha).isZ = true) (d : Nat) (hd : d < 256) (ho : d < 32 ∨ 126 < d) : s.has d = false := by
  have h1 := has_without hs alpha_ok d hd
  rw [isZ_zero h, has_zero, has_alpha d hd] at h1
  cases hq : s.has d with
  | false => rfl
  | true =>
    rw [hq, Bool.true_and] at h1
    have : (decide (32 ≤ d) && decide (d ≤ 126)) = false := by
      rw [Bool.and_eq_false_iff, decide_eq_false_iff_not, decide_eq_false_iff_not]; omega
    rw [this] at h1; cases h1
/-- All that the specification writes between the brackets is the text of the runs. -/
theorem ref_runs {s : S4} (hs : s.Ok) (h : (s.without S4.alpha).isZ = true) : refO s 95 = (runsR s).flatMap pairU := by
  rw [ref_out s (out_alpha hs h 31 (by decide) (.inl (by decide))) 95 (Nat.le_refl _)]
  unfold outE runsR
  cases hl : (runsTo s 95).getLast? with
  | none => rw [List.getLast?_eq_none_iff.1 hl]; rfl
  | some p =>
    have h127 : s.has (32 + 95) = false := out_alpha hs h 127 (by decide) (.inr (by decide))
    show _ ++ (if p.2 + 1 = 32 + 95 ∧ s.has (32 + 95) = true then openE p else pairU p) = _
    rw [if_neg (show ¬ (p.2 + 1 = 32 + 95 ∧ s.has (32 + 95) = true) from fun h => by rw [h127] at h; cases h.2)]
    obtain ⟨l', hl'⟩ := List.getLast?_eq_some_iff.1 hl
    rw [hl', List.dropLast_concat, List.flatMap_append, List.flatMap_cons, List.flatMap_nil, List.append_nil]
end

section
open Go.RowKit

/-- How many of the first k bytes of the alphabet a set has, and the last one of them. -/
def cntS (s : S4) : Nat → Nat
  | 0 => 0
  | k + 1 => cntS s k + (if s.has (32 + k) = true then 1 else 0)
def onlS (s : S4) : Nat → Nat
  | 0 => 0
  | k + 1 => if s.has (32 + k) = true then 32 + k else onlS s k
theorem cntS_le (s : S4) : ∀ k, cntS s k ≤ k
  | 0 => Nat.le_refl _
  | k + 1 => by
    have := cntS_le s k
    rw [cntS]
    split <;> omega
theorem onlS_lt (s : S4) : ∀ k, onlS s k < 32 + k
  | 0 => by rw [onlS]; omega
  | k + 1 => by
    have := onlS_lt s k
    rw [onlS]
    split <;> omega
def wid : List (Nat × Nat) → Nat
  | [] => 0
  | p :: l => (p.2 + 1 - p.1) + wid l
theorem wid_app : ∀ (L M : List (Nat × Nat)), wid (L ++ M) = wid L + wid M
  | [], M => by rw [List.nil_append, wid]; omega
  | p :: L, M => by rw [List.cons_append, wid, wid, wid_app L M]; omega
theorem runs_wid (s : S4) : ∀ k, wid (runsTo s k) = cntS s k
  | 0 => rfl
  | k + 1 => by
    have ih := runs_wid s k
    rw [runsTo, cntS]
    unfold stepR
    by_cases hb : s.has (32 + k) = true
    · rw [if_pos hb, if_pos hb]
      have app : wid (runsTo s k ++ [(32 + k, 32 + k)]) = cntS s k + 1 := by
        rw [wid_app, ih, wid, wid]
        show _ + ((32 + k + 1 - (32 + k)) + 0) = _
        omega
      cases hl : (runsTo s k).getLast? with
      | none => exact app
      | some p =>
        obtain ⟨x, y⟩ := p
        show wid (if y + 1 = 32 + k then (runsTo s k).dropLast ++ [(x, 32 + k)] else runsTo s k ++ [(32 + k, 32 + k)]) = _
        by_cases hy : y + 1 = 32 + k
        · rw [if_pos hy, wid_app, wid, wid]
          obtain ⟨l', hl'⟩ := List.getLast?_eq_some_iff.1 hl
          have hm := (runsTo_ok s k).2 (x, y) (List.mem_of_getLast? hl)
          rw [hl', wid_app, wid, wid] at ih
          rw [hl', List.dropLast_concat]
          replace ih : wid l' + ((y + 1 - x) + 0) = cntS s k := ih
          replace hm : x ≤ y ∧ 32 ≤ x ∧ y < 32 + k := hm
          show wid l' + ((32 + k + 1 - x) + 0) = _
          omega
        · rw [if_neg hy]; exact app
    · rw [if_neg hb, if_neg hb, ih]; rfl
theorem runs_only (s : S4) : ∀ k p, (runsTo s k).getLast? = some p → p.2 = onlS s k
  | 0, p, h => by cases h
  | k + 1, p, h => by
    rw [runsTo] at h
    rw [onlS]
    unfold stepR at h
    by_cases hb : s.has (32 + k) = true
    · rw [if_pos hb] at h
      rw [if_pos hb]
      cases hl : (runsTo s k).getLast? with
      | none =>
        rw [hl] at h
        replace h : (runsTo s k ++ [(32 + k, 32 + k)]).getLast? = some p := h
        rw [List.getLast?_concat] at h
        cases h; rfl
      | some q =>
        obtain ⟨x, y⟩ := q
        rw [hl] at h
        replace h : (if y + 1 = 32 + k then (runsTo s k).dropLast ++ [(x, 32 + k)] else runsTo s k ++ [(32 + k, 32 + k)]).getLast? = some p := h
        split at h
        · rw [List.getLast?_concat] at h
          cases h; rfl
        · rw [List.getLast?_concat] at h
          cases h; rfl
    · rw [if_neg hb] at h
      rw [if_neg hb]
      exact runs_only s k p h
theorem wid_pos {L : List (Nat × Nat)} (h : ∀ p ∈ L, p.1 ≤ p.2) : L.length ≤ wid L := by
  induction L with
  | nil => exact Nat.le_refl _
  | cons p L ih =>
    have h1 := h p (List.mem_cons_self ..)
    have h2 := ih fun q hq => h q (List.mem_cons_of_mem _ hq)
    rw [wid, List.length_cons]
    omega
/-- The text of a class, as the specification finds it. -/
theorem classE_ref {s : S4} (hs : s.Ok) (h : (s.without S4.alpha).isZ = true) :
    classE s = if isAl s = true then [46] else if cntS s 95 = 1 then escL (UInt8.ofNat (onlS s 95)) else 91 :: (refO s 95 ++ [93]) := by
  unfold classE
  by_cases ha : isAl s = true
  · rw [if_pos ha, if_pos ha]
  rw [if_neg ha, if_neg ha, ref_runs hs h]
  have hw : wid (runsR s) = cntS s 95 := runs_wid s 95
  have hok := (runsTo_ok s 95).2
  have hp : (runsR s).length ≤ wid (runsR s) := wid_pos fun p hp => (hok p hp).1
  by_cases h1 : cntS s 95 = 1
  · rw [if_pos h1]
    match hr : runsR s with
    | [] => rw [hr] at hw; rw [wid] at hw; omega
    | [p] =>
      have hq := runs_only s 95 p (by show (runsR s).getLast? = _; rw [hr]; rfl)
      have hm := (hok p (by show p ∈ runsR s; rw [hr]; exact List.mem_cons_self ..)).1
      rw [hr, wid, wid] at hw
      have e : p.1 = p.2 := by omega
      show (if p.1 = p.2 then _ else _) = _
      rw [if_pos e, e, hq]
    | p :: q :: r =>
      rw [hr] at hp
      simp only [List.length_cons] at hp
      rw [hr] at hw
      omega
  · rw [if_neg h1]
    match hr : runsR s with
    | [] => rfl
    | [p] =>
      rw [hr, wid, wid] at hw
      have hm := (hok p (by show p ∈ runsR s; rw [hr]; exact List.mem_cons_self ..)).1
      show (if p.1 = p.2 then _ else _) = _
      rw [if_neg (by omega), List.flatMap_cons, List.flatMap_nil, List.append_nil]
    | p :: q :: r => rfl
/-- A set lies in the alphabet: byte by byte. -/
theorem alpha_iff {s : S4} (hs : s.Ok) : (s.without S4.alpha).isZ = true ↔ ∀ d, d < 256 → s.has d = true → inA d = true := by
  have hin : ∀ d, inA d = (decide (32 ≤ d) && decide (d ≤ 126)) := fun d => by
    rw [Bool.eq_iff_iff]
    unfold inA
    simp
  constructor
  · intro h d hd hh
    rw [hin]
    cases hq : (decide (32 ≤ d) && decide (d ≤ 126)) with
    | true => rfl
    | false =>
      have := out_alpha hs h d hd (by
        rw [Bool.and_eq_false_iff, decide_eq_false_iff_not, decide_eq_false_iff_not] at hq
        omega)
      rw [hh] at this; cases this
  · intro h
    have e : s.without S4.alpha = S4.zero := S4.ext (without_ok s _) S4.zero_ok fun c hc => by
      rw [has_without hs alpha_ok c hc, has_alpha c hc, has_zero]
      cases hq : s.has c with
      | false => rfl
      | true =>
        have := h c hc hq
        rw [hin] at this
        rw [this]; rfl
    rw [e]; rfl
end

end Go.Proofs.YtkogldlhidppaaaDoor
