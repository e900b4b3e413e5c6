/-
  The specification's shortest text is the program's. With no program in it. Nothing is assumed.
-/
import Derived.Test.YtaipaddfehpmgaaDoorRsQ
import Derived.Test.YtaipaddfehpmgaaDoorPaTxt
import Derived.Test.YtaipaddfehpmgaaDoorPaShort
namespace Go.Proofs.YtaipaddfehpmgaaDoor

section
open Go.RowKit

def capI : Int := 1152921504606846977
/-- How many texts of a length lead from a state of the specification's machine to one that accepts: no limit. -/
def exB (r : (List S4 × List Int) × Pa) : Nat → Int → Int
  | 0, x => if accR r.2 x = true then 1 else 0
  | n + 1, x => sumB (fun b => exB r n (rStep r b x)) alB
theorem sumB_nonneg {f : Nat → Int} (h : ∀ b, 0 ≤ f b) : ∀ l, 0 ≤ sumB f l
  | [] => Int.le_refl _
  | b :: l => by
    rw [sumB]
    have := h b
    have := sumB_nonneg h l
    omega
theorem exB_nonneg (r : (List S4 × List Int) × Pa) : ∀ n x, 0 ≤ exB r n x
  | 0, x => by rw [exB]; split <;> decide
  | n + 1, x => by rw [exB]; exact sumB_nonneg (fun b => exB_nonneg r n _) _
theorem fold_cap {f e : Nat → Int} (he : ∀ b, 0 ≤ e b) (hf : ∀ b, f b = min (e b) capI) : ∀ (l : List Nat) (s : Int), 0 ≤ s → l.foldl (fun s b => capA (s + f b)) (min s capI) = min (s + sumB e l) capI
  | [], s, _ => by rw [sumB, Int.add_zero]; rfl
  | b :: l, s, hs => by
    have h1 := he b
    rw [List.foldl_cons, sumB, hf b, show capA (min s capI + min (e b) capI) = min (s + e b) capI by unfold capA capI; omega, fold_cap he hf l (s + e b) (by omega)]
    congr 1
    omega
theorem stepL_alB (ps : List Ps) (y : Int) : stepL ps y = alB.map fun b => stB ps b y := by
  unfold stepL rdL alB
  rw [List.map_map, List.map_map]
  rfl
theorem cnt_exact {r : (List S4 × List Int) × Pa} {ps : List Ps} {last : Int} (h : Mch r ps last) : ∀ (n : Nat) (x y : Int), St x y → cntG (stepL ps) (accQ last) n y = min (exB r n x) capI
  | 0, x, y, hs => by
    rw [cntG, exB, acc_sim h hs]
    unfold capI
    split <;> rfl
  | n + 1, x, y, hs => by
    rw [cntG, exB, stepL_alB, List.foldl_map]
    have := fold_cap (f := fun b => cntG (stepL ps) (accQ last) n (stB ps b y)) (e := fun b => exB r n (rStep r b x)) (fun b => exB_nonneg r n _) (fun b => cnt_exact h n _ _ (.inr (step_sim h hs b))) alB 0 (Int.le_refl _)
    rw [Int.zero_add] at this
    exact this

/-- The specification's sums and products. -/
def plusR (a b : Int) : Int := min (a + b) capI
def timesR (a b : Int) : Int := if 0 < a ∧ 1152921504606846976 / a < b then capI else a * b
theorem times_min {a e : Int} (ha : 1 ≤ a) (he : 0 ≤ e) : timesR a (min e capI) = min (a * e) capI := by
  unfold timesR
  obtain ⟨v, hv⟩ : ∃ v, v = min e capI := ⟨_, rfl⟩
  rw [← hv]
  have hv0 : 0 ≤ v := by rw [hv]; unfold capI; omega
  have hve : v ≤ e := by rw [hv]; omega
  by_cases hd : 1152921504606846976 / a < v
  · rw [if_pos ⟨by omega, hd⟩]
    have h1 : 1152921504606846976 < v * a := (Int.ediv_lt_iff_lt_mul (by omega)).1 hd
    have h2 : v * a ≤ e * a := Int.mul_le_mul_of_nonneg_right hve (by omega)
    rw [Int.mul_comm a e]
    unfold capI
    omega
  · rw [if_neg (fun h => hd h.2)]
    have h1 : v * a ≤ 1152921504606846976 := (Int.le_ediv_iff_mul_le (by omega)).1 (by omega)
    have h2 : v * 1 ≤ v * a := Int.mul_le_mul_of_nonneg_left ha hv0
    have h3 : v = e := by
      unfold capI at hv
      omega
    rw [← h3, Int.mul_comm a v]
    unfold capI
    omega
/-- One row of the specification's longer texts, group by group. -/
def rowR (C : List Int) : List Gp → List Nat → Int → Int
  | g :: G, k :: tt, s => rowR C G tt (plusR s (timesR g.2.2 ((C[k]?).getD 0)))
  | _, _, s => s
def longR (C : List Int) (G : List Gp) (E : List (List Nat)) : List Int := E.map fun tt => rowR C G tt 0
def iterR (G : List Gp) (E : List (List Nat)) (C : List Int) : Nat → List Int
  | 0 => C
  | n + 1 => longR (iterR G E C n) G E
theorem row_eq {C : List Int} {h : Int → Int → Int} (hh : ∀ a b, 0 ≤ h a b) : ∀ (G : List Gp) (tt : List Nat) (s : Int), 0 ≤ s → tt.length = G.length → (∀ g, g ∈ G → 1 ≤ g.2.2) → (∀ (j : Nat) g k, G[j]? = some g → tt[j]? = some k → C[k]? = some (min (h g.1 g.2.1) capI)) → rowR C G tt (min s capI) = min (s + sumG h G) capI
  | [], tt, s, _, _, _, _ => by
    have : rowR C [] tt (min s capI) = min s capI := by cases tt <;> rfl
    rw [this, sumG, Int.add_zero]
  | g :: G, [], s, _, hl, _, _ => by simp at hl
  | g :: G, k :: tt, s, hs, hl, hp, hc => by
    have h1 := hc 0 g k rfl rfl
    have h2 := hp g (List.mem_cons_self ..)
    have h3 := hh g.1 g.2.1
    have h4 : 0 ≤ g.2.2 * h g.1 g.2.1 := Int.mul_nonneg (by omega) h3
    rw [rowR, h1, Option.getD_some, times_min h2 h3, show plusR (min s capI) (min (g.2.2 * h g.1 g.2.1) capI) = min (s + g.2.2 * h g.1 g.2.1) capI by unfold plusR capI; omega,
      row_eq hh G tt (s + g.2.2 * h g.1 g.2.1) (by omega) (by simpa using hl) (fun g hg => hp g (List.mem_cons_of_mem _ hg)) (fun j g k h1 h2 => hc (j + 1) g k (by simpa using h1) (by simpa using h2)), sumG]
    congr 1
    omega
/-- The machine of the tree without texts. -/
def rNo : (List S4 × List Int) × Pa := rOf (.mk 1 .zero [])
theorem rNo_eq : rNo = (([], []), .zero) := by
  unfold rNo rOf
  rw [rAdd_eq]
  rfl
/-- A state of the program's machine beside a pair of the specification's. -/
def Wr (z : P2) (y : Int) : Prop := (z = (begZ, begZ) ∧ y = 1) ∨ (Sh z.1 y ∧ z.2 = 0)
theorem Wr.st {z : P2} {y : Int} (h : Wr z y) : St z.1 y := by
  rcases h with ⟨rfl, rfl⟩ | ⟨h, _⟩
  · exact .inl ⟨rfl, rfl⟩
  · exact .inr h
theorem Wr.inj {z v : P2} {y : Int} (h : Wr z y) (k : Wr v y) : z = v := by
  rcases h with ⟨rfl, e⟩ | ⟨h, h2⟩
  · rcases k with ⟨rfl, _⟩ | ⟨k, _⟩
    · rfl
    · exact absurd e k.none
  · rcases k with ⟨_, e⟩ | ⟨k, k2⟩
    · exact absurd e h.none
    · exact Prod.ext (h.inj k) (by rw [h2, k2])
theorem Wr.inj' {z : P2} {y y' : Int} (h : Wr z y) (k : Wr z y') : y = y' := h.st.inj' k.st
theorem no_next (x : Int) (c : Int) (hc : c = begZ ∨ c = 0) : bits BinOp.and IntKind.u64 (nxtR rNo.2 rNo.1.2 c) x = 0 := by
  rw [rNo_eq]
  have : nxtR Pa.zero ([] : List Int) c = 0 := by
    unfold nxtR
    rcases hc with rfl | rfl
    · rw [if_pos rfl]; rfl
    · rw [if_neg (by decide)]; rfl
  show bits BinOp.and IntKind.u64 (nxtR Pa.zero ([] : List Int) c) x = 0
  rw [this]
  exact and_nil x
theorem Wr.two {z : P2} {y : Int} (h : Wr z y) : z.2 = begZ ∨ z.2 = 0 := by
  rcases h with ⟨rfl, _⟩ | ⟨_, h⟩
  · exact .inl rfl
  · exact .inr h
section
variable {r : (List S4 × List Int) × Pa} {ps : List Ps} {last : Int}
theorem wr_fwd (h : Mch r ps last) {z v : P2} {y : Int} (hz : Wr z y) (hv : v ∈ nextR r rNo (grps r rNo) z) : ∃ v', v' ∈ stepL ps y ∧ Wr v v' := by
  unfold nextR at hv
  obtain ⟨g, hg, rfl⟩ := List.mem_map.1 hv
  obtain ⟨b, hb, e1, _⟩ := grps_of hg
  refine ⟨stB ps b y, step_mem hb, .inr ⟨?_, no_next _ _ hz.two⟩⟩
  show Sh (bits BinOp.and IntKind.u64 (nxtR r.2 r.1.2 z.1) g.1) _
  rw [e1]
  exact step_sim h hz.st b
theorem wr_bwd (h : Mch r ps last) {z : P2} {y v' : Int} (hz : Wr z y) (hv : v' ∈ stepL ps y) : ∃ v, v ∈ nextR r rNo (grps r rNo) z ∧ Wr v v' := by
  obtain ⟨b, hb, rfl⟩ := step_of hv
  obtain ⟨g, hg, e1, _⟩ := grps_has r rNo hb
  refine ⟨_, List.mem_map.2 ⟨g, hg, rfl⟩, .inr ⟨?_, no_next _ _ hz.two⟩⟩
  show Sh (bits BinOp.and IntKind.u64 (nxtR r.2 r.1.2 z.1) g.1) _
  rw [e1]
  exact step_sim h hz.st b
/-- The numbers of the specification, longer and longer. -/
theorem iter_eq {F : List P2} {E : List (List Nat)} (hW : Whole (nextR r rNo (grps r rNo)) (begZ, begZ) F E) {C : List Int} (hC : ∀ (i : Nat) z, F[i]? = some z → C[i]? = some (if accR r.2 z.1 = true then 1 else 0)) : ∀ (n i : Nat) z, F[i]? = some z → (iterR (grps r rNo) E C n)[i]? = some (min (exB r n z.1) capI)
  | 0, i, z, hi => by
    rw [iterR, hC i z hi, exB]
    unfold capI
    split <;> rfl
  | n + 1, i, z, hi => by
    have hil := (List.getElem?_eq_some_iff.1 hi).1
    obtain ⟨tt, e1, e2, e3⟩ := hW.g.ed i z (by rw [hW.el]; exact hil) hi
    rw [iterR]
    unfold longR
    rw [List.getElem?_map, e1]
    have key := row_eq (C := iterR (grps r rNo) E C n) (h := fun a _ => exB r n (bits BinOp.and IntKind.u64 (nxtR r.2 r.1.2 z.1) a)) (fun a b => exB_nonneg r n _) (grps r rNo) tt 0 (Int.le_refl _) (by rw [e2]; unfold nextR; rw [List.length_map]) (fun g hg => grps_pos hg) (fun j g k h1 h2 => by
      have h3 := e3 j k h2
      unfold nextR at h3
      rw [List.getElem?_map, h1] at h3
      exact iter_eq hW hC n k _ h3)
    rw [Int.zero_add, grps_sum] at key
    exact congrArg some key
/-- What the specification's Words returns for a tree, and the error. -/
def rWords (r : (List S4 × List Int) × Pa) (n : Nat) : Int × Int :=
  if 4096 < (exR (nextR r rNo (grps r rNo)) 4098 [(begZ, begZ)] []).1.length then (0, 10)
  else if 1152921504606846976 < hd0 (iterR (grps r rNo) (exR (nextR r rNo (grps r rNo)) 4098 [(begZ, begZ)] []).2 ((exR (nextR r rNo (grps r rNo)) 4098 [(begZ, begZ)] []).1.map fun z => if accR r.2 z.1 = true then 1 else 0) n) then (0, 11)
  else (hd0 (iterR (grps r rNo) (exR (nextR r rNo (grps r rNo)) 4098 [(begZ, begZ)] []).2 ((exR (nextR r rNo (grps r rNo)) 4098 [(begZ, begZ)] []).1.map fun z => if accR r.2 z.1 = true then 1 else 0) n), 0)
end
theorem rwords_eq {t : PT} (ha : AlT t) (hf : t.fit = true) (hl : t.lv ≤ 62) (n : Nat) : rWords (rOf t) n = wordsT t n := by
  have h := mch_of ha hf hl
  have h0 : Wr (begZ, begZ) (1 : Int) := .inl ⟨rfl, rfl⟩
  unfold rWords
  have hs := searchR (nextR (rOf t) rNo (grps (rOf t) rNo)) (begZ, begZ)
  generalize exR (nextR (rOf t) rNo (grps (rOf t) rNo)) 4098 [(begZ, begZ)] [] = X at hs ⊢
  rcases search (next := stepL (buildT t).1) (1 : Int) with ⟨e, F, E, hG, hm⟩ | ⟨F, E, e, hW⟩
  · have ew : wordsT t n = (0, 10) := by
      unfold wordsT
      rw [e]
    rw [ew]
    rcases hs with ⟨k1, _⟩ | ⟨k1, kW⟩
    · rw [if_pos k1]
    · exfalso
      have := nodup_rel (R := fun y z => Wr z y) (fun a a' b k1 k2 => k1.inj' k2) F _ hG.nd (hG.rc (fun y => ∃ z, z ∈ X.1 ∧ Wr z y) ⟨_, kW.start, h0⟩ (fun y ⟨z, hz, hp⟩ v' hv => by
        obtain ⟨v, h1, h2⟩ := wr_bwd h hp hv
        exact ⟨v, kW.closed hz h1, h2⟩))
      omega
  · rw [words_whole hW e]
    rcases hs with ⟨k1, E', kE⟩ | ⟨k1, kW⟩
    · exfalso
      have j2 := kE.rc (fun z => ∃ y, y ∈ F ∧ Wr z y) ⟨_, hW.start, h0⟩ (fun z ⟨y, hy, hp⟩ v hv => by
        obtain ⟨v', h1, h2⟩ := wr_fwd h hp hv
        exact ⟨v', hW.closed hy h1, h2⟩)
      have := nodup_rel (R := Wr) (fun a a' b k1 k2 => k1.inj k2) _ F kE.nd j2
      have := hW.lm
      omega
    · have hd : hd0 (iterR (grps (rOf t) rNo) X.2 (X.1.map fun z => if accR (rOf t).2 z.1 = true then 1 else 0) n) = cntT t n := by
        have h1 := iter_eq (r := rOf t) kW (C := X.1.map fun z => if accR (rOf t).2 z.1 = true then 1 else 0) (fun i z hi => by rw [List.getElem?_map, hi]; rfl) n 0 (begZ, begZ) kW.g.hd
        unfold hd0
        rw [h1]
        exact (cnt_exact h n begZ 1 (.inl ⟨rfl, rfl⟩)).symm
      rw [if_neg (by omega), hd]
end

section
section
open Go.RowKit

/-- A set with a byte of the alphabet. -/
def NeS (s : S4) : Prop := ∃ d, 32 ≤ d ∧ d ≤ 126 ∧ s.has d = true
theorem NeS.of {s : S4} (h : AlS s) (hz : ¬ s.isZ = true) : NeS s := by
  by_cases hx : ∃ d, d < 256 ∧ s.has d = true
  · obtain ⟨d, hd, hh⟩ := hx
    obtain ⟨h1, h2⟩ := h.2 d hd hh
    exact ⟨d, h1, h2, hh⟩
  · exact absurd (by
      have : s = S4.zero := S4.ext h.1 S4.zero_ok fun c hc => by
        rw [has_zero]
        cases hh : s.has c with
        | false => rfl
        | true => exact absurd ⟨c, hc, hh⟩ hx
      rw [this]
      decide) hz
/-- Of a tree: all its classes. -/
def NeT (t : PT) : Prop := PT.rec (motive_1 := fun _ => Prop) (motive_2 := fun _ => Prop) (fun k s _ ih => (k = 3 → NeS s) ∧ ih) True (fun _ _ a b => a ∧ b) t
theorem NeT.here {t : PT} (h : NeT t) : t.k = 3 → NeS t.s := by cases t; exact h.1
theorem NeT.mem {t x : PT} (h : NeT t) (hx : x ∈ t.l) : NeT x := by
  cases t with
  | mk k s l =>
    have h2 := h.2
    clear h
    induction l with
    | nil => cases hx
    | cons y l ih =>
      rcases List.mem_cons.1 hx with rfl | hx
      · exact h2.1
      · exact ih hx h2.2
theorem NeT.of {k : Int} {s : S4} {l : List PT} (hs : k = 3 → NeS s) (hl : ∀ x, x ∈ l → NeT x) : NeT (.mk k s l) := by
  refine ⟨hs, ?_⟩
  induction l with
  | nil => trivial
  | cons x l ih => exact ⟨hl x (List.mem_cons_self ..), ih (fun y hy => hl y (List.mem_cons_of_mem _ hy))⟩
theorem NeT.leaf {k : Int} (hk : k ≠ 3) : NeT (.mk k .zero []) := NeT.of (fun h => absurd h hk) (fun _ h => by cases h)
def Gd4 (L : List UInt8) (f : Nat → PR PT) : Prop := ∀ i, i ≤ L.length → ∀ t m, f i = .ok t m → NeT t
theorem class_ne {s : S4} (hs : AlS s) : NeT (classT s) := by
  unfold classT
  split
  · exact NeT.leaf (by decide)
  · rename_i hz
    exact NeT.of (fun _ => NeS.of hs hz) (fun _ h => by cases h)
theorem brack_ne {L : List UInt8} {i : Nat} (hi : i < L.length) {t : PT} {m : Nat} (h : brackL L i = .ok t m) : NeT t := by
  unfold brackL at h
  split at h
  · cases h
    exact NeT.leaf (by decide)
  · cases hm : setL L (L.length + 1) .zero (negL L (i + 1)) with
    | bad q => rw [hm] at h; cases h
    | ok s q =>
      rw [hm] at h
      have hn : negL L (i + 1) ≤ L.length := by
        unfold negL
        split
        · rename_i h94
          have := pk_is h94 (by decide)
          omega
        · omega
      have hs := set_al _ _ _ hn AlS.zero s q hm
      have hg : NeT (setT (decide (pk L (i + 1) = 94)) s) := by
        unfold setT
        refine class_ne ?_
        split
        · exact AlS.without hs.1
        · exact hs
      cases h
      exact hg
theorem one_ne {c : Nat} (h : 32 ≤ c ∧ c ≤ 126) : NeT (oneT c) := class_ne (AlS.add AlS.zero h.1 h.2)
theorem atom_ne {L : List UInt8} {pat : Nat → PR PT} (hp : Gd4 L pat) : Gd4 L (atomL pat L) := by
  intro i hi t m h
  unfold atomL at h
  split at h
  · rename_i h40
    have hl := pk_is h40 (by decide)
    unfold groupL at h
    split at h
    · cases h
      exact NeT.leaf (by decide)
    · cases hq : pat (i + 1) with
      | bad q => rw [hq] at h; cases h
      | ok t' q =>
        rw [hq] at h
        replace h : (if pk L q = 41 then .ok t' (q + 1) else .bad q : PR PT) = .ok t m := h
        split at h
        · cases h
          exact hp (i + 1) (by omega) _ q hq
        · cases h
  split at h
  · rename_i h91
    exact brack_ne (pk_is h91 (by decide)) h
  split at h
  · cases h
    exact class_ne AlS.alpha
  split at h
  · split at h
    · cases h
      rename_i hsp
      exact one_ne (isSp_lt hsp)
    · cases h
  split at h
  · cases h
    rename_i hpl
    exact one_ne (inA_lt (by unfold isPl at hpl; rw [Bool.and_eq_true] at hpl; exact hpl.1))
  · cases h
theorem rep_ne {L : List UInt8} {pat : Nat → PR PT} (hp : Gd4 L pat) : Gd4 L (repL pat L) := by
  intro i hi t m h
  unfold repL at h
  cases hq : atomL pat L i with
  | bad q => rw [hq] at h; cases h
  | ok t' q =>
    rw [hq] at h
    have h1 := atom_ne hp i hi t' q hq
    replace h : (if pk L q = 42 then .ok (.mk 6 .zero [t']) (q + 1) else .ok t' q : PR PT) = .ok t m := h
    split at h
    · cases h
      exact NeT.of (fun h => absurd h (by decide)) (fun x hx => by obtain rfl := List.mem_singleton.1 hx; exact h1)
    · cases h; exact h1
theorem sev_ne {L : List UInt8} {one : Nat → PR PT} {sep : Nat → Option Nat} (ho : Good L one) (h2 : Gd4 L one) (hs : SepOk L sep) : ∀ (g : Nat) (acc : List PT) (i : Nat), i ≤ L.length → (∀ x, x ∈ acc → NeT x) → ∀ l m, sevL one sep g acc i = .ok l m → ∀ x, x ∈ l → NeT x
  | 0, _, _, _, _, _, _, h => by cases h
  | g + 1, acc, i, hi, ha, l, m, h => by
    have step : ∀ j, i ≤ j → j ≤ L.length → ((one j).bind fun t m => sevL one sep g (acc ++ [t]) m) = .ok l m → ∀ x, x ∈ l → NeT x := fun j hij hj hh => by
      have hg := (ho j hj).1
      cases hq : one j with
      | bad q => rw [hq] at hh; cases hh
      | ok t q =>
        rw [hq] at hh hg
        have k1 := h2 j hj t q hq
        exact sev_ne ho h2 hs g (acc ++ [t]) q hg.2 (fun x hx => by
          rcases List.mem_append.1 hx with hx | hx
          · exact ha x hx
          · obtain rfl := List.mem_singleton.1 hx; exact k1) l m hh
    rw [sevL] at h
    split at h
    · exact step i (Nat.le_refl _) hi h
    · cases hsep : sep i with
      | none => rw [hsep] at h; cases h; exact ha
      | some j =>
        rw [hsep] at h
        obtain ⟨h3, h4⟩ := hs i j hsep hi
        exact step j h3 h4 h
theorem join_ne {kind : Int} (hk : kind ≠ 3) {l : List PT} (h : ∀ x, x ∈ l → NeT x) : NeT (joinT kind l) := by
  match l, h with
  | [], h => exact NeT.leaf hk
  | [t], h => exact h t (List.mem_cons_self ..)
  | t :: u :: r, h => exact NeT.of (fun e => absurd e hk) h
theorem several_ne {L : List UInt8} {one : Nat → PR PT} {sep : Nat → Option Nat} (ho : Good L one) (h2 : Gd4 L one) (hs : SepOk L sep) {kind : Int} (hk : kind ≠ 3) : Gd4 L fun i => (sevL one sep (L.length + 1) [] i).map (joinT kind) := by
  intro i hi t m h
  replace h : (sevL one sep (L.length + 1) [] i).map (joinT kind) = .ok t m := h
  cases hq : sevL one sep (L.length + 1) [] i with
  | bad q => rw [hq] at h; cases h
  | ok l q =>
    rw [hq] at h
    cases h
    exact join_ne hk (sev_ne ho h2 hs _ [] i hi (fun _ h => by cases h) l _ hq)
theorem pat_ne (L : List UInt8) : ∀ d, Gd4 L (patL L d) := by
  intro d
  induction d with
  | zero => exact fun i hi t m h => by cases h
  | succ d ih => exact several_ne (cat_good (pat_good L d)) (several_ne (rep_good (pat_good L d)) (rep_ne ih) (sepC_ok L) (by decide)) (sepP_ok L) (by decide)
theorem parse_ne {L : List UInt8} {t : PT} {m : Nat} (h : parseT L = .ok t m) : NeT t := by
  unfold parseT at h
  cases hq : patL L (L.length + 1) 0 with
  | bad q => rw [hq] at h; cases h
  | ok t' q =>
    rw [hq] at h
    replace h : (if q = L.length then PR.ok t' q else .bad q) = .ok t m := h
    split at h
    · cases h
      exact pat_ne L (L.length + 1) 0 (Nat.zero_le _) _ _ hq
    · cases h
theorem TP.ne {p : ByteArray} {t : PT} (h : TP p t) : NeT t := by
  obtain ⟨m, hm⟩ := h.parse
  exact parse_ne hm
/-- The sets of the positions of a tree. -/
theorem rAdd_ne (t : PT) : NeT t → ∀ m, (∀ s, s ∈ m.1 → NeS s) → ∀ s, s ∈ (rAdd m t).1.1 → NeS s := by
  induction t using PT.ind with
  | h t ih =>
  intro hn m hm
  have hseq : ∀ (l : List PT) (alt : Bool) (m : List S4 × List Int) (p : Pa), (∀ x, x ∈ l → ∀ m, (∀ s, s ∈ m.1 → NeS s) → ∀ s, s ∈ (rAdd m x).1.1 → NeS s) → (∀ s, s ∈ m.1 → NeS s) → ∀ s, s ∈ (rSeq alt m p l).1.1 → NeS s := by
    intro l
    induction l with
    | nil => intro alt m p _ hm; rw [rSeq]; exact hm
    | cons x l ihl =>
      intro alt m p hx hm
      rw [rSeq_cons]
      have h1 := hx x (List.mem_cons_self ..) m hm
      split
      · exact ihl alt (rAdd m x).1 (altS p (rAdd m x).2) (fun y hy => hx y (List.mem_cons_of_mem _ hy)) h1
      · exact ihl alt ((rAdd m x).1.1, lnkL p.t (rAdd m x).2.f (rAdd m x).1.2) (rJoin p (rAdd m x).2) (fun y hy => hx y (List.mem_cons_of_mem _ hy)) h1
  rw [rAdd_eq]
  split
  · exact hm
  split
  · exact hm
  split
  · rename_i h3
    intro s hs
    rcases List.mem_append.1 hs with hs | hs
    · exact hm s hs
    · rw [List.mem_singleton.1 hs]
      exact hn.here h3
  split
  · have hx : ∀ x, x ∈ t.l → NeT x := fun x hx => hn.mem hx
    revert ih hx
    generalize t.l = l
    intro ih hx
    cases l with
    | nil => exact hm
    | cons x l =>
      rw [rRep]
      exact ih x (List.mem_cons_self ..) (hx x (List.mem_cons_self ..)) m hm
  · exact hseq t.l (t.k == 5) m ⟨t.k == 4, 0, 0⟩ (fun x hx => ih x hx (hn.mem hx)) hm
theorem rOf_ne {t : PT} (h : NeT t) : ∀ s, s ∈ (rOf t).1.1 → NeS s := rAdd_ne t h ([], []) (fun s hs => by cases hs)
end

section
open Go.RowKit

/-- The positions whose following ones meet a set. -/
def nrL (y : Int) : Nat → List Int → Int → Int
  | _, [], a => a
  | i, x :: l, a => nrL y (i + 1) l (if bits BinOp.and IntKind.u64 x y = 0 then a else orS a (oneS i))
theorem nr_bt (y : Int) (j : Nat) : ∀ (l : List Int) (i : Nat) (a : Int), bt (nrL y i l a) j = true ↔ bt a j = true ∨ ∃ k x, l[k]? = some x ∧ bits BinOp.and IntKind.u64 x y ≠ 0 ∧ i + k = j ∧ j < 64
  | [], i, a => by
    rw [nrL]
    constructor
    · exact .inl
    · rintro (h | ⟨k, s, h, _⟩)
      · exact h
      · simp at h
  | s :: l, i, a => by
    rw [nrL, nr_bt y j l (i + 1)]
    constructor
    · rintro (h | ⟨k, s', h1, h2, h3, h4⟩)
      · by_cases hs : bits BinOp.and IntKind.u64 s y = 0
        · rw [if_pos hs] at h
          exact .inl h
        · rw [if_neg hs, bt_or, Bool.or_eq_true, bt_one, decide_eq_true_iff] at h
          rcases h with h | h
          · exact .inl h
          · exact .inr ⟨0, s, rfl, hs, by omega, by omega⟩
      · exact .inr ⟨k + 1, s', h1, h2, by omega, h4⟩
    · rintro (h | ⟨k, s', h1, h2, h3, h4⟩)
      · left
        split
        · exact h
        · rw [bt_or, h]; rfl
      · cases k with
        | zero =>
          cases h1
          left
          rw [if_neg h2, bt_or, bt_one, decide_eq_true (show i = j ∧ i < 64 by omega), Bool.or_true]
        | succ k => exact .inr ⟨k, s', by simpa using h1, h2, by omega, h4⟩
/-- The positions from which k more bytes suffice. -/
def nearZ (r : (List S4 × List Int) × Pa) : Nat → Int
  | 0 => r.2.t
  | k + 1 => nrL (nearZ r k) 0 r.1.2 0
/-- The same of the program's machine. -/
def nearP (ps : List Ps) (last : Int) : Nat → Int
  | 0 => last
  | k + 1 => beforeL (nearP ps last k) 0 ps 0
/-- The least number from k on with a property, among so many. -/
def fstN (c : Nat → Bool) : Nat → Nat → Option Nat
  | 0, _ => none
  | g + 1, k => if c k = true then some k else fstN c g (k + 1)
def rLens (r : (List S4 × List Int) × Pa) (l : Nat) : Bool := bits BinOp.and IntKind.u64 r.2.f (nearZ r (l - 1)) != 0
def rByte (r : (List S4 × List Int) × Pa) (k : Nat) (st : Int) (b : Nat) : Bool := bits BinOp.and IntKind.u64 (rStep r b st) (nearZ r k) != 0
/-- The bytes that the specification chooses. -/
def rGo (r : (List S4 × List Int) × Pa) : Nat → Int → List UInt8 → List UInt8
  | 0, _, acc => acc
  | k + 1, st, acc => match fstN (rByte r k st) 95 32 with
    | none => rGo r k st acc
    | some b => rGo r k (rStep r b st) (acc ++ [UInt8.ofNat b])
/-- What the specification's Shortest returns for a machine. -/
def rShort (r : (List S4 × List Int) × Pa) : Value :=
  if r.2.e = true then .tuple #[.string ⟨#[]⟩, .int .i64 0] else match fstN (rLens r) r.1.1.length 1 with
  | none => .tuple #[.string ⟨#[]⟩, .int .i64 7]
  | some m => .tuple #[.string ⟨(rGo r m begZ []).toArray⟩, .int .i64 0]
theorem fst_none {c : Nat → Bool} : ∀ (g k : Nat), (∀ j, k ≤ j → c j = false) → fstN c g k = none
  | 0, _, _ => rfl
  | g + 1, k, h => by
    rw [fstN, h k (Nat.le_refl _), if_neg (by decide)]
    exact fst_none g (k + 1) (fun j hj => h j (by omega))
theorem fst_some {c : Nat → Bool} : ∀ (g k m : Nat), k ≤ m → m < k + g → c m = true → (∀ j, k ≤ j → j < m → c j = false) → fstN c g k = some m
  | 0, k, m, h1, h2, _, _ => by omega
  | g + 1, k, m, h1, h2, h3, h4 => by
    rw [fstN]
    by_cases h : k = m
    · rw [h, h3, if_pos rfl]
    · rw [h4 k (Nat.le_refl _) (by omega), if_neg (by decide)]
      exact fst_some g (k + 1) m (by omega) (by omega) h3 (fun j hj hm => h4 j (by omega) hm)
/-- The last positions of a part are positions. -/
theorem rAdd_rng (t : PT) : ∀ m, m.1.length + t.lv ≤ 62 → m.1.length ≤ (rAdd m t).1.1.length ∧ ∀ i, bt (rAdd m t).2.t i = true → i < (rAdd m t).1.1.length := by
  induction t using PT.ind with
  | h t ih =>
  intro m hm
  have hseq : ∀ (l : List PT) (alt : Bool) (m : List S4 × List Int) (p : Pa), (∀ x, x ∈ l → ∀ m, m.1.length + x.lv ≤ 62 → m.1.length ≤ (rAdd m x).1.1.length ∧ ∀ i, bt (rAdd m x).2.t i = true → i < (rAdd m x).1.1.length) → m.1.length + PT.lvs l ≤ 62 → (∀ i, bt p.t i = true → i < m.1.length) → m.1.length ≤ (rSeq alt m p l).1.1.length ∧ ∀ i, bt (rSeq alt m p l).2.t i = true → i < (rSeq alt m p l).1.1.length := by
    intro l
    induction l with
    | nil => intro alt m p _ _ hp; rw [rSeq]; exact ⟨Nat.le_refl _, hp⟩
    | cons x l ihl =>
      intro alt m p hx hl hp
      rw [PT.lvs_cons] at hl
      obtain ⟨h1, h2⟩ := hx x (List.mem_cons_self ..) m (by omega)
      have hlen := rAdd_len x m
      rw [rSeq_cons]
      split
      · have h3 := ihl alt (rAdd m x).1 (altS p (rAdd m x).2) (fun y hy => hx y (List.mem_cons_of_mem _ hy)) (by omega) (fun i hi => by
          have hi' : bt (orS p.t (rAdd m x).2.t) i = true := hi
          rw [bt_or, Bool.or_eq_true] at hi'
          rcases hi' with hi' | hi'
          · have := hp i hi'; omega
          · exact h2 i hi')
        exact ⟨by omega, h3.2⟩
      · have h3 := ihl alt ((rAdd m x).1.1, lnkL p.t (rAdd m x).2.f (rAdd m x).1.2) (rJoin p (rAdd m x).2) (fun y hy => hx y (List.mem_cons_of_mem _ hy)) (by dsimp only; omega) (fun i hi => by
          have hi' : bt (if (rAdd m x).2.e = true then orS p.t (rAdd m x).2.t else (rAdd m x).2.t) i = true := hi
          show i < (rAdd m x).1.1.length
          split at hi'
          · rw [bt_or, Bool.or_eq_true] at hi'
            rcases hi' with hi' | hi'
            · have := hp i hi'; omega
            · exact h2 i hi'
          · exact h2 i hi')
        exact ⟨by dsimp only at h3; omega, h3.2⟩
  have hlv := PT.lv_eq t
  rw [rAdd_eq]
  split
  · exact ⟨Nat.le_refl _, fun i hi => by have : bt 0 i = true := hi; rw [bt_zero] at this; cases this⟩
  split
  · exact ⟨Nat.le_refl _, fun i hi => by have : bt 0 i = true := hi; rw [bt_zero] at this; cases this⟩
  split
  · refine ⟨by show _ ≤ (m.1 ++ [t.s]).length; rw [List.length_append]; omega, fun i hi => ?_⟩
    have hi' : bt (oneS m.1.length) i = true := hi
    rw [bt_one, decide_eq_true_iff] at hi'
    show i < (m.1 ++ [t.s]).length
    rw [List.length_append, List.length_singleton]
    omega
  split
  · rename_i k3 k6
    rw [if_neg (by omega)] at hlv
    revert ih hlv
    generalize t.l = l
    intro ih hlv
    cases l with
    | nil => exact ⟨Nat.le_refl _, fun i hi => by have : bt 0 i = true := hi; rw [bt_zero] at this; cases this⟩
    | cons x l =>
      rw [rRep]
      rw [PT.lvs_cons] at hlv
      obtain ⟨h1, h2⟩ := ih x (List.mem_cons_self ..) m (by omega)
      exact ⟨h1, h2⟩
  · rename_i k3 k6
    rw [if_neg (by omega)] at hlv
    exact hseq t.l (t.k == 5) m ⟨t.k == 4, 0, 0⟩ ih (by omega) (fun i hi => by have : bt 0 i = true := hi; rw [bt_zero] at this; cases this)
theorem rOf_rng {t : PT} (hl : t.lv ≤ 62) : ∀ i, bt (rOf t).2.t i = true → i < (rOf t).1.1.length := (rAdd_rng t ([], []) (by simpa using hl)).2
section
variable {r : (List S4 × List Int) × Pa} {ps : List Ps} {last : Int}
/-- Both machines' sets of positions from which so many bytes suffice. -/
theorem near_sim (h : Mch r ps last) : ∀ k i, bt (nearP ps last k) (i + 1) = bt (nearZ r k) i
  | 0, i => h.ls i
  | k + 1, i => by
    rw [nearP, nearZ, Bool.eq_iff_iff, before_bt, nr_bt, bt_zero]
    have ih := near_sim h k
    have hand : ∀ x y, Sh x y → (bits BinOp.and IntKind.u64 y (nearP ps last k) ≠ 0 ↔ bits BinOp.and IntKind.u64 x (nearZ r k) ≠ 0) := fun x y hs => by
      rw [and_ne, and_ne]
      constructor
      · rintro ⟨j, h1, h2⟩
        cases j with
        | zero => rw [hs.z] at h1; cases h1
        | succ j => exact ⟨j, by rw [← hs.s]; exact h1, by rw [← ih]; exact h2⟩
      · rintro ⟨j, h1, h2⟩
        exact ⟨j + 1, by rw [hs.s]; exact h1, by rw [ih]; exact h2⟩
    constructor
    · rintro ⟨p, h1, h2, h3⟩
      have hi := (List.getElem?_eq_some_iff.1 h1).1
      rw [h.l2] at hi
      obtain ⟨s, hss⟩ : ∃ s, r.1.1[i]? = some s := ⟨_, List.getElem?_eq_getElem (by omega)⟩
      obtain ⟨u, hu⟩ : ∃ u, r.1.2[i]? = some u := ⟨_, List.getElem?_eq_getElem (by rw [h.l1]; omega)⟩
      obtain ⟨v, hv, hsv⟩ := h.at_ i s u hss hu
      rw [h1] at hv
      cases hv
      exact .inr ⟨i, u, hu, (hand _ _ hsv).1 h2, by omega, by omega⟩
    · rintro (h1 | ⟨k', u, h1, h2, h3, h4⟩)
      · cases h1
      · obtain rfl : k' = i := by omega
        obtain ⟨s, hss⟩ : ∃ s, r.1.1[k']? = some s := ⟨_, List.getElem?_eq_getElem (by rw [← h.l1]; exact (List.getElem?_eq_some_iff.1 h1).1)⟩
        obtain ⟨v, hv, hsv⟩ := h.at_ k' s u hss h1
        have := (List.getElem?_eq_some_iff.1 hss).1
        have := h.lm
        exact ⟨_, hv, (hand _ _ hsv).2 h2, by omega⟩
theorem near_zero (h : Mch r ps last) (k : Nat) : bt (nearP ps last (k + 1)) 0 = rLens r (k + 1) := by
  obtain ⟨y, hy, hs⟩ := h.f
  unfold rLens
  rw [nearP, Bool.eq_iff_iff, before_bt, bne_iff_ne, Nat.add_sub_cancel, and_ne]
  constructor
  · rintro ⟨p, h1, h2, _⟩
    rw [hy] at h1
    cases h1
    rw [and_ne] at h2
    obtain ⟨j, h3, h4⟩ := h2
    cases j with
    | zero => have h3' : bt y 0 = true := h3; rw [hs.z] at h3'; cases h3'
    | succ j => exact ⟨j, by rw [← hs.s]; exact h3, by rw [← near_sim h]; exact h4⟩
  · rintro ⟨j, h1, h2⟩
    exact ⟨_, hy, by rw [and_ne]; exact ⟨j + 1, by show bt y (j + 1) = true; rw [hs.s]; exact h1, by rw [near_sim h]; exact h2⟩, by decide⟩
theorem near_e (h : Mch r ps last) : bt (nearP ps last 0) 0 = r.2.e := h.l0
end
/-- A position whose least number of bytes to an end is k. -/
def Dst (ps : List Ps) (last : Int) (k i : Nat) : Prop := bt (nearP ps last k) i = true ∧ ∀ j, j < k → bt (nearP ps last j) i = false
theorem nearP_succ (ps : List Ps) (last : Int) (k i : Nat) : bt (nearP ps last (k + 1)) i = true ↔ ∃ p, ps[i]? = some p ∧ (∃ j, bt p.n j = true ∧ bt (nearP ps last k) j = true) ∧ i < 64 := by
  rw [nearP, before_bt]
  constructor
  · rintro ⟨p, h1, h2, h3⟩
    exact ⟨p, h1, (and_ne _ _).1 h2, h3⟩
  · rintro ⟨p, h1, h2, h3⟩
    exact ⟨p, h1, (and_ne _ _).2 h2, h3⟩
theorem Dst.next {ps : List Ps} {last : Int} {k i : Nat} (h : Dst ps last (k + 1) i) : ∃ p j, ps[i]? = some p ∧ bt p.n j = true ∧ Dst ps last k j ∧ i < 64 := by
  obtain ⟨p, h1, ⟨j, h2, h3⟩, h4⟩ := (nearP_succ ps last k i).1 h.1
  refine ⟨p, j, h1, h2, ⟨h3, fun q hq => ?_⟩, h4⟩
  cases hh : bt (nearP ps last q) j with
  | false => rfl
  | true =>
    have := h.2 (q + 1) (by omega)
    rw [(nearP_succ ps last q i).2 ⟨p, h1, ⟨j, h2, hh⟩, h4⟩] at this
    cases this
theorem Dst.below {ps : List Ps} {last : Int} : ∀ {d k i : Nat}, Dst ps last (k + d) i → ∃ j, Dst ps last k j
  | 0, k, i, h => ⟨i, h⟩
  | d + 1, k, i, h => by
    obtain ⟨p, j, _, _, h3, _⟩ := Dst.next (k := k + d) h
    exact Dst.below h3
theorem Dst.least {ps : List Ps} {last : Int} {i : Nat} : ∀ {k : Nat}, bt (nearP ps last k) i = true → ∃ m, m ≤ k ∧ Dst ps last m i
  | 0, h => ⟨0, Nat.le_refl _, h, fun j hj => by omega⟩
  | k + 1, h => by
    by_cases hx : ∃ j, j < k + 1 ∧ bt (nearP ps last j) i = true
    · obtain ⟨j, hj, hh⟩ := hx
      obtain ⟨m, hm, hd⟩ := Dst.least (k := j) hh
      exact ⟨m, by omega, hd⟩
    · refine ⟨k + 1, Nat.le_refl _, h, fun j hj => ?_⟩
      cases hh : bt (nearP ps last j) i with
      | false => rfl
      | true => exact absurd ⟨j, hj, hh⟩ hx
termination_by k => k
theorem Dst.new {ps : List Ps} {last : Int} {k i : Nat} {layer seen : Int} (hl : ∀ i, bt layer i = true ↔ Dst ps last k i) (hs : ∀ i, bt seen i = true ↔ ∃ j, j < k ∧ bt (nearP ps last j) i = true) :
    bt (bits BinOp.andNot IntKind.u64 (beforeL layer 0 ps 0) (orS seen layer)) i = true ↔ Dst ps last (k + 1) i := by
  rw [andNot_bt, bt_or, Bool.and_eq_true, before_bt]
  constructor
  · rintro ⟨⟨p, h1, h2, h3⟩, h4⟩
    obtain ⟨j, h5, h6⟩ := (and_ne _ _).1 h2
    refine ⟨(nearP_succ ps last k i).2 ⟨p, h1, ⟨j, h5, ((hl j).1 h6).1⟩, h3⟩, fun q hq => ?_⟩
    rw [Bool.not_eq_true', Bool.or_eq_false_iff] at h4
    cases hh : bt (nearP ps last q) i with
    | false => rfl
    | true =>
      exfalso
      by_cases hqk : q < k
      · have := (hs i).2 ⟨q, hqk, hh⟩
        rw [h4.1] at this
        cases this
      · obtain rfl : q = k := by omega
        obtain ⟨m, hm, hd⟩ := Dst.least hh
        by_cases hmk : m < q
        · have := (hs i).2 ⟨m, hmk, hd.1⟩
          rw [h4.1] at this
          cases this
        · obtain rfl : m = q := by omega
          have := (hl i).2 hd
          rw [h4.2] at this
          cases this
  · intro h
    obtain ⟨p, j, h1, h2, h3, h4⟩ := h.next
    refine ⟨⟨p, h1, (and_ne _ _).2 ⟨j, h2, (hl j).2 h3⟩, h4⟩, ?_⟩
    rw [Bool.not_eq_true', Bool.or_eq_false_iff]
    constructor
    · cases hh : bt seen i with
      | false => rfl
      | true =>
        obtain ⟨q, hq, hb⟩ := (hs i).1 hh
        rw [h.2 q (by omega)] at hb
        cases hb
    · cases hh : bt layer i with
      | false => rfl
      | true =>
        have := ((hl i).1 hh).1
        rw [h.2 k (by omega)] at this
        cases this
def cN (n : Nat) (x : Int) : Nat := (List.range n).countP fun i => bt x (i + 1)
/-- What the program's layers are. -/
theorem dist_spec {ps : List Ps} {last : Int} {n : Nat} (hn : ps.length = n + 1) (hr : ∀ i, bt last i = true → i < n + 1) : ∀ (g k : Nat) (layer seen : Int) (acc : List Int), g + k = 65 → U6 layer → U6 seen → (∀ i, bt layer i = true ↔ Dst ps last k i) → (∀ i, bt seen i = true ↔ ∃ j, j < k ∧ bt (nearP ps last j) i = true) → bt seen 0 = false → k ≤ cN n seen → k + frS seen ≤ 64 →
    acc.length = k → (∀ j y, acc[j]? = some y → ∀ i, bt y i = true ↔ Dst ps last j i) →
    (distL ps g layer seen acc = none → ∀ m, bt (nearP ps last m) 0 = false) ∧
    ∀ lay, distL ps g layer seen acc = some lay → ∃ m, lay.length = m + 1 ∧ m ≤ n ∧ Dst ps last m 0 ∧ ∀ j y, lay[j]? = some y → ∀ i, bt y i = true ↔ Dst ps last j i
  | 0, k, layer, seen, acc, hg, _, _, _, _, _, _, hf, _, _ => by omega
  | g + 1, k, layer, seen, acc, hg, hul, hus, hl, hs, hz, hc, hf, ha, hacc => by
    rw [distL]
    by_cases h0 : layer = 0
    · rw [if_pos h0]
      refine ⟨fun _ m => ?_, fun lay h => by cases h⟩
      cases hh : bt (nearP ps last m) 0 with
      | false => rfl
      | true =>
        exfalso
        obtain ⟨q, hq, hd⟩ := Dst.least hh
        by_cases hqk : q < k
        · have := (hs 0).2 ⟨q, hqk, hd.1⟩
          rw [hz] at this
          cases this
        · obtain ⟨d, rfl⟩ : ∃ d, q = k + d := ⟨q - k, by omega⟩
          obtain ⟨j, hj⟩ := hd.below
          have := (hl j).2 hj
          rw [h0, bt_zero] at this
          cases this
    · rw [if_neg h0]
      have hacc' : ∀ j y, (acc ++ [layer])[j]? = some y → ∀ i, bt y i = true ↔ Dst ps last j i := fun j y hy => by
        by_cases hj : j < acc.length
        · rw [List.getElem?_append_left hj] at hy
          exact hacc j y hy
        · rw [List.getElem?_append_right (by omega)] at hy
          have hj0 : j - acc.length = 0 := by
            have := (List.getElem?_eq_some_iff.1 hy).1
            simp at this
            omega
          rw [hj0] at hy
          cases hy
          obtain rfl : j = k := by omega
          exact hl
      have hrl : ∀ i, bt layer i = true → i < n + 1 := fun i hi => by
        have hd := ((hl i).1 hi).1
        cases k with
        | zero => exact hr i hd
        | succ k =>
          obtain ⟨p, h1, _⟩ := (nearP_succ ps last k i).1 hd
          rw [← hn]
          exact (List.getElem?_eq_some_iff.1 h1).1
      have hdis : ∀ i, bt layer i = true → bt seen i = false := fun i hi => by
        cases hh : bt seen i with
        | false => rfl
        | true =>
          obtain ⟨q, hq, hb⟩ := (hs i).1 hh
          rw [((hl i).1 hi).2 q hq] at hb
          cases hb
      by_cases h1 : bits BinOp.and IntKind.u64 (orS seen layer) 1 = 0
      · rw [if_pos h1]
        have h10 : bt (orS seen layer) 0 = false := by
          cases hh : bt (orS seen layer) 0 with
          | false => rfl
          | true => exact absurd h1 ((and_ne _ _).2 ⟨0, hh, by rw [one_bt]; rfl⟩)
        have hl0 : bt layer 0 = false := by
          rw [bt_or, Bool.or_eq_false_iff] at h10
          exact h10.2
        have hcn : cN n seen < cN n (orS seen layer) := by
          obtain ⟨i, hi⟩ := (ne_zero hul).1 h0
          have hin := hrl i hi
          obtain ⟨i', rfl⟩ : ∃ i', i = i' + 1 := ⟨i - 1, by
            cases i with
            | zero => rw [hl0] at hi; cases hi
            | succ i => omega⟩
          exact (count_lt (p := fun i => bt (orS seen layer) (i + 1)) (q := fun i => bt seen (i + 1)) (fun x hx => by
            show bt (orS seen layer) (x + 1) = true
            rw [bt_or, show bt seen (x + 1) = true from hx, Bool.true_or]) (List.range n)).2 i' (List.mem_range.2 (by omega)) (by
            show bt (orS seen layer) (i' + 1) = true
            rw [bt_or, hi, Bool.or_true]) (hdis _ hi)
        have hfr := fr_lt h0 hul hdis
        exact dist_spec hn hr g (k + 1) _ _ (acc ++ [layer]) (by omega) (andNot_U _ _) (or_u _ _) (fun i => Dst.new hl hs) (fun i => by
          rw [bt_or, Bool.or_eq_true]
          constructor
          · rintro (h | h)
            · obtain ⟨j, hj, hb⟩ := (hs i).1 h
              exact ⟨j, by omega, hb⟩
            · exact ⟨k, by omega, ((hl i).1 h).1⟩
          · rintro ⟨j, hj, hb⟩
            obtain ⟨m, hm, hd⟩ := Dst.least hb
            by_cases hmk : m < k
            · exact .inl ((hs i).2 ⟨m, hmk, hd.1⟩)
            · obtain rfl : m = k := by omega
              exact .inr ((hl i).2 hd)) h10 (by omega) (by omega) (by rw [List.length_append, ha]; rfl) hacc'
      · rw [if_neg h1]
        refine ⟨fun h => (by cases h), fun lay h => ?_⟩
        cases h
        obtain ⟨i, h2, h3⟩ := (and_ne _ _).1 h1
        rw [one_bt, decide_eq_true_iff] at h3
        subst h3
        rw [bt_or, hz, Bool.false_or] at h2
        refine ⟨k, by rw [List.length_append, ha]; rfl, ?_, (hl 0).1 h2, hacc'⟩
        have : cN n seen ≤ (List.range n).length := List.countP_le_length
        rw [List.length_range] at this
        omega
theorem byte_eq {ps : List Ps} {y1 : Int} {c : Nat → Bool} (hc : ∀ b, c b = true ↔ bits BinOp.and IntKind.u64 (readsL b 0 ps 0) y1 ≠ 0) : ∀ (n b : Nat), b + n = 126 → (∃ d, b ≤ d ∧ d ≤ 126 ∧ c d = true) → fstN c (n + 1) b = some (lrL ps y1 n b) ∧ c (lrL ps y1 n b) = true
  | 0, b, hb, ⟨d, h1, h2, h3⟩ => by
    obtain rfl : d = b := by omega
    rw [fstN, h3, if_pos rfl, lrL]
    exact ⟨rfl, h3⟩
  | n + 1, b, hb, ⟨d, h1, h2, h3⟩ => by
    rw [fstN, lrL]
    cases hh : c b with
    | true =>
      rw [if_pos rfl, if_neg ((hc b).1 hh)]
      exact ⟨rfl, hh⟩
    | false =>
      rw [if_neg (by decide), if_pos (Classical.not_not.1 fun h => by rw [(hc b).2 h] at hh; cases hh)]
      refine byte_eq hc n (b + 1) (by omega) ⟨d, ?_, h2, h3⟩
      rcases Nat.lt_or_ge b d with h | h
      · exact h
      · obtain rfl : d = b := by omega
        rw [hh] at h3
        cases h3
section
variable {r : (List S4 × List Int) × Pa} {ps : List Ps} {last : Int}
/-- The same bytes are chosen. -/
theorem go_sho (h : Mch r ps last) (hne : ∀ s, s ∈ r.1.1 → NeS s) (hrg : ∀ i, bt last i = true → i < ps.length) {m : Nat} (hm : Dst ps last m 0) {lay : List Int} (hlen : lay.length = m + 1) (hlay : ∀ j y, lay[j]? = some y → ∀ i, bt y i = true ↔ Dst ps last j i) :
    ∀ (k : Nat) (x Y y : Int) (acc : List UInt8), k ≤ m → St x Y → U6 y → U6 Y → (∀ i, bt y i = true ↔ bt Y i = true ∧ Dst ps last k i) → (∀ i, bt Y i = true → ∀ j, j < k → bt (nearP ps last j) i = false) → (∃ i, bt y i = true) → rGo r k x acc = shoL ps lay k y acc
  | 0, x, Y, y, acc, _, _, _, _, _, _, _ => by rw [rGo, shoL]
  | k + 1, x, Y, y, acc, hk, hst, hy, hY, hyY, hmin, ⟨i0, hi0⟩ => by
    obtain ⟨L, hL⟩ : ∃ L, lay[k]? = some L := ⟨_, List.getElem?_eq_getElem (by omega)⟩
    have hLd := hlay k L hL
    rw [rGo, shoL, hL, Option.getD_some]
    obtain ⟨y1, hy1⟩ : ∃ y1, y1 = bits BinOp.and IntKind.u64 (afterL y 0 ps 0) L := ⟨_, rfl⟩
    rw [← hy1]
    have hy1b : ∀ i, bt y1 i = true ↔ (∃ q p, ps[q]? = some p ∧ bt y q = true ∧ bt p.n i = true) ∧ Dst ps last k i := fun i => by
      rw [hy1, bt_and, Bool.and_eq_true, after_bt hy, bt_zero, hLd]
      constructor
      · rintro ⟨h1 | ⟨q, p, h1, h2, h3⟩, h4⟩
        · cases h1
        · rw [Nat.zero_add] at h2
          exact ⟨⟨q, p, h1, h2, h3⟩, h4⟩
      · rintro ⟨⟨q, p, h1, h2, h3⟩, h4⟩
        exact ⟨.inr ⟨q, p, h1, by rw [Nat.zero_add]; exact h2, h3⟩, h4⟩
    have hminY : ∀ b i, bt (stB ps b Y) i = true → ∀ j, j < k → bt (nearP ps last j) i = false := fun b i hi j hj => by
      unfold stB at hi
      rw [bt_and, Bool.and_eq_true, after_bt hY, bt_zero] at hi
      obtain ⟨h1 | ⟨q, p, h1, h2, h3⟩, h4⟩ := hi
      · cases h1
      rw [Nat.zero_add] at h2
      cases hh : bt (nearP ps last j) i with
      | false => rfl
      | true =>
        have h64 := bt_lt h2
        have h5 := hmin q h2 (j + 1) (by omega)
        rw [(nearP_succ ps last j q).2 ⟨p, h1, ⟨i, h3, hh⟩, h64⟩] at h5
        cases h5
    have key : ∀ b i, (bt (stB ps b Y) i = true ∧ bt (nearP ps last k) i = true) ↔ (bt y1 i = true ∧ bt (readsL b 0 ps 0) i = true) := fun b i => by
      constructor
      · rintro ⟨h1, h2⟩
        have hd : Dst ps last k i := ⟨h2, hminY b i h1⟩
        unfold stB at h1
        rw [bt_and, Bool.and_eq_true, after_bt hY, bt_zero] at h1
        obtain ⟨h3 | ⟨q, p, h3, h4, h5⟩, h6⟩ := h1
        · cases h3
        rw [Nat.zero_add] at h4
        refine ⟨(hy1b i).2 ⟨⟨q, p, h3, (hyY q).2 ⟨h4, (nearP_succ ps last k q).2 ⟨p, h3, ⟨i, h5, h2⟩, bt_lt h4⟩, hmin q h4⟩, h5⟩, hd⟩, h6⟩
      · rintro ⟨h1, h2⟩
        obtain ⟨⟨q, p, h3, h4, h5⟩, hd⟩ := (hy1b i).1 h1
        refine ⟨?_, hd.1⟩
        unfold stB
        rw [bt_and, Bool.and_eq_true, after_bt hY, bt_zero]
        exact ⟨.inr ⟨q, p, h3, by rw [Nat.zero_add]; exact ((hyY q).1 h4).1, h5⟩, h2⟩
    have hc : ∀ b, rByte r k x b = true ↔ bits BinOp.and IntKind.u64 (readsL b 0 ps 0) y1 ≠ 0 := fun b => by
      have hs := step_sim h hst b
      unfold rByte
      rw [bne_iff_ne, and_ne, and_ne]
      constructor
      · rintro ⟨i, h1, h2⟩
        obtain ⟨h3, h4⟩ := (key b (i + 1)).1 ⟨by rw [hs.s]; exact h1, by rw [near_sim h]; exact h2⟩
        exact ⟨i + 1, h4, h3⟩
      · rintro ⟨i, h1, h2⟩
        obtain ⟨h3, h4⟩ := (key b i).2 ⟨h2, h1⟩
        cases i with
        | zero => rw [hs.z] at h3; cases h3
        | succ i => exact ⟨i, by rw [← hs.s]; exact h3, by rw [← near_sim h]; exact h4⟩
    have hex : ∃ d, 32 ≤ d ∧ d ≤ 126 ∧ rByte r k x d = true := by
      obtain ⟨p, j, h1, h2, h3, _⟩ := ((hyY i0).1 hi0).2.next
      have hj1 : bt y1 j = true := (hy1b j).2 ⟨⟨i0, p, h1, hi0, h2⟩, h3⟩
      have hjr : j < ps.length := by
        cases k with
        | zero => exact hrg j h3.1
        | succ k =>
          obtain ⟨p', h4, _⟩ := (nearP_succ ps last k j).1 h3.1
          exact (List.getElem?_eq_some_iff.1 h4).1
      cases j with
      | zero =>
        have := hm.2 k (by omega)
        rw [h3.1] at this
        cases this
      | succ j =>
        rw [h.l2] at hjr
        obtain ⟨s, hss⟩ : ∃ s, r.1.1[j]? = some s := ⟨_, List.getElem?_eq_getElem (by omega)⟩
        obtain ⟨u, hu⟩ : ∃ u, r.1.2[j]? = some u := ⟨_, List.getElem?_eq_getElem (by rw [h.l1]; omega)⟩
        obtain ⟨v, hv, _⟩ := h.at_ j s u hss hu
        obtain ⟨d, h5, h6, h7⟩ := hne s (List.mem_of_getElem? hss)
        have := h.lm
        exact ⟨d, h5, h6, (hc d).2 ((and_ne _ _).2 ⟨j + 1, (reads_bt d ps (j + 1)).2 ⟨_, hv, h7, by omega⟩, hj1⟩)⟩
    obtain ⟨e1, e2⟩ := byte_eq hc 94 32 (by decide) hex
    rw [e1]
    dsimp only
    generalize lrL ps y1 94 32 = b at e2 ⊢
    refine go_sho h hne hrg hm hlen hlay k (rStep r b x) (stB ps b Y) (bits BinOp.and IntKind.u64 y1 (readsL b 0 ps 0)) _ (by omega) (.inr (step_sim h hst b)) (and_u _ _) (and_u _ _) (fun i => ?_) (hminY b) ?_
    · rw [bt_and, Bool.and_eq_true, ← key b i]
      constructor
      · rintro ⟨h1, h2⟩
        exact ⟨h1, h2, hminY b i h1⟩
      · rintro ⟨h1, h2⟩
        exact ⟨h1, h2.1⟩
    · obtain ⟨i, h1, h2⟩ := (and_ne _ _).1 ((hc b).1 e2)
      exact ⟨i, by rw [bt_and, h1, h2]; rfl⟩
end
theorem rshort_eq {t : PT} (ha : AlT t) (hf : t.fit = true) (hl : t.lv ≤ 62) (hn : NeT t) : rShort (rOf t) = shortT t := by
  have h := mch_of ha hf hl
  have hne := rOf_ne hn
  have hrg := rOf_rng hl
  unfold shortT
  generalize (buildT t).1 = ps at *
  generalize (buildT t).2 = last at *
  have hrl : ∀ i, bt last i = true → i < (rOf t).1.1.length + 1 := fun i hi => by
    cases i with
    | zero => omega
    | succ i =>
      rw [h.ls] at hi
      have := hrg i hi
      omega
  obtain ⟨d1, d2⟩ := dist_spec (ps := ps) (last := last) h.l2 hrl 65 0 last 0 [] rfl h.ul u_zero6 (fun i => ⟨fun hi => ⟨hi, fun j hj => by omega⟩, fun hi => hi.1⟩) (fun i => by
    rw [bt_zero]
    exact ⟨fun hi => (by cases hi), fun ⟨j, hj, _⟩ => by omega⟩) (bt_zero 0) (Nat.zero_le _) (by
    have : frS 0 ≤ (List.range 64).length := List.countP_le_length
    rw [List.length_range] at this
    omega) rfl (fun j y hy => by simp at hy)
  unfold rShort
  cases hd : distL ps 65 last 0 [] with
  | none =>
    have hz := d1 hd
    dsimp only
    rw [← near_e h, hz 0, if_neg (by decide), fst_none _ _ (fun j hj => by
      obtain ⟨j', rfl⟩ : ∃ j', j = j' + 1 := ⟨j - 1, by omega⟩
      rw [← near_zero h]
      exact hz _)]
  | some lay =>
    obtain ⟨m, hlen, hmn, hm, hlay⟩ := d2 lay hd
    dsimp only
    rw [hlen, Nat.add_sub_cancel]
    cases m with
    | zero =>
      rw [← near_e h, hm.1, if_pos rfl, shoL]
    | succ m =>
      rw [← near_e h, hm.2 0 (by omega), if_neg (by decide), fst_some _ _ (m + 1) (by omega) (by omega) (by rw [← near_zero h]; exact hm.1) (fun j hj hjm => by
        obtain ⟨j', rfl⟩ : ∃ j', j = j' + 1 := ⟨j - 1, by omega⟩
        rw [← near_zero h]
        exact hm.2 _ hjm)]
      dsimp only
      rw [go_sho h hne (fun i hi => by rw [h.l2]; exact hrl i hi) hm hlen hlay (m + 1) begZ 1 1 [] (Nat.le_refl _) (.inl ⟨rfl, rfl⟩) one_u one_u (fun i => ⟨fun hi => ⟨hi, by
        rw [one_bt, decide_eq_true_iff] at hi
        rw [hi]
        exact hm⟩, fun hi => hi.1⟩) (fun i hi j hj => by
        rw [one_bt, decide_eq_true_iff] at hi
        rw [hi]
        exact hm.2 j hj) ⟨0, by rw [one_bt]; rfl⟩]
end
end

end Go.Proofs.YtaipaddfehpmgaaDoor
