/-
  The plain mathematics of patterns, with no program in it: trees, how a pattern is read, the automaton of a tree, the matches in a text. Nothing is assumed.
-/
import Derived.WalkKit
namespace Go.Proofs.YtaipaddfehpmgaaDoor
open Go.RowKit

theorem lt_len (s : ByteArray) : s.data.toList.length = s.size := rfl
theorem lt_at (s : ByteArray) (i : Nat) (h : i < s.size) : s.data.toList[i]? = some (s[i]'h) := by
  rw [List.getElem?_eq_getElem (by rw [lt_len]; exact h)]
  simp [ByteArray.getElem_eq_getElem_data]

/-- The outcome of a reading. -/
inductive PR (α : Type) where
  | bad (i : Nat)
  | ok (v : α) (i : Nat)
def PR.bind {α β : Type} (x : PR α) (f : α → Nat → PR β) : PR β := match x with
  | .bad i => .bad i
  | .ok v i => f v i
def PR.fin {α : Type} : PR α → Nat
  | .bad i => i
  | .ok _ i => i
def PR.good {α : Type} : PR α → Bool
  | .bad _ => false
  | .ok _ _ => true
def PR.map {α β : Type} (f : α → β) : PR α → PR β
  | .bad i => .bad i
  | .ok v i => .ok (f v) i
/-- It stops within the text, behind i if it has read something. -/
def PR.Fwd {α : Type} (i n : Nat) : PR α → Prop
  | .bad m => m ≤ n
  | .ok _ m => i < m ∧ m ≤ n
theorem PR.Fwd.fin {α : Type} {i n : Nat} {r : PR α} (h : r.Fwd i n) : r.fin ≤ n := by cases r with
  | bad m => exact h
  | ok v m => exact h.2
theorem PR.Fwd.weak {α : Type} {i j n : Nat} {r : PR α} (h : r.Fwd i n) (hj : j ≤ i) : r.Fwd j n := by cases r with
  | bad m => exact h
  | ok v m => exact ⟨Nat.lt_of_le_of_lt hj h.1, h.2⟩
theorem PR.Fwd.map {α β : Type} {i n : Nat} {r : PR α} (h : r.Fwd i n) (f : α → β) : (r.map f).Fwd i n := by cases r <;> exact h

/-- The byte at an offset; 0 at the end. -/
def pk (L : List UInt8) (i : Nat) : Nat := match L[i]? with
  | some c => c.toNat
  | none => 0
theorem pk_lt (L : List UInt8) (i : Nat) : pk L i < 256 := by
  unfold pk
  split
  · exact UInt8.toNat_lt _
  · omega
theorem pk_in (s : ByteArray) (i : Nat) (h : i < s.size) : pk s.data.toList i = (s[i]'h).toNat := by
  unfold pk
  rw [lt_at s i h]
theorem pk_out (L : List UInt8) (i : Nat) (h : L.length ≤ i) : pk L i = 0 := by
  unfold pk
  rw [List.getElem?_eq_none h]
theorem pk_ne (L : List UInt8) (i : Nat) (h : pk L i ≠ 0) : i < L.length := by
  rcases Nat.lt_or_ge i L.length with h1 | h1
  · exact h1
  · exact absurd (pk_out L i h1) h
theorem pk_is {L : List UInt8} {i c : Nat} (h : pk L i = c) (hc : c ≠ 0) : i < L.length := pk_ne L i (by rw [h]; exact hc)

/-- A set of bytes: the bits of four numbers. -/
structure S4 where
  a : Int
  b : Int
  c : Int
  d : Int
def S4.zero : S4 := ⟨0, 0, 0, 0⟩
def S4.isZ (s : S4) : Bool := s.a == 0 && s.b == 0 && s.c == 0 && s.d == 0
def S4.get (s : S4) (k : Nat) : Int := match k with
  | 0 => s.a
  | 1 => s.b
  | 2 => s.c
  | _ => s.d
/-- What the program reckons for 'set.has(b)'. -/
def hasQ (x : Int) (c : Nat) : Bool := bits BinOp.and IntKind.u64 (x / 2 ^ (c % 64)) 1 == 1
def S4.has (s : S4) (c : Nat) : Bool := hasQ (s.get (c / 64)) c
def orQ (x : Int) (c : Nat) : Int := bits BinOp.or IntKind.u64 x (IntKind.u64.wrap (2 ^ (c % 64)))
def S4.add (s : S4) (c : Nat) : S4 := match c / 64 with
  | 0 => { s with a := orQ s.a c }
  | 1 => { s with b := orQ s.b c }
  | 2 => { s with c := orQ s.c c }
  | _ => { s with d := orQ s.d c }
def S4.alpha : S4 := ⟨0xffffffff00000000, 0x7fffffffffffffff, 0, 0⟩
def S4.without (s t : S4) : S4 := ⟨bits BinOp.andNot IntKind.u64 s.a t.a, bits BinOp.andNot IntKind.u64 s.b t.b, bits BinOp.andNot IntKind.u64 s.c t.c, bits BinOp.andNot IntKind.u64 s.d t.d⟩

def inA (c : Nat) : Bool := decide (32 ≤ c) && decide (c ≤ 126)
def spec8 : List Nat := [40, 41, 91, 93, 46, 42, 124, 92]
def isSp (c : Nat) : Bool := spec8.contains c
def isSpM (c : Nat) : Bool := [93, 92, 94, 45].contains c
def isPl (c : Nat) : Bool := inA c && !isSp c
def begA (c : Nat) : Bool := isPl c || [40, 91, 46, 92].contains c
theorem inA_lt {c : Nat} (h : inA c = true) : 32 ≤ c ∧ c ≤ 126 := by
  unfold inA at h
  simp at h
  exact h
theorem isSpM_lt {c : Nat} (h : isSpM c = true) : 32 ≤ c ∧ c ≤ 126 := by
  unfold isSpM at h
  simp at h
  omega
theorem isSp_lt {c : Nat} (h : isSp c = true) : 32 ≤ c ∧ c ≤ 126 := by
  unfold isSp spec8 at h
  simp at h
  omega
theorem isPl_lt {c : Nat} (h : isPl c = true) : 32 ≤ c ∧ c ≤ 126 := by
  unfold isPl at h
  simp at h
  exact inA_lt h.1
theorem begA_lt {c : Nat} (h : begA c = true) : 32 ≤ c ∧ c ≤ 126 := by
  unfold begA at h
  simp at h
  rcases h with h | h
  · exact isPl_lt h
  · omega

/-- A syntax tree. -/
inductive PT where
  | mk (k : Int) (s : S4) (l : List PT)
namespace PT
def k : PT → Int | .mk k _ _ => k
def s : PT → S4 | .mk _ s _ => s
def l : PT → List PT | .mk _ _ l => l
theorem eta (v : PT) : PT.mk v.k v.s v.l = v := by cases v; rfl
theorem ind {p : PT → Prop} (h : ∀ v : PT, (∀ x, x ∈ v.l → p x) → p v) (v : PT) : p v :=
  PT.rec (motive_1 := p) (motive_2 := fun l => ∀ x, x ∈ l → p x) (fun k s l ih => h (.mk k s l) ih) (fun _ hx => by cases hx)
    (fun a l ha hl x hx => by
      rcases List.mem_cons.1 hx with rfl | hx
      · exact ha
      · exact hl x hx) v
end PT
mutual
/-- The positions of a tree, at most. -/
def PT.cls : PT → Nat
  | .mk _ _ l => PT.clss l + 1
def PT.clss : List PT → Nat
  | [] => 0
  | v :: l => v.cls + PT.clss l
end
theorem PT.cls_eq (v : PT) : v.cls = PT.clss v.l + 1 := by cases v; rw [PT.cls]; rfl
theorem PT.clss_nil : PT.clss [] = 0 := by rw [PT.clss]
theorem PT.clss_cons (v : PT) (l : List PT) : PT.clss (v :: l) = v.cls + PT.clss l := by rw [PT.clss]
theorem PT.clss_append (l m : List PT) : PT.clss (l ++ m) = PT.clss l + PT.clss m := by
  induction l with
  | nil => simp [PT.clss_nil]
  | cons v l ih => rw [List.cons_append, PT.clss_cons, PT.clss_cons, ih]; omega
mutual
/-- A repetition has a subtree. -/
def PT.fit : PT → Bool
  | .mk k _ l => (decide (k ≠ 6) || !l.isEmpty) && PT.fits l
def PT.fits : List PT → Bool
  | [] => true
  | v :: l => v.fit && PT.fits l
end
theorem PT.fit_eq (v : PT) : v.fit = ((decide (v.k ≠ 6) || !v.l.isEmpty) && PT.fits v.l) := by cases v; rw [PT.fit]; rfl
theorem PT.fits_mem {l : List PT} (h : PT.fits l = true) {x : PT} (hx : x ∈ l) : x.fit = true := by
  induction l with
  | nil => cases hx
  | cons v l ih =>
    rw [PT.fits, Bool.and_eq_true] at h
    rcases List.mem_cons.1 hx with rfl | hx
    · exact h.1
    · exact ih h.2 hx
theorem PT.fits_snoc {l : List PT} {x : PT} (h : PT.fits l = true) (hx : x.fit = true) : PT.fits (l ++ [x]) = true := by
  induction l with
  | nil => rw [List.nil_append, PT.fits, hx, PT.fits]; rfl
  | cons v l ih =>
    rw [PT.fits, Bool.and_eq_true] at h
    rw [List.cons_append, PT.fits, h.1, ih h.2]
    rfl
theorem PT.clss_mem {l : List PT} {x : PT} (hx : x ∈ l) : x.cls ≤ PT.clss l := by
  induction l with
  | nil => cases hx
  | cons v l ih =>
    rw [PT.clss_cons]
    rcases List.mem_cons.1 hx with rfl | hx
    · omega
    · have := ih hx; omega

/-- A member that is not less than a byte. -/
def memL (L : List UInt8) (least i : Nat) : PR Nat :=
  if pk L i = 92 then
    (if 94 < least then .bad i else if isSpM (pk L (i + 1)) = false then .bad (i + 1)
      else if pk L (i + 1) < least ∨ inA (pk L (i + 1)) = false then .bad (i + 1) else .ok (pk L (i + 1)) (i + 2))
  else if isSpM (pk L i) = true then .bad i
  else if pk L i < least ∨ inA (pk L i) = false then .bad i else .ok (pk L i) (i + 1)
theorem memL_fwd (L : List UInt8) (least i : Nat) (hi : i ≤ L.length) : (memL L least i).Fwd i L.length ∧ ∀ c m, memL L least i = .ok c m → least ≤ c ∧ 32 ≤ c ∧ c ≤ 126 := by
  unfold memL
  split
  · rename_i h92
    have := pk_is h92 (by decide)
    split
    · exact ⟨hi, fun _ _ h => by cases h⟩
    · split
      · exact ⟨(by omega : i + 1 ≤ L.length), fun _ _ h => by cases h⟩
      · split
        · exact ⟨(by omega : i + 1 ≤ L.length), fun _ _ h => by cases h⟩
        · rename_i h
          have hA : inA (pk L (i + 1)) = true := by
            cases hx : inA (pk L (i + 1))
            · exact absurd (.inr hx) h
            · rfl
          have h2 := inA_lt hA
          have := pk_ne L (i + 1) (by omega)
          exact ⟨⟨by omega, by omega⟩, fun c m e => by cases e; exact ⟨by rcases Nat.lt_or_ge (pk L (i + 1)) least with q | q; exact absurd (.inl q) h; exact q, h2⟩⟩
  · split
    · exact ⟨hi, fun _ _ h => by cases h⟩
    · split
      · exact ⟨hi, fun _ _ h => by cases h⟩
      · rename_i h
        have hA : inA (pk L i) = true := by
          cases hx : inA (pk L i)
          · exact absurd (.inr hx) h
          · rfl
        have h2 := inA_lt hA
        have := pk_ne L i (by omega)
        exact ⟨⟨by omega, by omega⟩, fun c m e => by cases e; exact ⟨by rcases Nat.lt_or_ge (pk L i) least with q | q; exact absurd (.inl q) h; exact q, h2⟩⟩

/-- n bytes from c on. -/
def addsL : Nat → S4 → Nat → S4
  | 0, s, _ => s
  | n + 1, s, c => addsL n (s.add c) (c + 1)
def itemL (L : List UInt8) (s : S4) (i : Nat) : PR S4 :=
  (memL L 32 i).bind fun f m => if pk L m = 45 then (memL L f (m + 1)).bind fun l q => .ok (addsL (l + 1 - f) s f) q else .ok (addsL 1 s f) m
theorem itemL_fwd (L : List UInt8) (s : S4) (i : Nat) (hi : i ≤ L.length) : (itemL L s i).Fwd i L.length := by
  unfold itemL
  have h1 := (memL_fwd L 32 i hi).1
  cases hm : memL L 32 i with
  | bad m => rw [hm] at h1; exact h1
  | ok f m =>
    rw [hm] at h1
    show (if pk L m = 45 then _ else _ : PR S4).Fwd i L.length
    split
    · rename_i h45
      have := pk_is h45 (by decide)
      have h2 := (memL_fwd L f (m + 1) (by omega)).1
      cases hq : memL L f (m + 1) with
      | bad q => rw [hq] at h2; exact h2
      | ok l q => rw [hq] at h2; exact ⟨by have := h2.1; have := h1.1; omega, h2.2⟩
    · exact h1
/-- The items up to the bracket. -/
def setL (L : List UInt8) : Nat → S4 → Nat → PR S4
  | 0, _, i => .bad i
  | g + 1, s, i => if s.isZ = false ∧ pk L i = 93 then .ok s (i + 1) else (itemL L s i).bind fun s' m => setL L g s' m
theorem setL_fwd (L : List UInt8) : ∀ (g : Nat) (s : S4) (i : Nat), i ≤ L.length → (setL L g s i).Fwd i L.length := by
  intro g
  induction g with
  | zero => intro s i hi; exact hi
  | succ g ih =>
    intro s i hi
    rw [setL]
    split
    · rename_i h
      have := pk_is h.2 (by decide)
      exact ⟨by omega, by omega⟩
    · have h1 := itemL_fwd L s i hi
      cases hm : itemL L s i with
      | bad m => rw [hm] at h1; exact h1
      | ok s' m => rw [hm] at h1; exact (ih s' m h1.2).weak (by have := h1.1; omega)

def classT (s : S4) : PT := if s.isZ = true then .mk 1 .zero [] else .mk 3 s []
def negL (L : List UInt8) (i : Nat) : Nat := if pk L i = 94 then i + 1 else i
def setT (neg : Bool) (s : S4) : PT := classT (if neg = true then S4.alpha.without s else s)
def brackL (L : List UInt8) (i : Nat) : PR PT :=
  if pk L (i + 1) = 93 then .ok (.mk 1 .zero []) (i + 2)
  else (setL L (L.length + 1) .zero (negL L (i + 1))).bind fun s m => .ok (setT (decide (pk L (i + 1) = 94)) s) m
theorem brackL_fwd (L : List UInt8) (i : Nat) (hi : i < L.length) : (brackL L i).Fwd i L.length := by
  unfold brackL
  split
  · rename_i h
    have := pk_is h (by decide)
    exact ⟨by omega, by omega⟩
  · have hj : i + 1 ≤ negL L (i + 1) ∧ negL L (i + 1) ≤ L.length := by
      unfold negL
      split
      · rename_i h
        have := pk_is h (by decide)
        omega
      · omega
    have h1 := setL_fwd L (L.length + 1) .zero _ hj.2
    cases hm : setL L (L.length + 1) .zero (negL L (i + 1)) with
    | bad m => rw [hm] at h1; exact h1
    | ok s m => rw [hm] at h1; exact ⟨by have := h1.1; omega, h1.2⟩

def groupL (pat : Nat → PR PT) (L : List UInt8) (i : Nat) : PR PT :=
  if pk L (i + 1) = 41 then .ok (.mk 2 .zero []) (i + 2)
  else (pat (i + 1)).bind fun t m => if pk L m = 41 then .ok t (m + 1) else .bad m
def oneT (c : Nat) : PT := classT (S4.zero.add c)
def atomL (pat : Nat → PR PT) (L : List UInt8) (i : Nat) : PR PT :=
  if pk L i = 40 then groupL pat L i
  else if pk L i = 91 then brackL L i
  else if pk L i = 46 then .ok (classT .alpha) (i + 1)
  else if pk L i = 92 then (if isSp (pk L (i + 1)) = true then .ok (oneT (pk L (i + 1))) (i + 2) else .bad (i + 1))
  else if isPl (pk L i) = true then .ok (oneT (pk L i)) (i + 1)
  else .bad i
def repL (pat : Nat → PR PT) (L : List UInt8) (i : Nat) : PR PT :=
  (atomL pat L i).bind fun t m => if pk L m = 42 then .ok (.mk 6 .zero [t]) (m + 1) else .ok t m
/-- Several trees, as long as sep finds another one. -/
def sevL (one : Nat → PR PT) (sep : Nat → Option Nat) : Nat → List PT → Nat → PR (List PT)
  | 0, _, i => .bad i
  | g + 1, acc, i => if acc.length = 0 then (one i).bind fun t m => sevL one sep g (acc ++ [t]) m
    else match sep i with
      | none => .ok acc i
      | some j => (one j).bind fun t m => sevL one sep g (acc ++ [t]) m
def joinT (kind : Int) (l : List PT) : PT := match l with
  | [t] => t
  | l => .mk kind .zero l
def sepC (L : List UInt8) (i : Nat) : Option Nat := if begA (pk L i) = true then some i else none
def sepP (L : List UInt8) (i : Nat) : Option Nat := if pk L i = 124 then some (i + 1) else none
def catL (pat : Nat → PR PT) (L : List UInt8) (i : Nat) : PR PT := (sevL (repL pat L) (sepC L) (L.length + 1) [] i).map (joinT 4)
def patL (L : List UInt8) : Nat → Nat → PR PT
  | 0, i => .bad i
  | d + 1, i => (sevL (catL (patL L d) L) (sepP L) (L.length + 1) [] i).map (joinT 5)

/-- A reading that stops where it should. -/
def Good (L : List UInt8) (f : Nat → PR PT) : Prop := ∀ i, i ≤ L.length → (f i).Fwd i L.length ∧ ∀ t m, f i = .ok t m → t.fit = true ∧ t.cls + 1 ≤ 2 * (m - i)
theorem classT_fit (s : S4) : (classT s).fit = true ∧ (classT s).cls = 1 := by
  unfold classT
  split <;> exact ⟨rfl, rfl⟩
theorem setT_fit (n : Bool) (s : S4) : (setT n s).fit = true ∧ (setT n s).cls = 1 := classT_fit _
theorem group_good {pat : Nat → PR PT} {L : List UInt8} (hp : Good L pat) (i : Nat) (hi : i < L.length) : (groupL pat L i).Fwd i L.length ∧ ∀ t m, groupL pat L i = .ok t m → t.fit = true ∧ t.cls + 1 ≤ 2 * (m - i) := by
  unfold groupL
  split
  · rename_i h
    have := pk_is h (by decide)
    exact ⟨⟨by omega, by omega⟩, fun t m e => by cases e; exact ⟨rfl, by rw [PT.cls_eq]; show 0 + 1 + 1 ≤ _; omega⟩⟩
  · obtain ⟨h1, h2⟩ := hp (i + 1) (by omega)
    cases hq : pat (i + 1) with
    | bad m => rw [hq] at h1; exact ⟨h1, fun _ _ e => by cases e⟩
    | ok t m =>
      rw [hq] at h1
      obtain ⟨h3, h4⟩ := h2 t m hq
      show (if _ then _ else _ : PR PT).Fwd i L.length ∧ ∀ t' m', (if pk L m = 41 then PR.ok t (m + 1) else .bad m) = .ok t' m' → _
      have := h1.1
      have hmm := h1.2
      split
      · rename_i h
        have := pk_is h (by decide)
        exact ⟨⟨by omega, by omega⟩, fun t' m' e => by cases e; exact ⟨h3, by omega⟩⟩
      · exact ⟨hmm, fun _ _ e => by cases e⟩
theorem atom_good {pat : Nat → PR PT} {L : List UInt8} (hp : Good L pat) : Good L (atomL pat L) := by
  intro i hi
  unfold atomL
  split
  · rename_i h
    exact group_good hp i (pk_is h (by decide))
  split
  · rename_i h
    have hlt := pk_is h (by decide)
    have h1 := brackL_fwd L i hlt
    refine ⟨h1, fun t m e => ?_⟩
    rw [e] at h1
    unfold brackL at e
    split at e
    · cases e
      exact ⟨rfl, by rw [PT.cls_eq]; show 0 + 1 + 1 ≤ _; omega⟩
    · cases hm : setL L (L.length + 1) .zero (negL L (i + 1)) with
      | bad m => rw [hm] at e; cases e
      | ok s q =>
        rw [hm] at e
        cases e
        obtain ⟨h2, h3⟩ := setT_fit (decide (pk L (i + 1) = 94)) s
        have := h1.1
        exact ⟨h2, by rw [h3]; omega⟩
  split
  · rename_i h
    have hlt := pk_is h (by decide)
    exact ⟨⟨by omega, by omega⟩, fun t m e => by cases e; exact ⟨(classT_fit _).1, by rw [(classT_fit _).2]; omega⟩⟩
  split
  · rename_i h
    have hlt := pk_is h (by decide)
    split
    · rename_i h'
      have := isSp_lt h'
      have := pk_ne L (i + 1) (by omega)
      exact ⟨⟨by omega, by omega⟩, fun t m e => by cases e; exact ⟨(classT_fit _).1, by unfold oneT; rw [(classT_fit _).2]; omega⟩⟩
    · exact ⟨(by omega : i + 1 ≤ L.length), fun _ _ e => by cases e⟩
  split
  · rename_i h
    have := isPl_lt h
    have := pk_ne L i (by omega)
    exact ⟨⟨by omega, by omega⟩, fun t m e => by cases e; exact ⟨(classT_fit _).1, by unfold oneT; rw [(classT_fit _).2]; omega⟩⟩
  · exact ⟨hi, fun _ _ e => by cases e⟩
theorem rep_good {pat : Nat → PR PT} {L : List UInt8} (hp : Good L pat) : Good L (repL pat L) := by
  intro i hi
  unfold repL
  obtain ⟨h1, h2⟩ := atom_good hp i hi
  cases hq : atomL pat L i with
  | bad m => rw [hq] at h1; exact ⟨h1, fun _ _ e => by cases e⟩
  | ok t m =>
    rw [hq] at h1
    obtain ⟨h3, h4⟩ := h2 t m hq
    show (if _ then _ else _ : PR PT).Fwd i L.length ∧ ∀ t' m', (if pk L m = 42 then PR.ok (.mk 6 .zero [t]) (m + 1) else .ok t m) = .ok t' m' → _
    have := h1.1
    have hmm := h1.2
    split
    · rename_i h
      have := pk_is h (by decide)
      refine ⟨⟨by omega, by omega⟩, fun t' m' e => ?_⟩
      cases e
      refine ⟨?_, ?_⟩
      · rw [PT.fit_eq]
        show (_ && PT.fits [t]) = true
        rw [PT.fits, h3, PT.fits]
        rfl
      · rw [PT.cls_eq]
        show PT.clss [t] + 1 + 1 ≤ _
        rw [PT.clss_cons, PT.clss_nil]
        omega
    · exact ⟨⟨by omega, by omega⟩, fun t' m' e => by cases e; exact ⟨h3, h4⟩⟩
/-- What a separator may do. -/
def SepOk (L : List UInt8) (sep : Nat → Option Nat) : Prop := ∀ i j, sep i = some j → i ≤ L.length → i ≤ j ∧ j ≤ L.length
theorem sepC_ok (L : List UInt8) : SepOk L (sepC L) := fun i j h hi => by
  unfold sepC at h
  split at h
  · cases h; exact ⟨Nat.le_refl _, hi⟩
  · cases h
theorem sepP_ok (L : List UInt8) : SepOk L (sepP L) := fun i j h hi => by
  unfold sepP at h
  split at h
  · rename_i h'
    have := pk_is h' (by decide)
    cases h; exact ⟨by omega, by omega⟩
  · cases h
theorem sev_good {L : List UInt8} {one : Nat → PR PT} {sep : Nat → Option Nat} (ho : Good L one) (hs : SepOk L sep) (i0 : Nat) : ∀ (g : Nat) (acc : List PT) (i : Nat), i ≤ L.length → i0 ≤ i → L.length < i + g → PT.fits acc = true → PT.clss acc + acc.length ≤ 2 * (i - i0) → (acc.length ≠ 0 → i0 < i) →
    (sevL one sep g acc i).Fwd i0 L.length ∧ ∀ l m, sevL one sep g acc i = .ok l m → PT.fits l = true ∧ PT.clss l + l.length ≤ 2 * (m - i0) ∧ l.length ≠ 0 := by
  intro g
  induction g with
  | zero => intro acc i hi _ hg; omega
  | succ g ih =>
    intro acc i hi h0 hg hf hc hn
    have step : ∀ j, i ≤ j → j ≤ L.length → ((one j).bind fun t m => sevL one sep g (acc ++ [t]) m).Fwd i0 L.length ∧ ∀ l m, ((one j).bind fun t m => sevL one sep g (acc ++ [t]) m) = .ok l m → PT.fits l = true ∧ PT.clss l + l.length ≤ 2 * (m - i0) ∧ l.length ≠ 0 := by
      intro j hij hj
      obtain ⟨h1, h2⟩ := ho j hj
      cases hq : one j with
      | bad m => rw [hq] at h1; exact ⟨h1, fun _ _ e => by cases e⟩
      | ok t m =>
        rw [hq] at h1
        obtain ⟨h3, h4⟩ := h2 t m hq
        have := h1.1
        exact ih (acc ++ [t]) m h1.2 (by omega) (by omega) (PT.fits_snoc hf h3) (by rw [PT.clss_append, PT.clss_cons, PT.clss_nil, List.length_append]; simp; omega) (fun _ => by omega)
    rw [sevL]
    split
    · exact step i (Nat.le_refl _) hi
    · rename_i hne
      cases hsep : sep i with
      | none => exact ⟨⟨hn hne, hi⟩, fun l m e => by cases e; exact ⟨hf, hc, hne⟩⟩
      | some j =>
        obtain ⟨h1, h2⟩ := hs i j hsep hi
        exact step j h1 h2
theorem join_good {kind : Int} (hk : kind ≠ 6) {l : List PT} (hf : PT.fits l = true) (hn : l.length ≠ 0) : (joinT kind l).fit = true ∧ (joinT kind l).cls + 1 ≤ PT.clss l + l.length := by
  match l with
  | [] => exact absurd rfl hn
  | [t] =>
    rw [PT.fits, Bool.and_eq_true] at hf
    refine ⟨hf.1, ?_⟩
    show t.cls + 1 ≤ _
    rw [PT.clss_cons, PT.clss_nil]
    simp
  | t :: u :: r =>
    refine ⟨?_, ?_⟩
    · show ((_ || _) && PT.fits (t :: u :: r)) = true
      rw [hf, decide_eq_true hk]
      rfl
    · show (PT.mk kind .zero (t :: u :: r)).cls + 1 ≤ _
      rw [PT.cls_eq]
      show PT.clss (t :: u :: r) + 1 + 1 ≤ _
      simp only [List.length_cons]
      omega
theorem several_good {L : List UInt8} {one : Nat → PR PT} {sep : Nat → Option Nat} (ho : Good L one) (hs : SepOk L sep) {kind : Int} (hk : kind ≠ 6) : Good L fun i => (sevL one sep (L.length + 1) [] i).map (joinT kind) := by
  intro i hi
  obtain ⟨h1, h2⟩ := sev_good ho hs i (L.length + 1) [] i hi (Nat.le_refl _) (by omega) (by rw [PT.fits]) (by rw [PT.clss_nil]; simp) (fun h => absurd rfl h)
  refine ⟨h1.map _, fun t m e => ?_⟩
  replace e : (sevL one sep (L.length + 1) [] i).map (joinT kind) = .ok t m := e
  cases hq : sevL one sep (L.length + 1) [] i with
  | bad m => rw [hq] at e; cases e
  | ok l q =>
    rw [hq] at e
    cases e
    obtain ⟨h3, h4, h5⟩ := h2 l _ hq
    obtain ⟨h6, h7⟩ := join_good hk h3 h5
    exact ⟨h6, by omega⟩
theorem cat_good {pat : Nat → PR PT} {L : List UInt8} (hp : Good L pat) : Good L (catL pat L) := several_good (rep_good hp) (sepC_ok L) (by decide)
theorem pat_good (L : List UInt8) : ∀ d, Good L (patL L d) := by
  intro d
  induction d with
  | zero => exact fun i hi => ⟨hi, fun _ _ e => by cases e⟩
  | succ d ih => exact several_good (cat_good ih) (sepP_ok L) (by decide)

/-- Parse: the tree, or the fault and the error. -/
def parseT (L : List UInt8) : PR PT := (patL L (L.length + 1) 0).bind fun t m => if m = L.length then .ok t m else .bad m

/-- A position of the automaton. -/
structure Ps where
  s : S4
  n : Int
/-- What is told of a part. -/
structure Pa where
  e : Bool
  f : Int
  t : Int
def Pa.zero : Pa := ⟨false, 0, 0⟩
def orS (x y : Int) : Int := bits BinOp.or IntKind.u64 x y
def bitQ (s : Int) (i : Nat) : Bool := bits BinOp.and IntKind.u64 (s / 2 ^ min i 64) 1 == 1
def oneS (i : Nat) : Int := IntKind.u64.wrap (2 ^ min i 64)
/-- link, from the position i on. -/
def linkL (s n : Int) : Nat → List Ps → List Ps
  | _, [] => []
  | i, p :: l => (if bitQ s i = true then ⟨p.s, orS p.n n⟩ else p) :: linkL s n (i + 1) l
def joinS (ps : List Ps) (p q : Pa) : List Ps × Pa := (linkL p.t q.f 0 ps, ⟨p.e && q.e, if p.e = true then orS p.f q.f else p.f, if q.e = true then orS q.t p.t else q.t⟩)
def altS (p q : Pa) : Pa := ⟨p.e || q.e, orS p.f q.f, orS p.t q.t⟩
mutual
/-- add: the positions of a tree behind those that there are. -/
def addT (ps : List Ps) : PT → List Ps × Pa
  | .mk k s l => if k = 2 then (ps, ⟨true, 0, 0⟩) else if k = 3 then (ps ++ [⟨s, 0⟩], ⟨false, oneS ps.length, oneS ps.length⟩)
    else if k = 4 then catS ps ⟨true, 0, 0⟩ l else if k = 5 then altsS ps .zero l else if k = 6 then repS ps l else (ps, .zero)
def catS (ps : List Ps) (p : Pa) : List PT → List Ps × Pa
  | [] => (ps, p)
  | t :: l => let r := addT ps t; let r' := joinS r.1 p r.2; catS r'.1 r'.2 l
def altsS (ps : List Ps) (p : Pa) : List PT → List Ps × Pa
  | [] => (ps, p)
  | t :: l => let r := addT ps t; altsS r.1 (altS p r.2) l
def repS (ps : List Ps) : List PT → List Ps × Pa
  | [] => (ps, .zero)
  | t :: _ => let r := addT ps t; (linkL r.2.t r.2.f 0 r.1, ⟨true, r.2.f, r.2.t⟩)
end
theorem linkL_len (s n : Int) : ∀ (l : List Ps) (i : Nat), (linkL s n i l).length = l.length := by
  intro l
  induction l with
  | nil => intro i; rfl
  | cons p l ih => intro i; rw [linkL, List.length_cons, List.length_cons, ih]

/-- The automaton of a tree: its positions and its last states. -/
def buildT (t : PT) : List Ps × Int :=
  let r := addT [⟨.zero, 0⟩] t
  (r.1.set 0 ⟨(((r.1[0]?).getD (Ps.mk S4.zero 0)).s), r.2.f⟩, if r.2.e = true then orS r.2.t 1 else r.2.t)
def afterL (s : Int) : Nat → List Ps → Int → Int
  | _, [], a => a
  | i, p :: l, a => afterL s (i + 1) l (if bitQ s i = true then orS a p.n else a)
def beforeL (s : Int) : Nat → List Ps → Int → Int
  | _, [], a => a
  | i, p :: l, a => beforeL s (i + 1) l (if bits BinOp.and IntKind.u64 p.n s = 0 then a else orS a (oneS i))
def readsL (c : Nat) : Nat → List Ps → Int → Int
  | _, [], a => a
  | i, p :: l, a => readsL c (i + 1) l (if p.s.has c = true then orS a (oneS i) else a)
/-- The hopeful states of a text: those of each offset, the last one 0. -/
def hopeL (ps : List Ps) (last : Int) : List UInt8 → List Int
  | [] => [0]
  | c :: r => let h := hopeL ps last r
    bits BinOp.and IntKind.u64 (readsL c.toNat 0 ps 0) (orS last (beforeL (h.headD 0) 0 ps 0)) :: h
theorem hopeL_len (ps : List Ps) (last : Int) (l : List UInt8) : (hopeL ps last l).length = l.length + 1 := by
  induction l with
  | nil => rfl
  | cons c r ih => rw [hopeL]; simp [ih]
/-- Where the search ends that has come to an offset in a state; the list is that of the offset on. -/
def runL (ps : List Ps) : List Int → Int → Nat → Nat
  | [], _, i => i
  | h :: r, s, i => if bits BinOp.and IntKind.u64 (afterL s 0 ps 0) h = 0 then i else runL ps r (bits BinOp.and IntKind.u64 (afterL s 0 ps 0) h) (i + 1)
theorem runL_le (ps : List Ps) : ∀ (l : List Int) (s : Int) (i : Nat), i ≤ runL ps l s i := by
  intro l
  induction l with
  | nil => intro s i; exact Nat.le_refl _
  | cons h r ih =>
    intro s i
    rw [runL]
    split
    · exact Nat.le_refl _
    · have := ih (bits BinOp.and IntKind.u64 (afterL s 0 ps 0) h) (i + 1); omega
/-- The matches from an offset on: H are the hopeful states, n the length of the text. -/
def matL (ps : List Ps) (H : List Int) (n : Nat) : Nat → Nat → List (Nat × Nat)
  | 0, _ => []
  | g + 1, i => if i < n then
      (if i < runL ps (H.drop i) 1 i then (i, runL ps (H.drop i) 1 i) :: matL ps H n g (runL ps (H.drop i) 1 i) else matL ps H n g (i + 1))
    else []
/-- The error of a pattern. -/
def errP (p : ByteArray) : Int := if p.size < 1 ∨ 40 < p.size then 2 else match parseT p.data.toList with
  | .bad _ => 8
  | .ok _ _ => 0
def matT (t : PT) (s : List UInt8) : List (Nat × Nat) := matL (buildT t).1 (hopeL (buildT t).1 (buildT t).2 s) s.length (s.length + 1) 0
/-- The matches of a pattern in a text. -/
def matS (p s : ByteArray) : List (Nat × Nat) := if p.size < 1 ∨ 40 < p.size then [] else match parseT p.data.toList with
  | .bad _ => []
  | .ok t _ => matT t s.data.toList
end Go.Proofs.YtaipaddfehpmgaaDoor
