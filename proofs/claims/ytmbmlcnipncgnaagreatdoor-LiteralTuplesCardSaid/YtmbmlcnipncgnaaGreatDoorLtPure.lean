/-
  Literals, with no program in them: how a literal is read from a list of bytes. Nothing is assumed.
-/
import Derived.Test.YtmbmlcnipncgnaaGreatDoorLtBase
import Derived.Test.YtmbmlcnipncgnaaGreatDoorStNum
namespace Go.Proofs.YtmbmlcnipncgnaaGreatDoor
open Go.RowKit

def PR.bind {α β : Type} (x : PR α) (f : α → Nat → PR β) : PR β := match x with
  | .bad i => .bad i
  | .ok v i => f v i
/-- Where the reading stops. -/
def PR.fin {α : Type} : PR α → Nat
  | .bad i => i
  | .ok _ i => i
def PR.good {α : Type} : PR α → Bool
  | .bad _ => false
  | .ok _ _ => true
theorem PR.bind_bad {α β : Type} (i : Nat) (f : α → Nat → PR β) : (PR.bad i).bind f = .bad i := rfl
theorem PR.bind_ok {α β : Type} (v : α) (i : Nat) (f : α → Nat → PR β) : (PR.ok v i).bind f = f v i := rfl

/-- The byte at an offset; 0 at the end. -/
def pk (L : List UInt8) (i : Nat) : Nat := match L[i]? with
  | some c => c.toNat
  | none => 0
theorem pk_lt (L : List UInt8) (i : Nat) : pk L i < 256 := by
  unfold pk
  split
  · exact UInt8.toNat_lt _
  · omega
theorem pk_in (s : ByteArray) (i : Nat) (h : i < s.size) : pk s.data.toList i = (s[i]'h).toNat := by
  unfold pk
  rw [lt_at s i h]
theorem pk_out (L : List UInt8) (i : Nat) (h : L.length ≤ i) : pk L i = 0 := by
  unfold pk
  rw [List.getElem?_eq_none h]
theorem pk_ne (L : List UInt8) (i : Nat) (h : pk L i ≠ 0) : i < L.length := by
  rcases Nat.lt_or_ge i L.length with h1 | h1
  · exact h1
  · exact absurd (pk_out L i h1) h
theorem pk_drop (L : List UInt8) (i : Nat) (h : i < L.length) : ∃ c, L.drop i = c :: L.drop (i + 1) ∧ c.toNat = pk L i := by
  refine ⟨L[i], List.drop_eq_getElem_cons h, ?_⟩
  unfold pk
  rw [List.getElem?_eq_getElem h]

/-- The bytes w at an offset. -/
def wordL : List UInt8 → List UInt8 → Nat → PR Unit
  | [], _, i => .ok () i
  | c :: w, L, i => if pk L i = c.toNat then wordL w L (i + 1) else .bad i

def isD (c : Nat) : Bool := decide (48 ≤ c) && decide (c ≤ 57)
/-- The digits that go on with a number. -/
def numL : List UInt8 → Nat → Nat → Nat × Nat
  | [], n, i => (n, i)
  | c :: r, n, i => if 0 < n ∧ isD c.toNat = true ∧ 10 * n + (c.toNat - 48) ≤ 1000000 then numL r (10 * n + (c.toNat - 48)) (i + 1) else (n, i)
/-- A number from its first digit on. -/
def natL (L : List UInt8) (j : Nat) : Nat × Nat := numL (L.drop (j + 1)) (pk L j - 48) (j + 1)
def intL (L : List UInt8) (i : Nat) : PR V :=
  if pk L i = 45 then
    (if isD (pk L (i + 1)) = false ∨ pk L (i + 1) = 48 then .bad (i + 1) else .ok (.mk 2 (-((natL L (i + 1)).1 : Int)) ⟨#[]⟩ []) (natL L (i + 1)).2)
  else if isD (pk L i) = false then .bad i else .ok (.mk 2 ((natL L i).1 : Int) ⟨#[]⟩ []) (natL L i).2
def bitsL (L : List UInt8) (i : Nat) : PR V := match hexv (pk L (i + 2)) with
  | none => .bad (i + 2)
  | some h => match hexv (pk L (i + 3)) with
    | none => .bad (i + 3)
    | some l => .ok (.mk 4 ((16 * h + l : Nat) : Int) ⟨#[]⟩ []) (i + 4)
def textL (L : List UInt8) (i : Nat) : PR V := (qL 0 64 false L i).bind fun C j => .ok (.mk 3 0 (str C) []) j
def patL (L : List UInt8) (i : Nat) : PR V := (qL 1 40 false L i).bind fun C j => .ok (.mk 8 0 (str C) []) j
/-- What stands before an element. -/
def sepL (acc : List V) (L : List UInt8) (i : Nat) : PR Unit := if acc = [] then .ok () i else wordL [44, 32] L i
/-- Elements up to the closing byte; at most k more of them. -/
def itemsL (el : List V → Nat → PR V) (close least : Nat) (L : List UInt8) : Nat → List V → Nat → PR (List V)
  | 0, acc, i => if pk L i = close ∧ least ≤ acc.length then .ok acc (i + 1) else .bad i
  | k + 1, acc, i => if pk L i = close ∧ least ≤ acc.length then .ok acc (i + 1) else
    (sepL acc L i).bind fun _ j => (el acc j).bind fun v m => itemsL el close least L k (acc ++ [v]) m
def textsL (least most : Nat) (L : List UInt8) (i : Nat) : PR V :=
  if pk L i = 123 then (itemsL (fun _ j => textL L j) 125 least L most [] (i + 1)).bind fun l j => .ok (.mk 6 0 ⟨#[]⟩ l) j else .bad i
/-- The least and the greatest number of cells of the next row. -/
def loC (acc : List V) : Nat := match acc with
  | [] => 1
  | v :: _ => v.l.length
def hiC (acc : List V) : Nat := match acc with
  | [] => 8
  | v :: _ => v.l.length
def rowL (L : List UInt8) (acc : List V) (i : Nat) : PR V := textsL (loC acc) (hiC acc) L i
def intsL (L : List UInt8) (i : Nat) : PR V := (itemsL (fun _ j => intL L j) 93 0 L 16 [] (i + 1)).bind fun l j => .ok (.mk 5 0 ⟨#[]⟩ l) j
def tableL (L : List UInt8) (i : Nat) : PR V := (itemsL (rowL L) 62 0 L 8 [] (i + 1)).bind fun l j => .ok (.mk 7 0 ⟨#[]⟩ l) j
def boolL (w : List UInt8) (n : Int) (L : List UInt8) (i : Nat) : PR V := (wordL w L i).bind fun _ j => .ok (.mk 1 n ⟨#[]⟩ []) j
def wTrue : List UInt8 := [116, 114, 117, 101]
def wFalse : List UInt8 := [102, 97, 108, 115, 101]
/-- A literal at an offset. -/
def oneL (L : List UInt8) (i : Nat) : PR V :=
  if pk L i = 116 then boolL wTrue 1 L i
  else if pk L i = 102 then boolL wFalse 0 L i
  else if pk L i = 34 then textL L i
  else if pk L i = 114 then patL L (i + 1)
  else if pk L i = 91 then intsL L i
  else if pk L i = 123 then textsL 0 16 L i
  else if pk L i = 60 then tableL L i
  else if pk L i = 48 ∧ pk L (i + 1) = 120 then bitsL L i
  else intL L i
/-- The literals of a tuple. -/
def allL (L : List UInt8) : Nat → List V → Nat → PR (List V)
  | 0, _, i => .bad i
  | g + 1, acc, i => if L.length ≤ i then .ok acc i else
    (sepL acc L i).bind fun _ j => (oneL L j).bind fun v m => allL L g (acc ++ [v]) m

/-! ### The functions of the layer -/
/-- A reading of the whole text: what was read, 0, 0; or nothing, the fault, 8. -/
def whole {α : Type} (L : List UInt8) (z : α) : PR α → α × Nat × Int
  | .bad i => (z, i, 8)
  | .ok v i => if i = L.length then (v, 0, 0) else (z, i, 8)
def zeroV : V := .mk 0 0 ⟨#[]⟩ []
def parseL (L : List UInt8) : V × Nat × Int := whole L zeroV (oneL L 0)
def parseAllL (L : List UInt8) : List V × Nat × Int := whole L [] (allL L (L.length + 1) [] 0)
def unquoteL (L : List UInt8) : List UInt8 × Nat × Int := whole L [] (qL 0 (2 ^ 63 - 1) true L 0)

/-! ### How far a reading goes -/
theorem numL_go (L : List UInt8) (n i : Nat) (h : 0 < n ∧ isD (pk L i) = true ∧ 10 * n + (pk L i - 48) ≤ 1000000) :
    numL (L.drop i) n i = numL (L.drop (i + 1)) (10 * n + (pk L i - 48)) (i + 1) := by
  have hi : i < L.length := pk_ne L i (by
    intro e
    rw [e] at h
    simp [isD] at h)
  obtain ⟨c, h1, h2⟩ := pk_drop L i hi
  rw [h1, numL, h2, if_pos h]
theorem numL_stop (L : List UInt8) (n i : Nat) (h : ¬ (0 < n ∧ isD (pk L i) = true ∧ 10 * n + (pk L i - 48) ≤ 1000000)) : numL (L.drop i) n i = (n, i) := by
  rcases Nat.lt_or_ge i L.length with hi | hi
  · obtain ⟨c, h1, h2⟩ := pk_drop L i hi
    rw [h1, numL, h2, if_neg h]
  · rw [List.drop_eq_nil_of_le hi, numL]
theorem numL_bd : ∀ (r : List UInt8) (n i : Nat), n ≤ 1000000 → (numL r n i).1 ≤ 1000000 ∧ i ≤ (numL r n i).2 ∧ (numL r n i).2 ≤ i + r.length
  | [], n, i, h => ⟨h, Nat.le_refl _, by rw [numL]; exact Nat.le_add_right _ _⟩
  | c :: r, n, i, h => by
    rw [numL]
    split
    · rename_i hc
      have := numL_bd r (10 * n + (c.toNat - 48)) (i + 1) hc.2.2
      rw [List.length_cons]
      omega
    · exact ⟨h, Nat.le_refl _, Nat.le_add_right _ _⟩
theorem isD_lt {c : Nat} (h : isD c = true) : 48 ≤ c ∧ c ≤ 57 := by simpa [isD] using h
theorem pk_isD {L : List UInt8} {i : Nat} (h : isD (pk L i) = true) : i < L.length := pk_ne L i (by
  have := isD_lt h
  omega)
theorem natL_bd (L : List UInt8) (j : Nat) (h : isD (pk L j) = true) : (natL L j).1 ≤ 1000000 ∧ j < (natL L j).2 ∧ (natL L j).2 ≤ L.length := by
  have hj := pk_isD h
  have := isD_lt h
  have hb := numL_bd (L.drop (j + 1)) (pk L j - 48) (j + 1) (by omega)
  rw [List.length_drop] at hb
  unfold natL
  omega
theorem wordL_bd : ∀ (w L : List UInt8) (i : Nat), i ≤ L.length → (∀ c, c ∈ w → c ≠ 0) → i ≤ (wordL w L i).fin ∧ (wordL w L i).fin ≤ L.length
  | [], L, i, h, _ => ⟨Nat.le_refl _, h⟩
  | c :: w, L, i, h, hw => by
    rw [wordL]
    split
    · rename_i hc
      have hi : i < L.length := pk_ne L i (by
        rw [hc]
        intro e
        exact hw c (List.mem_cons_self ..) (UInt8.toNat_inj.1 e))
      have := wordL_bd w L (i + 1) hi (fun c hc => hw c (List.mem_cons_of_mem _ hc))
      omega
    · exact ⟨Nat.le_refl _, h⟩
theorem qrun_bd (least most : Nat) (any : Bool) : ∀ (r : List UInt8) (st : QSt) (C : List UInt8) (i : Nat), i ≤ (qrun least most any st C r i).fin ∧ (qrun least most any st C r i).fin ≤ i + r.length
  | [], st, C, i => by rw [qrun_nil]; exact ⟨Nat.le_refl _, Nat.le_refl _⟩
  | c :: r, st, C, i => by
    rw [qrun]
    split
    · exact ⟨Nat.le_succ _, by simp [PR.fin]⟩
    · split
      · exact ⟨Nat.le_refl _, Nat.le_add_right _ _⟩
      · rename_i st' C' _
        have := qrun_bd least most any r st' C' (i + 1)
        rw [List.length_cons]
        omega
theorem qL_bd (least most : Nat) (any : Bool) (L : List UInt8) (i : Nat) (h : i ≤ L.length) : i ≤ (qL least most any L i).fin ∧ (qL least most any L i).fin ≤ L.length := by
  unfold qL
  rcases Nat.lt_or_ge i L.length with hi | hi
  · obtain ⟨c, h1, h2⟩ := pk_drop L i hi
    rw [h1]
    simp only []
    split
    · have := qrun_bd least most any (L.drop (i + 1)) .whole [] (i + 1)
      rw [List.length_drop] at this
      omega
    · exact ⟨Nat.le_refl _, h⟩
  · rw [List.drop_eq_nil_of_le hi]
    exact ⟨Nat.le_refl _, h⟩
/-- A reading from i on within n bytes. -/
def PR.In {α : Type} (i n : Nat) (x : PR α) : Prop := i ≤ x.fin ∧ x.fin ≤ n
theorem PR.In.bind {α β : Type} {i n : Nat} {x : PR α} {f : α → Nat → PR β} (h : x.In i n) (hf : ∀ v j, x = .ok v j → i ≤ j → j ≤ n → (f v j).In j n) : (x.bind f).In i n := by
  cases x with
  | bad j => exact h
  | ok v j =>
    have := hf v j rfl h.1 h.2
    exact ⟨Nat.le_trans h.1 this.1, this.2⟩
theorem PR.In.ret {α : Type} {i j n : Nat} {v : α} (h : i ≤ j) (h' : j ≤ n) : (PR.ok v j).In i n := ⟨h, h'⟩
theorem PR.In.stop {α : Type} {i n : Nat} (h' : i ≤ n) : (PR.bad i : PR α).In i n := ⟨Nat.le_refl _, h'⟩
theorem PR.In.from {α : Type} {i j n : Nat} {x : PR α} (h : x.In j n) (hij : i ≤ j) : x.In i n := ⟨Nat.le_trans hij h.1, h.2⟩
theorem sepL_bd (acc : List V) (L : List UInt8) (i : Nat) (h : i ≤ L.length) : (sepL acc L i).In i L.length := by
  unfold sepL
  split
  · exact .ret (Nat.le_refl _) h
  · exact wordL_bd _ _ _ h (by simp)
theorem intL_bd (L : List UInt8) (i : Nat) (h : i ≤ L.length) : (intL L i).In i L.length := by
  unfold intL
  split
  · rename_i h45
    have hi := pk_ne L i (by rw [h45]; decide)
    split
    · exact ⟨Nat.le_succ _, hi⟩
    · rename_i hc
      have := natL_bd L (i + 1) (by
        cases hd : isD (pk L (i + 1)) with
        | true => rfl
        | false => exact absurd (.inl hd) hc)
      exact ⟨by simp only [PR.fin]; omega, by simp only [PR.fin]; omega⟩
  · split
    · exact .stop h
    · rename_i hc
      have := natL_bd L i (by simpa using hc)
      exact ⟨by simp only [PR.fin]; omega, by simp only [PR.fin]; omega⟩
theorem textL_bd (L : List UInt8) (i : Nat) (h : i ≤ L.length) : (textL L i).In i L.length :=
  PR.In.bind (qL_bd _ _ _ L i h) fun _ _ _ _ h2 => .ret (Nat.le_refl _) h2
theorem patL_bd (L : List UInt8) (i : Nat) (h : i ≤ L.length) : (patL L i).In i L.length :=
  PR.In.bind (qL_bd _ _ _ L i h) fun _ _ _ _ h2 => .ret (Nat.le_refl _) h2
theorem itemsL_bd (el : List V → Nat → PR V) (close least : Nat) (L : List UInt8) (hc : close ≠ 0) (hel : ∀ acc j, j ≤ L.length → (el acc j).In j L.length) :
    ∀ (k : Nat) (acc : List V) (i : Nat), i ≤ L.length → (itemsL el close least L k acc i).In i L.length
  | 0, acc, i, h => by
    rw [itemsL]
    split
    · rename_i hx
      have := pk_ne L i (by rw [hx.1]; exact hc)
      exact .ret (Nat.le_succ _) this
    · exact .stop h
  | k + 1, acc, i, h => by
    rw [itemsL]
    split
    · rename_i hx
      have := pk_ne L i (by rw [hx.1]; exact hc)
      exact .ret (Nat.le_succ _) this
    · exact PR.In.bind (sepL_bd acc L i h) fun _ j _ h1 h2 => PR.In.bind (hel acc j h2) fun v m _ h3 h4 => itemsL_bd el close least L hc hel k _ m h4
theorem textsL_bd (least most : Nat) (L : List UInt8) (i : Nat) (h : i ≤ L.length) : (textsL least most L i).In i L.length := by
  unfold textsL
  split
  · rename_i hx
    have hi := pk_ne L i (by rw [hx]; decide)
    exact (PR.In.bind (itemsL_bd _ 125 least L (by decide) (fun _ j hj => textL_bd L j hj) most [] (i + 1) hi) fun _ _ _ _ h2 => .ret (Nat.le_refl _) h2).from (Nat.le_succ _)
  · exact .stop h
theorem pos_of_pk {L : List UInt8} {i c : Nat} (h : pk L i = c) (hc : c ≠ 0) : i < L.length := pk_ne L i (by rw [h]; exact hc)
theorem intsL_bd (L : List UInt8) (i : Nat) (hi : i < L.length) : (intsL L i).In i L.length :=
  (PR.In.bind (itemsL_bd _ 93 0 L (by decide) (fun _ j hj => intL_bd L j hj) 16 [] (i + 1) hi) fun _ _ _ _ h2 => .ret (Nat.le_refl _) h2).from (Nat.le_succ _)
theorem tableL_bd (L : List UInt8) (i : Nat) (hi : i < L.length) : (tableL L i).In i L.length :=
  (PR.In.bind (itemsL_bd _ 62 0 L (by decide) (fun acc j hj => textsL_bd _ _ L j hj) 8 [] (i + 1) hi) fun _ _ _ _ h2 => .ret (Nat.le_refl _) h2).from (Nat.le_succ _)
theorem hexv_pk {L : List UInt8} {i d : Nat} (h : hexv (pk L i) = some d) : i < L.length := pk_ne L i (by
  intro e
  rw [e] at h
  simp [hexv] at h)
theorem hexv_lt {c d : Nat} (h : hexv c = some d) : d < 16 := by
  unfold hexv at h
  split at h
  · cases h; omega
  · split at h
    · cases h; omega
    · cases h
theorem bitsL_bd (L : List UInt8) (i : Nat) (hi : i + 1 < L.length) : (bitsL L i).In i L.length := by
  unfold bitsL
  split
  · exact ⟨Nat.le_add_right _ _, hi⟩
  · rename_i h1
    have := hexv_pk h1
    split
    · exact ⟨Nat.le_add_right _ _, this⟩
    · rename_i h2
      have := hexv_pk h2
      exact ⟨Nat.le_add_right _ _, this⟩
theorem boolL_bd (w : List UInt8) (n : Int) (L : List UInt8) (i : Nat) (h : i ≤ L.length) (hw : ∀ c, c ∈ w → c ≠ 0) : (boolL w n L i).In i L.length :=
  PR.In.bind (wordL_bd w L i h hw) fun _ _ _ _ h2 => .ret (Nat.le_refl _) h2
theorem oneL_bd (L : List UInt8) (i : Nat) (h : i ≤ L.length) : (oneL L i).In i L.length := by
  unfold oneL
  split
  · exact boolL_bd _ _ L i h (by decide)
  split
  · exact boolL_bd _ _ L i h (by decide)
  split
  · exact textL_bd L i h
  split
  · rename_i h1
    exact (patL_bd L (i + 1) (pos_of_pk h1 (by decide))).from (Nat.le_succ _)
  split
  · rename_i h1
    exact intsL_bd L i (pos_of_pk h1 (by decide))
  split
  · exact textsL_bd _ _ L i h
  split
  · rename_i h1
    exact tableL_bd L i (pos_of_pk h1 (by decide))
  split
  · rename_i h1
    exact bitsL_bd L i (pos_of_pk h1.2 (by decide))
  · exact intL_bd L i h
end Go.Proofs.YtmbmlcnipncgnaaGreatDoor
