/-
  Compare is a total order of the finite trees: the plain mathematics.
-/
import Derived.Test.YthnlkijkgnmbhaaDoorPlain
namespace Go.Proofs.YthnlkijkgnmbhaaDoor
open Go.RowKit

/-- A comparison's value. -/
def R3 (x : Int) : Prop := x = -1 ∨ x = 0 ∨ x = 1
/-- What three comparisons of three things are to each other. -/
def Q3 (x y z : Int) : Prop := R3 x ∧ R3 y ∧ R3 z ∧ (x = 0 → z = y) ∧ (y = 0 → z = x) ∧ (x = -1 → y = -1 → z = -1) ∧ (x = 1 → y = 1 → z = 1)

def lex (x y : Int) : Int := if x ≠ 0 then x else y
theorem lex_0 {x y : Int} (h : x = 0) : lex x y = y := by unfold lex; rw [if_neg (by omega)]
theorem lex_1 {x y : Int} (h : x ≠ 0) : lex x y = x := if_pos h
theorem R3.lex {x y : Int} (h : R3 x) (h' : R3 y) : R3 (lex x y) := by
  by_cases hx : x = 0
  · rw [lex_0 hx]; exact h'
  · rw [lex_1 hx]; exact h

theorem Q3.lex {x y z x' y' z' : Int} (h : Q3 x y z) (h' : Q3 x' y' z') : Q3 (lex x x') (lex y y') (lex z z') := by
  obtain ⟨r1, r2, r3, a1, a2, a3, a4⟩ := h
  obtain ⟨s1, s2, s3, b1, b2, b3, b4⟩ := h'
  by_cases hx : x = 0
  · have hz := a1 hx
    by_cases hy : y = 0
    · rw [lex_0 hx, lex_0 hy, lex_0 (hz.trans hy)]
      exact ⟨s1, s2, s3, b1, b2, b3, b4⟩
    · rw [lex_0 hx, lex_1 hy, lex_1 (by rw [hz]; exact hy), hz]
      exact ⟨s1, r2, r2, fun _ => rfl, fun h => absurd h hy, fun _ h => h, fun _ h => h⟩
  · by_cases hy : y = 0
    · have hz := a2 hy
      rw [lex_1 hx, lex_0 hy, lex_1 (by rw [hz]; exact hx), hz]
      exact ⟨r1, s2, r1, fun h => absurd h hx, fun _ => rfl, fun h _ => h, fun h _ => h⟩
    · rw [lex_1 hx, lex_1 hy]
      refine ⟨r1, r2, R3.lex r3 s3, fun h => absurd h hx, fun h => absurd h hy, fun h k => ?_, fun h k => ?_⟩
      · have hz := a3 h k; rw [lex_1 (by omega)]; exact hz
      · have hz := a4 h k; rw [lex_1 (by omega)]; exact hz

theorem R3_int (a b : Int) : R3 (cmpI a b) := by
  unfold R3 cmpI
  repeat' split
  all_goals omega
theorem Q3_int (a b c : Int) : Q3 (cmpI a b) (cmpI b c) (cmpI a c) := by
  unfold Q3 R3 cmpI
  repeat' split
  all_goals omega

theorem Q3_l0 {y : Int} (h : R3 y) : Q3 0 y y := ⟨.inr (.inl rfl), h, h, fun _ => rfl, fun h => h, fun h => absurd h (by omega), fun h => absurd h (by omega)⟩
theorem Q3_r0 {x : Int} (h : R3 x) : Q3 x 0 x := ⟨h, .inr (.inl rfl), h, fun h => h, fun _ => rfl, fun _ h => absurd h (by omega), fun _ h => absurd h (by omega)⟩
theorem Q3_m {y : Int} (h : R3 y) : Q3 (-1) y (-1) := ⟨.inl rfl, h, .inl rfl, fun h => absurd h (by omega), fun _ => rfl, fun _ _ => rfl, fun h => absurd h (by omega)⟩
theorem Q3_p {x : Int} (h : R3 x) : Q3 x 1 1 := ⟨h, .inr (.inr rfl), .inr (.inr rfl), fun _ => rfl, fun h => absurd h (by omega), fun _ h => absurd h (by omega), fun _ _ => rfl⟩
theorem Q3_pm {z : Int} (h : R3 z) : Q3 1 (-1) z := ⟨.inr (.inr rfl), .inl rfl, h, fun h => absurd h (by omega), fun h => absurd h (by omega), fun h => absurd h (by omega), fun _ h => absurd h (by omega)⟩
theorem Q3_mp {z : Int} (h : R3 z) : Q3 (-1) 1 z := ⟨.inl rfl, .inr (.inr rfl), h, fun h => absurd h (by omega), fun h => absurd h (by omega), fun _ h => absurd h (by omega), fun h => absurd h (by omega)⟩

theorem bytes_lex (x y : UInt8) (xs ys : List UInt8) : Lib.compareBytes (x :: xs) (y :: ys) = lex (cmpI x.toNat y.toNat) (Lib.compareBytes xs ys) := by
  simp only [Lib.compareBytes, UInt8.lt_iff_toNat_lt]
  by_cases h1 : x.toNat < y.toNat
  · have : cmpI x.toNat y.toNat = -1 := if_pos (by omega)
    rw [if_pos h1, this]; rfl
  · rw [if_neg h1]
    by_cases h2 : y.toNat < x.toNat
    · have : cmpI x.toNat y.toNat = 1 := by unfold cmpI; rw [if_neg (by omega), if_pos (by omega)]
      rw [if_pos h2, this]; rfl
    · have : cmpI x.toNat y.toNat = 0 := by unfold cmpI; rw [if_neg (by omega), if_neg (by omega)]
      rw [if_neg h2, this]; rfl

theorem R3_bytes : ∀ a b : List UInt8, R3 (Lib.compareBytes a b)
  | [], [] => .inr (.inl rfl)
  | [], _ :: _ => .inl rfl
  | _ :: _, [] => .inr (.inr rfl)
  | a :: as, b :: bs => by rw [bytes_lex]; exact (R3_int _ _).lex (R3_bytes as bs)

theorem Q3_bytes : ∀ a b c : List UInt8, Q3 (Lib.compareBytes a b) (Lib.compareBytes b c) (Lib.compareBytes a c)
  | [], [], c => Q3_l0 (R3_bytes _ _)
  | [], _ :: _, [] => Q3_mp (R3_bytes _ _)
  | [], _ :: _, _ :: _ => Q3_m (R3_bytes _ _)
  | _ :: _, [], [] => Q3_r0 (R3_bytes _ _)
  | _ :: _, [], _ :: _ => Q3_pm (R3_bytes _ _)
  | _ :: _, _ :: _, [] => Q3_p (R3_bytes _ _)
  | a :: as, b :: bs, c :: cs => by
    rw [bytes_lex, bytes_lex, bytes_lex]
    exact (Q3_int _ _ _).lex (Q3_bytes as bs cs)

theorem V.cmps_lex (a b : V) (l m : List V) : V.cmps (a :: l) (b :: m) = lex (a.cmp b) (V.cmps l m) := by rw [V.cmps_cons]; rfl
theorem V.cmps_00 : V.cmps [] [] = 0 := by rw [V.cmps_nil]; rfl
theorem V.cmps_01 (b : V) (m : List V) : V.cmps [] (b :: m) = -1 := by rw [V.cmps_nil, if_neg (by simp)]

theorem V.ranges : ∀ (k : List V), (∀ x, x ∈ k → ∀ b : V, R3 (x.cmp b)) → ∀ n, R3 (V.cmps k n)
  | [], _, [] => by rw [V.cmps_00]; exact .inr (.inl rfl)
  | [], _, b :: m => by rw [V.cmps_01]; exact .inl rfl
  | a :: l, _, [] => by rw [V.cmps_cons_nil]; exact .inr (.inr rfl)
  | a :: l, h, b :: m => by
    rw [V.cmps_lex]
    exact (h a (List.mem_cons_self ..) b).lex (V.ranges l (fun x hx => h x (List.mem_cons_of_mem _ hx)) m)

theorem V.cmp_lex (a b : V) : a.cmp b = lex (cmpI a.t b.t) (lex (cmpI a.n b.n) (lex (cmpS a.s b.s) (V.cmps a.l b.l))) := by rw [V.cmp_eq]; rfl

theorem V.range (a : V) : ∀ b : V, R3 (a.cmp b) := by
  induction a using V.ind with
  | h a ih =>
    intro b
    rw [V.cmp_lex]
    exact (R3_int _ _).lex ((R3_int _ _).lex ((R3_bytes _ _).lex (V.ranges _ ih _)))

theorem V.Q3s : ∀ (l m n : List V), (∀ x, x ∈ l → ∀ b c : V, Q3 (x.cmp b) (b.cmp c) (x.cmp c)) → Q3 (V.cmps l m) (V.cmps m n) (V.cmps l n)
  | [], [], n, _ => by rw [V.cmps_00]; exact Q3_l0 (V.ranges _ (fun x _ b => V.range x b) _)
  | [], b :: m, [], _ => by rw [V.cmps_01, V.cmps_cons_nil, V.cmps_00]; exact Q3_mp (.inr (.inl rfl))
  | [], b :: m, c :: n, _ => by rw [V.cmps_01, V.cmps_01]; exact Q3_m (V.ranges _ (fun x _ b => V.range x b) _)
  | a :: l, [], [], _ => by rw [V.cmps_cons_nil, V.cmps_00]; exact Q3_r0 (.inr (.inr rfl))
  | a :: l, [], c :: n, _ => by rw [V.cmps_cons_nil, V.cmps_01]; exact Q3_pm (V.ranges _ (fun x _ b => V.range x b) _)
  | a :: l, b :: m, [], _ => by rw [V.cmps_cons_nil, V.cmps_cons_nil]; exact Q3_p (V.ranges _ (fun x _ b => V.range x b) _)
  | a :: l, b :: m, c :: n, h => by
    rw [V.cmps_lex, V.cmps_lex, V.cmps_lex]
    exact (h a (List.mem_cons_self ..) b c).lex (V.Q3s l m n (fun x hx => h x (List.mem_cons_of_mem _ hx)))

theorem V.Q3 (a : V) : ∀ b c : V, Q3 (a.cmp b) (b.cmp c) (a.cmp c) := by
  induction a using V.ind with
  | h a ih =>
    intro b c
    rw [V.cmp_lex, V.cmp_lex, V.cmp_lex]
    exact (Q3_int _ _ _).lex ((Q3_int _ _ _).lex ((Q3_bytes _ _ _).lex (V.Q3s _ _ _ ih)))

theorem int_anti (a b : Int) : cmpI b a = -cmpI a b := by
  unfold cmpI
  repeat' split
  all_goals omega
theorem lex_neg (x y : Int) : lex (-x) (-y) = -lex x y := by
  by_cases h : x = 0
  · rw [lex_0 h, lex_0 (by omega)]
  · rw [lex_1 h, lex_1 (by omega)]
theorem bytes_anti : ∀ a b : List UInt8, Lib.compareBytes b a = -Lib.compareBytes a b
  | [], [] => by simp [Lib.compareBytes]
  | [], _ :: _ => by simp [Lib.compareBytes]
  | _ :: _, [] => by simp [Lib.compareBytes]
  | a :: as, b :: bs => by rw [bytes_lex, bytes_lex, int_anti a.toNat b.toNat, bytes_anti as bs, lex_neg]

theorem V.antis : ∀ (k n : List V), (∀ x, x ∈ k → ∀ b : V, b.cmp x = -x.cmp b) → V.cmps n k = -V.cmps k n
  | [], [], _ => by rw [V.cmps_00]; rfl
  | [], b :: m, _ => by rw [V.cmps_01, V.cmps_cons_nil]; rfl
  | a :: l, [], _ => by rw [V.cmps_01, V.cmps_cons_nil]
  | a :: l, b :: m, h => by rw [V.cmps_lex, V.cmps_lex, h a (List.mem_cons_self ..) b, V.antis l m (fun x hx => h x (List.mem_cons_of_mem _ hx)), lex_neg]

theorem V.anti (a : V) : ∀ b : V, b.cmp a = -a.cmp b := by
  induction a using V.ind with
  | h a ih =>
    intro b
    rw [V.cmp_lex, V.cmp_lex, int_anti a.t b.t, int_anti a.n b.n, V.antis a.l b.l ih]
    unfold cmpS
    rw [bytes_anti a.s.data.toList b.s.data.toList, lex_neg, lex_neg, lex_neg]

end Go.Proofs.YthnlkijkgnmbhaaDoor
