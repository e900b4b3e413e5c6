/-
  ref06.Same of two lists of matches that are the same. Nothing is assumed.
-/
import Derived.Test.YtbogiigdadljpaaDoorPtVals
namespace Go.Proofs.YtbogiigdadljpaaDoor
open Go.RowKit Go.Shelf

/-- A list of matches, as a reader meets it. -/
def HM (w : World) (v : Value) (l : List (Nat × Nat)) : Prop :=
  ∃ (oa : Option Addr) (cap : Nat), v = .slice oa l.length cap ∧ ∀ i x, l[i]? = some x → ∃ g off : Nat, oa = some ⟨g, off, none⟩ ∧ w.cell? ⟨g, off + i * 2, none⟩ = some (.int .i64 (x.1 : Int)) ∧ w.cell? ⟨g, off + i * 2 + 1, none⟩ = some (.int .i64 (x.2 : Int))
theorem flatM_get : ∀ (l : List (Nat × Nat)) (i : Nat) (x : Nat × Nat), l[i]? = some x → (flatM l)[i * 2]? = some (.int .i64 (x.1 : Int)) ∧ (flatM l)[i * 2 + 1]? = some (.int .i64 (x.2 : Int))
  | [], i, x, h => by cases h
  | y :: r, 0, x, h => by
    cases h
    exact ⟨rfl, rfl⟩
  | y :: r, i + 1, x, h => by
    have h' : r[i]? = some x := h
    have := flatM_get r i x h'
    rw [show (i + 1) * 2 = i * 2 + 2 by omega, show i * 2 + 2 + 1 = (i * 2 + 1) + 2 by omega]
    exact this
theorem flatM_len : ∀ l : List (Nat × Nat), (flatM l).length = l.length * 2
  | [] => rfl
  | _ :: r => by simp [flatM, flatM_len r]; omega
theorem MRow.reads {w : World} {B : Nat} {v : Value} {l : List (Nat × Nat)} (h : MRow w B v l) : HM w v l := by
  rcases h.2 with ⟨hv, h0⟩ | ⟨g, cap, cur, hv, _⟩
  · refine ⟨none, 0, by rw [hv, h0], fun i x hx => ?_⟩
    have := (List.getElem?_eq_some_iff.1 hx).1
    omega
  · subst hv
    refine ⟨_, _, rfl, fun i x hx => ⟨g, 0, rfl, ?_⟩⟩
    have hi := (List.getElem?_eq_some_iff.1 hx).1
    obtain ⟨f1, f2⟩ := flatM_get l i x hx
    have c1 := World.ownsRow.cellAt h (i * 2) (by omega)
    have c2 := World.ownsRow.cellAt h (i * 2 + 1) (by omega)
    rw [Nat.zero_add]
    exact ⟨c1.trans f1, c2.trans f2⟩

theorem pair_eqIn (a b c d : Int) (w : World) : (Op.equalIn 10000 36 (.agg #[.int .i64 a, .int .i64 b]) (.agg #[.int .i64 c, .int .i64 d])).run Tryd.prog w = .ok (a == c && b == d) w := by
  have u3 := Tryd.underlying3
  have a3 := Tryd.isAgg3
  have z3 := Tryd.sizeOf3
  rw [show (10000 : Nat) = 9999 + 1 from rfl, Op.equalIn]
  simp only [Sem.run_bind, run_underlying Tryd.underlying36, Result.andThen_ok]
  simp only [Std.Legacy.Range.forIn_eq_forIn_range', Std.Legacy.Range.size, Nat.sub_zero, Nat.add_sub_cancel, Nat.div_one, List.range'_succ, List.range'_zero, List.forIn_cons, List.forIn_nil]
  go_simp
  by_cases h1 : a = c <;> by_cases h2 : b = d <;> simp [h1, h2]
@[go_sem] theorem pair_guard (x y : Operand) (xs ys : Array Value) (w : World) : (eqGuard .neq 36 x y (.agg xs) (.agg ys)).run Tryd.prog w = .ok () w := run_eqGuard_agg w _ _ x y xs ys (by kernel_rfl)
@[go_sem high] theorem pair_neq (a b c d : Int) (w : World) : (binOp .neq 36 (.agg #[.int .i64 a, .int .i64 b]) (.agg #[.int .i64 c, .int .i64 d])).run Tryd.prog w = .ok (.bool (!(a == c && b == d))) w := by
  rw [run_neq_struct, pair_eqIn]; rfl

theorem same_same (w : World) (v v' : Value) (l : List (Nat × Nat)) (h : HM w v l) (h' : HM w v' l) (hl : l.length ≤ 1001) :
    Calls Tryd.prog 13 #[v, v'] w fun e w' => e = .returned (.bool true) ∧ ∃ m, w' = w.drewN m := by
  obtain ⟨oa, cap, rfl, hel⟩ := h
  obtain ⟨oa', cap', rfl, hel'⟩ := h'
  have HE := Lib.hid hel
  have HE' := Lib.hid hel'
  clear hel hel'
  go_enter Tryd.func13, Tryd.ntmps13
  go_wp2_with fail
  go_loopw [5] (fun v wr => ∃ i m : Nat, v = .int .i64 (i : Int) ∧ i ≤ l.length ∧ wr = w.drewN m) (fun v _ => l.length - (intOf v).toNat)
  case atStart => exact ⟨0, 0, rfl, Nat.zero_le _, rfl⟩
  case round =>
    obtain ⟨i, m, rfl, hi, rfl⟩ := hrel
    by_cases hlt : i < l.length
    · obtain ⟨x, hx⟩ : ∃ x, l[i]? = some x := ⟨_, List.getElem?_eq_getElem hlt⟩
      obtain ⟨g, off, rfl, c1, c2⟩ := HE.out i x hx
      obtain ⟨g', off', rfl, d1, d2⟩ := HE'.out i x hx
      have e1 : ∀ k, (w.drewN k).cell? ⟨g, off + i * 2, none⟩ = some (.int .i64 (x.1 : Int)) := fun _ => c1
      have e2 : ∀ k, (w.drewN k).cell? ⟨g, off + i * 2 + 1, none⟩ = some (.int .i64 (x.2 : Int)) := fun _ => c2
      have e3 : ∀ k, (w.drewN k).cell? ⟨g', off' + i * 2, none⟩ = some (.int .i64 (x.1 : Int)) := fun _ => d1
      have e4 : ∀ k, (w.drewN k).cell? ⟨g', off' + i * 2 + 1, none⟩ = some (.int .i64 (x.2 : Int)) := fun _ => d2
      have hiI : (i : Int) < (l.length : Int) := by omega
      go_wp2_with fail
      go_quiet (fail)
      have hn1 : ((w.drewN m).drewN nq) = w.drewN (m + nq) := World.drewN_drewN w m nq
      rw [hn1]
      go_wp2_with fail
      go_roundw
      case rel => exact ⟨i + 1, m + nq, by go_num, by omega, rfl⟩
      case measure => simp [intOf]; omega
    · have hge : ¬ ((i : Int) < (l.length : Int)) := by omega
      go_wp2_with fail
      go_ret
      exact ⟨rfl, m, rfl⟩
end Go.Proofs.YtbogiigdadljpaaDoor
