/-
  Lists of integers in memory; Ints of the reference; what Solve computes. Nothing is assumed.
-/
import Derived.Test.YtlpmaeemegphiaaBvText
import Derived.Deep.QuietTactic
import Derived.BigQuiet
namespace Go.Proofs.Ytlpmaeemegphiaa
open Go.RowKit

/-- The slice value holds the list of integers in the world, below block B. -/
def HoldsI (w : World) (B : Nat) (x : Value) (l : List Int) : Prop :=
  ∃ (oa : Option Addr) (cap : Nat), x = .slice oa l.length cap ∧ l.length ≤ 1000 ∧
    ∀ (i : Nat) z, l[i]? = some z → ∃ b off : Nat, oa = some ⟨b, off, none⟩ ∧ b < B ∧ w.cell? ⟨b, off + i, none⟩ = some (.int .i64 z)
theorem HoldsI.later {w w' : World} {B : Nat} {x : Value} {l : List Int} (h : HoldsI w B x l) (hb : Below B w w') : HoldsI w' B x l := by
  obtain ⟨oa, cap, rfl, hl, hel⟩ := h
  refine ⟨oa, cap, rfl, hl, fun i z hz => ?_⟩
  obtain ⟨b, off, rfl, hlt, hc⟩ := hel i z hz
  exact ⟨b, off, rfl, hlt, (hb.cell (p := ⟨b, _, none⟩) hlt).trans hc⟩
theorem HoldsI.mono {w : World} {B C : Nat} {x : Value} {l : List Int} (h : HoldsI w B x l) (hBC : B ≤ C) : HoldsI w C x l := by
  obtain ⟨oa, cap, rfl, hl, hel⟩ := h
  refine ⟨oa, cap, rfl, hl, fun i z hz => ?_⟩
  obtain ⟨b, off, rfl, hlt, hc⟩ := hel i z hz
  exact ⟨b, off, rfl, Nat.lt_of_lt_of_le hlt hBC, hc⟩

/-- A list of integers that the call has built. -/
def OwnI (w : World) (base : Nat) (v : Value) (l : List Int) : Prop := w.ownsRow base 3 1 v l.length (l.map (Value.int .i64))
theorem OwnI.holds {w : World} {base : Nat} {v : Value} {l : List Int} (h : OwnI w base v l) (hl : l.length ≤ 1000) : HoldsI w w.heap.size v l := by
  rcases h.2 with ⟨rfl, h0⟩ | ⟨g, cap, cur, rfl, hg, hh, hcap, _, hsz, htk⟩
  · obtain rfl := List.eq_nil_of_length_eq_zero h0
    exact ⟨none, 0, rfl, hl, fun i z hz => by simp at hz⟩
  · have hlt : g < w.heap.size := by
      rcases Nat.lt_or_ge g w.heap.size with h | h
      · exact h
      · rw [Array.getElem?_eq_none h] at hh; cases hh
    refine ⟨some ⟨g, 0, none⟩, cap, rfl, hl, fun i z hz => ⟨g, 0, rfl, hlt, ?_⟩⟩
    have hi : i < l.length := (List.getElem?_eq_some_iff.1 hz).1
    have h1 : cur.toList[i]? = some (.int .i64 z) := by
      have : (l.map (Value.int .i64))[i]? = some (.int .i64 z) := by simp [hz]
      rw [← htk, List.getElem?_take] at this
      rw [if_pos (by omega)] at this
      exact this
    unfold World.cell?
    rw [hh]
    simpa using h1
theorem OwnI.later {w w' : World} {base : Nat} {v : Value} {l : List Int} (h : OwnI w base v l) (hb : Below w.heap.size w w') : OwnI w' base v l := by
  obtain ⟨h1, h2⟩ := h
  refine ⟨h1, ?_⟩
  rcases h2 with h2 | ⟨g, cap, cur, hv, hg, hh, r⟩
  · exact .inl h2
  · have hlt : g < w.heap.size := by
      rcases Nat.lt_or_ge g w.heap.size with h | h
      · exact h
      · rw [Array.getElem?_eq_none h] at hh; cases hh
    exact .inr ⟨g, cap, cur, hv, hg, (hb.block g hlt).trans hh, r⟩
theorem own_far {w : World} {base : Nat} {v : Value} {l : List Int} (h : OwnI w base v l) {g : Nat} (hg : g < base) : v.ownBlock ≠ some g := by
  rcases h.2 with ⟨rfl, _⟩ | ⟨g', cap, cur, rfl, hb, _⟩
  · simp [Value.ownBlock]
  · simp [Value.ownBlock]; omega
theorem OwnI.none (w : World) (base : Nat) : OwnI w base (.slice none 0 0) [] := ⟨rfl, .inl ⟨rfl, rfl⟩⟩

/-- A function that has built a list of integers has returned it. -/
def RetI (H : Nat) (l : List Int) (e : Ending) (w' : World) : Prop := ∃ v, e = .returned v ∧ OwnI w' H v l
theorem RetI.none (H : Nat) (w : World) : RetI H [] (.returned (.slice none 0 0)) w := ⟨_, rfl, OwnI.none _ _⟩

theorem below_drewN (w : World) (B n : Nat) : Below B w (w.drewN n) := ⟨rfl, rfl, rfl, Nat.le_refl _, fun _ _ => rfl⟩

set_option maxRecDepth 100000 in
set_option maxHeartbeats 800000 in
theorem ints_eq (x y : Value) (l : List Int) (w : World) (B : Nat) (hx : HoldsI w B x l) (hy : HoldsI w B y l) (hB : B ≤ w.heap.size) :
    Calls Try.prog 37 #[x, y] w fun e w' => e = .returned (.bool true) ∧ Below w.heap.size w w' := by
  obtain ⟨oa, ca, rfl, hl, hel⟩ := hx
  obtain ⟨ob, cb, rfl, _, hem⟩ := hy
  go_enter Try.func37, Try.ntmps37
  go_wp2_with fail
  go_loopw [5] (fun i wr => ∃ k : Nat, k ≤ l.length ∧ i = .int .i64 k ∧ Below w.heap.size w wr) (fun i _ => l.length - (intOf i).toNat)
  case atStart => exact ⟨0, Nat.zero_le _, rfl, Below.refl _ _⟩
  case round =>
    obtain ⟨k, hk, rfl, hbel⟩ := hrel
    by_cases hlt : k < l.length
    · obtain ⟨b, off, rfl, hb, hc⟩ := hel k _ (List.getElem?_eq_getElem hlt)
      obtain ⟨b', off', rfl, hb', hc'⟩ := hem k _ (List.getElem?_eq_getElem hlt)
      rw [← hbel.cell (p := ⟨b, _, none⟩) (Nat.lt_of_lt_of_le hb hB)] at hc
      rw [← hbel.cell (p := ⟨b', _, none⟩) (Nat.lt_of_lt_of_le hb' hB)] at hc'
      have hki : (k : Int) < (l.length : Int) := by omega
      have hki0 : (0 : Int) ≤ (k : Int) := by omega
      go_wp2_with fail
      go_quiet (fail)
      go_wp2_with fail
      go_roundw
      case rel => exact ⟨k + 1, hlt, by go_num, hbel.trans (below_drewN _ _ _)⟩
      case measure => simp [intOf]; omega
    · go_wp2_with fail
      go_ret
      exact ⟨rfl, hbel⟩

/-- What the operations compute, by number. -/
def ap (i : Nat) (x k : Int) : Int := match i with
  | 0 => bvB 0 x k
  | 1 => bvB 1 x k
  | 2 => bvB 2 x k
  | 3 => bvAdd x k
  | 4 => bvSub x k
  | 5 => bvMul x k
  | 6 => bvLeft x k
  | 7 => bvRight x k
  | 8 => bvArith x k
  | _ => bvNot x
/-- The solutions below n. -/
def solK (i : Nat) (r k : Int) (n : Nat) : List Int := ((List.range n).filter fun x : Nat => decide (ap i (x : Int) k = r)).map fun x : Nat => (x : Int)
theorem solK_hit (i : Nat) (r k : Int) (n : Nat) (h : ap i n k = r) : solK i r k (n + 1) = solK i r k n ++ [(n : Int)] := by
  unfold solK
  rw [List.range_succ, List.filter_append, List.map_append]
  simp [h]
theorem solK_miss (i : Nat) (r k : Int) (n : Nat) (h : ap i n k ≠ r) : solK i r k (n + 1) = solK i r k n := by
  unfold solK
  rw [List.range_succ, List.filter_append, List.map_append]
  simp [h]
theorem solK_len (i : Nat) (r k : Int) (n : Nat) : (solK i r k n).length ≤ n := by
  unfold solK
  rw [List.length_map]
  exact Nat.le_trans (List.length_filter_le _ _) (by simp)
def okk (i : Nat) (r k : Int) : Bool := vld r && (decide (6 ≤ i) || vld k)
def sol (i : Nat) (r k : Int) : List Int := if okk i r k then solK i r k 256 else []
theorem sol_len (i : Nat) (r k : Int) : (sol i r k).length ≤ 256 := by
  unfold sol
  split
  · exact solK_len _ _ _ _
  · simp

theorem infoInt : (Try.prog.info? 3).map (fun i => (i.zero, i.size, i.bytes)) = some (some (.int .i64 0), 1, 8) := by kernel_rfl

theorem run_eq_func (f : FuncId) (w : World) : (binOp BinOp.eql 23 (.func (.func f) #[] #[]) .nilFunc).run Try.prog w = .ok (.bool false) w := rfl
theorem run_eq_nil (w : World) : (binOp BinOp.eql 23 .nilFunc .nilFunc).run Try.prog w = .ok (.bool true) w := rfl

theorem closure_any (x k : Int) (w : World) : Calls Try.prog 50 #[.int .i64 x, .int .i64 k] w fun e w' => e = .returned (.int .i64 (bvNot x)) ∧ Below w.heap.size w w' := by
  go_enter Try.func50, Try.ntmps50
  go_wp2_with fail
  refine (not_any _ _).mono ?_
  rintro e w' ⟨rfl, hb⟩
  go_wp2_with fail
  go_ret
  exact ⟨rfl, hb⟩

set_option maxRecDepth 100000 in
theorem operation0_any (w : World) : Calls Try.prog 48 #[.string ⟨#[98, 97, 110, 100]⟩] w fun e w' => e = .returned (.tuple #[.func (.func 12) #[] #[], .bool true]) ∧ w' = w := by
  go_enter Try.func48, Try.ntmps48
  go_wp2_with fail
  go_ret2
  exact ⟨rfl, rfl⟩

set_option maxRecDepth 100000 in
theorem operation1_any (w : World) : Calls Try.prog 48 #[.string ⟨#[98, 111, 114]⟩] w fun e w' => e = .returned (.tuple #[.func (.func 14) #[] #[], .bool true]) ∧ w' = w := by
  go_enter Try.func48, Try.ntmps48
  go_wp2_with fail
  go_ret2
  exact ⟨rfl, rfl⟩

set_option maxRecDepth 100000 in
theorem operation2_any (w : World) : Calls Try.prog 48 #[.string ⟨#[98, 120, 111, 114]⟩] w fun e w' => e = .returned (.tuple #[.func (.func 16) #[] #[], .bool true]) ∧ w' = w := by
  go_enter Try.func48, Try.ntmps48
  go_wp2_with fail
  go_ret2
  exact ⟨rfl, rfl⟩

set_option maxRecDepth 100000 in
theorem operation3_any (w : World) : Calls Try.prog 48 #[.string ⟨#[98, 97, 100, 100]⟩] w fun e w' => e = .returned (.tuple #[.func (.func 21) #[] #[], .bool true]) ∧ w' = w := by
  go_enter Try.func48, Try.ntmps48
  go_wp2_with fail
  go_ret2
  exact ⟨rfl, rfl⟩

set_option maxRecDepth 100000 in
theorem operation4_any (w : World) : Calls Try.prog 48 #[.string ⟨#[98, 115, 117, 98]⟩] w fun e w' => e = .returned (.tuple #[.func (.func 23) #[] #[], .bool true]) ∧ w' = w := by
  go_enter Try.func48, Try.ntmps48
  go_wp2_with fail
  go_ret2
  exact ⟨rfl, rfl⟩

set_option maxRecDepth 100000 in
theorem operation5_any (w : World) : Calls Try.prog 48 #[.string ⟨#[98, 109, 117, 108]⟩] w fun e w' => e = .returned (.tuple #[.func (.func 25) #[] #[], .bool true]) ∧ w' = w := by
  go_enter Try.func48, Try.ntmps48
  go_wp2_with fail
  go_ret2
  exact ⟨rfl, rfl⟩

set_option maxRecDepth 100000 in
theorem operation6_any (w : World) : Calls Try.prog 48 #[.string ⟨#[98, 108, 101, 102, 116]⟩] w fun e w' => e = .returned (.tuple #[.func (.func 27) #[] #[], .bool false]) ∧ w' = w := by
  go_enter Try.func48, Try.ntmps48
  go_wp2_with fail
  go_ret2
  exact ⟨rfl, rfl⟩

set_option maxRecDepth 100000 in
theorem operation7_any (w : World) : Calls Try.prog 48 #[.string ⟨#[98, 114, 105, 103, 104, 116]⟩] w fun e w' => e = .returned (.tuple #[.func (.func 29) #[] #[], .bool false]) ∧ w' = w := by
  go_enter Try.func48, Try.ntmps48
  go_wp2_with fail
  go_ret2
  exact ⟨rfl, rfl⟩

set_option maxRecDepth 100000 in
theorem operation8_any (w : World) : Calls Try.prog 48 #[.string ⟨#[98, 97, 114, 105, 116, 104]⟩] w fun e w' => e = .returned (.tuple #[.func (.func 31) #[] #[], .bool false]) ∧ w' = w := by
  go_enter Try.func48, Try.ntmps48
  go_wp2_with fail
  go_ret2
  exact ⟨rfl, rfl⟩

set_option maxRecDepth 100000 in
theorem operation9_any (w : World) : Calls Try.prog 48 #[.string ⟨#[98, 110, 111, 116]⟩] w fun e w' => e = .returned (.tuple #[.func (.func 50) #[] #[], .bool false]) ∧ w' = w := by
  go_enter Try.func48, Try.ntmps48
  go_wp2_with fail
  go_ret2
  exact ⟨rfl, rfl⟩

end Go.Proofs.Ytlpmaeemegphiaa
