/-
  Uses of the program. Nothing is assumed.
-/
import Derived.Test.YtdfhfljmcakilaaTmFew
import Derived.Test.YtdfhfljmcakilaaTmPath
import Derived.Test.YtdfhfljmcakilaaTmRules
import Derived.Lib.QuietBelow
namespace Go.Proofs.Ytdfhfljmcakilaa
open Go.RowKit
open Go.Sort (grow)

/-- The rule with a number is an input with a number. -/
def usesI (L : Lan) (input r : Int) : Bool := if 0 ≤ r then (match L.rs[r.toNat]? with | some u => decide (u.k = 1) && decide (u.i = input) | none => false) else false
theorem usesI_at {L : Lan} {input : Int} {n : Nat} (h : n < L.rs.length) : usesI L input n = (decide (L.rs[n].k = 1) && decide (L.rs[n].i = input)) := by
  unfold usesI
  rw [if_pos (by omega)]
  simp only [Int.toNat_natCast, List.getElem?_eq_getElem h]
theorem usesI_no {L : Lan} {input r : Int} (h : ¬ (0 ≤ r ∧ r < (L.rs.length : Int))) : usesI L input r = false := by
  unfold usesI
  split
  · rw [List.getElem?_eq_none (by omega)]
  · rfl

set_option maxRecDepth 100000 in
set_option maxHeartbeats 1600000 in
theorem uses1_any (L : Lan) (x3 : Value) (input r : Int) (nl ni : Nat) (w : World) (B : Nat) (hU : HoldsU w B x3 L.rs) (_hB : B ≤ w.heap.size) (hl : w.cell? ⟨nl, 3, none⟩ = some x3) (hi : w.cell? ⟨ni, 0, none⟩ = some (.int .i64 input)) :
    Calls Try.prog 47 #[.int .i64 r, .pointer (some ⟨nl, 0, none⟩), .pointer (some ⟨ni, 0, none⟩)] w fun e w' => e = .returned (.bool (usesI L input r)) ∧ Below w.heap.size w w' := by
  obtain ⟨o3, c3, rfl, _, _⟩ := hU.form
  by_cases hin : 0 ≤ r ∧ r < (L.rs.length : Int)
  case neg =>
    have HI := Lib.hid (fun w => isIndex_any r L.rs.length w)
    rw [decide_eq_false hin] at HI
    rw [usesI_no hin]
    clear hin
    go_enter Try.func47, Try.ntmps47
    go_wp2_with fail
    go_quiet (first | (go_at_call 48; exact Calls.quiet_of_same (HI.out _)) | (go_at_call 48; exact Calls.quiet_of ((HI.out _).mono fun e w' h => ⟨h.1, 0, h.2⟩)))
    go_wp2_with fail
    go_ret
    exact ⟨rfl, below_drewN _ _ _⟩
  obtain ⟨n, rfl⟩ : ∃ n : Nat, r = n := ⟨r.toNat, by omega⟩
  have hnl : n < L.rs.length := by omega
  have HI := Lib.hid (fun w => isIndex_any n L.rs.length w)
  rw [decide_eq_true hin] at HI
  obtain ⟨b, off, rfl, hb, hR⟩ := hU.at_ (List.getElem?_eq_getElem hnl)
  obtain ⟨r0, r1, r2, _⟩ := hR
  have q0 : (0 : Int) ≤ (n : Int) := by omega
  have q1 : (n : Int) < (L.rs.length : Int) := by omega
  rw [usesI_at hnl]
  have hneg1 : ¬ (n : Int) < 0 := by omega
  clear hin
  by_cases hk : L.rs[n].k = 1
  · rw [decide_eq_true hk]
    have hkb : (L.rs[n].k == 1) = true := by rw [hk]; rfl
    by_cases hii : L.rs[n].i = input
    · rw [decide_eq_true hii]
      have hib : (L.rs[n].i == input) = true := by rw [hii]; exact beq_self_eq_true _
      clear hk hii
      go_enter Try.func47, Try.ntmps47
      go_wp2_with fail
      go_quiet (first | (go_at_call 48; exact Calls.quiet_of_same (HI.out _)) | (go_at_call 48; exact Calls.quiet_of ((HI.out _).mono fun e w' h => ⟨h.1, 0, h.2⟩)))
      go_wp2_with fail
      go_ret
      exact ⟨rfl, below_drewN _ _ _⟩
    · rw [decide_eq_false hii]
      have hib : (L.rs[n].i == input) = false := beq_eq_false_iff_ne.2 hii
      clear hk hii
      go_enter Try.func47, Try.ntmps47
      go_wp2_with fail
      go_quiet (first | (go_at_call 48; exact Calls.quiet_of_same (HI.out _)) | (go_at_call 48; exact Calls.quiet_of ((HI.out _).mono fun e w' h => ⟨h.1, 0, h.2⟩)))
      go_wp2_with fail
      go_ret
      exact ⟨rfl, below_drewN _ _ _⟩
  · rw [decide_eq_false hk]
    have hkb : (L.rs[n].k == 1) = false := beq_eq_false_iff_ne.2 hk
    clear hk
    go_enter Try.func47, Try.ntmps47
    go_wp2_with fail
    go_quiet (first | (go_at_call 48; exact Calls.quiet_of_same (HI.out _)) | (go_at_call 48; exact Calls.quiet_of ((HI.out _).mono fun e w' h => ⟨h.1, 0, h.2⟩)))
    go_wp2_with fail
    go_ret
    exact ⟨rfl, below_drewN _ _ _⟩

theorem any_at {α : Type} (p : α → Bool) (l : List α) (k : Nat) (h : k < l.length) : (l.drop k).any p = (p l[k] || (l.drop (k + 1)).any p) := by rw [List.drop_eq_getElem_cons h]; rfl

set_option maxRecDepth 100000 in
set_option maxHeartbeats 1600000 in
theorem indexFunc_any (L : Lan) (x3 y : Value) (input : Int) (l : List Int) (nl ni : Nat) (w : World) (B : Nat) (hU : HoldsU w B x3 L.rs) (hy : HoldsI w B y l) (hB : B ≤ w.heap.size) (hl : w.cell? ⟨nl, 3, none⟩ = some x3) (hi : w.cell? ⟨ni, 0, none⟩ = some (.int .i64 input)) :
    Calls Try.prog 59 #[y, .func (.func 47) #[] #[.pointer (some ⟨nl, 0, none⟩), .pointer (some ⟨ni, 0, none⟩)]] w fun e w' => (∃ z : Int, e = .returned (.int .i64 z) ∧ decide (0 ≤ z) = l.any (usesI L input)) ∧ Below w.heap.size w w' := by
  obtain ⟨oy, cy, rfl, _, _, hel⟩ := hy
  have hnl := World.block_lt_of_cell? _ _ hl
  have hni := World.block_lt_of_cell? _ _ hi
  go_enter Try.func59, Try.ntmps59
  go_wp2_with fail
  go_loopw [8] (fun i wr => ∃ k : Nat, k ≤ l.length ∧ i = .int .i64 k ∧ Hid ((l.drop k).any (usesI L input) = l.any (usesI L input)) ∧ Below w.heap.size w wr) (fun i _ => l.length - (intOf i).toNat)
  case atStart => exact ⟨0, Nat.zero_le _, rfl, rfl, Below.refl _ _⟩
  case round =>
    obtain ⟨k, hk, rfl, HD, hbr⟩ := hrel
    by_cases hlt : k < l.length
    · obtain ⟨b, off, rfl, hb, hc⟩ := hel k _ (List.getElem?_eq_getElem hlt)
      rw [← hbr.cell (p := ⟨b, _, none⟩) (Nat.lt_of_lt_of_le hb hB)] at hc
      have HS := Lib.hid (any_at (usesI L input) l k hlt)
      have hsz := hbr.size
      have HC := Lib.hid (uses1_any L x3 input l[k] nl ni wr B (hU.later (hbr.mono hB)) (by omega) ((hbr.cell (p := ⟨nl, 3, none⟩) hnl).trans hl) ((hbr.cell (p := ⟨ni, 0, none⟩) hni).trans hi))
      cases hu : usesI L input l[k]
      · rw [hu] at HC HS
        clear hu
        go_wp2_with fail
        refine HC.out.mono ?_
        rintro e w1 ⟨rfl, hb1⟩
        go_wp2_with fail
        go_roundw
        case rel => exact ⟨k + 1, hlt, by go_num, Lib.hid (by rw [← HD.out, HS.out]; rfl), hbr.trans (hb1.mono hsz)⟩
        case measure => simp [intOf]; omega
      · rw [hu] at HC HS
        clear hu
        go_wp2_with fail
        refine HC.out.mono ?_
        rintro e w1 ⟨rfl, hb1⟩
        go_wp2_with fail
        go_ret
        exact ⟨⟨_, rfl, by rw [← HD.out, HS.out, decide_eq_true (by omega)]; rfl⟩, hbr.trans (hb1.mono hsz)⟩
    · go_wp2_with fail
      go_ret
      exact ⟨⟨_, rfl, by rw [← HD.out, List.drop_of_length_le (by omega)]; rfl⟩, hbr⟩

set_option maxRecDepth 100000 in
set_option maxHeartbeats 1600000 in
theorem containsFunc_any (L : Lan) (x3 y : Value) (input : Int) (l : List Int) (nl ni : Nat) (w : World) (B : Nat) (hU : HoldsU w B x3 L.rs) (hy : HoldsI w B y l) (hB : B ≤ w.heap.size) (hl : w.cell? ⟨nl, 3, none⟩ = some x3) (hi : w.cell? ⟨ni, 0, none⟩ = some (.int .i64 input)) :
    Calls Try.prog 49 #[y, .func (.func 47) #[] #[.pointer (some ⟨nl, 0, none⟩), .pointer (some ⟨ni, 0, none⟩)]] w fun e w' => e = .returned (.bool (l.any (usesI L input))) ∧ Below w.heap.size w w' := by
  have HC := Lib.hid (indexFunc_any L x3 y input l nl ni w B hU hy hB hl hi)
  obtain ⟨oy, cy, rfl, _, _, _⟩ := hy
  go_enter Try.func49, Try.ntmps49
  go_wp2_with fail
  refine HC.out.mono ?_
  rintro e w1 ⟨⟨z, rfl, hz⟩, hb1⟩
  have HZ := Lib.hid hz
  clear hz
  go_wp2_with fail
  go_ret
  exact ⟨ret_bool HZ.out, hb1⟩

/-- Whether an input occurs in a term. -/
def usesT (L : Lan) (input : Int) (v : T) : Bool := v.rules.any (usesI L input)

set_option maxRecDepth 100000 in
set_option maxHeartbeats 1600000 in
theorem uses_any (L : Lan) (x1 x2 x3 : Value) (v : T) (sl : Value) (input : Int) (w : World) (B : Nat) (hL : HoldsL w B x1 x2 x3 L) (hrep : Rep w B sl v.l) (hB : B ≤ w.heap.size) (hsz : v.size ≤ 900) :
    Calls Try.prog 28 #[lanV L x1 x2 x3, .agg #[.int .i64 v.r, sl], .int .i64 input] w fun e w' => e = .returned (.bool (usesT L input v)) ∧ Below w.heap.size w w' := by
  obtain ⟨hI, hY, hU⟩ := hL
  obtain ⟨o1, c1, rfl, _, _⟩ : ∃ oa cap, x1 = .slice oa L.ins.length cap ∧ L.ins.length ≤ cap ∧ cap ≤ 9223372036854775807 := by obtain ⟨a, b, c, d, e, _⟩ := hI; exact ⟨a, b, c, d, e⟩
  obtain ⟨o2, c2, rfl, _, _⟩ := hY.form
  obtain ⟨o3, c3, rfl, _, _⟩ := hU.form
  obtain ⟨oa, ca, rfl, _, _⟩ := hrep.form
  have HBB : Below w.heap.size w (((w.alloc (.cells #[.string L.nm, .slice o1 L.ins.length c1, .slice o2 L.sys.length c2, .slice o3 L.rs.length c3] 45)).alloc (.cells #[.int .i64 v.r, .slice oa v.l.length ca] 24)).alloc (.cells #[.int .i64 input] 3)) := below3 _ _ _ _
  have HBL : BoxL (((w.alloc (.cells #[.string L.nm, .slice o1 L.ins.length c1, .slice o2 L.sys.length c2, .slice o3 L.rs.length c3] 45)).alloc (.cells #[.int .i64 v.r, .slice oa v.l.length ca] 24)).alloc (.cells #[.int .i64 input] 3)) w.heap.size L (.slice o1 L.ins.length c1) (.slice o2 L.sys.length c2) (.slice o3 L.rs.length c3) := ((BoxL.new w w.heap.size L _ _ _ _ rfl).later (below1 _ _) (by simp)).later (below1 _ _) (by simp; omega)
  have hin : (((w.alloc (.cells #[.string L.nm, .slice o1 L.ins.length c1, .slice o2 L.sys.length c2, .slice o3 L.rs.length c3] 45)).alloc (.cells #[.int .i64 v.r, .slice oa v.l.length ca] 24)).alloc (.cells #[.int .i64 input] 3)).cell? ⟨w.heap.size + 2, 0, none⟩ = some (.int .i64 input) := by
    have h := cell_at ((w.alloc (.cells #[.string L.nm, .slice o1 L.ins.length c1, .slice o2 L.sys.length c2, .slice o3 L.rs.length c3] 45)).alloc (.cells #[.int .i64 v.r, .slice oa v.l.length ca] 24)) #[.int .i64 input] 3 0 (.int .i64 input) rfl
    rw [World.size_alloc, World.size_alloc] at h
    exact h
  have hzz : (((w.alloc (.cells #[.string L.nm, .slice o1 L.ins.length c1, .slice o2 L.sys.length c2, .slice o3 L.rs.length c3] 45)).alloc (.cells #[.int .i64 v.r, .slice oa v.l.length ca] 24)).alloc (.cells #[.int .i64 input] 3)).heap.size = w.heap.size + 3 := by simp
  have HU := Lib.hid (hU.later (HBB.mono hB))
  have HR := Lib.hid (hrep.later (HBB.mono hB))
  clear hI hY hU hrep
  go_enter Try.func28, Try.ntmps28
  go_wp2_with fail
  generalize ((w.alloc (.cells #[.string L.nm, .slice o1 L.ins.length c1, .slice o2 L.sys.length c2, .slice o3 L.rs.length c3] 45)).alloc (.cells #[.int .i64 v.r, .slice oa v.l.length ca] 24)).alloc (.cells #[.int .i64 input] 3) = W at *
  refine (rules_any v _ W B HR.out (by omega) (by omega)).mono ?_
  rintro e w1 ⟨⟨y, rfl, ho⟩, hb1⟩
  obtain ⟨oy, cy, rfl, _, _, hy⟩ := ho.holds.form rfl
  have hs1 := hb1.size
  have HC := Lib.hid (containsFunc_any L (.slice o3 L.rs.length c3) (.slice oy v.rules.length cy) input v.rules w.heap.size (w.heap.size + 2) w1 w1.heap.size ((HU.out.later (hb1.mono (by omega))).mono (by omega)) hy (Nat.le_refl _) ((HBL.later hb1 (by omega)).2.2.2) ((hb1.cell (p := ⟨w.heap.size + 2, 0, none⟩) (by show w.heap.size + 2 < W.heap.size; omega)).trans hin))
  clear ho hy
  go_wp2_with fail
  refine HC.out.mono ?_
  rintro e w2 ⟨rfl, hb2⟩
  go_wp2_with fail
  go_ret
  exact ⟨rfl, HBB.trans ((hb1.trans (hb2.mono hs1)).mono (by omega))⟩

end Go.Proofs.Ytdfhfljmcakilaa
