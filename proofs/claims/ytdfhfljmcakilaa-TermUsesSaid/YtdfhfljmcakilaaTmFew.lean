/-
  Few of the reference. Nothing is assumed.
-/
import Derived.Test.YtdfhfljmcakilaaTmVal
namespace Go.Proofs.Ytdfhfljmcakilaa
open Go.RowKit

def symOk (s : Sym) : Bool := decide (s.nm.size ≤ 40)
def rulOk (r : Rul) : Bool := r.c.small && (decide (r.op.size ≤ 40) && decide (r.ags.length ≤ 6))
def fewL (L : Lan) : Bool := decide (L.nm.size ≤ 40 ∧ L.ins.length ≤ 6 ∧ L.sys.length ≤ 18 ∧ L.rs.length ≤ 30) && (L.sys.all symOk && L.rs.all rulOk)
theorem all_at {α : Type} (p : α → Bool) (l : List α) (k : Nat) (h : k < l.length) : (l.drop k).all p = (p l[k] && (l.drop (k + 1)).all p) := by rw [List.drop_eq_getElem_cons h]; rfl

/-- A boxed language at block n. -/
def BoxL (w : World) (n : Nat) (L : Lan) (x1 x2 x3 : Value) : Prop := w.cell? ⟨n, 0, none⟩ = some (.string L.nm) ∧ w.cell? ⟨n, 1, none⟩ = some x1 ∧ w.cell? ⟨n, 2, none⟩ = some x2 ∧ w.cell? ⟨n, 3, none⟩ = some x3
theorem BoxL.new (w : World) (n : Nat) (L : Lan) (x1 x2 x3 : Value) (t : Nat) (hn : w.heap.size = n) : BoxL (w.alloc (.cells #[.string L.nm, x1, x2, x3] t)) n L x1 x2 x3 := by
  subst hn
  exact ⟨cell_at _ _ _ _ _ rfl, cell_at _ _ _ _ _ rfl, cell_at _ _ _ _ _ rfl, cell_at _ _ _ _ _ rfl⟩
theorem BoxL.later {w w1 : World} {n B : Nat} {L : Lan} {x1 x2 x3 : Value} (h : BoxL w n L x1 x2 x3) (hb : Below B w w1) (hn : n < B) : BoxL w1 n L x1 x2 x3 :=
  ⟨(hb.cell (p := ⟨n, _, none⟩) hn).trans h.1, (hb.cell (p := ⟨n, _, none⟩) hn).trans h.2.1, (hb.cell (p := ⟨n, _, none⟩) hn).trans h.2.2.1, (hb.cell (p := ⟨n, _, none⟩) hn).trans h.2.2.2⟩

set_option maxRecDepth 100000 in
set_option maxHeartbeats 3200000 in
theorem few_any (L : Lan) (x1 x2 x3 : Value) (w : World) (B : Nat) (hL : HoldsL w B x1 x2 x3 L) (hB : B ≤ w.heap.size) :
    Calls Try.prog 27 #[lanV L x1 x2 x3] w fun e w' => e = .returned (.bool (fewL L)) ∧ Below w.heap.size w w' := by
  obtain ⟨hI, hY, hU⟩ := hL
  obtain ⟨o1, c1, rfl, _, _⟩ : ∃ oa cap, x1 = .slice oa L.ins.length cap ∧ L.ins.length ≤ cap ∧ cap ≤ 9223372036854775807 := by obtain ⟨a, b, c, d, e, _⟩ := hI; exact ⟨a, b, c, d, e⟩
  obtain ⟨o2, c2, rfl, _, _⟩ := hY.form
  obtain ⟨o3, c3, rfl, _, _⟩ := hU.form
  have HD : Hid (fewL L = (decide (L.nm.size ≤ 40 ∧ L.ins.length ≤ 6 ∧ L.sys.length ≤ 18 ∧ L.rs.length ≤ 30) && (L.sys.all symOk && L.rs.all rulOk))) := rfl
  have HYY := Lib.hid hY
  have HUU := Lib.hid hU
  clear hI hY hU
  by_cases h : L.nm.size ≤ 40 ∧ L.ins.length ≤ 6 ∧ L.sys.length ≤ 18 ∧ L.rs.length ≤ 30
  case neg =>
    have hF : fewL L = false := by rw [HD.out, decide_eq_false h]; rfl
    rw [hF]
    clear HD hF
    by_cases g1 : (40 : Int) < (L.nm.size : Int)
    · clear h
      go_enter Try.func27, Try.ntmps27
      go_wp2_with fail
      go_ret
      exact ⟨rfl, below1 _ _⟩
    by_cases g2 : (6 : Int) < (L.ins.length : Int)
    · clear h
      go_enter Try.func27, Try.ntmps27
      go_wp2_with fail
      go_ret
      exact ⟨rfl, below1 _ _⟩
    by_cases g3 : (18 : Int) < (L.sys.length : Int)
    · clear h
      go_enter Try.func27, Try.ntmps27
      go_wp2_with fail
      go_ret
      exact ⟨rfl, below1 _ _⟩
    have g4 : (30 : Int) < (L.rs.length : Int) := by omega
    clear h
    go_enter Try.func27, Try.ntmps27
    go_wp2_with fail
    go_ret
    exact ⟨rfl, below1 _ _⟩
  rw [decide_eq_true h, Bool.true_and] at HD
  have g1 : ¬ (40 : Int) < (L.nm.size : Int) := by omega
  have g2 : ¬ (6 : Int) < (L.ins.length : Int) := by omega
  have g3 : ¬ (18 : Int) < (L.sys.length : Int) := by omega
  have g4 : ¬ (30 : Int) < (L.rs.length : Int) := by omega
  have HBL := Lib.hid (BoxL.new w w.heap.size L (.slice o1 L.ins.length c1) (.slice o2 L.sys.length c2) (.slice o3 L.rs.length c3) 45 rfl)
  have HB1 := Lib.hid (below1 w (.cells #[.string L.nm, .slice o1 L.ins.length c1, .slice o2 L.sys.length c2, .slice o3 L.rs.length c3] 45))
  clear h
  go_enter Try.func27, Try.ntmps27
  go_wp2_with fail
  have hsz : (w.alloc (.cells #[.string L.nm, .slice o1 L.ins.length c1, .slice o2 L.sys.length c2, .slice o3 L.rs.length c3] 45)).heap.size = w.heap.size + 1 := by simp
  generalize w.alloc (.cells #[.string L.nm, .slice o1 L.ins.length c1, .slice o2 L.sys.length c2, .slice o3 L.rs.length c3] 45) = W at *
  go_loopw [3] (fun i wr => ∃ k : Nat, k ≤ L.sys.length ∧ i = .int .i64 k ∧ Hid ((L.sys.drop k).all symOk = L.sys.all symOk) ∧ wr = W) (fun i _ => L.sys.length - (intOf i).toNat)
  case atStart => exact ⟨0, Nat.zero_le _, rfl, rfl, by first | trivial | rfl⟩
  case round =>
    obtain ⟨k, hk, rfl, HA, hwr⟩ := hrel
    obtain rfl := hwr.symm
    obtain ⟨l0, l1, l2, l3⟩ := HBL.out
    by_cases hlt : k < L.sys.length
    · obtain ⟨b, off, rfl, hb, s0, s1⟩ := HYY.out.at_ (List.getElem?_eq_getElem hlt)
      rw [← HB1.out.cell (p := ⟨b, _, none⟩) (by show b < w.heap.size; omega)] at s0
      have HS := Lib.hid (all_at symOk L.sys k hlt)
      have q0 : (0 : Int) ≤ (k : Int) := by omega
      have q1 : (k : Int) < (L.sys.length : Int) := by omega
      by_cases hs : (40 : Int) < (L.sys[k].nm.size : Int)
      · have HF : Hid (fewL L = false) := Lib.hid (by
          have e : symOk L.sys[k] = false := decide_eq_false (by omega)
          rw [HD.out, ← HA.out, HS.out, e]; rfl)
        clear s1
        go_wp2_with fail
        go_ret
        exact ⟨ret_bool HF.out.symm, HB1.out⟩
      · have HN : Hid ((L.sys.drop (k + 1)).all symOk = L.sys.all symOk) := Lib.hid (by
          have e : symOk L.sys[k] = true := decide_eq_true (by omega)
          rw [← HA.out, HS.out, e]; rfl)
        clear s1
        go_wp2_with fail
        go_roundw
        case rel => exact ⟨k + 1, hlt, by go_num, HN, by first | trivial | rfl⟩
        case measure => simp [intOf]; omega
    · have HSY : Hid (L.sys.all symOk = true) := Lib.hid (by rw [← HA.out, List.drop_of_length_le (by omega)]; rfl)
      have hs0 : W.heap.size = w.heap.size + 1 := hsz
      go_wp2_with fail
      clear l0 l1 l2 l3
      go_loopw [4] (fun i wr => ∃ k : Nat, k ≤ L.rs.length ∧ i = .int .i64 k ∧ Hid ((L.rs.drop k).all rulOk = L.rs.all rulOk) ∧ Below W.heap.size W wr) (fun i _ => L.rs.length - (intOf i).toNat)
      case atStart => exact ⟨0, Nat.zero_le _, rfl, rfl, Below.refl _ _⟩
      case round =>
        obtain ⟨k, hk, rfl, HA2, hbr⟩ := hrel
        obtain ⟨l0, l1, l2, l3⟩ := HBL.out.later hbr (by omega)
        have HBW := Lib.hid (HB1.out.trans (hbr.mono (by omega)))
        by_cases hlt : k < L.rs.length
        · obtain ⟨b, off, rfl, hb, hR⟩ := HUU.out.at_ (List.getElem?_eq_getElem hlt)
          have hR := (hR.later hb (HBW.out.mono hB))
          obtain ⟨r0, r1, r2, r3, r4, r5, ⟨xi, r6, hi⟩, r7, ⟨xa, r8, ha⟩⟩ := hR
          obtain ⟨oi, ci, rfl, _⟩ := hi.slice
          obtain ⟨oa, ca, rfl, _, _⟩ : ∃ oa cap, xa = .slice oa L.rs[k].ags.length cap ∧ L.rs[k].ags.length ≤ cap ∧ cap ≤ 9223372036854775807 := by obtain ⟨a, b, c, d, e, _⟩ := ha; exact ⟨a, b, c, d, e⟩
          have HS := Lib.hid (all_at rulOk L.rs k hlt)
          have q0 : (0 : Int) ≤ (k : Int) := by omega
          have q1 : (k : Int) < (L.rs.length : Int) := by omega
          have hrs := hbr.size
          have HI := Lib.hid hi
          clear ha hi
          go_wp2_with fail
          have HSM := Lib.hid (smallV_any L.rs[k].c (.slice oi L.rs[k].c.l.length ci) (wr.alloc (.cells #[.int .i64 L.rs[k].sy, .int .i64 L.rs[k].k, .int .i64 L.rs[k].i, .int .i64 L.rs[k].c.t, .int .i64 L.rs[k].c.n, .string L.rs[k].c.s, .slice oi L.rs[k].c.l.length ci, .string L.rs[k].op, .slice oa L.rs[k].ags.length ca] 66)) B (HI.out.later ((below1 wr _).mono (by omega))) (by simp; omega))
          have u7 := cell_at wr #[.int .i64 L.rs[k].sy, .int .i64 L.rs[k].k, .int .i64 L.rs[k].i, .int .i64 L.rs[k].c.t, .int .i64 L.rs[k].c.n, .string L.rs[k].c.s, .slice oi L.rs[k].c.l.length ci, .string L.rs[k].op, .slice oa L.rs[k].ags.length ca] 66 7 (.string L.rs[k].op) rfl
          have u8 := cell_at wr #[.int .i64 L.rs[k].sy, .int .i64 L.rs[k].k, .int .i64 L.rs[k].i, .int .i64 L.rs[k].c.t, .int .i64 L.rs[k].c.n, .string L.rs[k].c.s, .slice oi L.rs[k].c.l.length ci, .string L.rs[k].op, .slice oa L.rs[k].ags.length ca] 66 8 (.slice oa L.rs[k].ags.length ca) rfl
          have hba := below1 wr (.cells #[.int .i64 L.rs[k].sy, .int .i64 L.rs[k].k, .int .i64 L.rs[k].i, .int .i64 L.rs[k].c.t, .int .i64 L.rs[k].c.n, .string L.rs[k].c.s, .slice oi L.rs[k].c.l.length ci, .string L.rs[k].op, .slice oa L.rs[k].ags.length ca] 66)
          have hsa : (wr.alloc (.cells #[.int .i64 L.rs[k].sy, .int .i64 L.rs[k].k, .int .i64 L.rs[k].i, .int .i64 L.rs[k].c.t, .int .i64 L.rs[k].c.n, .string L.rs[k].c.s, .slice oi L.rs[k].c.l.length ci, .string L.rs[k].op, .slice oa L.rs[k].ags.length ca] 66)).heap.size = wr.heap.size + 1 := by simp
          generalize wr.alloc (.cells #[.int .i64 L.rs[k].sy, .int .i64 L.rs[k].k, .int .i64 L.rs[k].i, .int .i64 L.rs[k].c.t, .int .i64 L.rs[k].c.n, .string L.rs[k].c.s, .slice oi L.rs[k].c.l.length ci, .string L.rs[k].op, .slice oa L.rs[k].ags.length ca] 66) = WA at *
          have hrk : rulOk L.rs[k] = (L.rs[k].c.small && (decide (L.rs[k].op.size ≤ 40) && decide (L.rs[k].ags.length ≤ 6))) := rfl
          have HRK := Lib.hid hrk
          have HNO : Hid (rulOk L.rs[k] = false → fewL L = false) := Lib.hid (fun e => by rw [HD.out, HSY.out, ← HA2.out, HS.out, e]; rfl)
          have HYES : Hid (rulOk L.rs[k] = true → (L.rs.drop (k + 1)).all rulOk = L.rs.all rulOk) := Lib.hid (fun e => by rw [← HA2.out, HS.out, e]; rfl)
          clear hrk r0 r1 r2 r3 r4 r5 r6 r7 r8
          cases hsm : L.rs[k].c.small
          · rw [hsm] at HSM HRK
            have HF : Hid (fewL L = false) := Lib.hid (HNO.out (by rw [HRK.out]; rfl))
            clear hsm
            refine HSM.out.mono ?_
            rintro e w1 ⟨rfl, hb1⟩
            go_wp2_with fail
            go_ret
            exact ⟨ret_bool HF.out.symm, HBW.out.trans ((hba.trans (hb1.mono (by omega))).mono (by omega))⟩
          · rw [hsm] at HSM HRK
            clear hsm
            refine HSM.out.mono ?_
            rintro e w1 ⟨rfl, hb1⟩
            have v7 := (hb1.cell (p := ⟨wr.heap.size, 7, none⟩) (by show wr.heap.size < WA.heap.size; omega)).trans u7
            have v8 := (hb1.cell (p := ⟨wr.heap.size, 8, none⟩) (by show wr.heap.size < WA.heap.size; omega)).trans u8
            have HBF := Lib.hid (HBW.out.trans ((hba.trans (hb1.mono (by omega))).mono (by omega)))
            have HBN := Lib.hid (hbr.trans ((hba.trans (hb1.mono (by omega))).mono (by omega)))
            by_cases ho : (40 : Int) < (L.rs[k].op.size : Int)
            · have HF : Hid (fewL L = false) := Lib.hid (HNO.out (by rw [HRK.out, decide_eq_false (by omega : ¬ L.rs[k].op.size ≤ 40)]; rfl))
              go_wp2_with fail
              go_ret
              exact ⟨ret_bool HF.out.symm, HBF.out⟩
            · by_cases hg : (6 : Int) < (L.rs[k].ags.length : Int)
              · have HF : Hid (fewL L = false) := Lib.hid (HNO.out (by rw [HRK.out, decide_eq_true (by omega : L.rs[k].op.size ≤ 40), decide_eq_false (by omega : ¬ L.rs[k].ags.length ≤ 6)]; rfl))
                go_wp2_with fail
                go_ret
                exact ⟨ret_bool HF.out.symm, HBF.out⟩
              · have HN := Lib.hid (HYES.out (by rw [HRK.out, decide_eq_true (by omega : L.rs[k].op.size ≤ 40), decide_eq_true (by omega : L.rs[k].ags.length ≤ 6)]; rfl))
                go_wp2_with fail
                go_roundw
                case rel => exact ⟨k + 1, hlt, by go_num, HN, HBN.out⟩
                case measure => simp [intOf]; omega
        · have HF : Hid (fewL L = true) := Lib.hid (by
            rw [HD.out, HSY.out, ← HA2.out, List.drop_of_length_le (by omega)]; rfl)
          go_wp2_with fail
          go_ret
          exact ⟨ret_bool HF.out.symm, HBW.out⟩

end Go.Proofs.Ytdfhfljmcakilaa
