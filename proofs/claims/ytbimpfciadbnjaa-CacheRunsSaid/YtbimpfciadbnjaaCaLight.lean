/-
  light of the laws: at most 40 calls with short keys and small terms. Nothing is assumed.
-/
import Derived.Test.YtbimpfciadbnjaaCaFrame
import Derived.Test.YtbimpfciadbnjaaCaRef
namespace Go.Proofs.Ytbimpfciadbnjaa
open Go.RowKit

def okC (c : Cl) : Bool := decide (c.k.size ≤ 60) && decide (c.t.size ≤ 20)
def lightC (l : List Cl) : Bool := decide (l.length ≤ 40) && l.all okC
theorem all_atC {α : Type} (p : α → Bool) (l : List α) (k : Nat) (h : k < l.length) : (l.drop k).all p = (p l[k] && (l.drop (k + 1)).all p) := by rw [List.drop_eq_getElem_cons h]; rfl
theorem light_of {l : List Cl} (h : lightC l = true) : l.length ≤ 40 ∧ ∀ (i : Nat) c, l[i]? = some c → c.k.size ≤ 60 ∧ c.t.size ≤ 20 := by
  unfold lightC at h
  rw [Bool.and_eq_true] at h
  refine ⟨of_decide_eq_true h.1, fun i c hc => ?_⟩
  have := List.all_eq_true.1 h.2 c (List.mem_of_getElem? hc)
  unfold okC at this
  rw [Bool.and_eq_true] at this
  exact ⟨of_decide_eq_true this.1, of_decide_eq_true this.2⟩

set_option maxRecDepth 100000 in
set_option maxHeartbeats 1600000 in
theorem light_any (l : List Cl) (x : Value) (w : World) (B : Nat) (hx : HoldsO w B x l) (hB : B ≤ w.heap.size) :
    Calls Try.prog 8 #[x] w fun e w' => e = .returned (.bool (lightC l)) ∧ Below w.heap.size w w' := by
  have HX := Lib.hid hx
  obtain ⟨oa, ca, rfl, _, _⟩ := hx.form
  have HD : Hid (lightC l = (decide (l.length ≤ 40) && l.all okC)) := rfl
  clear hx
  by_cases hl : l.length ≤ 40
  case neg =>
    have hF : lightC l = false := by rw [HD.out, decide_eq_false hl]; rfl
    rw [hF]
    have hl' : (40 : Int) < (l.length : Int) := by omega
    clear hl HD hF
    go_enter Try.func8, Try.ntmps8
    go_wp2_with fail
    go_ret
    exact ⟨rfl, Below.refl _ _⟩
  rw [decide_eq_true hl, Bool.true_and] at HD
  have hl' : ¬ (40 : Int) < (l.length : Int) := by omega
  go_enter Try.func8, Try.ntmps8
  go_wp2_with fail
  go_loopw [3] (fun i wr => ∃ k : Nat, k ≤ l.length ∧ i = .int .i64 k ∧ Hid ((l.drop k).all okC = l.all okC) ∧ Below w.heap.size w wr) (fun i _ => l.length - (intOf i).toNat)
  case atStart => exact ⟨0, Nat.zero_le _, rfl, rfl, Below.refl _ _⟩
  case round =>
    obtain ⟨k, hk, rfl, HA, hbr⟩ := hrel
    have HBR := Lib.hid hbr
    by_cases hlt : k < l.length
    · obtain ⟨b, off, os, cs, rfl, hb, s0, s1, s2, s3, hR⟩ := HX.out.at_ (List.getElem?_eq_getElem hlt)
      have hb' : b < w.heap.size := Nat.lt_of_lt_of_le hb hB
      rw [← hbr.cell (p := ⟨b, _, none⟩) hb'] at s1 s2 s3
      have HS := Lib.hid (all_atC okC l k hlt)
      have q0 : (0 : Int) ≤ (k : Int) := by omega
      have q1 : (k : Int) < (l.length : Int) := by omega
      have HNO : Hid (okC l[k] = false → lightC l = false) := Lib.hid (fun e => by rw [HD.out, ← HA.out, HS.out, e]; rfl)
      have HYES : Hid (okC l[k] = true → (l.drop (k + 1)).all okC = l.all okC) := Lib.hid (fun e => by rw [← HA.out, HS.out, e]; rfl)
      have HW := within_any l[k].t (.slice os l[k].t.l.length cs) wr B (hR.later (hbr.mono hB)) (Nat.le_trans hB hbr.size)
      clear s0 hR hbr HS
      by_cases hs : (60 : Int) < (l[k].k.size : Int)
      · have HF := Lib.hid (HNO.out (by unfold okC; rw [decide_eq_false (by omega)]; rfl))
        clear HW
        go_wp2_with fail
        go_ret
        exact ⟨ret_bool HF.out.symm, HBR.out⟩
      · by_cases ht : l[k].t.size ≤ 20
        · rw [decide_eq_true ht] at HW
          have HN := Lib.hid (HYES.out (by unfold okC; rw [decide_eq_true ht, decide_eq_true (show l[k].k.size ≤ 60 by omega)]; rfl))
          have HW := Lib.hid HW
          clear ht
          go_wp2_with fail
          refine HW.out.mono ?_
          rintro e w1 ⟨rfl, hb1⟩
          go_wp2_with fail
          go_roundw
          case rel => exact ⟨k + 1, hlt, by go_num, HN, HBR.out.trans (hb1.mono HBR.out.size)⟩
          case measure => simp [intOf]; omega
        · rw [decide_eq_false ht] at HW
          have HF := Lib.hid (HNO.out (by unfold okC; rw [decide_eq_false ht, Bool.and_false]))
          have HW := Lib.hid HW
          clear ht
          go_wp2_with fail
          refine HW.out.mono ?_
          rintro e w1 ⟨rfl, hb1⟩
          go_wp2_with fail
          go_ret
          exact ⟨ret_bool HF.out.symm, HBR.out.trans (hb1.mono HBR.out.size)⟩
    · have HF : Hid (lightC l = true) := Lib.hid (by rw [HD.out, ← HA.out, List.drop_of_length_le (by omega)]; rfl)
      go_wp2_with fail
      go_ret
      exact ⟨ret_bool HF.out.symm, HBR.out⟩

end Go.Proofs.Ytbimpfciadbnjaa
