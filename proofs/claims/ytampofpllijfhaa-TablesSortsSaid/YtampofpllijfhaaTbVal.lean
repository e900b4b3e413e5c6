/-
  valuesByPair of the package. Nothing is assumed.
-/
import Derived.Test.YtampofpllijfhaaTbPair
namespace Go.Proofs.Ytampofpllijfhaa
open Go.RowKit

def rowKey (r : Row) : Pair := ((r[0]?).getD ⟨#[]⟩, (r[1]?).getD ⟨#[]⟩)
def rowVal (r : Row) : ByteArray := (r[2]?).getD ⟨#[]⟩
/-- The value of a pair: that of the first row with it. -/
def valOf (t : Tab) (p : Pair) : Option ByteArray := (t.find? fun r => decide (rowKey r = p)).map rowVal
def keyAt (t : Tab) (i : Nat) : Pair := rowKey ((t[i]?).getD [])
def freshK (t : Tab) (k : Nat) : Prop := ∀ i, i < k → valOf (t.take i) (keyAt t i) = none
/-- A row has the pair of a row above it. -/
def dupT (t : Tab) : Bool := (List.range t.length).any fun i => (valOf (t.take i) (keyAt t i)).isSome
theorem dupT_no {t : Tab} (h : freshK t t.length) : dupT t = false := by
  unfold dupT
  rw [List.any_eq_false]
  intro i hi
  rw [h i (List.mem_range.1 hi)]
  simp
theorem dupT_yes {t : Tab} {k : Nat} {s : ByteArray} (h : k < t.length) (hs : valOf (t.take k) (keyAt t k) = some s) : dupT t = true := by
  unfold dupT
  rw [List.any_eq_true]
  exact ⟨k, List.mem_range.2 h, by rw [hs]; rfl⟩
theorem freshK_next {t : Tab} {k : Nat} (h : freshK t k) (hs : valOf (t.take k) (keyAt t k) = none) : freshK t (k + 1) := fun i hi => by
  rcases Nat.lt_or_ge i k with h1 | h1
  · exact h i h1
  · obtain rfl : i = k := by omega
    exact hs
theorem keyAt_at {t : Tab} {k : Nat} (h : k < t.length) : keyAt t k = rowKey t[k] := by unfold keyAt; rw [List.getElem?_eq_getElem h]; rfl
theorem valOf_next (t : Tab) (k : Nat) (h : k < t.length) (hs : valOf (t.take k) (rowKey t[k]) = none) : valOf (t.take (k + 1)) = fun q => if q = rowKey t[k] then some (rowVal t[k]) else valOf (t.take k) q := by
  funext q
  rw [take_snoc t k h]
  unfold valOf
  rw [List.find?_append]
  by_cases hq : q = rowKey t[k]
  · subst hq
    rw [if_pos rfl]
    unfold valOf at hs
    rw [Option.map_eq_none_iff] at hs
    rw [hs]
    simp
  · rw [if_neg hq]
    have : ([t[k]].find? fun r => decide (rowKey r = q)) = none := by simp; exact fun e => hq e.symm
    rw [this]
    simp
def valE (t : Tab) : Int := if chkT t ≠ 0 then chkT t else if t.length = 0 then 7 else if colsT t ≠ 3 then 4 else if dupT t = true then 6 else 0
/-- What valuesByPair returns. -/
def RetM (w w' : World) (t : Tab) (e : Ending) : Prop :=
  (valE t = 0 ∧ ∃ M, w.heap.size ≤ M ∧ e = .returned (.tuple #[.map (some M), .int .i64 0]) ∧ MapF w' M (valOf t)) ∨ (valE t ≠ 0 ∧ e = .returned (.tuple #[.map none, .int .i64 (valE t)]))
theorem RetM.no {w w' : World} {t : Tab} {n : Int} (h : valE t = n) (hn : n ≠ 0) : RetM w w' t (.returned (.tuple #[.map none, .int .i64 n])) := .inr ⟨by rw [h]; exact hn, by rw [h]⟩
theorem RetM.yes {w w' : World} {t : Tab} {M : Nat} (h : valE t = 0) (hM : w.heap.size ≤ M) (hf : MapF w' M (valOf t)) : RetM w w' t (.returned (.tuple #[.map (some M), .int .i64 0])) := .inl ⟨h, M, hM, rfl, hf⟩
theorem row3 {r : Row} (h : r.length = 3) : ∃ a b c, r = [a, b, c] := by
  match r, h with
  | [a, b, c], _ => exact ⟨a, b, c, rfl⟩
theorem f_none {f : Pair → Option ByteArray} {p : Pair} (h : f p = none) : (f p).isSome = false := by rw [h]; rfl
theorem f_some {f : Pair → Option ByteArray} {p : Pair} {s : ByteArray} (h : f p = some s) : (f p).isSome = true := by rw [h]; rfl

set_option maxRecDepth 100000 in
set_option maxHeartbeats 3200000 in
theorem values_any (x : Value) (t : List (List ByteArray)) (w : World) (B : Nat) (hx : HoldsT w (· < B) x t) (hB : B ≤ w.heap.size) :
    Calls Try.prog 65 #[x] w fun e w' => RetM w w' t e ∧ Below w.heap.size w w' := by
  have HC := Lib.hid (chk_any x t w (· < B) hx)
  have HK := Lib.hid (cols_any x t w (· < B) hx)
  have HX := Lib.hid hx
  obtain ⟨oa, ca, rfl, _, _⟩ := hx.form
  clear hx
  by_cases hc0 : chkT t = 0
  · have fc := neq_fT hc0
    have HV := Lib.hid (chkT_rows hc0)
    have h8 := (chkT_rows hc0).1
    by_cases h0 : t.length = 0
    · have HE : Hid (valE t = 7) := Lib.hid (by unfold valE; rw [if_neg (by simp [hc0]), if_pos h0])
      have hz : ((t.length : Int) == 0) = true := by rw [h0]; rfl
      clear hc0 h0 h8
      go_enter Try.func65, Try.ntmps65
      go_wp2_with fail
      refine HC.out.mono ?_
      rintro e w' ⟨rfl, rfl⟩
      go_wp2_with fail
      go_ret2
      exact ⟨RetM.no HE.out (by decide), Below.refl _ _⟩
    have hz : ((t.length : Int) == 0) = false := by rw [beq_eq_false_iff_ne]; omega
    by_cases h3 : colsT t = 3
    · have HE : Hid (valE t = if dupT t = true then 6 else 0) := Lib.hid (by unfold valE; rw [if_neg (by simp [hc0]), if_neg h0, if_neg (by simp [h3])])
      rw [h3] at HK HV
      clear hc0 h0 h3
      have hmm := @run_makeMap Try.prog
      go_enter Try.func65, Try.ntmps65
      go_wp2_with fail
      refine HC.out.mono ?_
      rintro e w' ⟨rfl, rfl⟩
      go_wp2_with fail
      refine HK.out.mono ?_
      rintro e w' ⟨rfl, rfl⟩
      go_wp2_with fail
      clear hmm
      go_loopw [25] (fun j wr => ∃ k : Nat, k ≤ t.length ∧ j = .int .i64 k ∧ Hid (MapF wr w.heap.size (valOf (t.take k))) ∧ Hid (freshK t k) ∧ Below w.heap.size w wr) (fun j _ => t.length - (intOf j).toNat)
      case atStart => exact ⟨0, Nat.zero_le _, rfl, Lib.hid (MapF.made w), Lib.hid (fun i hi => absurd hi (Nat.not_lt_zero _)), below1 _ _⟩
      case round =>
        obtain ⟨k, hk, rfl, HM, HF, hbel⟩ := hrel
        have hsz := hbel.size
        by_cases hlt : k < t.length
        · obtain ⟨b, off, o, cr, rfl, hb, h0, hrow⟩ := HX.out.at_ (List.getElem?_eq_getElem hlt)
          obtain ⟨hl3, _, _, hs⟩ := HV.out.2 _ (List.getElem_mem hlt)
          have HNX := Lib.hid (valOf_next t k hlt)
          have HKA := Lib.hid (keyAt_at hlt)
          obtain ⟨r, hr⟩ : ∃ r, t[k] = r := ⟨_, rfl⟩
          rw [hr] at h0 hrow hl3 hs HNX HKA
          obtain ⟨a0, a1, a2, rfl⟩ := row3 hl3
          obtain ⟨b2, off2, rfl, hb2, c0⟩ := hrow.at_ (i := 0) rfl
          obtain ⟨b3, off3, e3, hb3, c1⟩ := hrow.at_ (i := 1) rfl
          cases e3
          obtain ⟨b3, off3, e3, hb3, c2⟩ := hrow.at_ (i := 2) rfl
          cases e3
          have s0 := hs a0 (by simp)
          have s1 := hs a1 (by simp)
          rw [← hbel.cell (p := ⟨b, _, none⟩) (Nat.lt_of_lt_of_le hb hB)] at h0
          rw [← hbel.cell (p := ⟨b2, _, none⟩) (Nat.lt_of_lt_of_le hb2 hB)] at c0 c1 c2
          rw [hl3] at h0
          simp only [Nat.add_zero] at c0
          have hki0 : (0 : Int) ≤ (k : Int) := by omega
          have hki1 : (k : Int) < (t.length : Int) := by omega
          have S0 : a0.size ≤ maxLen := by unfold maxLen; omega
          have S1 : a1.size ≤ maxLen := by unfold maxLen; omega
          have HR := Lib.hid hr
          have hbl : b2 < wr.heap.size := cell_lt c0
          have kk0 : ∀ X : Obj, (wr.alloc X).cell? ⟨b2, off2, none⟩ = some (.string a0) := fun X => ((below1 wr X).cell (p := ⟨b2, off2, none⟩) hbl).trans c0
          have kk1 : ∀ X : Obj, (wr.alloc X).cell? ⟨b2, off2 + 1, none⟩ = some (.string a1) := fun X => ((below1 wr X).cell (p := ⟨b2, off2 + 1, none⟩) hbl).trans c1
          have kk2 : ∀ X : Obj, (wr.alloc X).cell? ⟨b2, off2 + 2, none⟩ = some (.string a2) := fun X => ((below1 wr X).cell (p := ⟨b2, off2 + 2, none⟩) hbl).trans c2
          clear hrow hs hl3 hr
          go_wp2_with fail
          go_region_law (fail)
          all_goals
            have hbz : Below wr.heap.size wr ((wr.alloc (.cells #[.string a0, .string a1] 66)).drew) := (below1 wr _).drew
            have HM0 := HM.out.later hbz HM.out.lt
            have HB0 := hbel.trans (hbz.mono hsz)
            have q0 : ((wr.alloc (.cells #[.string a0, .string a1] 66)).drew).cell? ⟨wr.heap.size, 0, none⟩ = some (.string a0) := by simp
            have q1 : ((wr.alloc (.cells #[.string a0, .string a1] 66)).drew).cell? ⟨wr.heap.size, 1, none⟩ = some (.string a1) := by simp
            have q2 : ((wr.alloc (.cells #[.string a0, .string a1] 66)).drew).cell? ⟨b2, off2 + 2, none⟩ = some (.string a2) := kk2 _
            obtain ⟨W1, hW1⟩ : ∃ W1, (wr.alloc (.cells #[.string a0, .string a1] 66)).drew = W1 := ⟨_, rfl⟩
            rw [hW1] at HM0 HB0 q0 q1 q2 ⊢
            have HM1 := Lib.hid HM0
            have HB1 := Lib.hid HB0
            clear kk0 kk1 kk2 hbz HM0 HB0 hW1 c0 c1 c2
            cases hf : valOf (t.take k) (a0, a1) with
            | none =>
              have hfn := f_none hf
              have HFN := Lib.hid hf
              clear hf
              go_wp2_with (at_lookup; refine lookup_pair_ok _ rfl _ _ rfl w.heap.size (valOf (t.take k)) rfl HM1.out a0 a1 rfl S0 S1 ?_)
              go_still_tail 5, (by kernel_rfl)
              change wpList _ _ _ _ _ W1.drew
              have HM2 : Hid (MapF W1.drew w.heap.size (valOf (t.take k))) := Lib.hid HM1.out
              have HB2 : Hid (Below w.heap.size w W1.drew) := Lib.hid HB1.out.drew
              go_wp2_with (at_mapUpdate; refine update_pair _ rfl _ _ _ rfl w.heap.size (valOf (t.take k)) rfl HM2.out a0 a1 a2 rfl rfl S0 S1 HFN.out ?_)
              intro w3 hm3 hg3
              have HM3 : Hid (MapF w3 w.heap.size (valOf (t.take (k + 1)))) := Lib.hid (by rw [HNX.out HFN.out]; exact hm3)
              have HF3 := Lib.hid (freshK_next HF.out (by rw [HKA.out]; exact HFN.out))
              have hb3 := HB2.out.grown hg3 (by have := HB2.out.size; omega) (fun q hq => by cases hq; exact Nat.le_refl _)
              clear hm3 hg3
              go_wp2_with fail
              go_roundw
              case rel => exact ⟨k + 1, hlt, by go_num, HM3, HF3, hb3⟩
              case measure => simp [intOf]; omega
            | some s =>
              have hfn := f_some hf
              have HE6 : Hid (valE t = 6) := Lib.hid (by rw [HE.out, dupT_yes hlt (by rw [HKA.out]; exact hf), if_pos rfl])
              clear hf
              go_wp2_with (at_lookup; refine lookup_pair_ok _ rfl _ _ rfl w.heap.size (valOf (t.take k)) rfl HM1.out a0 a1 rfl S0 S1 ?_)
              go_ret2
              exact ⟨RetM.no HE6.out (by decide), HB1.out⟩
        · obtain rfl : k = t.length := by omega
          have HZ : Hid (valE t = 0 ∧ t.take t.length = t) := Lib.hid ⟨by rw [HE.out, dupT_no HF.out]; rfl, List.take_length⟩
          go_wp2_with fail
          go_ret2
          exact ⟨RetM.yes HZ.out.1 (Nat.le_refl _) (by have h := HM.out; rw [HZ.out.2] at h; exact h), hbel⟩
    · have HE : Hid (valE t = 4) := Lib.hid (by unfold valE; rw [if_neg (by simp [hc0]), if_neg h0, if_pos h3])
      have hc3 : ((colsT t : Int) != 3) = true := by rw [bne_iff_ne]; omega
      clear hc0 h0 h8 h3
      go_enter Try.func65, Try.ntmps65
      go_wp2_with fail
      refine HC.out.mono ?_
      rintro e w' ⟨rfl, rfl⟩
      go_wp2_with fail
      refine HK.out.mono ?_
      rintro e w' ⟨rfl, rfl⟩
      go_wp2_with fail
      go_ret2
      exact ⟨RetM.no HE.out (by decide), Below.refl _ _⟩
  · have fc := neq_tT hc0
    have HE : Hid (valE t = chkT t ∧ chkT t ≠ 0) := Lib.hid ⟨if_pos hc0, hc0⟩
    clear hc0
    go_enter Try.func65, Try.ntmps65
    go_wp2_with fail
    refine HC.out.mono ?_
    rintro e w' ⟨rfl, rfl⟩
    go_wp2_with fail
    go_ret2
    exact ⟨RetM.no HE.out.1 HE.out.2, Below.refl _ _⟩

end Go.Proofs.Ytampofpllijfhaa
