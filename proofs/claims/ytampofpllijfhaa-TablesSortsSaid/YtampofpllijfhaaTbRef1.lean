/-
  Texts and Same of the reference, small of the law. Nothing is assumed.
-/
import Derived.Test.YtampofpllijfhaaTbBase
namespace Go.Proofs.Ytampofpllijfhaa
open Go.RowKit

set_option maxRecDepth 100000 in
set_option maxHeartbeats 1600000 in
theorem texts_any (x y : Value) (l m : List ByteArray) (w : World) (B : Nat) (hx : HoldsS w (· < B) x l) (hy : HoldsS w (· < B) y m) (hB : B ≤ w.heap.size) (_hl : l.length ≤ 1000) (hm : m.length ≤ 1000) :
    Calls Try.prog 26 #[x, y] w fun e w' => e = .returned (.bool (decide (l = m))) ∧ Below w.heap.size w w' := by
  obtain ⟨oa, ca, rfl, _, _, hel⟩ := hx
  obtain ⟨ob, cb, rfl, _, _, hem⟩ := hy
  by_cases hlen : l.length = m.length
  · have HL := Lib.hid hlen
    have hle : ((l.length : Int) == (m.length : Int)) = true := by rw [hlen]; exact beq_self_eq_true _
    have hln : ((l.length : Int) != (m.length : Int)) = false := by rw [hlen]; simp
    clear hlen
    go_enter Try.func26, Try.ntmps26
    go_wp2_with fail
    go_loopw [5] (fun i wr => ∃ k : Nat, k ≤ l.length ∧ i = .int .i64 k ∧ Hid (l.take k = m.take k) ∧ Below w.heap.size w wr) (fun i _ => l.length - (intOf i).toNat)
    case atStart => exact ⟨0, Nat.zero_le _, rfl, rfl, Below.refl _ _⟩
    case round =>
      obtain ⟨k, hk, rfl, HT, hbel⟩ := hrel
      by_cases hlt : k < l.length
      · have hlm : k < m.length := by have := HL.out; omega
        obtain ⟨b, off, rfl, hb, hc⟩ := hel k _ (List.getElem?_eq_getElem hlt)
        obtain ⟨b', off', rfl, hb', hc'⟩ := hem k _ (List.getElem?_eq_getElem hlm)
        rw [← hbel.cell (p := ⟨b, _, none⟩) (Nat.lt_of_lt_of_le hb hB)] at hc
        rw [← hbel.cell (p := ⟨b', _, none⟩) (Nat.lt_of_lt_of_le hb' hB)] at hc'
        have hki : (k : Int) < (l.length : Int) := by omega
        have hki0 : (0 : Int) ≤ (k : Int) := by omega
        have hkm : (k : Int) < (m.length : Int) := by omega
        by_cases hz : l[k] = m[k]
        · have HZ := Lib.hid hz
          have hze : (l[k].toList == m[k].toList) = true := by rw [hz]; exact beq_self_eq_true _
          have hzn : (l[k].toList != m[k].toList) = false := by rw [hz]; simp
          clear hz
          go_wp2_with fail
          go_quiet (fail)
          go_wp2_with fail
          go_roundw
          case rel => exact ⟨k + 1, hlt, by go_num, Lib.hid (by rw [take_snoc l k hlt, take_snoc m k hlm, HT.out, HZ.out]), hbel.trans (below_drewN _ _ _)⟩
          case measure => simp [intOf]; omega
        · have HZ := Lib.hid hz
          have hze : (l[k].toList == m[k].toList) = false := str_ne hz
          have hzn : (l[k].toList != m[k].toList) = true := by unfold bne; rw [hze]; rfl
          clear hz
          go_wp2_with fail
          go_quiet (fail)
          go_wp2_with fail
          go_ret
          refine ⟨ret_bool (decide_eq_false fun e => HZ.out ?_).symm, hbel.trans (below_drewN _ _ _)⟩
          subst e
          rfl
      · obtain rfl : k = l.length := by omega
        go_wp2_with fail
        go_ret
        refine ⟨ret_bool (decide_eq_true ?_).symm, hbel⟩
        have := HT.out
        rw [List.take_length, HL.out, List.take_length] at this
        exact this
  · have hle : ((l.length : Int) == (m.length : Int)) = false := by rw [beq_eq_false_iff_ne]; omega
    have hln : ((l.length : Int) != (m.length : Int)) = true := by rw [bne_iff_ne]; omega
    have HL := Lib.hid hlen
    clear hlen hel hem
    go_enter Try.func26, Try.ntmps26
    go_wp2_with fail
    go_ret
    refine ⟨ret_bool (decide_eq_false fun e => HL.out (by rw [e])).symm, Below.refl _ _⟩

set_option maxRecDepth 100000 in
set_option maxHeartbeats 1600000 in
/-- Same of two equal tables. -/
theorem same_eq (x y : Value) (t : List (List ByteArray)) (w : World) (B : Nat) (hx : HoldsT w (· < B) x t) (hy : HoldsT w (· < B) y t) (hB : B ≤ w.heap.size) (_hl : t.length ≤ 1000) (hr : ∀ r ∈ t, r.length ≤ 1000) :
    Calls Try.prog 15 #[x, y] w fun e w' => e = .returned (.bool true) ∧ Below w.heap.size w w' := by
  have HX := Lib.hid hx
  have HY := Lib.hid hy
  have HR := Lib.hid hr
  obtain ⟨oa, ca, rfl, _, _⟩ := hx.form
  obtain ⟨ob, cb, rfl, _, _⟩ := hy.form
  clear hx hy hr
  have hle : ((t.length : Int) == (t.length : Int)) = true := beq_self_eq_true _
  have hln : ((t.length : Int) != (t.length : Int)) = false := by simp
  go_enter Try.func15, Try.ntmps15
  go_wp2_with fail
  go_loopw [5] (fun i wr => ∃ k : Nat, k ≤ t.length ∧ i = .int .i64 k ∧ Below w.heap.size w wr) (fun i _ => t.length - (intOf i).toNat)
  case atStart => exact ⟨0, Nat.zero_le _, rfl, Below.refl _ _⟩
  case round =>
    obtain ⟨k, hk, rfl, hbel⟩ := hrel
    by_cases hlt : k < t.length
    · have hs := hbel.size
      obtain ⟨b, off, o, cr, rfl, hb, h0, hrow⟩ := (HX.out.later (hbel.mono hB)).at_ (List.getElem?_eq_getElem hlt)
      obtain ⟨b', off', o', cr', rfl, hb', g0, hrow'⟩ := (HY.out.later (hbel.mono hB)).at_ (List.getElem?_eq_getElem hlt)
      have hki : (k : Int) < (t.length : Int) := by omega
      have hki0 : (0 : Int) ≤ (k : Int) := by omega
      have hrl := HR.out _ (List.getElem_mem hlt)
      have HT := fun (w1 : World) (q1 : HoldsS w1 (· < B) (.slice o t[k].length cr) t[k]) (q2 : HoldsS w1 (· < B) (.slice o' t[k].length cr') t[k]) (q3 : B ≤ w1.heap.size) => Lib.hid (texts_any (.slice o t[k].length cr) (.slice o' t[k].length cr') t[k] t[k] w1 B q1 q2 q3 hrl hrl)
      rw [decide_eq_true (rfl : t[k] = t[k])] at HT
      have HEQ := Lib.hid HT; clear HT
      have HQ1 := Lib.hid hrow
      have HQ2 := Lib.hid hrow'
      clear hrow hrow' hrl
      go_wp2_with fail
      go_still_tail 8, (by kernel_rfl)
      change wpList _ _ _ _ _ wr.drew
      have hbw := hbel.drew
      have hsw : wr.drew.heap.size = wr.heap.size := rfl
      clear h0 g0
      go_wp2_with fail
      refine (HEQ.out _ (HQ1.out.later (Below.refl B wr).drew) (HQ2.out.later (Below.refl B wr).drew) (by omega)).out.mono ?_
      rintro e w1 ⟨rfl, hb1⟩
      have hb2 : Below w.heap.size w w1 := hbw.trans (hb1.mono (by omega))
      clear hsw
      go_wp2_with fail
      go_roundw
      case rel => exact ⟨k + 1, hlt, by go_num, hb2⟩
      case measure => simp [intOf]; omega
    · go_wp2_with fail
      go_ret
      exact ⟨rfl, hbel⟩

/-- What a small table is. -/
def SmT (t : List (List ByteArray)) : Prop := t.length ≤ 20 ∧ ∀ r ∈ t, r.length ≤ 20 ∧ ∀ s ∈ r, s.size ≤ 100
def SmE (t : List (List ByteArray)) (e : Ending) : Prop := ∃ z, e = .returned (.bool z) ∧ (z = true → SmT t)

set_option maxRecDepth 100000 in
set_option maxHeartbeats 1600000 in
theorem small_any (x : Value) (t : List (List ByteArray)) (w : World) (B : Nat) (hx : HoldsT w (· < B) x t) (hB : B ≤ w.heap.size) :
    Calls Try.prog 11 #[x] w fun e w' => SmE t e ∧ Below w.heap.size w w' := by
  have HX := Lib.hid hx
  obtain ⟨oa, ca, rfl, _, _⟩ := hx.form
  clear hx
  by_cases h20 : 20 < (t.length : Int)
  · go_enter Try.func11, Try.ntmps11
    go_wp2_with fail
    go_ret
    exact ⟨⟨false, rfl, fun h => by cases h⟩, Below.refl _ _⟩
  go_enter Try.func11, Try.ntmps11
  go_wp2_with fail
  go_loopw [3] (fun i wr => ∃ k : Nat, k ≤ t.length ∧ i = .int .i64 k ∧ Hid (∀ r ∈ t.take k, r.length ≤ 20 ∧ ∀ s ∈ r, s.size ≤ 100) ∧ Below w.heap.size w wr) (fun i _ => t.length - (intOf i).toNat)
  case atStart => exact ⟨0, Nat.zero_le _, rfl, Lib.hid (by simp), Below.refl _ _⟩
  case round =>
    obtain ⟨k, hk, rfl, HD, hbel⟩ := hrel
    obtain ⟨wo, hwo⟩ : ∃ wo : World, wo = wr := ⟨_, rfl⟩
    subst hwo
    by_cases hlt : k < t.length
    · obtain ⟨b, off, o, cr, rfl, hb, h0, hrow⟩ := HX.out.at_ (List.getElem?_eq_getElem hlt)
      have HQ := Lib.hid hrow
      have HH := Lib.hid h0
      have HBB := Lib.hid (Nat.lt_of_lt_of_le hb hB)
      rw [← hbel.cell (p := ⟨b, _, none⟩) (Nat.lt_of_lt_of_le hb hB)] at h0
      have hki : (k : Int) < (t.length : Int) := by omega
      have hki0 : (0 : Int) ≤ (k : Int) := by omega
      obtain ⟨r, hrk⟩ : ∃ r, t[k] = r := ⟨_, rfl⟩
      rw [hrk] at h0 HH HQ hrow
      have HRK := Lib.hid hrk
      clear hrk hrow
      by_cases hr20 : 20 < (r.length : Int)
      · go_wp2_with fail
        go_ret
        exact ⟨⟨false, rfl, fun h => by cases h⟩, hbel⟩
      · go_wp2_with fail
        clear h0
        go_loopw [4] (fun i wr => ∃ j : Nat, j ≤ r.length ∧ i = .int .i64 j ∧ Hid (∀ s ∈ r.take j, s.size ≤ 100) ∧ Below w.heap.size w wr) (fun i _ => r.length - (intOf i).toNat)
        case atStart => exact ⟨0, Nat.zero_le _, rfl, Lib.hid (by simp), hbel⟩
        case round =>
          obtain ⟨j, hj, rfl, HE, hbel2⟩ := hrel
          have h0 := HH.out
          rw [← hbel2.cell (p := ⟨b, _, none⟩) HBB.out] at h0
          by_cases hjl : j < r.length
          · obtain ⟨b2, off2, rfl, hb2, hc⟩ := HQ.out.at_ (List.getElem?_eq_getElem hjl)
            rw [← hbel2.cell (p := ⟨b2, _, none⟩) (Nat.lt_of_lt_of_le hb2 hB)] at hc
            have hji : (j : Int) < (r.length : Int) := by omega
            have hji0 : (0 : Int) ≤ (j : Int) := by omega
            by_cases hsz : 100 < (r[j].size : Int)
            · go_wp2_with fail
              go_ret
              exact ⟨⟨false, rfl, fun h => by cases h⟩, hbel2⟩
            · have HSZ := Lib.hid hsz
              go_wp2_with fail
              go_roundw
              case rel => exact ⟨j + 1, hjl, by go_num, Lib.hid (by
                rw [take_snoc r j hjl]
                intro s hs
                rcases List.mem_append.1 hs with hs | hs
                · exact HE.out s hs
                · obtain rfl := List.mem_singleton.1 hs
                  have := HSZ.out
                  omega), hbel2⟩
              case measure => simp [intOf]; omega
          · obtain rfl : j = r.length := by omega
            go_wp2_with fail
            go_roundw
            case rel => exact ⟨k + 1, hlt, by go_num, Lib.hid (by
                rw [take_snoc t k hlt, HRK.out]
                intro s hs
                rcases List.mem_append.1 hs with hs | hs
                · exact HD.out s hs
                · obtain rfl := List.mem_singleton.1 hs
                  have := HE.out
                  rw [List.take_length] at this
                  exact ⟨by omega, this⟩), hbel2⟩
            case measure => simp [intOf]; omega
    · obtain rfl : k = t.length := by omega
      go_wp2_with fail
      go_ret
      refine ⟨⟨true, rfl, fun _ => ⟨by omega, ?_⟩⟩, hbel⟩
      have := HD.out
      rw [List.take_length] at this
      exact this

end Go.Proofs.Ytampofpllijfhaa
