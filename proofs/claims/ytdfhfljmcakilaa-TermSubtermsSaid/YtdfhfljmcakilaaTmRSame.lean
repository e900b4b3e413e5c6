/-
  Same of the reference. Nothing is assumed.
-/
import Derived.Test.YtdfhfljmcakilaaTmRSub
namespace Go.Proofs.Ytdfhfljmcakilaa
open Go.RowKit

theorem keys_ne {l m : List T} {j : Nat} {a b : T} (h : l[j]? = some a) (h' : m[j]? = some b) (hc : a.cmp b ≠ 0) : l.map T.key ≠ m.map T.key := fun e => by
  have h1 : (l.map T.key)[j]? = some a.key := by rw [List.getElem?_map, h]; rfl
  have h2 : (m.map T.key)[j]? = some b.key := by rw [List.getElem?_map, h']; rfl
  rw [e, h2] at h1
  exact hc (T.cmp_of_key (Option.some.inj h1).symm)
theorem keys_eq {l m : List T} (hl : l.length = m.length) (h : ∀ (j : Nat) a b, l[j]? = some a → m[j]? = some b → a.cmp b = 0) : l.map T.key = m.map T.key := by
  refine List.ext_getElem (by simp [hl]) fun i h1 h2 => ?_
  simp at h1 h2
  rw [List.getElem_map, List.getElem_map]
  exact T.cmp_zero (h i _ _ (List.getElem?_eq_getElem h1) (List.getElem?_eq_getElem h2))

set_option maxRecDepth 100000 in
set_option maxHeartbeats 3200000 in
theorem rsame_any (l m : List T) (x y : Value) (w : World) (B : Nat) (hx : Rep w B x l) (hy : Rep w B y m) (hB : B ≤ w.heap.size) (hl : ∀ t, t ∈ l → t.size ≤ 900) (hm : ∀ t, t ∈ m → t.size ≤ 900) (hll : l.length ≤ 900) :
    Calls Try.prog 25 #[x, y] w fun e w' => e = .returned (.bool (decide (l.map T.key = m.map T.key))) ∧ Below w.heap.size w w' := by
  obtain ⟨ox, cx, rfl, _, _, hex⟩ := hx.slice
  obtain ⟨oy, cy, rfl, _, _, hey⟩ := hy.slice
  have HEX := Lib.hid hex
  have HEY := Lib.hid hey
  have HML := Lib.hid hl
  have HMM := Lib.hid hm
  clear hx hy hex hey hl hm
  by_cases hlen : l.length = m.length
  case neg =>
    have HN : Hid (decide (l.map T.key = m.map T.key) = false) := Lib.hid (decide_eq_false fun e => hlen (by have := congrArg List.length e; simpa using this))
    have h1 : ((l.length : Int) != (m.length : Int)) = true := by rw [bne_iff_ne]; omega
    clear hlen
    go_enter Try.func25, Try.ntmps25
    go_wp2_with fail
    go_ret
    exact ⟨by rw [HN.out]; rfl, Below.refl _ _⟩
  have HLN := Lib.hid hlen
  have h1 : ((l.length : Int) != (m.length : Int)) = false := by rw [bne_eq_false_iff_eq]; omega
  have hmm : (m.length : Int) = (l.length : Int) := by omega
  clear hlen
  go_enter Try.func25, Try.ntmps25
  go_wp2_with fail
  go_loopw [5] (fun i wr => ∃ (k : Nat), k ≤ l.length ∧ i = .int .i64 k ∧ Hid (∀ (j : Nat) a b, j < k → l[j]? = some a → m[j]? = some b → a.cmp b = 0) ∧ Hid (Below w.heap.size w wr)) (fun i _ => l.length - (intOf i).toNat)
  case atStart => exact ⟨0, Nat.zero_le _, rfl, Lib.hid (fun j a b h => by omega), Lib.hid (Below.refl _ _)⟩
  case round =>
    obtain ⟨k, hk, rfl, HA, HBR⟩ := hrel
    by_cases hlt : k < l.length
    · have hlm : k < m.length := by rw [← HLN.out]; exact hlt
      obtain ⟨b, off, oe, ce, rfl, hb, c0, c1, hr⟩ := HEX.out k _ (List.getElem?_eq_getElem hlt)
      obtain ⟨b2, off2, oe2, ce2, rfl, hb2, d0, d1, hr2⟩ := HEY.out k _ (List.getElem?_eq_getElem hlm)
      have hbw : b < w.heap.size := Nat.lt_of_lt_of_le hb hB
      have hbw2 : b2 < w.heap.size := Nat.lt_of_lt_of_le hb2 hB
      have HLX := Lib.hid (List.getElem?_eq_getElem hlt)
      have HMX := Lib.hid (List.getElem?_eq_getElem hlm)
      have q0 : (0 : Int) ≤ (k : Int) := by omega
      have q1 : (k : Int) < (l.length : Int) := by omega
      have q2 : (k : Int) < (m.length : Int) := by omega
      have s1 := HML.out _ (List.getElem_mem hlt)
      have s2 := HMM.out _ (List.getElem_mem hlm)
      have HKEEP : Hid (∀ w', Below w.heap.size w w' → w'.cell? ⟨b, off + k * 2, none⟩ = some (.int .i64 l[k].r) ∧ w'.cell? ⟨b, off + k * 2 + 1, none⟩ = some (.slice oe l[k].l.length ce) ∧ w'.cell? ⟨b2, off2 + k * 2, none⟩ = some (.int .i64 m[k].r) ∧ w'.cell? ⟨b2, off2 + k * 2 + 1, none⟩ = some (.slice oe2 m[k].l.length ce2)) :=
        Lib.hid (fun w' hb' => ⟨(hb'.cell (p := ⟨b, _, none⟩) hbw).trans c0, (hb'.cell (p := ⟨b, _, none⟩) hbw).trans c1, (hb'.cell (p := ⟨b2, _, none⟩) hbw2).trans d0, (hb'.cell (p := ⟨b2, _, none⟩) hbw2).trans d1⟩)
      have HC : Hid (∀ w', Below w.heap.size w w' → Calls Try.prog 18 #[.agg #[.int .i64 l[k].r, .slice oe l[k].l.length ce], .agg #[.int .i64 m[k].r, .slice oe2 m[k].l.length ce2]] w' fun e w2 => e = .returned (.int .i64 (l[k].cmp m[k])) ∧ Below w'.heap.size w' w2) :=
        Lib.hid (fun w' hb' => rcompare_any l[k] m[k] _ _ w' B (hr.later (hb'.mono hB)) (hr2.later (hb'.mono hB)) (Nat.le_trans hB hb'.size) s1 s2)
      clear c0 c1 d0 d1 hr hr2
      obtain ⟨ca0, ca1, cb0, cb1⟩ := HKEEP.out wr HBR.out
      have h0 : Below w.heap.size w wr.drew := HBR.out.drew
      go_wp2_with fail
      generalize hcv : l[k].cmp m[k] = cv at HC
      have HCV := Lib.hid hcv
      generalize l[k] = lk at *
      generalize m[k] = mk at *
      clear hcv
      go_region_held_law (fun w' => w'.cell? ⟨b, off + k * 2, none⟩ = some (.int .i64 lk.r) ∧ w'.cell? ⟨b, off + k * 2 + 1, none⟩ = some (.slice oe lk.l.length ce) ∧ w'.cell? ⟨b2, off2 + k * 2, none⟩ = some (.int .i64 mk.r) ∧ w'.cell? ⟨b2, off2 + k * 2 + 1, none⟩ = some (.slice oe2 mk.l.length ce2))
        (exact HKEEP.out _ (by assumption))
        (first
          | (go_simp; go_at_call 18; (with_reducible refine (HC.out _ (by assumption)).mono ?_); rintro e w3 ⟨rfl, hb3⟩
             have h3 : Below w.heap.size w w3 := h0.trans (hb3.mono h0.size)
             clear h0 hb3))
      have H3 := Lib.hid h3
      clear h3
      by_cases hc : cv = 0
      · have hd : (cv != 0) = false := by rw [hc]; rfl
        have HA2 : Hid (∀ (j : Nat) a b, j < k + 1 → l[j]? = some a → m[j]? = some b → a.cmp b = 0) := Lib.hid fun j a b hj ha hb' => by
          by_cases e : j = k
          · subst e
            rw [HLX.out] at ha
            rw [HMX.out] at hb'
            cases ha
            cases hb'
            exact HCV.out.trans hc
          · exact HA.out j a b (by omega) ha hb'
        have HCC := Lib.hid hc
        clear hc
        go_wp2_with fail
        go_roundw
        case rel => exact ⟨k + 1, hlt, by go_num, HA2, H3⟩
        case measure => simp [intOf]; omega
      · have hd : (cv != 0) = true := bne_iff_ne.2 hc
        have HN : Hid (decide (l.map T.key = m.map T.key) = false) := Lib.hid (decide_eq_false (keys_ne HLX.out HMX.out (by rw [HCV.out]; exact hc)))
        clear hc
        go_wp2_with fail
        go_ret
        exact ⟨by rw [HN.out]; rfl, H3.out⟩
    · have hkk : k = l.length := by omega
      have HY : Hid (decide (l.map T.key = m.map T.key) = true) := Lib.hid (decide_eq_true (keys_eq HLN.out fun j a b ha hb => HA.out j a b (by have := (List.getElem?_eq_some_iff.1 ha).1; omega) ha hb))
      have HQ := Lib.hid hkk
      clear hkk
      go_wp2_with fail
      go_ret
      exact ⟨by rw [HY.out]; rfl, HBR.out⟩

end Go.Proofs.Ytdfhfljmcakilaa
