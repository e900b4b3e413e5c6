/-
  Sort of the reference. Nothing is assumed.
-/
import Derived.Test.YtampofpllijfhaaTbSwap
import Derived.Test.YtampofpllijfhaaTbSort
import Derived.Test.YtampofpllijfhaaTbRdrop
import Derived.Sort.Walk0
import Derived.BigRegion
import Derived.Laws.Cover1
namespace Go.Proofs.Ytampofpllijfhaa
open Go.RowKit

theorem passes_len {α : Type} (key : α → List UInt8) (l : List α) : ∀ n, (passes key n l).length = l.length
  | 0 => rfl
  | n + 1 => by rw [passes, passK_len, passes_len key l n]
theorem passes_mem {α : Type} (key : α → List UInt8) (l : List α) (n : Nat) {x : α} (h : x ∈ passes key n l) : x ∈ l := alike_mem key (passes_alike key l n) h
theorem key_lt (k : Nat) (a b : Row) (ha : k < a.length) (hb : k < b.length) : (keyS k b < keyS k a) ↔ (Op.bytesLess a[k].toList b[k].toList = false ∧ (a[k].toList == b[k].toList) = false) := by
  rw [keyS_at ha, keyS_at hb, bytesLess_eq, Lib.toList_data, Lib.toList_data]
  constructor
  · intro h
    refine ⟨decide_eq_false (fun h2 => List.lt_irrefl _ (List.lt_trans h h2)), ?_⟩
    rw [beq_eq_false_iff_ne]
    intro e
    rw [e] at h
    exact List.lt_irrefl _ h
  · rintro ⟨h1, h2⟩
    have h1 := of_decide_eq_false h1
    rw [beq_eq_false_iff_ne] at h2
    rw [List.not_lt] at h1
    rcases Decidable.em (b[k].data.toList < a[k].data.toList) with h | h
    · exact h
    · rw [List.not_lt] at h
      exact absurd (List.le_antisymm h h1) h2

set_option maxRecDepth 100000 in
set_option maxHeartbeats 6400000 in
theorem rSort_any (x : Value) (t : List (List ByteArray)) (i : Int) (w : World) (B : Nat) (hx : HoldsT w (· < B) x t) (hB : B ≤ w.heap.size) (hi : I64 i) :
    Calls Try.prog 32 #[x, .int .i64 i] w fun e w' => RetTE w w' (srtV t i) (locE (chkT t) i (colsT t)) e ∧ Below w.heap.size w w' := by
  have HC := Lib.hid (rchk_any x t w B hx hB)
  have HX := Lib.hid hx
  obtain ⟨oa, ca, rfl, hcap, _⟩ := hx.form
  clear hx
  by_cases hc : chkT t = 0
  · have fc := neq_fT hc
    have hcl := colsT_le hc
    have HK := Lib.hid (fun w1 h => rcols_any (.slice oa t.length ca) t w1 (· < B) h)
    have HI := Lib.hid (fun w => rindex_any i (colsT t) w hi (by omega))
    cases hk : idxO i (colsT t) with
    | none =>
      have hl : locE (chkT t) i (colsT t) = 7 := by unfold locE; rw [if_pos hc]; exact (idx_none hk).2
      have HE : Hid (locE (chkT t) i (colsT t) = 7 ∧ srtV t i = []) := Lib.hid ⟨hl, if_neg (by rw [hl]; decide)⟩
      rw [ridx_none hk] at HI
      obtain ⟨n, hn⟩ : ∃ n, colsT t = n := ⟨_, rfl⟩
      rw [hn] at HK HI HE
      rw [hn]
      clear hc hk hl hn hcl
      go_enter Try.func32, Try.ntmps32
      go_wp2_with fail
      refine HC.out.mono ?_
      rintro e w1 ⟨rfl, hb1⟩
      have HB1 := Lib.hid hb1
      have HK1 := Lib.hid (HK.out w1 (HX.out.later (hb1.mono hB)))
      clear hb1
      go_wp2_with fail
      refine HK1.out.mono ?_
      rintro e w' ⟨rfl, rfl⟩
      go_wp2_with fail
      refine (HI.out _).mono ?_
      rintro e w' ⟨rfl, rfl⟩
      go_wp2_with fail
      go_ret2
      exact ⟨RetTE.nil HE.out.2 HE.out.1.symm, HB1.out⟩
    | some k =>
      have hkl := idxO_lt hk
      have hl : locE (chkT t) i (colsT t) = 0 := by unfold locE; rw [if_pos hc]; exact (idx_some hk).2
      have HE : Hid (locE (chkT t) i (colsT t) = 0 ∧ srtV t i = passes (keyS k) t.length t) := Lib.hid ⟨hl, by unfold srtV; rw [if_pos hl, hk]; rfl⟩
      have h8 := (chkT_rows hc).1
      have HR8 : Hid (∀ r ∈ t, r.length ≤ 100) := Lib.hid (fun r hr => by have := ((chkT_rows hc).2 r hr).2.2.1; omega)
      have HRN : Hid (∀ m, ∀ r ∈ passes (keyS k) m t, r.length = colsT t) := Lib.hid (fun m r hr => ((chkT_rows hc).2 r (passes_mem _ _ _ hr)).1)
      rw [ridx_some hk] at HI
      obtain ⟨n, hn⟩ : ∃ n, colsT t = n := ⟨_, rfl⟩
      rw [hn] at HK HI HE hkl hcl HRN
      rw [hn]
      have hki : ¬ (k : Int) < 0 := by omega
      clear hk hl hc hn
      go_enter Try.func32, Try.ntmps32
      go_wp2_with fail
      refine HC.out.mono ?_
      rintro e w1 ⟨rfl, hb1⟩
      have HB1 := Lib.hid hb1
      have HK1 := Lib.hid (HK.out w1 (HX.out.later (hb1.mono hB)))
      have HTB := Lib.hid (rtable_any _ t w1 B (HX.out.later (hb1.mono hB)) (Nat.le_trans hB hb1.size) (by omega) HR8.out)
      clear hb1
      go_wp2_with fail
      refine HK1.out.mono ?_
      rintro e w' ⟨rfl, rfl⟩
      go_wp2_with fail
      refine (HI.out _).mono ?_
      rintro e w' ⟨rfl, rfl⟩
      go_wp2_with fail
      refine HTB.out.mono ?_
      rintro e w2 ⟨⟨v, rfl, ho⟩, hb2⟩
      have HBB : Hid (Below w.heap.size w w2) := Lib.hid (HB1.out.trans (hb2.mono HB1.out.size))
      have HA0 : Hid (AccD w2 w.heap.size v (passes (keyS k) 0 t)) := Lib.hid (ho.weak HB1.out.size : AccD w2 w.heap.size v t)
      obtain ⟨ov, cv, rfl⟩ : ∃ ov cv, v = .slice ov t.length cv := ho.form
      clear ho hb2
      go_wp2_with fail
      go_loopw [9] (fun j wr => ∃ m : Nat, m ≤ t.length ∧ j = .int .i64 m ∧ Hid (AccD wr w.heap.size (.slice ov t.length cv) (passes (keyS k) m t)) ∧ Hid (Below w.heap.size w wr)) (fun j _ => t.length - (intOf j).toNat)
      case atStart => exact ⟨0, Nat.zero_le _, rfl, HA0, HBB⟩
      case round =>
        obtain ⟨m, hm, rfl, HA, HBE⟩ := hrel
        obtain ⟨wo, hwo⟩ : ∃ wo : World, wo = wr := ⟨_, rfl⟩
        subst hwo
        by_cases hlt : m < t.length
        · have HPL : Hid ((passes (keyS k) m t).length = t.length) := Lib.hid (passes_len _ _ _)
          have HPR : Hid (∀ r ∈ passes (keyS k) m t, r.length = n) := Lib.hid (HRN.out m)
          have HNX : Hid (passes (keyS k) (m + 1) t = passK (keyS k) (passes (keyS k) m t)) := Lib.hid rfl
          obtain ⟨P0, hP0⟩ : ∃ P0, passes (keyS k) m t = P0 := ⟨_, rfl⟩
          rw [hP0] at HA HPL HPR HNX
          clear hP0
          go_wp2_with fail
          go_loopw [10] (fun j wr => ∃ (p : Nat) (A l : Tab), p < t.length ∧ j = .int .i64 ((p + 1 : Nat) : Int) ∧ Hid (A.length = p ∧ l.length + p = t.length ∧ A ++ passK (keyS k) l = passK (keyS k) P0 ∧ ∀ r ∈ l, r.length = n) ∧ Hid (AccD wr w.heap.size (.slice ov t.length cv) (A ++ l)) ∧ Hid (Below w.heap.size w wr)) (fun j _ => t.length + 1 - (intOf j).toNat)
          case atStart => exact ⟨0, [], P0, by omega, by simp, Lib.hid ⟨rfl, HPL.out, rfl, HPR.out⟩, HA, HBE⟩
          case round =>
            obtain ⟨p, A, l, hpt, rfl, HF, HA2, HBE2⟩ := hrel
            obtain ⟨i, hi⟩ : ∃ i, p + 1 = i := ⟨_, rfl⟩
            have HPI := Lib.hid hi
            rw [hi] at ⊢
            have hpi : (i : Int) - 1 = (p : Int) := by omega
            have hii0 : (0 : Int) ≤ (i : Int) := by omega
            have hpp0 : (0 : Int) ≤ (p : Int) := by omega
            have hpp1 : (p : Int) < (t.length : Int) := by omega
            have hwr : IntKind.i64.wrap (p : Int) = (p : Int) := IntWalk.i64_in _ (by omega)
            clear hi
            by_cases hin : i < t.length
            · have hii1 : (i : Int) < (t.length : Int) := by omega
              obtain ⟨a, b, l', rfl⟩ : ∃ a b l', l = a :: b :: l' := by
                have h1 := HF.out.2.1
                have h2 := HPI.out
                match l, h1 with
                | [], h1 => simp at h1; omega
                | [a], h1 => simp at h1; omega
                | a :: b :: l', _ => exact ⟨a, b, l', rfl⟩
              have ha : a.length = n := HF.out.2.2.2 a (List.mem_cons_self ..)
              have hb : b.length = n := HF.out.2.2.2 b (List.mem_cons_of_mem _ (List.mem_cons_self ..))
              have HN : Hid (∀ (A' : Tab) (q : Row) (l2 : Tab), (A' ++ passK (keyS k) (q :: l2) = passK (keyS k) P0) → A'.length = i → l2.length = l'.length → (∀ r ∈ q :: l2, r.length = n) → (A'.length = i ∧ (q :: l2).length + i = t.length ∧ A' ++ passK (keyS k) (q :: l2) = passK (keyS k) P0 ∧ ∀ r ∈ q :: l2, r.length = n)) := Lib.hid (fun A' q l2 h1 h2 h3 h4 => ⟨h2, by
                have h5 := HF.out.2.1
                have h6 := HPI.out
                simp only [List.length_cons] at h5 ⊢
                omega, h1, h4⟩)
              have HAL : Hid (A.length = p) := Lib.hid HF.out.1
              obtain ⟨gv, o1, c1, o2, c2, rfl, hgb, hgl, m1, m2, hs1, hs2, z1, z2, hsw, _⟩ := HA2.out.swap
              rw [HAL.out] at m1 m2 z1 z2 hsw
              rw [HPI.out] at m2 z2 hsw
              have hka : k < a.length := by omega
              have hkb : k < b.length := by omega
              have HKL := Lib.hid (key_lt k a b hka hkb)
              obtain ⟨b1, f1, rfl, _, s1⟩ := hs1.at_ (List.getElem?_eq_getElem hka)
              obtain ⟨b2, f2, rfl, _, s2⟩ := hs2.at_ (List.getElem?_eq_getElem hkb)
              obtain ⟨S1, hS1⟩ : ∃ S1, a[k] = S1 := ⟨_, rfl⟩
              obtain ⟨S2, hS2⟩ : ∃ S2, b[k] = S2 := ⟨_, rfl⟩
              rw [hS1] at s1 HKL
              rw [hS2] at s2 HKL
              have hkn : (k : Int) < (n : Int) := by omega
              have hk0 : (0 : Int) ≤ (k : Int) := by omega
              have HAN : Hid (a.length = n ∧ b.length = n) := Lib.hid ⟨ha, hb⟩
              rw [ha] at m1 hsw
              rw [hb] at m2 hsw
              have HSW := Lib.hid hsw
              clear hsw hs1 hs2 hS1 hS2 ha hb hka hkb
              by_cases hgt : keyS k b < keyS k a
              · have HPK : Hid (passK (keyS k) (a :: b :: l') = b :: passK (keyS k) (a :: l')) := Lib.hid (by rw [passK, if_pos hgt])
                obtain ⟨hl, he⟩ := HKL.out.1 hgt
                have HG := Lib.hid hgt
                clear hgt
                go_wp2_with fail
                go_region
                go_wp2_with fail
                go_region
                all_goals
                  go_wp2_with fail
                  go_roundw
                  case rel => exact ⟨i, A ++ [b], a :: l', hin, by go_num, Lib.hid (HN.out _ _ _ (by rw [List.append_assoc, ← HF.out.2.2.1, HPK.out]; rfl) (by rw [List.length_append, HAL.out, ← HPI.out]; rfl) rfl (fun r hr => HF.out.2.2.2 r (by rcases List.mem_cons.1 hr with rfl | hr <;> simp [*]))), Lib.hid (by rw [List.append_assoc]; exact HSW.out), Lib.hid (((HBE2.out.setCell (p := ⟨gv, p, none⟩) hgb _).setCell (p := ⟨gv, i, none⟩) hgb _).drew.drew)⟩
                  case measure => simp [intOf]; omega
              · have HPK : Hid (passK (keyS k) (a :: b :: l') = a :: passK (keyS k) (b :: l')) := Lib.hid (by rw [passK, if_neg hgt])
                have HREL : Hid ((A ++ [a]).length = i ∧ (b :: l').length + i = t.length ∧ (A ++ [a]) ++ passK (keyS k) (b :: l') = passK (keyS k) P0 ∧ ∀ r ∈ b :: l', r.length = n) := Lib.hid (HN.out _ _ _ (by rw [List.append_assoc, ← HF.out.2.2.1, HPK.out]; rfl) (by rw [List.length_append, HAL.out, ← HPI.out]; rfl) rfl (fun r hr => HF.out.2.2.2 r (List.mem_cons_of_mem _ hr)))
                have hng : Op.bytesLess S1.toList S2.toList = true ∨ (Op.bytesLess S1.toList S2.toList = false ∧ (S1.toList == S2.toList) = true) := by
                  cases h1 : Op.bytesLess S1.toList S2.toList with
                  | true => exact .inl rfl
                  | false => cases h2 : (S1.toList == S2.toList) with
                    | true => exact .inr ⟨rfl, rfl⟩
                    | false => exact absurd (HKL.out.2 ⟨h1, h2⟩) hgt
                have HG := Lib.hid hgt
                clear hgt
                rcases hng with hl | ⟨hl, he⟩
                all_goals
                  go_wp2_with fail
                  go_region
                  go_wp2_with fail
                  go_roundw
                  case rel => exact ⟨i, A ++ [a], b :: l', hin, by go_num, HREL, Lib.hid (by rw [List.append_assoc]; exact HA2.out), Lib.hid HBE2.out.drew⟩
                  case measure => simp [intOf]; omega
            · have HEND : Hid (A ++ l = passes (keyS k) (m + 1) t) := Lib.hid (by
                obtain ⟨h1, h2, h3, h4⟩ := HF.out
                have h5 := HPI.out
                match l, h2, h3 with
                | [], h2, h3 => simp at h2; omega
                | [a], h2, h3 => rw [HNX.out, ← h3, passK]
                | a :: b :: l', h2, h3 => simp at h2; omega)
              rw [HEND.out] at HA2
              go_wp2_with fail
              go_roundw
              case rel => exact ⟨m + 1, hlt, by go_num, HA2, HBE2⟩
              case measure => simp [intOf]; omega
        · obtain rfl : m = t.length := by omega
          go_wp2_with fail
          go_ret2
          exact ⟨RetTE.mk HA.out.toT.holds HE.out.2.symm HE.out.1.symm, HBE.out⟩
  · have fc := neq_tT hc
    have hl : locE (chkT t) i (colsT t) = chkT t := if_neg hc
    have HE : Hid (locE (chkT t) i (colsT t) = chkT t ∧ srtV t i = []) := Lib.hid ⟨hl, if_neg (by rw [hl]; exact hc)⟩
    clear hc hl
    go_enter Try.func32, Try.ntmps32
    go_wp2_with fail
    refine HC.out.mono ?_
    rintro e w1 ⟨rfl, hb1⟩
    go_wp2_with fail
    go_ret2
    exact ⟨RetTE.nil HE.out.2 HE.out.1.symm, hb1⟩

end Go.Proofs.Ytampofpllijfhaa
