/-
  isProper of package pattern. Nothing is assumed.
-/
import Derived.Test.YtaipaddfehpmgaaDoorPaText
import Derived.BigQuiet
import Derived.Deep.RegionHeldLaw
namespace Go.Proofs.YtaipaddfehpmgaaDoor
open Go.RowKit

set_option maxRecDepth 100000 in
theorem mayHave_any (k : Int) (n : Nat) (hn : n ≤ 1000000) (w : World) :
    Calls Tryd.prog 58 #[.int .i64 k, .int .i64 (n : Int)] w fun e w' => e = .returned (.bool (mayH k n)) ∧ w' = w := by
  unfold mayH
  have e0 : ((n : Int) == 0) = decide (n = 0) := by
    by_cases h : n = 0
    · simp [h]
    · have : ¬ (n : Int) = 0 := by omega
      simp [h]
  have e1 : decide (n = 1) = decide ((n : Int) = 1) := by
    by_cases h : n = 1
    · simp [h]
    · have : ¬ (n : Int) = 1 := by omega
      simp [h, this]
  have e2 : decide (2 ≤ n) = decide ((n : Int) ≥ 2) := by
    by_cases h : 2 ≤ n
    · have : (n : Int) ≥ 2 := by omega
      simp [h, this]
    · have : ¬ (n : Int) ≥ 2 := by omega
      simp [h, this]
  rw [e1, e2]
  clear e1 e2
  by_cases h1 : k = 1
  · subst h1
    go_enter Tryd.func58, Tryd.ntmps58
    go_wp2_with fail
    go_ret
    exact ⟨rfl, rfl⟩
  by_cases h2 : k = 2
  · subst h2
    go_enter Tryd.func58, Tryd.ntmps58
    go_wp2_with fail
    go_ret
    exact ⟨rfl, rfl⟩
  by_cases h3 : k = 3
  · subst h3
    go_enter Tryd.func58, Tryd.ntmps58
    go_wp2_with fail
    go_ret
    exact ⟨rfl, rfl⟩
  by_cases h6 : k = 6
  · subst h6
    go_enter Tryd.func58, Tryd.ntmps58
    go_wp2_with fail
    go_ret
    exact ⟨rfl, rfl⟩
  by_cases h4 : k = 4
  · subst h4
    go_enter Tryd.func58, Tryd.ntmps58
    go_wp2_with fail
    go_ret
    exact ⟨rfl, rfl⟩
  by_cases h5 : k = 5
  · subst h5
    go_enter Tryd.func58, Tryd.ntmps58
    go_wp2_with fail
    go_ret
    exact ⟨rfl, rfl⟩
  · rw [if_neg (by omega), if_neg h6, if_neg (by omega)]
    go_enter Tryd.func58, Tryd.ntmps58
    go_wp2_with fail
    go_ret
    exact ⟨rfl, rfl⟩

/-- The outcome of isProper at a tree. -/
def PropOk (v : PT) : Prop := ∀ (n : Nat) (w : World) (N : Nat) (oe : Option Addr) (ce : Nat), v.dep ≤ n → n ≤ 65536 → AL w → HT w (· < N) (.slice oe v.l.length ce) v.l → N ≤ w.heap.size →
    Calls Tryd.prog 38 #[v.val (.slice oe v.l.length ce), .int .i64 (n : Int)] w fun e w' => e = .returned (.bool v.prop) ∧ Below w.heap.size w w'

set_option maxRecDepth 100000 in
set_option maxHeartbeats 3200000 in
theorem proper_step (v : PT) (ih : ∀ x, x ∈ v.l → PropOk x) : PropOk v := by
  intro n w N oe ce hd hn hA hT hN
  obtain ⟨w1, hw1⟩ : ∃ w1, w1 = (w.alloc (.cells #[.int .i64 v.k, .int .u64 v.s.a, .int .u64 v.s.b, .int .u64 v.s.c, .int .u64 v.s.d, (.slice oe v.l.length ce)] 36)).alloc (.cells #[.int .u64 v.s.a, .int .u64 v.s.b, .int .u64 v.s.c, .int .u64 v.s.d] 121) := ⟨_, rfl⟩
  have HW1 := Lib.hid hw1
  have hs1 : w1.heap.size = w.heap.size + 2 := by rw [hw1]; simp
  have hb1 : Below w.heap.size w w1 := by rw [hw1]; exact below2 _ _ _
  have hX1 : Box6 w1 w.heap.size (.int .i64 v.k) (.int .u64 v.s.a) (.int .u64 v.s.b) (.int .u64 v.s.c) (.int .u64 v.s.d) (.slice oe v.l.length ce) := by
    rw [hw1]
    exact (Box6.new _ _ _ _ _ _ _ rfl).later (below1 _ _) (by simp)
  have hS1 : SB w1 (w.heap.size + 1) v.s := by
    rw [hw1]
    show ((w.heap.push _).push _)[w.heap.size + 1]? = some _
    rw [Array.getElem?_push, if_pos (by simp)]
  have HX1 := Lib.hid hX1
  have HS1 := Lib.hid hS1
  have HB1 := Lib.hid hb1
  have HA := Lib.hid hA
  have HT0 := Lib.hid hT
  have HIH := Lib.hid ih
  obtain ⟨hl1, hl2⟩ := HT.len hT
  have HP : Hid (v.prop = (((v.s.isZ != decide (v.k = 3)) && (v.s.without S4.alpha).isZ && mayH v.k v.l.length) && v.l.all PT.prop)) := Lib.hid (by rw [PT.prop_eq, PT.props_eq]; rfl)
  have HD : Hid (∀ x, x ∈ v.l → x.dep + 1 ≤ n) := Lib.hid (fun x hx => by have := PT.deps_mem hx; rw [PT.dep_eq] at hd; omega)
  have HD0 : Hid (v.l ≠ [] → 0 < n) := Lib.hid (fun h => by
    obtain ⟨x, hx⟩ := List.exists_mem_of_ne_nil _ h
    have := HD.out x hx
    omega)
  have HAW : Hid (∀ V, Below w1.heap.size w1 V → AL V) := Lib.hid (fun V hV => (HA.out.later HB1.out).later hV)
  unfold AL at HAW
  generalize hkk : v.k = kk at *
  generalize S4.alpha = alp at *
  have HC : Hid (∀ V, Below w1.heap.size w1 V → V.cell? ⟨w.heap.size, 0, none⟩ = some (.int .i64 kk) ∧ V.cell? ⟨w.heap.size + 1, 0, none⟩ = some (.int .u64 v.s.a) ∧ V.cell? ⟨w.heap.size + 1, 1, none⟩ = some (.int .u64 v.s.b) ∧ V.cell? ⟨w.heap.size + 1, 2, none⟩ = some (.int .u64 v.s.c) ∧ V.cell? ⟨w.heap.size + 1, 3, none⟩ = some (.int .u64 v.s.d) ∧ V.cell? ⟨0, 0, none⟩ = some (.int .u64 alp.a) ∧ V.cell? ⟨0, 1, none⟩ = some (.int .u64 alp.b) ∧ V.cell? ⟨0, 2, none⟩ = some (.int .u64 alp.c) ∧ V.cell? ⟨0, 3, none⟩ = some (.int .u64 alp.d)) := Lib.hid (fun V hV => by
    obtain ⟨q0, -⟩ := HX1.out.later hV (by omega)
    have hS : SB V (w.heap.size + 1) v.s := (hV.block _ (by omega)).trans HS1.out
    obtain ⟨s0, s1, s2, s3⟩ := hS.cells
    obtain ⟨a0, a1, a2, a3⟩ := HAW.out V hV
    exact ⟨q0, s0, s1, s2, s3, a0, a1, a2, a3⟩)
  have HE1 := Lib.hid (isEmpty_any v.s w1.drew)
  have HE2 := Lib.hid (fun V => isEmpty_any (v.s.without alp) V)
  have HWo := Lib.hid (fun V => without_any v.s alp V)
  clear hw1 hb1 hX1 hS1 hA hT ih hd
  unfold S4.val at HE1 HE2 HWo
  unfold PT.val
  rw [hkk]
  generalize v.s.isZ = zz at *
  by_cases k3 : kk = 3
  · subst k3
    cases zz
    · skip
      obtain ⟨b0, b1, b2, b3, b4, b5, b6, b7, b8⟩ := HC.out w1.drew (Below.refl _ _).drew
      go_enter Tryd.func38, Tryd.ntmps38
      go_wp2_with fail
      rw [← HW1.out]
      go_region_held_law (fun V => V.cell? ⟨w.heap.size, 0, none⟩ = some (.int .i64 3) ∧ V.cell? ⟨w.heap.size + 1, 0, none⟩ = some (.int .u64 v.s.a) ∧ V.cell? ⟨w.heap.size + 1, 1, none⟩ = some (.int .u64 v.s.b) ∧ V.cell? ⟨w.heap.size + 1, 2, none⟩ = some (.int .u64 v.s.c) ∧ V.cell? ⟨w.heap.size + 1, 3, none⟩ = some (.int .u64 v.s.d) ∧ V.cell? ⟨0, 0, none⟩ = some (.int .u64 alp.a) ∧ V.cell? ⟨0, 1, none⟩ = some (.int .u64 alp.b) ∧ V.cell? ⟨0, 2, none⟩ = some (.int .u64 alp.c) ∧ V.cell? ⟨0, 3, none⟩ = some (.int .u64 alp.d)) (first | exact ⟨b0, b1, b2, b3, b4, b5, b6, b7, b8⟩ | exact k5 | exact k6 | exact k7) (first
        | (go_simp; go_at_call 56; refine HE1.out.mono ?_; rintro e w5 ⟨rfl, hb5⟩
           have hq5 : Below w1.heap.size w1 w5 := (Below.refl _ _).drew.trans hb5
           have k5 := HC.out w5 hq5
           have HB5 := Lib.hid hq5
           clear hb5 hq5
           dsimp only)
        | (go_simp; go_at_call 57; refine (HWo.out w5).mono ?_; rintro e w6 ⟨rfl, hb6⟩
           have hq6 : Below w1.heap.size w1 w6 := HB5.out.trans (hb6.mono HB5.out.size)
           have k6 := HC.out w6 hq6
           have HB6 := Lib.hid hq6
           clear hb6 hq6
           dsimp only)
        | (go_simp; go_at_call 56; refine (HE2.out w6).mono ?_; rintro e w7 ⟨rfl, hb7⟩
           have hq7 : Below w1.heap.size w1 w7 := HB6.out.trans (hb7.mono HB6.out.size)
           have k7 := HC.out w7 hq7
           have HB7 := Lib.hid hq7
           clear hb7 hq7
           try dsimp only))
      all_goals
        clear k5 k6 k7 b0 b1 b2 b3 b4 b5 b6 b7 b8 HE1 HE2 HWo
        have hs7 : w.heap.size + 2 ≤ w7.heap.size := by have := HB7.out.size; omega
        have HBa : Hid (Below w.heap.size w w7) := Lib.hid (HB1.out.trans (HB7.out.mono (by omega)))
        generalize hzq : (v.s.without alp).isZ = zq at *
        cases zq
        · have HPF : Hid (v.prop = false) := Lib.hid (by rw [HP.out]; simp)
          go_wp2_with fail
          go_ret
          exact ⟨by rw [HPF.out]; rfl, HBa.out⟩
        · have HP2 : Hid (v.prop = (mayH 3 v.l.length && v.l.all PT.prop)) := Lib.hid (by rw [HP.out]; simp)
          have HX7 := HX1.out.later HB7.out (by omega)
          obtain ⟨x0, x1, x2, x3, x4, x5, -⟩ := HX7
          have HMay := Lib.hid (fun V => mayHave_any 3 v.l.length hl2 V)
          cases hmh : mayH 3 v.l.length
          · have HPF : Hid (v.prop = false) := Lib.hid (by rw [HP2.out, hmh]; rfl)
            rw [hmh] at HMay
            clear hmh
            go_wp2_with fail
            refine (HMay.out w7).mono ?_
            rintro e w8 ⟨rfl, h9⟩; subst w8
            go_wp2_with fail
            go_ret
            exact ⟨by rw [HPF.out]; rfl, HBa.out⟩
          · have HP3 : Hid (v.prop = v.l.all PT.prop) := Lib.hid (by rw [HP2.out, hmh]; rfl)
            rw [hmh] at HMay
            have hd0 : (0 : Int) < (v.l.length : Int) → ¬ ((n : Int) = 0) := fun h => by
              have := HD0.out (fun e => by rw [e] at h; simp at h)
              omega
            have hd1 : ((0 : Int) < (v.l.length : Int) ∧ (n : Int) ≠ 0) ∨ ¬ ((0 : Int) < (v.l.length : Int)) := by
              by_cases h : (0 : Int) < (v.l.length : Int)
              · exact .inl ⟨h, hd0 h⟩
              · exact .inr h
            clear hmh hd0
            have HTL : Hid (HT w7 (· < N) (.slice oe v.l.length ce) v.l) := Lib.hid (HT0.out.later (fun _ h => h) fun b hb o => HBa.out.cell (p := ⟨b, o, none⟩) (Nat.lt_of_lt_of_le hb hN))
            rcases hd1 with ⟨hd1, hd2⟩ | hd1
            · have hd1g : (v.l.length : Int) > 0 := hd1
              have hn0 : ((n : Int) == 0) = false := by rw [beq_eq_false_iff_ne]; exact hd2
              go_wp2_with fail
              refine (HMay.out w7).mono ?_
              rintro e w8 ⟨rfl, h9⟩; subst w8
              go_wp2_with fail
              clear x0 x1 x2 x3 x4 x5 HMay
              go_loopw [43] (fun u wr => ∃ i : Nat, u = .int .i64 (i : Int) ∧ i ≤ v.l.length ∧ Hid ((v.l.take i).all PT.prop = true) ∧ Hid (HT wr (· < N) (.slice oe v.l.length ce) v.l) ∧ Hid (Below w.heap.size w wr) ∧ w.heap.size ≤ wr.heap.size) (fun u _ => v.l.length - (intOf u).toNat)
              case atStart => exact ⟨0, rfl, Nat.zero_le _, Lib.hid rfl, HTL, HBa, by omega⟩
              case round =>
                obtain ⟨i, rfl, hi, HAl, HTr, HBr, hsr⟩ := hrel
                clear HTL HBa
                by_cases hlt : i < v.l.length
                · have hltI : (i : Int) < (v.l.length : Int) := by omega
                  have hi0 : (0 : Int) ≤ (i : Int) := by omega
                  have hwi : IntKind.i64.wrap ((i : Int) + 1) = ((i + 1 : Nat) : Int) := by rw [IntWalk.i64_in _ (by omega)]; omega
                  obtain ⟨x, hx⟩ : ∃ x, v.l[i]? = some x := ⟨_, List.getElem?_eq_getElem hlt⟩
                  have hxm := List.mem_of_getElem? hx
                  have hxd := HD.out x hxm
                  have hwn : IntKind.i64.wrap ((n : Int) - 1) = ((n - 1 : Nat) : Int) := by rw [IntWalk.i64_in _ (by omega)]; omega
                  obtain ⟨b, off, ox, cx, rfl, hb, hTx, q0, q1, q2, q3, q4, q5⟩ := HT.at_ HTr.out hx
                  have hb2 := below1 wr (.cells #[.int .i64 x.k, .int .u64 x.s.a, .int .u64 x.s.b, .int .u64 x.s.c, .int .u64 x.s.d, .slice ox x.l.length cx] 36)
                  have HTx2 : HT (wr.alloc (.cells #[.int .i64 x.k, .int .u64 x.s.a, .int .u64 x.s.b, .int .u64 x.s.c, .int .u64 x.s.d, .slice ox x.l.length cx] 36)) (· < N) (.slice ox x.l.length cx) x.l := hTx.later (fun _ h => h) (fun b hb o => hb2.cell (p := ⟨b, o, none⟩) (by show b < wr.heap.size; omega))
                  have HC := Lib.hid (HIH.out x hxm (n - 1) _ N ox cx (by omega) (by omega) ((HA.out.later HBr.out).later hb2) HTx2 (by rw [World.size_alloc]; omega))
                  unfold PT.val at HC
                  have htk : v.l.take (i + 1) = v.l.take i ++ [x] := by rw [List.take_add_one, hx]; rfl
                  cases hxp : x.prop
                  · rw [hxp] at HC
                    have HPF : Hid (v.prop = false) := Lib.hid (by
                      rw [HP3.out, List.all_eq_false]
                      exact ⟨x, hxm, by rw [hxp]; decide⟩)
                    clear htk hxp hx hxm hTx HTx2
                    go_wp2_with fail
                    refine HC.out.mono ?_
                    rintro e w5 ⟨rfl, hb5⟩
                    have HB5 := Lib.hid (HBr.out.trans ((hb2.mono hsr).trans (hb5.mono (by rw [World.size_alloc]; omega))))
                    clear hb5 hb2
                    go_wp2_with fail
                    go_ret
                    exact ⟨by rw [HPF.out]; rfl, HB5.out⟩
                  · rw [hxp] at HC
                    have HA2 : Hid ((v.l.take (i + 1)).all PT.prop = true) := Lib.hid (by rw [htk, List.all_append, HAl.out]; simp [hxp])
                    clear htk hxp hx hxm hTx HTx2
                    go_wp2_with fail
                    refine HC.out.mono ?_
                    rintro e w5 ⟨rfl, hb5⟩
                    have hb6 : Below wr.heap.size wr w5 := hb2.trans (hb5.mono (by rw [World.size_alloc]; omega))
                    have HB5 := Lib.hid (HBr.out.trans (hb6.mono hsr))
                    have HT5 : Hid (HT w5 (· < N) (.slice (some ⟨b, off, none⟩) v.l.length ce) v.l) := Lib.hid (HTr.out.later (fun _ h => h) fun b hb o => hb6.cell (p := ⟨b, o, none⟩) (by show b < wr.heap.size; omega))
                    have hs5 : w.heap.size ≤ w5.heap.size := Nat.le_trans hsr hb6.size
                    clear hb5 hb2 hb6 HC q0 q1 q2 q3 q4 q5
                    go_wp2_with fail
                    go_roundw
                    case rel => exact ⟨i + 1, by first | rfl | go_num, hlt, HA2, HT5, HB5, hs5⟩
                    case measure => simp [intOf]; omega
                · have hltI : ¬ ((i : Int) < (v.l.length : Int)) := by omega
                  have HPT : Hid (v.prop = true) := Lib.hid (by
                    have h := HAl.out
                    rw [List.take_of_length_le (by omega)] at h
                    rw [HP3.out, h])
                  go_wp2_with fail
                  go_ret
                  exact ⟨by rw [HPT.out]; rfl, HBr.out⟩
            · have hd1g : ¬ ((v.l.length : Int) > 0) := hd1
              go_wp2_with fail
              refine (HMay.out w7).mono ?_
              rintro e w8 ⟨rfl, h9⟩; subst w8
              go_wp2_with fail
              clear x0 x1 x2 x3 x4 x5 HMay
              go_loopw [43] (fun u wr => ∃ i : Nat, u = .int .i64 (i : Int) ∧ i ≤ v.l.length ∧ Hid ((v.l.take i).all PT.prop = true) ∧ Hid (HT wr (· < N) (.slice oe v.l.length ce) v.l) ∧ Hid (Below w.heap.size w wr) ∧ w.heap.size ≤ wr.heap.size) (fun u _ => v.l.length - (intOf u).toNat)
              case atStart => exact ⟨0, rfl, Nat.zero_le _, Lib.hid rfl, HTL, HBa, by omega⟩
              case round =>
                obtain ⟨i, rfl, hi, HAl, HTr, HBr, hsr⟩ := hrel
                clear HTL HBa
                by_cases hlt : i < v.l.length
                · exact absurd hlt (by omega)
                · have hltI : ¬ ((i : Int) < (v.l.length : Int)) := by omega
                  have HPT : Hid (v.prop = true) := Lib.hid (by
                    have h := HAl.out
                    rw [List.take_of_length_le (by omega)] at h
                    rw [HP3.out, h])
                  go_wp2_with fail
                  go_ret
                  exact ⟨by rw [HPT.out]; rfl, HBr.out⟩
    · skip
      obtain ⟨b0, b1, b2, b3, b4, b5, b6, b7, b8⟩ := HC.out w1.drew (Below.refl _ _).drew
      go_enter Tryd.func38, Tryd.ntmps38
      go_wp2_with fail
      rw [← HW1.out]
      go_region_law (first
        | (go_simp; go_at_call 56; refine HE1.out.mono ?_; rintro e w5 ⟨rfl, hb5⟩
           have hq5 : Below w1.heap.size w1 w5 := (Below.refl _ _).drew.trans hb5
           obtain ⟨d0, d1, d2, d3, d4, d5, d6, d7, d8⟩ := HC.out w5 hq5
           have HB5 := Lib.hid hq5
           clear hb5 hq5
           try dsimp only))
      all_goals
        have HPF : Hid (v.prop = false) := Lib.hid (by rw [HP.out]; simp)
        have HBa : Hid (Below w.heap.size w w5) := Lib.hid (HB1.out.trans (HB5.out.mono (by omega)))
        clear HE1 HE2 HWo
        go_wp2_with fail
        go_ret
        exact ⟨by rw [HPF.out]; rfl, HBa.out⟩
  · have k3d : decide (kk = 3) = false := by simp [k3]
    have k3b : (kk == 3) = false := by simp [k3]
    cases zz
    · skip
      obtain ⟨b0, b1, b2, b3, b4, b5, b6, b7, b8⟩ := HC.out w1.drew (Below.refl _ _).drew
      go_enter Tryd.func38, Tryd.ntmps38
      go_wp2_with fail
      rw [← HW1.out]
      go_region_law (first
        | (go_simp; go_at_call 56; refine HE1.out.mono ?_; rintro e w5 ⟨rfl, hb5⟩
           have hq5 : Below w1.heap.size w1 w5 := (Below.refl _ _).drew.trans hb5
           obtain ⟨d0, d1, d2, d3, d4, d5, d6, d7, d8⟩ := HC.out w5 hq5
           have HB5 := Lib.hid hq5
           clear hb5 hq5
           try dsimp only))
      all_goals
        have HPF : Hid (v.prop = false) := Lib.hid (by rw [HP.out]; simp [k3d])
        have HBa : Hid (Below w.heap.size w w5) := Lib.hid (HB1.out.trans (HB5.out.mono (by omega)))
        clear HE1 HE2 HWo
        go_wp2_with fail
        go_ret
        exact ⟨by rw [HPF.out]; rfl, HBa.out⟩
    · skip
      obtain ⟨b0, b1, b2, b3, b4, b5, b6, b7, b8⟩ := HC.out w1.drew (Below.refl _ _).drew
      go_enter Tryd.func38, Tryd.ntmps38
      go_wp2_with fail
      rw [← HW1.out]
      go_region_held_law (fun V => V.cell? ⟨w.heap.size, 0, none⟩ = some (.int .i64 kk) ∧ V.cell? ⟨w.heap.size + 1, 0, none⟩ = some (.int .u64 v.s.a) ∧ V.cell? ⟨w.heap.size + 1, 1, none⟩ = some (.int .u64 v.s.b) ∧ V.cell? ⟨w.heap.size + 1, 2, none⟩ = some (.int .u64 v.s.c) ∧ V.cell? ⟨w.heap.size + 1, 3, none⟩ = some (.int .u64 v.s.d) ∧ V.cell? ⟨0, 0, none⟩ = some (.int .u64 alp.a) ∧ V.cell? ⟨0, 1, none⟩ = some (.int .u64 alp.b) ∧ V.cell? ⟨0, 2, none⟩ = some (.int .u64 alp.c) ∧ V.cell? ⟨0, 3, none⟩ = some (.int .u64 alp.d)) (first | exact ⟨b0, b1, b2, b3, b4, b5, b6, b7, b8⟩ | exact k5 | exact k6 | exact k7) (first
        | (go_simp; go_at_call 56; refine HE1.out.mono ?_; rintro e w5 ⟨rfl, hb5⟩
           have hq5 : Below w1.heap.size w1 w5 := (Below.refl _ _).drew.trans hb5
           have k5 := HC.out w5 hq5
           have HB5 := Lib.hid hq5
           clear hb5 hq5
           dsimp only)
        | (go_simp; go_at_call 57; refine (HWo.out w5).mono ?_; rintro e w6 ⟨rfl, hb6⟩
           have hq6 : Below w1.heap.size w1 w6 := HB5.out.trans (hb6.mono HB5.out.size)
           have k6 := HC.out w6 hq6
           have HB6 := Lib.hid hq6
           clear hb6 hq6
           dsimp only)
        | (go_simp; go_at_call 56; refine (HE2.out w6).mono ?_; rintro e w7 ⟨rfl, hb7⟩
           have hq7 : Below w1.heap.size w1 w7 := HB6.out.trans (hb7.mono HB6.out.size)
           have k7 := HC.out w7 hq7
           have HB7 := Lib.hid hq7
           clear hb7 hq7
           try dsimp only))
      all_goals
        clear k5 k6 k7 b0 b1 b2 b3 b4 b5 b6 b7 b8 HE1 HE2 HWo
        have hs7 : w.heap.size + 2 ≤ w7.heap.size := by have := HB7.out.size; omega
        have HBa : Hid (Below w.heap.size w w7) := Lib.hid (HB1.out.trans (HB7.out.mono (by omega)))
        generalize hzq : (v.s.without alp).isZ = zq at *
        cases zq
        · have HPF : Hid (v.prop = false) := Lib.hid (by rw [HP.out]; simp)
          go_wp2_with fail
          go_ret
          exact ⟨by rw [HPF.out]; rfl, HBa.out⟩
        · have HP2 : Hid (v.prop = (mayH kk v.l.length && v.l.all PT.prop)) := Lib.hid (by rw [HP.out]; simp [k3d])
          have HX7 := HX1.out.later HB7.out (by omega)
          obtain ⟨x0, x1, x2, x3, x4, x5, -⟩ := HX7
          have HMay := Lib.hid (fun V => mayHave_any kk v.l.length hl2 V)
          cases hmh : mayH kk v.l.length
          · have HPF : Hid (v.prop = false) := Lib.hid (by rw [HP2.out, hmh]; rfl)
            rw [hmh] at HMay
            clear hmh
            go_wp2_with fail
            refine (HMay.out w7).mono ?_
            rintro e w8 ⟨rfl, h9⟩; subst w8
            go_wp2_with fail
            go_ret
            exact ⟨by rw [HPF.out]; rfl, HBa.out⟩
          · have HP3 : Hid (v.prop = v.l.all PT.prop) := Lib.hid (by rw [HP2.out, hmh]; rfl)
            rw [hmh] at HMay
            have hd0 : (0 : Int) < (v.l.length : Int) → ¬ ((n : Int) = 0) := fun h => by
              have := HD0.out (fun e => by rw [e] at h; simp at h)
              omega
            have hd1 : ((0 : Int) < (v.l.length : Int) ∧ (n : Int) ≠ 0) ∨ ¬ ((0 : Int) < (v.l.length : Int)) := by
              by_cases h : (0 : Int) < (v.l.length : Int)
              · exact .inl ⟨h, hd0 h⟩
              · exact .inr h
            clear hmh hd0
            have HTL : Hid (HT w7 (· < N) (.slice oe v.l.length ce) v.l) := Lib.hid (HT0.out.later (fun _ h => h) fun b hb o => HBa.out.cell (p := ⟨b, o, none⟩) (Nat.lt_of_lt_of_le hb hN))
            rcases hd1 with ⟨hd1, hd2⟩ | hd1
            · have hd1g : (v.l.length : Int) > 0 := hd1
              have hn0 : ((n : Int) == 0) = false := by rw [beq_eq_false_iff_ne]; exact hd2
              go_wp2_with fail
              refine (HMay.out w7).mono ?_
              rintro e w8 ⟨rfl, h9⟩; subst w8
              go_wp2_with fail
              clear x0 x1 x2 x3 x4 x5 HMay
              go_loopw [43] (fun u wr => ∃ i : Nat, u = .int .i64 (i : Int) ∧ i ≤ v.l.length ∧ Hid ((v.l.take i).all PT.prop = true) ∧ Hid (HT wr (· < N) (.slice oe v.l.length ce) v.l) ∧ Hid (Below w.heap.size w wr) ∧ w.heap.size ≤ wr.heap.size) (fun u _ => v.l.length - (intOf u).toNat)
              case atStart => exact ⟨0, rfl, Nat.zero_le _, Lib.hid rfl, HTL, HBa, by omega⟩
              case round =>
                obtain ⟨i, rfl, hi, HAl, HTr, HBr, hsr⟩ := hrel
                clear HTL HBa
                by_cases hlt : i < v.l.length
                · have hltI : (i : Int) < (v.l.length : Int) := by omega
                  have hi0 : (0 : Int) ≤ (i : Int) := by omega
                  have hwi : IntKind.i64.wrap ((i : Int) + 1) = ((i + 1 : Nat) : Int) := by rw [IntWalk.i64_in _ (by omega)]; omega
                  obtain ⟨x, hx⟩ : ∃ x, v.l[i]? = some x := ⟨_, List.getElem?_eq_getElem hlt⟩
                  have hxm := List.mem_of_getElem? hx
                  have hxd := HD.out x hxm
                  have hwn : IntKind.i64.wrap ((n : Int) - 1) = ((n - 1 : Nat) : Int) := by rw [IntWalk.i64_in _ (by omega)]; omega
                  obtain ⟨b, off, ox, cx, rfl, hb, hTx, q0, q1, q2, q3, q4, q5⟩ := HT.at_ HTr.out hx
                  have hb2 := below1 wr (.cells #[.int .i64 x.k, .int .u64 x.s.a, .int .u64 x.s.b, .int .u64 x.s.c, .int .u64 x.s.d, .slice ox x.l.length cx] 36)
                  have HTx2 : HT (wr.alloc (.cells #[.int .i64 x.k, .int .u64 x.s.a, .int .u64 x.s.b, .int .u64 x.s.c, .int .u64 x.s.d, .slice ox x.l.length cx] 36)) (· < N) (.slice ox x.l.length cx) x.l := hTx.later (fun _ h => h) (fun b hb o => hb2.cell (p := ⟨b, o, none⟩) (by show b < wr.heap.size; omega))
                  have HC := Lib.hid (HIH.out x hxm (n - 1) _ N ox cx (by omega) (by omega) ((HA.out.later HBr.out).later hb2) HTx2 (by rw [World.size_alloc]; omega))
                  unfold PT.val at HC
                  have htk : v.l.take (i + 1) = v.l.take i ++ [x] := by rw [List.take_add_one, hx]; rfl
                  cases hxp : x.prop
                  · rw [hxp] at HC
                    have HPF : Hid (v.prop = false) := Lib.hid (by
                      rw [HP3.out, List.all_eq_false]
                      exact ⟨x, hxm, by rw [hxp]; decide⟩)
                    clear htk hxp hx hxm hTx HTx2
                    go_wp2_with fail
                    refine HC.out.mono ?_
                    rintro e w5 ⟨rfl, hb5⟩
                    have HB5 := Lib.hid (HBr.out.trans ((hb2.mono hsr).trans (hb5.mono (by rw [World.size_alloc]; omega))))
                    clear hb5 hb2
                    go_wp2_with fail
                    go_ret
                    exact ⟨by rw [HPF.out]; rfl, HB5.out⟩
                  · rw [hxp] at HC
                    have HA2 : Hid ((v.l.take (i + 1)).all PT.prop = true) := Lib.hid (by rw [htk, List.all_append, HAl.out]; simp [hxp])
                    clear htk hxp hx hxm hTx HTx2
                    go_wp2_with fail
                    refine HC.out.mono ?_
                    rintro e w5 ⟨rfl, hb5⟩
                    have hb6 : Below wr.heap.size wr w5 := hb2.trans (hb5.mono (by rw [World.size_alloc]; omega))
                    have HB5 := Lib.hid (HBr.out.trans (hb6.mono hsr))
                    have HT5 : Hid (HT w5 (· < N) (.slice (some ⟨b, off, none⟩) v.l.length ce) v.l) := Lib.hid (HTr.out.later (fun _ h => h) fun b hb o => hb6.cell (p := ⟨b, o, none⟩) (by show b < wr.heap.size; omega))
                    have hs5 : w.heap.size ≤ w5.heap.size := Nat.le_trans hsr hb6.size
                    clear hb5 hb2 hb6 HC q0 q1 q2 q3 q4 q5
                    go_wp2_with fail
                    go_roundw
                    case rel => exact ⟨i + 1, by first | rfl | go_num, hlt, HA2, HT5, HB5, hs5⟩
                    case measure => simp [intOf]; omega
                · have hltI : ¬ ((i : Int) < (v.l.length : Int)) := by omega
                  have HPT : Hid (v.prop = true) := Lib.hid (by
                    have h := HAl.out
                    rw [List.take_of_length_le (by omega)] at h
                    rw [HP3.out, h])
                  go_wp2_with fail
                  go_ret
                  exact ⟨by rw [HPT.out]; rfl, HBr.out⟩
            · have hd1g : ¬ ((v.l.length : Int) > 0) := hd1
              go_wp2_with fail
              refine (HMay.out w7).mono ?_
              rintro e w8 ⟨rfl, h9⟩; subst w8
              go_wp2_with fail
              clear x0 x1 x2 x3 x4 x5 HMay
              go_loopw [43] (fun u wr => ∃ i : Nat, u = .int .i64 (i : Int) ∧ i ≤ v.l.length ∧ Hid ((v.l.take i).all PT.prop = true) ∧ Hid (HT wr (· < N) (.slice oe v.l.length ce) v.l) ∧ Hid (Below w.heap.size w wr) ∧ w.heap.size ≤ wr.heap.size) (fun u _ => v.l.length - (intOf u).toNat)
              case atStart => exact ⟨0, rfl, Nat.zero_le _, Lib.hid rfl, HTL, HBa, by omega⟩
              case round =>
                obtain ⟨i, rfl, hi, HAl, HTr, HBr, hsr⟩ := hrel
                clear HTL HBa
                by_cases hlt : i < v.l.length
                · exact absurd hlt (by omega)
                · have hltI : ¬ ((i : Int) < (v.l.length : Int)) := by omega
                  have HPT : Hid (v.prop = true) := Lib.hid (by
                    have h := HAl.out
                    rw [List.take_of_length_le (by omega)] at h
                    rw [HP3.out, h])
                  go_wp2_with fail
                  go_ret
                  exact ⟨by rw [HPT.out]; rfl, HBr.out⟩
end Go.Proofs.YtaipaddfehpmgaaDoor
