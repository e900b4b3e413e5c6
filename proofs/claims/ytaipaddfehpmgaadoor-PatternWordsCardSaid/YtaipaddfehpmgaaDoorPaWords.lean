/-
  Words of package pattern. Nothing is assumed.
-/
import Derived.Test.YtaipaddfehpmgaaDoorPaExpS
import Derived.Test.YtaipaddfehpmgaaDoorPtAcc
import Derived.Test.YtaipaddfehpmgaaDoorGlD
namespace Go.Proofs.YtaipaddfehpmgaaDoor
open Go.RowKit

/-- One for each state that accepts. -/
def acc0 (last : Int) (F : List Int) : List Int := F.map fun st => if bits BinOp.and IntKind.u64 st last ≠ 0 then 1 else 0
/-- The numbers of longer and longer texts. -/
def iterL (E : List (List Nat)) (C : List Int) : Nat → List Int
  | 0 => C
  | n + 1 => longL (iterL E C n) E
def bdL (C : List Int) : Prop := ∀ (k : Nat) x, C[k]? = some x → 0 ≤ x ∧ x ≤ 1152921504606846977
theorem sumL_bd {C : List Int} (h : bdL C) : ∀ (to : List Nat) (s : Int), 0 ≤ s ∧ s ≤ 1152921504606846977 → 0 ≤ sumL C to s ∧ sumL C to s ≤ 1152921504606846977
  | [], s, hs => by rw [sumL]; exact hs
  | x :: r, s, hs => by
    rw [sumL]
    refine sumL_bd h r _ ?_
    have hx : 0 ≤ (C[x]?).getD 0 := by
      cases hc : C[x]? with
      | none => exact Int.le_refl _
      | some y => exact (h x y hc).1
    unfold capA
    omega
theorem longL_bd {C : List Int} (h : bdL C) (E : List (List Nat)) : bdL (longL C E) := fun k x hx => by
  unfold longL at hx
  rw [List.getElem?_map, Option.map_eq_some_iff] at hx
  obtain ⟨to, _, rfl⟩ := hx
  exact sumL_bd h to 0 ⟨Int.le_refl _, by decide⟩
theorem acc0_bd (last : Int) (F : List Int) : bdL (acc0 last F) := fun k x hx => by
  unfold acc0 at hx
  rw [List.getElem?_map, Option.map_eq_some_iff] at hx
  obtain ⟨to, _, rfl⟩ := hx
  split <;> decide
theorem iterL_bd {C : List Int} (h : bdL C) (E : List (List Nat)) : ∀ n, bdL (iterL E C n)
  | 0 => h
  | n + 1 => longL_bd (iterL_bd h E n) E
theorem iterL_len {C : List Int} {E : List (List Nat)} (h : E.length = C.length) : ∀ n, (iterL E C n).length = C.length
  | 0 => rfl
  | n + 1 => by rw [iterL, longL_len, h]
theorem acc0_len (last : Int) (F : List Int) : (acc0 last F).length = F.length := by unfold acc0; rw [List.length_map]
def hd0 (C : List Int) : Int := (C[0]?).getD 0
theorem EdH.mono {w : World} {N M g : Nat} {E : List (List Nat)} (h : EdH w N g E) (hM : N ≤ M) : EdH w M g E := ⟨Nat.lt_of_lt_of_le h.1 hM, fun i to hi => by
  obtain ⟨gi, ci, h1, h2, h3⟩ := h.2 i to hi
  exact ⟨gi, ci, h1, Nat.lt_of_lt_of_le h2 hM, h3⟩⟩
/-- The number of texts of a length, and the error. -/
def wordsT (t : PT) (n : Nat) : Int × Int := match exL (stepL (buildT t).1) 4098 [1] [] with
  | none => (0, 10)
  | some (F, E) => if 1152921504606846976 < hd0 (iterL E (acc0 (buildT t).2 F) n) then (0, 11) else (hd0 (iterL E (acc0 (buildT t).2 F) n), 0)
/-- What Words returns. -/
def wordsR (t : PT) (n : Int) : Int × Int := if n < 0 ∨ 64 < n then (0, 1) else wordsT t n.toNat

set_option maxRecDepth 100000 in
set_option maxHeartbeats 6400000 in
theorem words_any (p : ByteArray) (t : PT) (ht : TP p t) (n : Int) (w : World) (hA : AL w) :
    Calls Tryd.prog 8 #[.string p, .int .i64 n] w fun e w' => e = .returned (.tuple #[.int .i64 (wordsR t n).1, .int .i64 (wordsR t n).2]) ∧ Below w.heap.size w w' := by
  obtain ⟨i0, hi0, hz0, hz1, hz2⟩ := info_parts infoN
  have HC := Lib.hid (compile_any p w hA)
  have HTP := Lib.hid ht
  clear ht hA
  by_cases hr : n < 0 ∨ 64 < n
  · have HR : Hid (wordsR t n = (0, 1)) := Lib.hid (by unfold wordsR; rw [if_pos hr])
    rw [HR.out]
    clear HR
    have hr2 : n < 0 ∨ (¬ n < 0 ∧ n > 64) := by omega
    go_enter Tryd.func8, Tryd.ntmps8
    go_wp2_with fail
    refine HC.out.mono ?_
    rintro e w1 ⟨⟨hne, _⟩ | ⟨t', m, g, cap, _, hq, rfl, hQ⟩, hb1⟩
    · exact absurd HTP.out.err hne
    have HB1 : Hid (Below w.heap.size w (w1.alloc (.cells #[.slice (some ⟨g, 0, none⟩) (buildT t').1.length cap, .int .u64 (buildT t').2] 44))) := Lib.hid (hb1.trans ((below1 w1 _).mono hb1.size))
    clear hQ hq hb1 HC hr
    rcases hr2 with h1 | ⟨h1, h2⟩
    · go_wp2_with fail
      go_ret2
      exact ⟨rfl, HB1.out⟩
    · go_wp2_with fail
      go_ret2
      exact ⟨rfl, HB1.out⟩
  · have HR : Hid (wordsR t n = wordsT t n.toNat) := Lib.hid (by unfold wordsR; rw [if_neg hr])
    rw [HR.out]
    have hn0 : ¬ n < 0 := fun h => hr (.inl h)
    have hn1 : ¬ n > 64 := fun h => hr (.inr h)
    clear HR hr
    obtain ⟨nn, rfl⟩ : ∃ nn : Nat, n = (nn : Int) := ⟨n.toNat, by omega⟩
    have htn : (nn : Int).toNat = nn := rfl
    rw [htn]
    have HW0 : Hid (wordsT t nn = match exL (stepL (buildT t).1) 4098 [1] [] with
      | none => (0, 10)
      | some (F, E) => if 1152921504606846976 < hd0 (iterL E (acc0 (buildT t).2 F) nn) then (0, 11) else (hd0 (iterL E (acc0 (buildT t).2 F) nn), 0)) := Lib.hid rfl
    obtain ⟨RR, hRR⟩ : ∃ RR, RR = wordsT t nn := ⟨_, rfl⟩
    rw [← hRR] at HW0 ⊢
    clear hRR
    go_enter Tryd.func8, Tryd.ntmps8
    go_wp2_with fail
    refine HC.out.mono ?_
    rintro e w1 ⟨⟨hne, _⟩ | ⟨t', m, g, cap, _, hq, rfl, hQ⟩, hb1⟩
    · exact absurd HTP.out.err hne
    have htt : t' = t := by
      obtain ⟨m', hm'⟩ := HTP.out.parse
      rw [hq] at hm'
      cases hm'
      rfl
    subst htt
    generalize (buildT t').1 = ps at *
    generalize (buildT t').2 = last at *
    obtain ⟨w2, hw2⟩ : ∃ w2, w2 = w1.alloc (.cells #[.slice (some ⟨g, 0, none⟩) ps.length cap, .int .u64 last] 44) := ⟨_, rfl⟩
    have HW2 := Lib.hid hw2
    have hb2 : Below w1.heap.size w1 w2 := by rw [hw2]; exact below1 _ _
    have hs2 : w2.heap.size = w1.heap.size + 1 := by rw [hw2]; simp
    have HM2 : Hid (MB w2 w1.heap.size (.slice (some ⟨g, 0, none⟩) ps.length cap) last) := Lib.hid (by rw [hw2]; exact MB.new _ _ _)
    have HQ2 : Hid (HQ w2 (· < w1.heap.size) (.slice (some ⟨g, 0, none⟩) ps.length cap) ps) := Lib.hid (hQ.below hb2 (Nat.le_refl _))
    have HB2 : Hid (Below w.heap.size w w2) := Lib.hid (hb1.trans (hb2.mono hb1.size))
    have hs1 := hb1.size
    have HST := Lib.hid (stepper_any w2 w1.heap.size g cap ps last HQ2.out (by omega))
    obtain ⟨c0, c1⟩ := HM2.out.cells
    clear hq hQ hb1 HC hw2 hb2
    go_wp2_with fail
    rw [← HW2.out]
    refine HST.out.mono ?_
    rintro e w3 ⟨⟨bm, br, gr, capr, rfl, hI⟩, hb3⟩
    have HI3 := Lib.hid hI
    have HM3 := Lib.hid (HM2.out.below hb3)
    have HB3 := Lib.hid (HB2.out.trans (hb3.mono (by omega)))
    have hs3 := hb3.size
    have HEX := Lib.hid (exploreS_any w3 w3.heap.size bm br gr g cap capr ps last hI)
    generalize hex : exL (stepL ps) 4098 [1] [] = EX at *
    have HINV : Hid (∀ F E, EX = some (F, E) → ExI UI 95 F E ∧ E.length = F.length) := Lib.hid (fun F E h => by
      rw [h] at hex
      exact exL_inv (fun x _ => step_u ps x) 4098 _ _ _ _ ⟨fun x hx => by rw [List.mem_singleton.1 hx]; exact ⟨by decide, by decide⟩, Nat.zero_le _, by decide, by simp, fun i to hi => by cases hi⟩ hex)
    clear hI hb3 HST hex c0 c1
    unfold stV at HEX ⊢
    go_wp2_with fail
    refine HEX.out.mono ?_
    cases EX with
    | none =>
      rintro e w4 ⟨hd, hb4⟩
      obtain rfl : e = .returned (.tuple #[.slice none 0 0, .slice none 0 0, .int .i64 10]) := hd
      have HB4 := Lib.hid (HB3.out.trans (hb4.mono (by omega)))
      clear hb4
      go_wp2_with fail
      go_ret2
      exact ⟨by rw [HW0.out]; rfl, HB4.out⟩
    | some FE =>
      obtain ⟨F, E⟩ := FE
      rintro e w4 ⟨⟨gf, cf, ge, ce, rfl, hgf, hF, hE⟩, hb4⟩
      obtain ⟨hXI, hEF⟩ := HINV.out F E rfl
      have hF0 : 0 < F.length := List.length_pos_iff.2 hXI.ne
      have hF1 : F.length ≤ 4096 := hXI.lm
      have HEL := Lib.hid hXI.el
      have HFc : Hid (∀ V, Below w4.heap.size w4 V → ∀ (k : Nat) (x : Int), F[k]? = some x → V.cell? ⟨gf, k, none⟩ = some (.int .u64 x)) := Lib.hid (fun V hV k x hx => (hV.cell (p := ⟨gf, k, none⟩) hgf).trans (hF k x hx))
      have HE4 := Lib.hid hE
      have HM4 := Lib.hid (HM3.out.below hb4)
      have HB4 := Lib.hid (HB3.out.trans (hb4.mono (by omega)))
      have hs4 := hb4.size
      have HRR : Hid (RR = if 1152921504606846976 < hd0 (iterL E (acc0 last F) nn) then (0, 11) else (hd0 (iterL E (acc0 last F) nn), 0)) := Lib.hid HW0.out
      obtain ⟨C, hC⟩ : ∃ C, C = acc0 last F := ⟨_, rfl⟩
      have hCl : C.length = F.length := by rw [hC, acc0_len]
      have HCl := Lib.hid hCl
      have HCd : Hid (∀ (k : Nat) (x : Int), F[k]? = some x → C[k]? = some (if bits BinOp.and IntKind.u64 x last ≠ 0 then 1 else 0)) := Lib.hid (fun k x hx => by rw [hC]; unfold acc0; rw [List.getElem?_map, hx]; rfl)
      have HBd : Hid (bdL C) := Lib.hid (by rw [hC]; exact acc0_bd _ _)
      rw [← hC] at HRR
      rw [hEF]
      have HEF := Lib.hid hEF
      have hFI : (F.length : Int) ≤ 4096 := by omega
      generalize hnF : F.length = nF at *
      clear hXI hF hE hb4 hC hCl hEF HEX HINV HW0 HM3 HB3 HI3
      go_wp2_with (at_make; refine wpList_make_full _ rfl _ _ 78 rfl w4.heap.size 2 i0 _ 1 Tryd.underlying78 hi0 hz0 hz1 _ _ _ _ nF rfl rfl rfl rfl ?b2 ?b3 (Nat.le_refl _) ?_)
      case b2 => rw [hz2]; omega
      case b3 => unfold maxLen; omega
      intro w5 hown5 hgrow5
      have hb5 : Below w4.heap.size w4 w5 := (Below.refl _ _).grown hgrow5 (Nat.le_refl _) (fun k h => by cases h)
      have HO5 : Hid (w5.ownsRow w4.heap.size 2 1 (.slice (some ⟨w4.heap.size, 0, none⟩) nF nF) nF ((fillI C 0).map (Value.int .i64))) := Lib.hid (by
        rw [fillI_zero, HCl.out, List.map_replicate, ← toList_madeCells_one]
        exact hown5)
      have HB5 := Lib.hid hb5
      have hs5 : w4.heap.size ≤ w5.heap.size := hb5.size
      clear hown5 hgrow5 hb5
      go_wp2_with fail
      go_loopw [42] (fun v wr => ∃ k : Nat, v = .int .i64 (k : Int) ∧ k ≤ nF ∧ Hid (wr.ownsRow w4.heap.size 2 1 (.slice (some ⟨w4.heap.size, 0, none⟩) nF nF) nF ((fillI C k).map (Value.int .i64))) ∧ Hid (Below w4.heap.size w4 wr) ∧ w4.heap.size ≤ wr.heap.size) (fun v _ => nF - (intOf v).toNat)
      case atStart => exact ⟨0, rfl, Nat.zero_le _, HO5, HB5, hs5⟩
      case round =>
        obtain ⟨k, rfl, hk, HOr, HBr, hsr⟩ := hrel
        clear HO5 HB5 hs5
        by_cases hlt : k < nF
        · have hltI : (k : Int) < (nF : Int) := by omega
          have hk0 : (0 : Int) ≤ (k : Int) := by omega
          have hwk : IntKind.i64.wrap ((k : Int) + 1) = ((k + 1 : Nat) : Int) := by rw [IntWalk.i64_in _ (by omega)]; omega
          obtain ⟨x, hx⟩ : ∃ x, F[k]? = some x := ⟨_, List.getElem?_eq_getElem (by omega)⟩
          have c3 := HFc.out wr HBr.out k x hx
          have hCk := HCd.out k x hx
          have hkC : k < C.length := (List.getElem?_eq_some_iff.1 hCk).1
          have HSe : Hid ((fillI C k).set k (if bits BinOp.and IntKind.u64 x last ≠ 0 then 1 else 0) = fillI C (k + 1)) := Lib.hid (by
            have h1 := fillI_set C k hkC
            rw [(List.getElem?_eq_some_iff.1 hCk).2] at h1
            exact h1)
          have HSz := Lib.hid (fillI_set0 C k hkC)
          have HLz := Lib.hid (fillI_len C k (by omega))
          obtain ⟨c4, c5⟩ := (HM4.out.below HBr.out).cells
          have HAc := Lib.hid (accepts_any wr (some ⟨g, 0, none⟩) ps.length cap last x)
          clear hCk hx
          by_cases hac : bits BinOp.and IntKind.u64 x last ≠ 0
          · rw [decide_eq_true hac] at HAc
            rw [if_pos hac] at HSe
            clear hac
            go_wp2_with fail
            refine HAc.out.mono ?_
            rintro e w6 ⟨rfl, hb6⟩
            have HO6 : Hid (w6.ownsRow w4.heap.size 2 1 (.slice (some ⟨w4.heap.size, 0, none⟩) nF nF) nF ((fillI C k).map (Value.int .i64))) := Lib.hid (own_keep HOr.out (fun q cur hq _ => below_keep hb6 hq))
            have HB6 := Lib.hid (HBr.out.trans (hb6.mono hsr))
            have c6 : w6.cell? ⟨w4.heap.size, k, none⟩ = some (.int .i64 0) := by
              rw [World.ownsRow.cellAt HO6.out k (by omega), List.getElem?_map, fillI_at C k hkC]
              rfl
            have f6 := World.ownsRow.frozenAt HO6.out k
            have HO7 : Hid ((w6.setCell ⟨w4.heap.size, k, none⟩ (.int .i64 1)).ownsRow w4.heap.size 2 1 (.slice (some ⟨w4.heap.size, 0, none⟩) nF nF) nF ((fillI C (k + 1)).map (Value.int .i64))) := Lib.hid (by
              rw [← HSe.out, List.map_set]
              exact (World.ownsRow.stored HO6.out k _).1)
            have HB7 : Hid (Below w4.heap.size w4 (w6.setCell ⟨w4.heap.size, k, none⟩ (.int .i64 1))) := Lib.hid (HB6.out.setCell (p := ⟨w4.heap.size, k, none⟩) (Nat.le_refl _) _)
            have hs7 : w4.heap.size ≤ (w6.setCell ⟨w4.heap.size, k, none⟩ (.int .i64 1)).heap.size := HB7.out.size
            clear hb6 HAc HOr HBr HO6 HB6 c3 c4 c5
            go_wp2_with fail
            go_roundw
            case rel => exact ⟨k + 1, by first | rfl | go_num, hlt, HO7, HB7, hs7⟩
            case measure => simp [intOf]; omega
          · rw [decide_eq_false hac] at HAc
            rw [if_neg hac, HSz.out] at HSe
            clear hac
            go_wp2_with fail
            refine HAc.out.mono ?_
            rintro e w6 ⟨rfl, hb6⟩
            have HO6 : Hid (w6.ownsRow w4.heap.size 2 1 (.slice (some ⟨w4.heap.size, 0, none⟩) nF nF) nF ((fillI C (k + 1)).map (Value.int .i64))) := Lib.hid (by rw [← HSe.out]; exact own_keep HOr.out (fun q cur hq _ => below_keep hb6 hq))
            have HB6 := Lib.hid (HBr.out.trans (hb6.mono hsr))
            have hs6 : w4.heap.size ≤ w6.heap.size := Nat.le_trans hsr hb6.size
            clear hb6 HAc HOr HBr c3 c4 c5
            go_wp2_with fail
            go_roundw
            case rel => exact ⟨k + 1, by first | rfl | go_num, hlt, HO6, HB6, hs6⟩
            case measure => simp [intOf]; omega
        · have hltI : ¬ ((k : Int) < (nF : Int)) := by omega
          obtain rfl : k = nF := by omega
          have HCI : Hid (CI wr wr.heap.size w4.heap.size C) := Lib.hid (by
            have h := HOr.out
            have e : fillI C k = C := by rw [← HCl.out]; exact fillI_all C
            rw [e] at h
            refine ⟨(World.ownsRow.lt h _ rfl).2, fun j x hx => ?_⟩
            have hj := (List.getElem?_eq_some_iff.1 hx).1
            rw [HCl.out] at hj
            rw [World.ownsRow.cellAt h j (by omega), List.getElem?_map, hx]
            rfl)
          have HEd : Hid (EdH wr w4.heap.size ge E) := Lib.hid (HE4.out.later HBr.out)
          have HB8 := Lib.hid (HB4.out.trans (HBr.out.mono (by omega)))
          clear HOr HBr HB4 HE4 HFc HM4
          go_wp2_with fail
          obtain ⟨wq, hwq⟩ : ∃ wq : World, wq = wr := ⟨_, rfl⟩
          subst hwq
          have HZ : Hid (Below wq.heap.size wq wq) := Lib.hid (Below.refl _ _)
          go_loopw [10, 55] (fun v10 v wr => ∃ (i gc cc : Nat), v10 = .slice (some ⟨gc, 0, none⟩) k cc ∧ v = .int .i64 (i : Int) ∧ i ≤ nn ∧ Hid (CI wr wr.heap.size gc (iterL E C i)) ∧ Hid (Below wq.heap.size wq wr) ∧ wq.heap.size ≤ wr.heap.size) (fun _ v _ => nn - (intOf v).toNat)
          case atStart => exact ⟨0, w4.heap.size, k, rfl, rfl, Nat.zero_le _, HCI, HZ, Nat.le_refl _⟩
          case round =>
            obtain ⟨i, gc, cc, rfl, rfl, hi, HCr, HBr, hsr⟩ := hrel
            clear HCI HZ
            have hil : (iterL E C i).length = k := by rw [iterL_len (by rw [HEF.out, HCl.out]), HCl.out]
            by_cases hlt : i < nn
            · have hltI : (i : Int) < (nn : Int) := by omega
              have hi0 : (0 : Int) ≤ (i : Int) := by omega
              have hwi : IntKind.i64.wrap ((i : Int) + 1) = ((i + 1 : Nat) : Int) := by rw [IntWalk.i64_in _ (by omega)]; omega
              have HLo := longer_any wr wr.heap.size gc cc ge ce (iterL E C i) E HCr.out ((HEd.out.later (HBr.out.mono (by omega))).mono (by omega)) (Nat.le_refl _) (by rw [HEF.out, hil]) (by omega) (iterL_bd HBd.out E i) (fun j to hj => by
                obtain ⟨q1, q2⟩ := HEL.out j to hj
                exact ⟨by omega, fun a b hb => by rw [hil]; exact q2 a b hb⟩)
              rw [hil, HEF.out] at HLo
              have HLo := Lib.hid HLo
              clear hil
              go_wp2_with fail
              refine HLo.out.mono ?_
              rintro e w6 ⟨⟨gn, rfl, hO⟩, hb6⟩
              have HC6 : Hid (CI w6 w6.heap.size gn (iterL E C (i + 1))) := Lib.hid (by
                have h : w6.ownsRow wr.heap.size 2 1 (.slice (some ⟨gn, 0, none⟩) k k) (longL (iterL E C i) E).length ((longL (iterL E C i) E).map (Value.int .i64)) := hO
                rw [longL_len, HEF.out] at h
                refine ⟨(World.ownsRow.lt h _ rfl).2, fun j x hx => ?_⟩
                have hj := (List.getElem?_eq_some_iff.1 hx).1
                rw [iterL, longL_len, HEF.out] at hj
                rw [World.ownsRow.cellAt h j (by omega), List.getElem?_map]
                rw [iterL] at hx
                rw [hx]
                rfl)
              have HB6 := Lib.hid (HBr.out.trans (hb6.mono hsr))
              have hs6 : wq.heap.size ≤ w6.heap.size := Nat.le_trans hsr hb6.size
              clear hO hb6 HLo HCr HBr
              go_wp2_with fail
              go_roundw
              case rel => exact ⟨i + 1, gn, k, rfl, by first | rfl | go_num, hlt, HC6, HB6, hs6⟩
              case measure => simp [intOf]; omega
            · have hltI : ¬ ((i : Int) < (nn : Int)) := by omega
              obtain rfl : i = nn := by omega
              obtain ⟨y, hy⟩ : ∃ y, (iterL E C i)[0]? = some y := ⟨_, List.getElem?_eq_getElem (by omega)⟩
              have c7 := HCr.out.2 0 y hy
              have hhd : hd0 (iterL E C i) = y := by unfold hd0; rw [hy]; rfl
              rw [hhd] at HRR
              have HBf := Lib.hid (HB8.out.trans (HBr.out.mono (by have := HB8.out.size; omega)))
              have hkI : (0 : Int) < (k : Int) := by omega
              clear hy hhd hil HCr
              by_cases hbig : 1152921504606846976 < y
              · rw [if_pos hbig] at HRR
                have hbI : y > 1152921504606846976 := hbig
                go_wp2_with fail
                go_ret2
                exact ⟨by rw [HRR.out]; rfl, HBf.out⟩
              · rw [if_neg hbig] at HRR
                have hbI : ¬ (y > 1152921504606846976) := hbig
                go_wp2_with fail
                go_ret2
                exact ⟨by rw [HRR.out]; rfl, HBf.out⟩
end Go.Proofs.YtaipaddfehpmgaaDoor
