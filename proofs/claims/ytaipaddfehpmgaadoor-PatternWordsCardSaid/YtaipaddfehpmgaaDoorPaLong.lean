/-
  longer of package pattern. Nothing is assumed.
-/
import Derived.Test.YtaipaddfehpmgaaDoorPaStepr
import Derived.BigRegion
namespace Go.Proofs.YtaipaddfehpmgaaDoor
open Go.RowKit

/-- A row of numbers below a block. -/
def CI (w : World) (N g : Nat) (l : List Int) : Prop := g < N ∧ ∀ k x, l[k]? = some x → w.cell? ⟨g, k, none⟩ = some (.int .i64 x)
theorem CI.later {w w' : World} {N g : Nat} {l : List Int} (h : CI w N g l) (hb : Below N w w') : CI w' N g l := ⟨h.1, fun k x hx => (hb.cell (p := ⟨g, k, none⟩) h.1).trans (h.2 k x hx)⟩
/-- Rows of indices below a block. -/
def EdH (w : World) (N g : Nat) (E : List (List Nat)) : Prop := g < N ∧ ∀ (i : Nat) (to : List Nat), E[i]? = some to → ∃ gi ci, w.cell? ⟨g, i, none⟩ = some (.slice (some ⟨gi, 0, none⟩) to.length ci) ∧ gi < N ∧ ∀ (j x : Nat), to[j]? = some x → w.cell? ⟨gi, j, none⟩ = some (.int .i64 (x : Int))
theorem EdH.later {w w' : World} {N g : Nat} {E : List (List Nat)} (h : EdH w N g E) (hb : Below N w w') : EdH w' N g E := ⟨h.1, fun i to hi => by
  obtain ⟨gi, ci, h1, h2, h3⟩ := h.2 i to hi
  exact ⟨gi, ci, (hb.cell (p := ⟨g, i, none⟩) h.1).trans h1, h2, fun j x hx => (hb.cell (p := ⟨gi, j, none⟩) h2).trans (h3 j x hx)⟩⟩
/-- A number, or the first beyond the bound. -/
def capA (x : Int) : Int := min x 1152921504606846977
def sumL (C : List Int) : List Nat → Int → Int
  | [], s => s
  | x :: r, s => sumL C r (capA (s + (C[x]?).getD 0))
def longL (C : List Int) (E : List (List Nat)) : List Int := E.map fun to => sumL C to 0
theorem longL_len (C : List Int) (E : List (List Nat)) : (longL C E).length = E.length := by unfold longL; rw [List.length_map]
def OwnN (w : World) (base : Nat) (v : Value) (l : List Int) : Prop := w.ownsRow base 2 1 v l.length (l.map (Value.int .i64))
theorem infoN : (Tryd.prog.info? 2).map (fun i => (i.zero, i.size, i.bytes)) = some (some (.int .i64 0), 1, 8) := by kernel_rfl
theorem fillI_at (R : List Int) (k : Nat) (h : k < R.length) : (fillI R k)[k]? = some 0 := by
  have hl : (R.take k).length = k := by rw [List.length_take]; omega
  unfold fillI
  rw [List.getElem?_append_right (by omega), hl, Nat.sub_self, List.getElem?_replicate, if_pos (by omega)]
theorem fillI_set0 (R : List Int) (k : Nat) (h : k < R.length) : (fillI R k).set k 0 = fillI R k := by
  apply List.ext_getElem?
  intro i
  rw [List.getElem?_set]
  split
  · rename_i e
    subst e
    rw [if_pos (by rw [fillI_len R k (by omega)]; exact h), fillI_at R k h]
  · rfl

set_option maxRecDepth 100000 in
set_option maxHeartbeats 3200000 in
theorem longer_any (w : World) (N gc cc ge ce : Nat) (C : List Int) (E : List (List Nat)) (hC : CI w N gc C) (hE : EdH w N ge E) (hN : N ≤ w.heap.size) (hl : E.length = C.length) (hn : C.length ≤ 1000000) (hb : ∀ (k : Nat) x, C[k]? = some x → 0 ≤ x ∧ x ≤ 1152921504606846977) (ht : ∀ (i : Nat) to, E[i]? = some to → to.length ≤ 1000 ∧ ∀ (j x : Nat), to[j]? = some x → x < C.length) :
    Calls Tryd.prog 26 #[.slice (some ⟨gc, 0, none⟩) C.length cc, .slice (some ⟨ge, 0, none⟩) E.length ce] w fun e w' => (∃ gn, e = .returned (.slice (some ⟨gn, 0, none⟩) C.length C.length) ∧ OwnN w' w.heap.size (.slice (some ⟨gn, 0, none⟩) C.length C.length) (longL C E)) ∧ Below w.heap.size w w' := by
  obtain ⟨i0, hi, hz0, hz1, hz2⟩ := info_parts infoN
  obtain ⟨R, hR⟩ : ∃ R, R = longL C E := ⟨_, rfl⟩
  have HR := Lib.hid hR
  obtain ⟨n, hnn⟩ : ∃ n, n = C.length := ⟨_, rfl⟩
  have hRl : R.length = n := by rw [hR, longL_len, hl, hnn]
  have HRl := Lib.hid hRl
  have HNC := Lib.hid hnn
  have HC := Lib.hid hC
  have HE := Lib.hid hE
  have HBd := Lib.hid hb
  have HTo := Lib.hid ht
  have HN := Lib.hid hN
  rw [← hR, hl, ← hnn]
  have hn' : n ≤ 1000000 := by omega
  have hnI : (n : Int) ≤ 1000000 := by omega
  have hn0 : (0 : Int) ≤ (n : Int) := by omega
  clear hC hE hb ht hR hRl hl hnn hn
  go_enter Tryd.func26, Tryd.ntmps26
  go_wp2_with (at_make; refine wpList_make_full _ rfl _ _ 78 rfl w.heap.size 2 i0 _ 1 Tryd.underlying78 hi hz0 hz1 _ _ _ _ n rfl rfl rfl rfl ?b2 ?b3 (Nat.le_refl _) ?_)
  case b2 => rw [hz2]; omega
  case b3 => unfold maxLen; omega
  intro w2 hown2 hgrow2
  have hb2 : Below w.heap.size w w2 := (Below.refl _ _).grown hgrow2 (Nat.le_refl _) (fun k h => by cases h)
  have HO2 : Hid (w2.ownsRow w.heap.size 2 1 (.slice (some ⟨w.heap.size, 0, none⟩) n n) n ((fillI R 0).map (Value.int .i64))) := Lib.hid (by
    rw [fillI_zero, HRl.out, List.map_replicate, ← toList_madeCells_one]
    exact hown2)
  have HC2 := Lib.hid (HC.out.later (hb2.mono hN))
  have HE2 := Lib.hid (HE.out.later (hb2.mono hN))
  have HB2 := Lib.hid hb2
  have hs2 : w.heap.size ≤ w2.heap.size := hb2.size
  clear hown2 hgrow2 hb2 hN HC HE
  go_wp2_with fail
  go_loopw [14] (fun v wr => ∃ k : Nat, v = .int .i64 (k : Int) ∧ k ≤ n ∧ Hid (wr.ownsRow w.heap.size 2 1 (.slice (some ⟨w.heap.size, 0, none⟩) n n) n ((fillI R k).map (Value.int .i64))) ∧ Hid (CI wr N gc C) ∧ Hid (EdH wr N ge E) ∧ Hid (Below w.heap.size w wr) ∧ w.heap.size ≤ wr.heap.size) (fun v _ => n - (intOf v).toNat)
  case atStart => exact ⟨0, rfl, Nat.zero_le _, HO2, HC2, HE2, HB2, hs2⟩
  case round =>
    obtain ⟨k, rfl, hk, HOr, HCr, HEr, HBr, hsr⟩ := hrel
    clear HO2 HC2 HE2 HB2 hs2
    obtain ⟨wo, hwo⟩ : ∃ wo : World, wo = wr := ⟨_, rfl⟩
    subst hwo
    by_cases hlt : k < n
    · have hltI : (k : Int) < (n : Int) := by omega
      have hk0 : (0 : Int) ≤ (k : Int) := by omega
      have hwk : IntKind.i64.wrap ((k : Int) + 1) = ((k + 1 : Nat) : Int) := by rw [IntWalk.i64_in _ (by omega)]; omega
      have hkE : k < E.length := by have := HRl.out; rw [HR.out, longL_len] at this; omega
      obtain ⟨to, hto⟩ : ∃ to, E[k]? = some to := ⟨_, List.getElem?_eq_getElem hkE⟩
      obtain ⟨gi, ci, c1, hgi, hcell⟩ := HEr.out.2 k to hto
      obtain ⟨htl, hix⟩ := HTo.out k to hto
      have hkR : k < R.length := by rw [HRl.out]; exact hlt
      have hRk : R[k]? = some (sumL C to 0) := by rw [HR.out]; unfold longL; rw [List.getElem?_map, hto]; rfl
      have HFin : Hid ((fillI R k).set k (sumL C to 0) = fillI R (k + 1)) := Lib.hid (by
        have h1 := fillI_set R k hkR
        rw [(List.getElem?_eq_some_iff.1 hRk).2] at h1
        exact h1)
      have HO3 : Hid (wo.ownsRow w.heap.size 2 1 (.slice (some ⟨w.heap.size, 0, none⟩) n n) n (((fillI R k).set k 0).map (Value.int .i64))) := Lib.hid (by rw [fillI_set0 R k hkR]; exact HOr.out)
      have HIX := Lib.hid hix
      have HT0 := Lib.hid hcell
      have HFl := Lib.hid (fillI_len R k (by omega))
      clear hcell hix hRk hto hkE hkR HOr
      go_wp2_with fail
      go_loopw [22] (fun v wi => ∃ (j : Nat) (s : Int), v = .int .i64 (j : Int) ∧ j ≤ to.length ∧ 0 ≤ s ∧ s ≤ 1152921504606846977 ∧ Hid (sumL C to 0 = sumL C (to.drop j) s) ∧ Hid (wi.ownsRow w.heap.size 2 1 (.slice (some ⟨w.heap.size, 0, none⟩) n n) n (((fillI R k).set k s).map (Value.int .i64))) ∧ Hid (CI wi N gc C) ∧ Hid (EdH wi N ge E) ∧ Hid (∀ (j x : Nat), to[j]? = some x → wi.cell? ⟨gi, j, none⟩ = some (.int .i64 (x : Int))) ∧ Hid (Below w.heap.size w wi) ∧ w.heap.size ≤ wi.heap.size) (fun v _ => to.length - (intOf v).toNat)
      case atStart => exact ⟨0, 0, rfl, Nat.zero_le _, Int.le_refl _, by omega, Lib.hid rfl, HO3, HCr, HEr, HT0, HBr, hsr⟩
      case round =>
        obtain ⟨j, s, rfl, hj, hs0, hs1, HS, HOi, HCi, HEi, HTi, HBi, hsi⟩ := hrel
        clear HO3 HCr HEr HT0 HBr hsr c1
        by_cases hjl : j < to.length
        · have hjI : (j : Int) < (to.length : Int) := by omega
          have hj0 : (0 : Int) ≤ (j : Int) := by omega
          have hwj : IntKind.i64.wrap ((j : Int) + 1) = ((j + 1 : Nat) : Int) := by rw [IntWalk.i64_in _ (by omega)]; omega
          obtain ⟨x, hx⟩ : ∃ x, to[j]? = some x := ⟨_, List.getElem?_eq_getElem hjl⟩
          have c2 := HTi.out j x hx
          have hxn : x < n := by rw [HNC.out]; exact HIX.out j x hx
          have hxI : (x : Int) < (n : Int) := by omega
          have hx0 : (0 : Int) ≤ (x : Int) := by omega
          obtain ⟨y, hy⟩ : ∃ y, C[x]? = some y := ⟨_, List.getElem?_eq_getElem (by rw [← HNC.out]; exact hxn)⟩
          have c3 := HCi.out.2 x y hy
          obtain ⟨hy0, hy1⟩ := HBd.out x y hy
          have hws : IntKind.i64.wrap (s + y) = s + y := IntWalk.i64_in _ (by omega)
          have hlen : ((fillI R k).set k s).length = n := by rw [List.length_set, HFl.out, HRl.out]
          have c4 : wr.cell? ⟨w.heap.size, k, none⟩ = some (.int .i64 s) := by
            rw [World.ownsRow.cellAt HOi.out k (by omega), List.getElem?_map, List.getElem?_set, if_pos rfl, if_pos (by rw [HFl.out, HRl.out]; exact hlt)]
            rfl
          have f4 := World.ownsRow.frozenAt HOi.out k
          have HSe : Hid (sumL C to 0 = sumL C (to.drop (j + 1)) (capA (s + y))) := Lib.hid (by
            rw [HS.out, List.drop_eq_getElem_cons hjl, sumL, (List.getElem?_eq_some_iff.1 hx).2, hy]
            rfl)
          have hcap : 0 ≤ capA (s + y) ∧ capA (s + y) ≤ 1152921504606846977 := by unfold capA; omega
          have HOe : Hid ((wr.setCell ⟨w.heap.size, k, none⟩ (.int .i64 (capA (s + y)))).drew.ownsRow w.heap.size 2 1 (.slice (some ⟨w.heap.size, 0, none⟩) n n) n (((fillI R k).set k (capA (s + y))).map (Value.int .i64))) := Lib.hid (by
            have h1 := (World.ownsRow.stored HOi.out k (.int .i64 (capA (s + y)))).1
            rw [← List.map_set, List.set_set] at h1
            exact h1)
          have hbs : Below w.heap.size wr (wr.setCell ⟨w.heap.size, k, none⟩ (.int .i64 (capA (s + y)))).drew := ((Below.refl _ _).setCell (p := ⟨w.heap.size, k, none⟩) (Nat.le_refl _) _).drew
          have HCe := Lib.hid (HCi.out.later (hbs.mono HN.out))
          have HEe := Lib.hid (HEi.out.later (hbs.mono HN.out))
          have HTe : Hid (∀ (j x : Nat), to[j]? = some x → (wr.setCell ⟨w.heap.size, k, none⟩ (.int .i64 (capA (s + y)))).drew.cell? ⟨gi, j, none⟩ = some (.int .i64 (x : Int))) := Lib.hid (fun j x hx => (hbs.cell (p := ⟨gi, j, none⟩) (Nat.lt_of_lt_of_le hgi HN.out)).trans (HTi.out j x hx))
          have HBe := Lib.hid (HBi.out.trans hbs)
          have HCap := Lib.hid hcap
          have hns : w.heap.size ≤ (wr.setCell ⟨w.heap.size, k, none⟩ (.int .i64 (capA (s + y)))).drew.heap.size := by simp [World.setCell]; omega
          clear hcap hbs hlen hx hy HS HOi HCi HEi HTi HBi
          unfold capA at HOe HCe HEe HTe HBe hns HSe HCap
          go_wp2_with fail
          go_big_region
          all_goals go_wp2_with fail
          go_roundw
          case rel => exact ⟨j + 1, _, by first | rfl | go_num, hjl, HCap.out.1, HCap.out.2, HSe, HOe, HCe, HEe, HTe, HBe, hns⟩
          case measure => simp [intOf]; omega
        · have hjI : ¬ ((j : Int) < (to.length : Int)) := by omega
          obtain rfl : j = to.length := by omega
          have HOe : Hid (wr.ownsRow w.heap.size 2 1 (.slice (some ⟨w.heap.size, 0, none⟩) n n) n ((fillI R (k + 1)).map (Value.int .i64))) := Lib.hid (by
            have h := HS.out
            rw [List.drop_length, sumL] at h
            rw [← HFin.out, h]
            exact HOi.out)
          clear HS HOi
          go_wp2_with fail
          go_roundw
          case rel => exact ⟨k + 1, by first | rfl | go_num, hlt, HOe, HCi, HEi, HBi, hsi⟩
          case measure => simp [intOf]; omega
    · have hltI : ¬ ((k : Int) < (n : Int)) := by omega
      obtain rfl : k = n := by omega
      have HOe : Hid (OwnN wo w.heap.size (.slice (some ⟨w.heap.size, 0, none⟩) k k) R) := Lib.hid (by
        have h := HOr.out
        have e : fillI R k = R := by rw [← HRl.out]; exact fillI_all R
        rw [e] at h
        unfold OwnN
        rw [HRl.out]
        exact h)
      clear HOr
      go_wp2_with fail
      go_ret
      exact ⟨⟨w.heap.size, rfl, HOe.out⟩, HBr.out⟩
end Go.Proofs.YtaipaddfehpmgaaDoor
