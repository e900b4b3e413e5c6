/-
  eachRow with the closures of DropColumn and of Split; DropColumn, Split of the package. Nothing is assumed.
-/
import Derived.Test.YtampofpllijfhaaTbSplA
namespace Go.Proofs.Ytampofpllijfhaa
open Go.RowKit

/-- A row without a cell. -/
def drpR (c : Nat) (r : Row) : Row := r.take c ++ r.drop (c + 1)
theorem part_pair (w : World) (B : Nat) (x y : Value) (r q : Row) (h : HoldsS w (· < B) x r) (h' : HoldsS w (· < B) y q) (hB : B ≤ w.heap.size) :
    HoldsT (w.alloc (.cells #[x, y] 29)) (· < w.heap.size + 1) (.slice (some ⟨w.heap.size, 0, none⟩) 2 2) [r, q] := by
  have hb1 := below1 w (.cells #[x, y] 29)
  refine ⟨_, 2, rfl, Nat.le_refl _, by omega, fun i z hi => ?_⟩
  match i, hi with
  | 0, hi =>
    simp at hi
    subst hi
    exact ⟨_, 0, x, rfl, by omega, by simp, (h.later (hb1.mono hB)).mono (by omega)⟩
  | 1, hi =>
    simp at hi
    subst hi
    exact ⟨_, 0, y, rfl, by omega, by simp, (h'.later (hb1.mono hB)).mono (by omega)⟩
  | i + 2, hi => simp at hi

set_option maxRecDepth 100000 in
set_option maxHeartbeats 1600000 in
theorem dropOne_any (x : Value) (r : List ByteArray) (c bx : Nat) (w : World) (B : Nat) (hx : HoldsS w (· < B) x r) (hB : B ≤ w.heap.size) (hc : c < r.length) (hr8 : r.length ≤ 8)
    (h1 : w.cell? ⟨bx, 0, none⟩ = some (.int .i64 (c : Int))) :
    Calls Try.prog 60 #[x, .pointer (some ⟨bx, 0, none⟩)] w fun e w' => (∃ v, e = .returned v ∧ HoldsS w' (Btw w.heap.size w'.heap.size) v (drpR c r)) ∧ Below w.heap.size w w' := by
  have HX := Lib.hid hx
  obtain ⟨oa, ca, rfl, hcap, _⟩ := hx.form
  obtain ⟨b, off, rfl, hb, hcell⟩ := hx.at_ (List.getElem?_eq_getElem hc)
  have hblt := cell_lt h1
  have HR : Hid (drpR c r = [r.take c, r.drop (c + 1)].flatten) := Lib.hid (by unfold drpR; simp)
  have hci0 : (0 : Int) ≤ (c : Int) := by omega
  have hci1 : (c : Int) < (r.length : Int) := by omega
  clear hx hcell
  obtain ⟨c1, hc1⟩ : ∃ c1, c + 1 = c1 := ⟨_, rfl⟩
  have hc1i : (c : Int) + 1 = (c1 : Int) := by omega
  rw [hc1] at HR
  have hc1l : (c1 : Int) ≤ (r.length : Int) := by omega
  have hc1c : (c1 : Int) ≤ (ca : Int) := by omega
  have hc1z : (0 : Int) ≤ (c1 : Int) := by omega
  have hwr : IntKind.i64.wrap (c1 : Int) = (c1 : Int) := IntWalk.i64_in _ (by omega)
  have hcc : (c : Int) ≤ (ca : Int) := by omega
  have HF8 : Hid ([r.take c, r.drop c1].flatten.length ≤ 20) := Lib.hid (by simp; omega)
  by_cases hca : ca = c1
  · subst hca
    have HP0 := part_pair w B _ (.slice (some ⟨b, off, none⟩) 0 0) _ (r.drop ca) (HX.out.take (show c ≤ r.length by omega)) (by rw [List.drop_of_length_le (by omega)]; exact HoldsS.empty _ _ _) hB
    have HP := Lib.hid (HP0.later (Below.refl (w.heap.size + 1) _).drew)
    have HJ := Lib.hid (joined_any _ [r.take c, r.drop ca] _ (w.heap.size + 1) HP.out (by simp [World.drew]) (by have := HF8.out; omega) (by simp))
    obtain ⟨R1, hR1⟩ : ∃ R1, [r.take c, r.drop ca].flatten = R1 := ⟨_, rfl⟩
    rw [hR1] at HJ HR HF8
    clear hR1
    clear HP0
    go_enter Try.func60, Try.ntmps60
    go_wp2_with fail
    go_region_law (first
      | (go_simp; go_at_call 53; refine HJ.out.mono ?_; rintro e w2 ⟨⟨g, rfl, hg, ho⟩, hb2⟩))
    all_goals
      have hbW : Below w.heap.size w w2 := ((below1 w _).drew).trans (hb2.mono (by simp [World.drew]))
      have HG := Lib.hid hg
      have HO := Lib.hid ho
      clear hg ho hb2
      go_wp2_with fail
      go_ret
      exact ⟨⟨_, rfl, by rw [HR.out]; exact HO.out.holds (P := Btw w.heap.size w2.heap.size) rfl (by have := HF8.out; omega) ⟨by have := HG.out; simp [World.drew] at this; omega, HO.out.lt⟩⟩, hbW⟩
  · have HP0 := part_pair w B _ (.slice (some ⟨b, off + c1, none⟩) (r.length - c1) (ca - c1)) _ (r.drop c1) (HX.out.take (show c ≤ r.length by omega)) (HX.out.drop (by omega)) hB
    have HP := Lib.hid (HP0.later (Below.refl (w.heap.size + 1) _).drew)
    have HJ := Lib.hid (joined_any _ [r.take c, r.drop c1] _ (w.heap.size + 1) HP.out (by simp [World.drew]) (by have := HF8.out; omega) (by simp))
    obtain ⟨R1, hR1⟩ : ∃ R1, [r.take c, r.drop c1].flatten = R1 := ⟨_, rfl⟩
    rw [hR1] at HJ HR HF8
    clear hR1
    clear HP0
    go_enter Try.func60, Try.ntmps60
    go_wp2_with fail
    go_region_law (first
      | (go_simp; go_at_call 53; refine HJ.out.mono ?_; rintro e w2 ⟨⟨g, rfl, hg, ho⟩, hb2⟩))
    all_goals
      have hbW : Below w.heap.size w w2 := ((below1 w _).drew).trans (hb2.mono (by simp [World.drew]))
      have HG := Lib.hid hg
      have HO := Lib.hid ho
      clear hg ho hb2
      go_wp2_with fail
      go_ret
      exact ⟨⟨_, rfl, by rw [HR.out]; exact HO.out.holds (P := Btw w.heap.size w2.heap.size) rfl (by have := HF8.out; omega) ⟨by have := HG.out; simp [World.drew] at this; omega, HO.out.lt⟩⟩, hbW⟩

set_option maxRecDepth 100000 in
set_option maxHeartbeats 1600000 in
theorem each_drop (x : Value) (t : List (List ByteArray)) (p1 : Nat) (g : Row → Row) (w : World) (B : Nat) (hx : HoldsT w (· < B) x t) (hB : B ≤ w.heap.size) (hl : t.length ≤ 8)
    (HCL : Hid (∀ (W : World) (y : Value) (r : Row), r ∈ t → HoldsS W (· < B) y r → Below w.heap.size w W → Calls Try.prog 60 #[y, .pointer (some ⟨p1, 0, none⟩)] W fun e w' => (∃ v, e = .returned v ∧ HoldsS w' (Btw W.heap.size w'.heap.size) v (g r)) ∧ Below W.heap.size W w')) :
    Calls Try.prog 59 #[x, .func (.func 60) #[] #[.pointer (some ⟨p1, 0, none⟩)]] w fun e w' => RetT w w' (t.map g) e ∧ Below w.heap.size w w' := by
  obtain ⟨i0, hi0, hz0, hz1, hz2⟩ := info_parts infoTexts
  have HX := Lib.hid hx
  obtain ⟨oa, ca, rfl, _, _⟩ := hx.form
  clear hx
  go_enter Try.func59, Try.ntmps59
  go_wp2_with (at_make; refine wpList_make_full _ rfl _ _ 22 rfl w.heap.size 29 i0 _ 1 Try.underlying22 hi0 hz0 hz1 _ _ _ _ t.length rfl rfl rfl rfl ?b2 ?b3 (Nat.le_refl _) ?_)
  case b2 => rw [hz2]; omega
  case b3 => unfold maxLen; omega
  intro w1 hown hgrow
  have hrow : RowsT w1 w.heap.size w.heap.size t.length ((t.take 0).map g) := RowsT.nil (Row1.made hown)
  have hg1 : w.heap.size < w1.heap.size := hrow.lt
  have hbw1 : Below w.heap.size w w1 := ((Below.refl _ _).grown hgrow (Nat.le_refl _) (fun k h => by cases h))
  clear hown hgrow
  go_wp2_with fail
  go_loopw [13] (fun j wr => ∃ k : Nat, k ≤ t.length ∧ j = .int .i64 k ∧ Hid (RowsT wr w.heap.size w.heap.size t.length ((t.take k).map g)) ∧ Below w.heap.size w wr) (fun j _ => t.length - (intOf j).toNat)
  case atStart => exact ⟨0, Nat.zero_le _, rfl, Lib.hid hrow, hbw1⟩
  case round =>
    obtain ⟨k, hk, rfl, HR, hbel⟩ := hrel
    clear hrow hg1 hbw1
    have hsz := hbel.size
    by_cases hlt : k < t.length
    · obtain ⟨b, off, o, cr, rfl, hb, h0, hrow⟩ := HX.out.at_ (List.getElem?_eq_getElem hlt)
      rw [← hbel.cell (p := ⟨b, _, none⟩) (Nat.lt_of_lt_of_le hb hB)] at h0
      have HCO := Lib.hid (HCL.out wr _ t[k] (List.getElem_mem hlt) (hrow.later (hbel.mono hB)) hbel)
      have HSN : Hid ((t.take (k + 1)).map g = (t.take k).map g ++ [g t[k]]) := Lib.hid (by rw [take_snoc t k hlt, List.map_append]; rfl)
      have HLN : Hid (((t.take k).map g).length = k) := Lib.hid (by simp; omega)
      have hki0 : (0 : Int) ≤ (k : Int) := by omega
      have hki1 : (k : Int) < (t.length : Int) := by omega
      clear hrow
      go_wp2_with fail
      refine HCO.out.mono ?_
      rintro e w2 ⟨⟨v, rfl, ho⟩, hb2⟩
      have HO := Lib.hid ho
      obtain ⟨ov, cv, rfl, _, _⟩ := ho.form
      have HR2 := Lib.hid (HR.out.later hb2)
      have hbel2 := hbel.trans (hb2.mono hsz)
      have hgl := HR.out.lt
      have hsz2 := hb2.size
      obtain ⟨u0, e0, z0⟩ : ∃ u, w2.cell? ⟨w.heap.size, k, none⟩ = some u ∧ w2.frozen? ⟨w.heap.size, k, none⟩ = false := by
        obtain ⟨xs, _, h1, _⟩ := HR2.out
        exact h1.cell k hlt
      clear ho HR h0
      go_wp2_with fail
      refine ⟨⟨k + 1, hlt, by go_num, ?_, hbel2.setCell (p := ⟨w.heap.size, k, none⟩) (Nat.le_refl _) _⟩, by simp [intOf]; omega⟩
      refine Lib.hid ?_
      rw [HSN.out]
      exact HR2.out.step hlt HLN.out (HO.out.keep (fun b hp _ => ⟨⟨Nat.le_trans hsz hp.1, hp.2⟩, by have := hp.1; omega⟩) (fun _ _ _ _ => rfl))
    · obtain rfl : k = t.length := by omega
      have HT : Hid (t.take t.length = t) := Lib.hid (List.take_length)
      go_wp2_with fail
      go_ret
      exact ⟨RetT.mk (HR.out.holds (by simp) (by omega) (Nat.le_refl _)) (by rw [HT.out]), hbel⟩

set_option maxRecDepth 100000 in
set_option maxHeartbeats 1600000 in
theorem each_split (x : Value) (t : List (List ByteArray)) (p1 p2 : Nat) (g : Row → Row) (w : World) (B : Nat) (hx : HoldsT w (· < B) x t) (hB : B ≤ w.heap.size) (hl : t.length ≤ 8)
    (HCL : Hid (∀ (W : World) (y : Value) (r : Row), r ∈ t → HoldsS W (· < B) y r → Below w.heap.size w W → Calls Try.prog 71 #[y, .pointer (some ⟨p1, 0, none⟩), .pointer (some ⟨p2, 0, none⟩)] W fun e w' => (∃ v, e = .returned v ∧ HoldsS w' (Btw W.heap.size w'.heap.size) v (g r)) ∧ Below W.heap.size W w')) :
    Calls Try.prog 59 #[x, .func (.func 71) #[] #[.pointer (some ⟨p1, 0, none⟩), .pointer (some ⟨p2, 0, none⟩)]] w fun e w' => RetT w w' (t.map g) e ∧ Below w.heap.size w w' := by
  obtain ⟨i0, hi0, hz0, hz1, hz2⟩ := info_parts infoTexts
  have HX := Lib.hid hx
  obtain ⟨oa, ca, rfl, _, _⟩ := hx.form
  clear hx
  go_enter Try.func59, Try.ntmps59
  go_wp2_with (at_make; refine wpList_make_full _ rfl _ _ 22 rfl w.heap.size 29 i0 _ 1 Try.underlying22 hi0 hz0 hz1 _ _ _ _ t.length rfl rfl rfl rfl ?b2 ?b3 (Nat.le_refl _) ?_)
  case b2 => rw [hz2]; omega
  case b3 => unfold maxLen; omega
  intro w1 hown hgrow
  have hrow : RowsT w1 w.heap.size w.heap.size t.length ((t.take 0).map g) := RowsT.nil (Row1.made hown)
  have hg1 : w.heap.size < w1.heap.size := hrow.lt
  have hbw1 : Below w.heap.size w w1 := ((Below.refl _ _).grown hgrow (Nat.le_refl _) (fun k h => by cases h))
  clear hown hgrow
  go_wp2_with fail
  go_loopw [13] (fun j wr => ∃ k : Nat, k ≤ t.length ∧ j = .int .i64 k ∧ Hid (RowsT wr w.heap.size w.heap.size t.length ((t.take k).map g)) ∧ Below w.heap.size w wr) (fun j _ => t.length - (intOf j).toNat)
  case atStart => exact ⟨0, Nat.zero_le _, rfl, Lib.hid hrow, hbw1⟩
  case round =>
    obtain ⟨k, hk, rfl, HR, hbel⟩ := hrel
    clear hrow hg1 hbw1
    have hsz := hbel.size
    by_cases hlt : k < t.length
    · obtain ⟨b, off, o, cr, rfl, hb, h0, hrow⟩ := HX.out.at_ (List.getElem?_eq_getElem hlt)
      rw [← hbel.cell (p := ⟨b, _, none⟩) (Nat.lt_of_lt_of_le hb hB)] at h0
      have HCO := Lib.hid (HCL.out wr _ t[k] (List.getElem_mem hlt) (hrow.later (hbel.mono hB)) hbel)
      have HSN : Hid ((t.take (k + 1)).map g = (t.take k).map g ++ [g t[k]]) := Lib.hid (by rw [take_snoc t k hlt, List.map_append]; rfl)
      have HLN : Hid (((t.take k).map g).length = k) := Lib.hid (by simp; omega)
      have hki0 : (0 : Int) ≤ (k : Int) := by omega
      have hki1 : (k : Int) < (t.length : Int) := by omega
      clear hrow
      go_wp2_with fail
      refine HCO.out.mono ?_
      rintro e w2 ⟨⟨v, rfl, ho⟩, hb2⟩
      have HO := Lib.hid ho
      obtain ⟨ov, cv, rfl, _, _⟩ := ho.form
      have HR2 := Lib.hid (HR.out.later hb2)
      have hbel2 := hbel.trans (hb2.mono hsz)
      have hgl := HR.out.lt
      have hsz2 := hb2.size
      obtain ⟨u0, e0, z0⟩ : ∃ u, w2.cell? ⟨w.heap.size, k, none⟩ = some u ∧ w2.frozen? ⟨w.heap.size, k, none⟩ = false := by
        obtain ⟨xs, _, h1, _⟩ := HR2.out
        exact h1.cell k hlt
      clear ho HR h0
      go_wp2_with fail
      refine ⟨⟨k + 1, hlt, by go_num, ?_, hbel2.setCell (p := ⟨w.heap.size, k, none⟩) (Nat.le_refl _) _⟩, by simp [intOf]; omega⟩
      refine Lib.hid ?_
      rw [HSN.out]
      exact HR2.out.step hlt HLN.out (HO.out.keep (fun b hp _ => ⟨⟨Nat.le_trans hsz hp.1, hp.2⟩, by have := hp.1; omega⟩) (fun _ _ _ _ => rfl))
    · obtain rfl : k = t.length := by omega
      have HT : Hid (t.take t.length = t) := Lib.hid (List.take_length)
      go_wp2_with fail
      go_ret
      exact ⟨RetT.mk (HR.out.holds (by simp) (by omega) (Nat.le_refl _)) (by rw [HT.out]), hbel⟩

end Go.Proofs.Ytampofpllijfhaa
