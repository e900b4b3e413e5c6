/-
  The walks of Count, shallow and Small: they return.
-/
import Derived.Test.YthnlkijkgnmbhaaDoorProg
import Derived.Test.YthnlkijkgnmbhaaDoorRep
import Derived.WalkSpells
import Derived.WalkLawsBesides
import Derived.Lib.Hide
namespace Go.Proofs.YthnlkijkgnmbhaaDoor
open Go.RowKit

theorem drop_v (l : List V) (k : Nat) (h : k < l.length) : l.drop k = l[k] :: l.drop (k + 1) := List.drop_eq_getElem_cons h

set_option maxHeartbeats 400000 in
theorem count_any (l : List V) : ∀ (sl : Value) (w : World) (B : Nat) (most : Int), Rep w B sl l → B ≤ w.heap.size →
    Calls Tryd.prog 35 #[sl, .int .i64 most] w fun e w' => e = .returned (.int .i64 (V.cnts most 0 l)) ∧ Below w.heap.size w w' := by
  induction l using V.inds with
  | h l ih =>
  intro sl w B most hrep hB
  obtain ⟨oa, cap, rfl, hlc, hm, hel⟩ := hrep.slice
  go_enter Tryd.func35, Tryd.ntmps35
  go_wp2_with fail
  go_loopw [5, 6] (fun s i wr => ∃ (k : Nat) (N : Int), k ≤ l.length ∧ i = .int .i64 k ∧ s = .int .i64 N ∧ Hid (V.cnts most N (l.drop k) = V.cnts most 0 l) ∧ Below w.heap.size w wr) (fun _ i _ => l.length - (intOf i).toNat)
  case atStart => exact ⟨0, 0, Nat.zero_le _, rfl, rfl, rfl, Below.refl _ _⟩
  case round =>
    obtain ⟨k, N, hk, rfl, rfl, HD, hbel⟩ := hrel
    by_cases hlt : k < l.length
    · by_cases hle : N ≤ most
      · obtain ⟨b, off, oe, ce, rfl, hb, h0, h1, h2, h3, hr⟩ := hel k _ (List.getElem?_eq_getElem hlt)
        rw [← hbel.cell (p := ⟨b, _, none⟩) (Nat.lt_of_lt_of_le hb hB)] at h0 h1 h2 h3
        have hs := hbel.size
        go_wp2_with fail
        refine (ih _ (List.getElem_mem hlt) _ _ B _ (hr.later (hbel.mono hB)) (by omega)).mono ?_
        rintro e w1 ⟨rfl, hb1⟩
        have HS := Lib.hid (drop_v l k hlt)
        go_wp2_with fail
        go_roundw
        case rel => exact ⟨k + 1, _, hlt, by go_num, rfl, by
          have h := HD.out
          rw [HS.out, V.cnts_in _ _ _ _ (by omega), V.cnt_eq] at h
          exact h, hbel.trans (hb1.mono (by omega))⟩
        case measure => simp [intOf]; omega
      · go_wp2_with fail
        go_ret
        exact ⟨ret_int (by rw [← HD.out, V.cnts_out _ _ _ (by omega)]), hbel⟩
    · go_wp2_with fail
      go_ret
      exact ⟨ret_int (by rw [← HD.out, List.drop_of_length_le (by omega), V.cnts_nil]), hbel⟩

set_option maxHeartbeats 400000 in
theorem shallow_any (v : V) : ∀ (sl : Value) (w : World) (B : Nat) (d : Int), Rep w B sl v.l → B ≤ w.heap.size →
    Calls Tryd.prog 36 #[.agg #[.int .i64 v.t, .int .i64 v.n, .string v.s, sl], .int .i64 d] w fun e w' => e = .returned (.bool (v.sh d)) ∧ Below w.heap.size w w' := by
  induction v using V.ind with
  | h v ih =>
  intro sl w B d hrep hB
  obtain ⟨oa, cap, rfl, hlc, hm, hel⟩ := hrep.slice
  by_cases hd : d = 0
  · have hz : v.sh d = false := by rw [V.sh_eq, if_pos (.inl hd)]
    subst hd
    rw [hz]; clear hz
    go_enter Tryd.func36, Tryd.ntmps36
    go_wp2_with fail
    go_ret
    exact ⟨rfl, below1 _ _⟩
  have hd' : (d == 0) = false := beq_eq_false_iff_ne.2 hd
  by_cases ht : 100 < (v.s.size : Int)
  · have hz : v.sh d = false := by rw [V.sh_eq, if_pos (.inr (by omega))]
    rw [hz]; clear hz hd
    go_enter Tryd.func36, Tryd.ntmps36
    go_wp2_with fail
    go_ret
    exact ⟨rfl, below1 _ _⟩
  have hz : v.sh d = V.shs (wrap64 (d - 1)) v.l := by rw [V.sh_eq, if_neg (by omega)]
  rw [hz]; clear hz hd
  go_enter Tryd.func36, Tryd.ntmps36
  go_wp2_with fail
  go_loopw [5] (fun i wr => ∃ (k : Nat), k ≤ v.l.length ∧ i = .int .i64 k ∧ Hid (V.shs (wrap64 (d - 1)) (v.l.drop k) = V.shs (wrap64 (d - 1)) v.l) ∧ Below (w.heap.size + 1) (w.alloc (.cells #[.int .i64 v.t, .int .i64 v.n, .string v.s, .slice oa v.l.length cap] 48)) wr) (fun i _ => v.l.length - (intOf i).toNat)
  case atStart => exact ⟨0, Nat.zero_le _, rfl, rfl, Below.refl _ _⟩
  case round =>
    obtain ⟨k, hk, rfl, HD, hbel'⟩ := hrel
    have hbel : Below w.heap.size w wr := (below1 _ _).trans (hbel'.mono (by omega))
    have hown : wr.cell? ⟨w.heap.size, 3, none⟩ = some (.slice oa v.l.length cap) := by
      rw [hbel'.cell (p := ⟨w.heap.size, 3, none⟩) (Nat.lt_succ_self _)]
      rw [World.cell?_alloc_at _ _ _ _ rfl]; rfl
    by_cases hlt : k < v.l.length
    · obtain ⟨b, off, oe, ce, rfl, hb, h0, h1, h2, h3, hr⟩ := hel k _ (List.getElem?_eq_getElem hlt)
      rw [← hbel.cell (p := ⟨b, _, none⟩) (Nat.lt_of_lt_of_le hb hB)] at h0 h1 h2 h3
      have hs := hbel.size
      go_wp2_with fail
      refine (ih _ (List.getElem_mem hlt) _ _ B _ (hr.later (hbel.mono hB)) (by omega)).mono ?_
      rintro e w1 ⟨rfl, hb1⟩
      have hs1 := hbel'.size
      have HS := Lib.hid (drop_v v.l k hlt)
      cases hr : v.l[k].sh (wrap64 (d - 1))
      · have HR := Lib.hid hr
        go_wp2_with fail
        go_ret
        exact ⟨ret_bool (by rw [← HD.out, HS.out, V.shs_cons, if_neg (by rw [HR.out]; simp)]), hbel.trans (hb1.mono (by omega))⟩
      · have HR := Lib.hid hr
        go_wp2_with fail
        go_roundw
        case rel => exact ⟨k + 1, hlt, by go_num, by
          have h := HD.out
          rw [HS.out, V.shs_cons, if_pos HR.out] at h
          exact h, hbel'.trans (hb1.mono (by simp at hs1; omega))⟩
        case measure => simp [intOf]; omega
    · go_wp2_with fail
      go_ret
      exact ⟨ret_bool (by rw [← HD.out, List.drop_of_length_le (by omega), V.shs_nil]), hbel⟩

set_option maxHeartbeats 400000 in
theorem small_any (v : V) (sl : Value) (w : World) (B : Nat) (hrep : Rep w B sl v.l) (hB : B ≤ w.heap.size) :
    Calls Tryd.prog 21 #[.agg #[.int .i64 v.t, .int .i64 v.n, .string v.s, sl]] w fun e w' => e = .returned (.bool v.small) ∧ Below w.heap.size w w' := by
  obtain ⟨oa, cap, rfl, hlc, hm, hel⟩ := hrep.slice
  go_enter Tryd.func21, Tryd.ntmps21
  go_wp2_with fail
  have hR := Rep.new1 (t := 48) (hrep.later ((below1 w (.cells #[.int .i64 v.t, .int .i64 v.n, .string v.s, .slice oa v.l.length cap] 48)).mono hB)) (by simp; omega) (n := w.heap.size + 1) (by simp) (Nat.le_refl _)
  refine (count_any [v] _ _ _ _ hR (by simp)).mono ?_
  rintro e w1 ⟨rfl, hb1⟩
  have hb2 : Below (w.heap.size + 1) (w.alloc (.cells #[.int .i64 v.t, .int .i64 v.n, .string v.s, .slice oa v.l.length cap] 48)) w1 :=
    (((Below.refl _ _).alloc (by simp) _).trans (hb1.mono (by simp)))
  have hb3 : Below w.heap.size w w1 := (below1 _ _).trans (hb2.mono (by omega))
  obtain ⟨c0, c1, c2, c3⟩ := box_later hb2
  clear hb2
  have hs := hb3.size
  by_cases hn : V.cnts 90 0 [v] ≤ 90
  · have HN := Lib.hid hn
    go_wp2_with fail
    refine (shallow_any v _ _ B 8 (hrep.later (hb3.mono hB)) (by omega)).mono ?_
    rintro e w2 ⟨rfl, hb4⟩
    go_wp2_with fail
    go_ret
    exact ⟨ret_bool (by simp [V.small, HN.out]), hb3.trans (hb4.mono (by omega))⟩
  · have HN := Lib.hid hn
    go_wp2_with fail
    go_ret
    exact ⟨ret_bool (by have := HN.out; simp [V.small]; omega), hb3⟩

end Go.Proofs.YthnlkijkgnmbhaaDoor
