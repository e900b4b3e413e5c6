/-
  Rules and arities of the reference. Nothing is assumed.
-/
import Derived.Test.YtdfhfljmcakilaaTmRules
namespace Go.Proofs.Ytdfhfljmcakilaa
open Go.RowKit

theorem own_one (w : World) (H : Nat) (z : Int) (h : H ≤ w.heap.size) : OwnI (w.alloc (.cells #[.int .i64 z] 3)) H (.slice (some ⟨w.heap.size, 0, none⟩) 1 1) [z] :=
  World.ownsRow_lit w #[.int .i64 z] 1 h (by unfold maxLen; omega) rfl

set_option maxRecDepth 100000 in
set_option maxHeartbeats 1600000 in
theorem rrules_any (v : T) : ∀ (sl : Value) (w : World) (B : Nat), Rep w B sl v.l → B ≤ w.heap.size → v.size ≤ 900 →
    Calls Try.prog 17 #[.agg #[.int .i64 v.r, sl]] w fun e w' => RetI w.heap.size v.rules e w' ∧ Below w.heap.size w w' := by
  induction v using T.ind with
  | h v ih =>
  intro sl w B hrep hB hsz
  obtain ⟨oa, cap, rfl, hlc, hm, hel⟩ := hrep.slice
  have HSZ := Lib.hid v.size_eq
  have HPR := Lib.hid (show v.rules = v.r :: (T.pres v.l).map T.r by unfold T.rules; rw [T.pre_eq]; rfl)
  go_enter Try.func17, Try.ntmps17
  go_wp2_with fail
  go_loopw [3, 4] (fun s i wr => ∃ (k : Nat), k ≤ v.l.length ∧ i = .int .i64 k ∧ Hid (OwnI wr (w.heap.size + 1) s (v.r :: (T.pres (v.l.take k)).map T.r)) ∧ Below (w.heap.size + 1) (w.alloc (.cells #[.int .i64 v.r, .slice oa v.l.length cap] 24)) wr) (fun _ i _ => v.l.length - (intOf i).toNat)
  case atStart =>
    refine ⟨0, Nat.zero_le _, rfl, Lib.hid ?_, (Below.refl _ _).alloc (by simp) _⟩
    rw [List.take_zero, T.pres_nil]
    have h := own_one (w.alloc (.cells #[.int .i64 v.r, .slice oa v.l.length cap] 24)) (w.heap.size + 1) v.r (by simp)
    rw [World.size_alloc] at h
    exact h
  case round =>
    obtain ⟨k, hk, rfl, HO, hbel'⟩ := hrel
    have hbel : Below w.heap.size w wr := (below1 _ _).trans (hbel'.mono (by omega))
    have hown := (Box.later (Box.new v (.slice oa v.l.length cap) 24 rfl) hbel' (Nat.lt_succ_self _)).2
    by_cases hlt : k < v.l.length
    · obtain ⟨b, off, oe, ce, rfl, hb, c0, c1, hr⟩ := hel k _ (List.getElem?_eq_getElem hlt)
      rw [← hbel.cell (p := ⟨b, _, none⟩) (Nat.lt_of_lt_of_le hb hB)] at c0 c1
      have hs := hbel.size
      have hs1 : w.heap.size + 1 ≤ wr.heap.size := by have := hbel'.size; simpa using this
      have HT := Lib.hid (List.take_succ_eq_append_getElem hlt)
      have hle := T.mem_sizes (List.getElem_mem hlt)
      have HLN : Hid ((T.pres (v.l.take k)).length + v.l[k].rules.length ≤ 900) := Lib.hid (by
        have h1 := T.sizes_take v.l (k + 1)
        rw [HT.out, T.sizes_snoc] at h1
        rw [T.rules_len]
        have := HSZ.out
        unfold T.sizes at h1 this
        omega)
      have hle2 : v.l[k].size ≤ 900 := by have := HSZ.out; omega
      clear hle
      go_wp2_with fail
      refine (ih _ (List.getElem_mem hlt) _ _ B (hr.later (hbel.mono hB)) (by omega) hle2 |>.mono ?_)
      rintro e w1 ⟨⟨v1, rfl, h1⟩, hb1⟩
      have HB1 := hbel'.trans (hb1.mono hs1)
      obtain ⟨o1, cc1, rfl, _, _, hsr⟩ := h1.holds.form rfl
      have HO1 := Lib.hid (HO.out.later hb1)
      have hs2 : w.heap.size + 1 ≤ w1.heap.size := Nat.le_trans hs1 hb1.size
      clear h1 hb1
      go_wp2_with (at_builtin; refine append_src rfl _ _ rfl (w.heap.size + 1) _ _ rfl HO1.out o1 _ cc1 rfl v.l[k].rules rfl hsr.src ?b1 hs2 ?_)
      case b1 => have := HLN.out; simp; omega
      intro v' w2 ho2 hg2
      have HB2 := below_grown HB1 hs2 HO1.out hg2
      have HO2 := Lib.hid ho2
      clear ho2 hg2
      go_wp2_with fail
      go_roundw
      case rel =>
        refine ⟨k + 1, hlt, by go_num, Lib.hid ?_, HB2⟩
        have h := HO2.out
        rw [HT.out, T.pres_snoc, List.map_append]
        exact h
      case measure => simp [intOf]; omega
    · go_wp2_with fail
      go_ret
      refine ⟨⟨_, rfl, ?_⟩, hbel⟩
      rw [HPR.out]
      have h := HO.out
      rw [List.take_of_length_le (by omega)] at h
      exact h.weak (by omega)

set_option maxRecDepth 100000 in
set_option maxHeartbeats 1600000 in
theorem rars_any (v : T) : ∀ (sl : Value) (w : World) (B : Nat), Rep w B sl v.l → B ≤ w.heap.size → v.size ≤ 900 →
    Calls Try.prog 34 #[.agg #[.int .i64 v.r, sl]] w fun e w' => RetI w.heap.size v.ars e w' ∧ Below w.heap.size w w' := by
  induction v using T.ind with
  | h v ih =>
  intro sl w B hrep hB hsz
  obtain ⟨oa, cap, rfl, hlc, hm, hel⟩ := hrep.slice
  have HSZ := Lib.hid v.size_eq
  have HPR := Lib.hid (show v.ars = (v.l.length : Int) :: (T.pres v.l).map (fun x => (x.l.length : Int)) by unfold T.ars; rw [T.pre_eq]; rfl)
  go_enter Try.func34, Try.ntmps34
  go_wp2_with fail
  go_loopw [3, 4] (fun s i wr => ∃ (k : Nat), k ≤ v.l.length ∧ i = .int .i64 k ∧ Hid (OwnI wr (w.heap.size + 1) s ((v.l.length : Int) :: (T.pres (v.l.take k)).map (fun x => (x.l.length : Int)))) ∧ Below (w.heap.size + 1) (w.alloc (.cells #[.int .i64 v.r, .slice oa v.l.length cap] 24)) wr) (fun _ i _ => v.l.length - (intOf i).toNat)
  case atStart =>
    refine ⟨0, Nat.zero_le _, rfl, Lib.hid ?_, (Below.refl _ _).alloc (by simp) _⟩
    rw [List.take_zero, T.pres_nil]
    have h := own_one (w.alloc (.cells #[.int .i64 v.r, .slice oa v.l.length cap] 24)) (w.heap.size + 1) (v.l.length : Int) (by simp)
    rw [World.size_alloc] at h
    exact h
  case round =>
    obtain ⟨k, hk, rfl, HO, hbel'⟩ := hrel
    have hbel : Below w.heap.size w wr := (below1 _ _).trans (hbel'.mono (by omega))
    have hown := (Box.later (Box.new v (.slice oa v.l.length cap) 24 rfl) hbel' (Nat.lt_succ_self _)).2
    by_cases hlt : k < v.l.length
    · obtain ⟨b, off, oe, ce, rfl, hb, c0, c1, hr⟩ := hel k _ (List.getElem?_eq_getElem hlt)
      rw [← hbel.cell (p := ⟨b, _, none⟩) (Nat.lt_of_lt_of_le hb hB)] at c0 c1
      have hs := hbel.size
      have hs1 : w.heap.size + 1 ≤ wr.heap.size := by have := hbel'.size; simpa using this
      have HT := Lib.hid (List.take_succ_eq_append_getElem hlt)
      have hle := T.mem_sizes (List.getElem_mem hlt)
      have HLN : Hid ((T.pres (v.l.take k)).length + v.l[k].ars.length ≤ 900) := Lib.hid (by
        have h1 := T.sizes_take v.l (k + 1)
        rw [HT.out, T.sizes_snoc] at h1
        rw [T.ars_len]
        have := HSZ.out
        unfold T.sizes at h1 this
        omega)
      have hle2 : v.l[k].size ≤ 900 := by have := HSZ.out; omega
      clear hle
      go_wp2_with fail
      refine (ih _ (List.getElem_mem hlt) _ _ B (hr.later (hbel.mono hB)) (by omega) hle2 |>.mono ?_)
      rintro e w1 ⟨⟨v1, rfl, h1⟩, hb1⟩
      have HB1 := hbel'.trans (hb1.mono hs1)
      obtain ⟨o1, cc1, rfl, _, _, hsr⟩ := h1.holds.form rfl
      have HO1 := Lib.hid (HO.out.later hb1)
      have hs2 : w.heap.size + 1 ≤ w1.heap.size := Nat.le_trans hs1 hb1.size
      clear h1 hb1
      go_wp2_with (at_builtin; refine append_src rfl _ _ rfl (w.heap.size + 1) _ _ rfl HO1.out o1 _ cc1 rfl v.l[k].ars rfl hsr.src ?b1 hs2 ?_)
      case b1 => have := HLN.out; simp; omega
      intro v' w2 ho2 hg2
      have HB2 := below_grown HB1 hs2 HO1.out hg2
      have HO2 := Lib.hid ho2
      clear ho2 hg2
      go_wp2_with fail
      go_roundw
      case rel =>
        refine ⟨k + 1, hlt, by go_num, Lib.hid ?_, HB2⟩
        have h := HO2.out
        rw [HT.out, T.pres_snoc, List.map_append]
        exact h
      case measure => simp [intOf]; omega
    · go_wp2_with fail
      go_ret
      refine ⟨⟨_, rfl, ?_⟩, hbel⟩
      rw [HPR.out]
      have h := HO.out
      rw [List.take_of_length_le (by omega)] at h
      exact h.weak (by omega)

end Go.Proofs.Ytdfhfljmcakilaa
