/-
  At of the reference; equality of lists. Nothing is assumed.
-/
import Derived.Test.YthnlkijkgnmbhaaDoorDmAt
import Derived.BigRegion
namespace Go.Proofs.YthnlkijkgnmbhaaDoor
open Go.RowKit

def V.eqs (l m : List V) : Bool := V.cmps l m == 0
set_option maxHeartbeats 400000 in
theorem equalAll_any (l m : List V) (sa sb : Value) (w : World) (B : Nat) (hra : Rep w B sa l) (hrb : Rep w B sb m) (hB : B ≤ w.heap.size) :
    Calls Tryd.prog 13 #[sa, sb] w fun e w' => e = .returned (.bool (V.eqs l m)) ∧ Below w.heap.size w w' := by
  have HC := Lib.hid (compareAll_any l m (fun x _ => refCompare_any x) sa sb w B hra hrb hB)
  obtain ⟨oa, ca, rfl, _, _, _⟩ := hra.slice
  obtain ⟨ob, cb, rfl, _, _, _⟩ := hrb.slice
  clear hra hrb
  go_enter Tryd.func13, Tryd.ntmps13
  go_wp2_with fail
  refine HC.out.mono ?_
  rintro e w1 ⟨rfl, hb1⟩
  go_wp2_with fail
  go_ret
  exact ⟨ret_bool rfl, hb1⟩

set_option maxRecDepth 100000 in
set_option maxHeartbeats 3200000 in
theorem rats_any (l : List (List V)) (x : Value) (N : Int) (w : World) (B : Nat) (hx : LAx w B x l) (hB : B ≤ w.heap.size) (hl : l.length ≤ 1000) :
    Calls Tryd.prog 26 #[.agg #[x], .int .i64 N] w fun e w' => (∃ sl, e = .returned (.tuple #[sl, .int .i64 (atE l N)]) ∧ RepS w' (fun b => b < B ∨ w.heap.size ≤ b ∧ b < w'.heap.size) sl (atL l N)) ∧ Below w.heap.size w w' := by
  have HX := Lib.hid hx
  obtain ⟨oa, ca, rfl, _, hlm⟩ := hx.form
  have hB0 : Below w.heap.size w (w.alloc (.cells #[.slice oa l.length ca] 24)) := below1 _ _
  have hd : (w.alloc (.cells #[.slice oa l.length ca] 24)).cell? ⟨w.heap.size, 0, none⟩ = some (.slice oa l.length ca) := cell_at _ _ _ _ _ rfl
  have HS := Lib.hid (rsize_any l _ _ B (hx.later (hB0.mono hB)) (by simp; omega))
  have HB0 := Lib.hid hB0
  clear hx hB0
  go_enter Tryd.func26, Tryd.ntmps26
  go_wp2_with fail
  refine HS.out.mono ?_
  rintro e w3 ⟨rfl, hb3⟩
  have HBD := Lib.hid (show Below (w.heap.size + 1) (w.alloc (.cells #[.slice oa l.length ca] 24)) w3 from hb3.mono (by simp))
  have hd3 := dbox HBD.out
  have HB3 := Lib.hid (HB0.out.trans (hb3.mono (by simp)))
  have hs3 := hb3.size
  rw [World.size_alloc] at hs3
  clear hd hb3
  rcases szE_cases l with ⟨hz, hzn⟩ | ⟨hz, hzn⟩
  · have hsz60 : prodL l ≤ 1152921504606846976 := by
      unfold szE at hz
      rw [szD_eq] at hz
      split at hz
      · assumption
      · cases hz
    rw [hz, hzn]
    by_cases hlow : N < 0
    · have HZ := Lib.hid (atE_out (l := l) (N := N) hz (.inl hlow))
      go_wp2_with fail
      go_ret2
      exact ⟨⟨.slice none 0 0, ret_pair rfl (by rw [HZ.out.1]; rfl), by rw [HZ.out.2]; exact RepS.nil⟩, HB3.out⟩
    by_cases hbig : (prodL l : Int) ≤ N
    · have HZ := Lib.hid (atE_out (l := l) (N := N) hz (.inr (by rw [hzn]; exact hbig)))
      go_wp2_with fail
      go_ret2
      exact ⟨⟨.slice none 0 0, ret_pair rfl (by rw [HZ.out.1]; rfl), by rw [HZ.out.2]; exact RepS.nil⟩, HB3.out⟩
    have HZ := Lib.hid (atE_in (l := l) (N := N) hz (by rw [hzn]; omega))
    obtain ⟨m, rfl⟩ : ∃ m : Nat, N = m := ⟨N.toNat, by omega⟩
    have hne := Lib.hid (show ∀ a, a ∈ l → a.length ≠ 0 from hasNil_no (by
      by_cases h : hasNil l = false
      · exact h
      · have := prodL_nil (by simpa using h); omega))
    have HM60 := Lib.hid (show m ≤ 1152921504606846976 by omega)
    obtain ⟨i0, hi, hz0, hz1, hz2⟩ := info_parts infoValue
    have hwr : wrap64 ((l.length : Int) - 1) = (l.length : Int) - 1 := IntWalk.wrap64_in _ (by omega)
    go_wp2_with (at_make; refine wpList_make_full _ rfl _ _ 33 rfl w3.heap.size 48 i0 _ 4 Tryd.underlying33 hi hz0 hz1 _ _ _ _ l.length rfl rfl rfl rfl ?b2 ?b3 (Nat.le_refl _) ?_)
    case b2 => rw [hz2]; omega
    case b3 => unfold maxLen; omega
    intro w4 hown4 hgrow4
    have hb4 : Below w3.heap.size w3 w4 := (Below.refl _ _).grown hgrow4 (Nat.le_refl _) (fun k e => by cases e)
    have HR4 := Lib.hid (RowV.made hown4 (Nat.le_refl _))
    have HB4 := Lib.hid (HB3.out.trans (hb4.mono (by omega)))
    have HBD4 := Lib.hid (HBD.out.trans (hb4.mono (by omega)))
    have hd4 := dbox HBD4.out
    have hs4 := hb4.size
    clear hown4 hgrow4 hd3 hb4 hsz60 hz hzn hlow hbig
    go_wp2_with fail
    clear hd4
    go_loopw [9, 1] (fun v q wr => ∃ i : Nat, i ≤ l.length ∧ v = .int .i64 ((i : Int) - 1) ∧ q = .int .i64 ((digs (l.drop i) m).2 : Nat) ∧
        Hid (∃ f, RowV wr w3.heap.size l.length f ∧ ∀ j u, (digs l m).1[j]? = some u → i ≤ j → ∃ s, f j = some (u, s) ∧ Rep w B s u.l) ∧ Hid (Below (w.heap.size + 1) (w.alloc (.cells #[.slice oa l.length ca] 24)) wr ∧ w4.heap.size ≤ wr.heap.size)) (fun v _ _ => (intOf v + 1).toNat)
    case atStart => 
      refine ⟨l.length, Nat.le_refl _, by first | rfl | rw [hwr], by rw [digs_end], Lib.hid ⟨_, HR4.out, fun j u hu hj => ?_⟩, Lib.hid ⟨HBD4.out, Nat.le_refl _⟩⟩
      have := (List.getElem?_eq_some_iff.1 hu).1
      rw [digs_len] at this
      omega
    case round =>
      obtain ⟨i, hi1, rfl, rfl, HF, HBR⟩ := hrel
      have HBW := Lib.hid (HB0.out.trans (HBR.out.1.mono (Nat.le_succ _)))
      cases i with
      | zero =>
        go_wp2_with fail
        go_ret2
        refine ⟨⟨.slice (some ⟨w3.heap.size, 0, none⟩) l.length l.length, ret_pair rfl (by rw [HZ.out.1]; rfl), ?_⟩, HBW.out⟩
        obtain ⟨f, hrow, hf⟩ := HF.out
        have h := RowV.repS (l := (digs l m).1) (S := fun b => b < B ∨ w.heap.size ≤ b ∧ b < wr.heap.size) (cap := l.length) (by rw [digs_len]; exact hrow) (.inr ⟨by have := HB3.out.size; omega, hrow.lt⟩) (by rw [digs_len]; exact Nat.le_refl _) (by rw [digs_len]; exact hlm) (fun i v hv => by
          obtain ⟨s, h1, h2⟩ := hf i v hv (Nat.zero_le _)
          exact ⟨s, h1, (RepS.of (h2.later (HBW.out.mono hB))).keep (fun b hb => .inl hb) (fun _ _ => rfl)⟩)
        rw [digs_len] at h
        rw [HZ.out.2, Int.toNat_natCast]
        exact h
      | succ i =>
        have hil : i < l.length := by omega
        have hsub : (((i + 1 : Nat) : Int) - 1) = (i : Int) := by omega
        obtain ⟨f, hrow, hf⟩ := HF.out
        have HROW := Lib.hid hrow
        have HFF := Lib.hid hf
        have hgl := hrow.lt
        have hd5 := dbox HBR.out.1
        obtain ⟨a, ha⟩ : ∃ a, l[i] = a := ⟨_, rfl⟩
        have hai : l[i]? = some a := by rw [← ha]; exact List.getElem?_eq_getElem hil
        have hal := hne.out a (List.mem_of_getElem? hai)
        obtain ⟨b, off, oe, ce, rfl, hb, hc, hr⟩ := HX.out.at_ hai
        obtain ⟨q, hq⟩ : ∃ q, (digs (l.drop (i + 1)) m).2 = q := ⟨_, rfl⟩
        obtain ⟨r, hrr⟩ : ∃ r, q % a.length = r := ⟨_, rfl⟩
        have hrl : r < a.length := by rw [← hrr]; exact Nat.mod_lt _ (by omega)
        have hdd := digs_drop l m i hil
        rw [ha, hq, hrr] at hdd
        obtain ⟨u, hu⟩ : ∃ u, a[r] = u := ⟨_, rfl⟩
        have hgu : a.getD r zeroV = u := by rw [← hu]; simp [List.getD, hrl]
        rw [hgu] at hdd
        have HDD := Lib.hid hdd
        have hc5 := (HBW.out.cell (p := ⟨b, off + i, none⟩) (Nat.lt_of_lt_of_le hb hB)).trans hc
        obtain ⟨oa3, ca3, hsl, _, _, hel3⟩ := hr.slice
        cases hsl
        obtain ⟨b2, off2, oe2, ce2, rfl, hb2, c0, c1, c2, c3, hr2⟩ := hel3 r u (by rw [← hu]; exact List.getElem?_eq_getElem hrl)
        have hb2w : b2 < w.heap.size := Nat.lt_of_lt_of_le hb2 hB
        rw [← HBW.out.cell (p := ⟨b2, _, none⟩) hb2w] at c0 c1 c2 c3
        have HR2 := Lib.hid hr2
        have hrem : Int.tmod (q : Int) (a.length : Int) = (r : Int) := by rw [← hrr]; rfl
        have HQW := Lib.hid (show wrap64 ((q : Int) / (a.length : Int)) = ((q / a.length : Nat) : Int) from by
          have h1 : q ≤ m := by rw [← hq, digs_two]; exact Nat.div_le_self _ _
          have h2 : q / a.length ≤ q := Nat.div_le_self _ _
          have h3 := HM60.out
          rw [← Int.natCast_ediv]
          generalize q / a.length = z at *
          exact IntWalk.wrap64_in (z : Int) (by omega))
        have hal0 : (a.length : Int) ≠ 0 := by omega
        have hr0 : (0 : Int) ≤ (r : Int) := by omega
        have hr1 : (r : Int) < (a.length : Int) := by omega
        have hi0 : (0 : Int) ≤ (i : Int) := by omega
        have hi1' : (i : Int) < (l.length : Int) := by omega
        obtain ⟨d0, hd0⟩ := hrow.there (o := i * 4) (by omega)
        obtain ⟨d1, hd1⟩ := hrow.there (o := i * 4 + 1) (by omega)
        obtain ⟨d2, hd2⟩ := hrow.there (o := i * 4 + 2) (by omega)
        obtain ⟨d3, hd3⟩ := hrow.there (o := i * 4 + 3) (by omega)
        have e0 := hrow.frozen (i * 4)
        have e1 := hrow.frozen (i * 4 + 1)
        have e2 := hrow.frozen (i * 4 + 2)
        have e3 := hrow.frozen (i * 4 + 3)
        rw [hsub, hq]
        clear hai hc hr hel3 hr2 hdd hgu hu hrow hf hrr hq ha hsub hwr
        go_wp2_with fail
        go_region
        have hwi : wrap64 ((i : Int) - 1) = (i : Int) - 1 := IntWalk.wrap64_in _ (by omega)
        clear c0 c1 c2 c3 d0 d1 d2 d3 hd0 hd1 hd2 hd3 e0 e1 e2 e3 hd5 hc5
        go_wp2_with fail
        go_roundw
        case rel =>
          have hu : (digs l m).1[i]? = some u := by
            have h := digs_tail l m i (by omega)
            rw [HDD.out] at h
            have h0 : ((digs l m).1.drop i)[0]? = some u := by rw [← h]; rfl
            rwa [List.getElem?_drop, Nat.add_zero] at h0
          refine ⟨i, by omega, by first | rfl | rw [hwi], by first | rw [HQW.out, HDD.out] | rw [HDD.out], Lib.hid ⟨_, ((HROW.out.keep (w' := wr.drew) rfl).store hil u _), fun j z hz hj => ?_⟩, Lib.hid ⟨put4_below (v := u) (s := .slice oe2 u.l.length ce2) (k := i) (HBR.out.1.trans (below_drewN wr _ 1)) (by omega), ?_⟩⟩
          case refine_2 =>
            show w4.heap.size ≤ (put4 wr w3.heap.size i u (.slice oe2 u.l.length ce2)).heap.size
            rw [put4_size]
            exact HBR.out.2
          by_cases e : j = i
          · subst e
            rw [hu] at hz
            cases hz
            exact ⟨_, if_pos rfl, HR2.out⟩
          · obtain ⟨s, h1, h2⟩ := HFF.out j z hz (by omega)
            exact ⟨s, by simp only [if_neg e]; exact h1, h2⟩
        case measure => simp [intOf]
  · have HZ := Lib.hid (atE_size (N := N) (by rw [hz]; decide : szE l ≠ 0))
    rw [hz, hzn]
    go_wp2_with fail
    go_ret2
    exact ⟨⟨.slice none 0 0, ret_pair rfl (by rw [HZ.out.1, hz]; rfl), by rw [HZ.out.2]; exact RepS.nil⟩, HB3.out⟩

theorem rat_any (l : List (List V)) (x : Value) (N : Int) (w : World) (B : Nat) (hx : LAx w B x l) (hB : B ≤ w.heap.size) (hl : l.length ≤ 1000) :
    Calls Tryd.prog 26 #[.agg #[x], .int .i64 N] w fun e w' => (∃ sl, e = .returned (.tuple #[sl, .int .i64 (atE l N)]) ∧ Rep w' w'.heap.size sl (atL l N)) ∧ Below w.heap.size w w' :=
  (rats_any l x N w B hx hB hl).mono fun e w' ⟨⟨sl, h1, h2⟩, h3⟩ => ⟨⟨sl, h1, h2.rep (fun b hb => by have := h3.size; omega)⟩, h3⟩

end Go.Proofs.YthnlkijkgnmbhaaDoor
