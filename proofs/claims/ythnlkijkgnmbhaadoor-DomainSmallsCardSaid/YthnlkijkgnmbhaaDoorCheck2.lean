/-
  The walks of checkList, checkTable and Check: Check returns what the plain function computes, for every value.
-/
import Derived.Test.YthnlkijkgnmbhaaDoorCheck
namespace Go.Proofs.YthnlkijkgnmbhaaDoor
open Go.RowKit

def CheckC (v : V) : Prop := ∀ (sl : Value) (w : World) (B : Nat), Rep w B sl v.l → B ≤ w.heap.size →
  Calls Tryd.prog 75 #[.agg #[.int .i64 v.t, .int .i64 v.n, .string v.s, sl]] w fun e w' => e = .returned (.int .i64 v.chk) ∧ Below w.heap.size w w'

theorem drop_v (l : List V) (k : Nat) (h : k < l.length) : l.drop k = l[k] :: l.drop (k + 1) := List.drop_eq_getElem_cons h

theorem neq_f {a b : Int} (h : a = b) : (a != b) = false := by subst h; simp
theorem neq_t {a b : Int} (h : a ≠ b) : (a != b) = true := bne_iff_ne.2 h

set_option maxHeartbeats 800000 in
theorem checkList_any (l : List V) (ih : ∀ x, x ∈ l → CheckC x) (sl : Value) (w : World) (B : Nat) (ty : Int) (hrep : Rep w B sl l) (hB : B ≤ w.heap.size) :
    Calls Tryd.prog 86 #[sl, .int .i64 ty] w fun e w' => e = .returned (.int .i64 (V.lst ty l)) ∧ Below w.heap.size w w' := by
  obtain ⟨oa, cap, rfl, hlc, hm, hel⟩ := hrep.slice
  by_cases h16 : 16 < l.length
  · have hz : V.lst ty l = 2 := if_pos h16
    rw [hz]; clear hz
    go_enter Tryd.func86, Tryd.ntmps86
    go_wp2_with fail
    go_ret
    exact ⟨rfl, Below.refl _ _⟩
  have hz : V.lst ty l = V.chkL ty l := if_neg h16
  rw [hz]; clear hz
  go_enter Tryd.func86, Tryd.ntmps86
  go_wp2_with fail
  go_loopw [13] (fun i wr => ∃ k : Nat, k ≤ l.length ∧ i = .int .i64 k ∧ Hid (V.chkL ty (l.drop k) = V.chkL ty l) ∧ Below w.heap.size w wr) (fun i _ => l.length - (intOf i).toNat)
  case atStart => exact ⟨0, Nat.zero_le _, rfl, rfl, Below.refl _ _⟩
  case round =>
    obtain ⟨k, hk, rfl, HD, hbel⟩ := hrel
    by_cases hlt : k < l.length
    · obtain ⟨b, off, oe, ce, rfl, hb, h0, h1, h2, h3, hr⟩ := hel k _ (List.getElem?_eq_getElem hlt)
      rw [← hbel.cell (p := ⟨b, _, none⟩) (Nat.lt_of_lt_of_le hb hB)] at h0 h1 h2 h3
      have hs := hbel.size
      have HS := Lib.hid (drop_v l k hlt)
      by_cases hty : l[k].t = ty
      · have ft := neq_f hty
        have HT := Lib.hid hty; clear hty
        go_wp2_with fail
        refine (ih _ (List.getElem_mem hlt) _ _ B (hr.later ((hbel.mono hB).alloc (by omega) _)) (by simp; omega)).mono ?_
        rintro e w1 ⟨rfl, hb1⟩
        have hb2 : Below w.heap.size w w1 := (hbel.alloc hs _).trans (hb1.mono (by simp; omega))
        by_cases hc : l[k].chk = 0
        · have fc := neq_f hc
          have HC := Lib.hid hc; clear hc
          go_wp2_with fail
          go_roundw
          case rel => exact ⟨k + 1, hlt, by go_num, by
            have h := HD.out
            rw [HS.out, V.chkL_cons, if_neg (by rw [HT.out]; simp), if_neg (by rw [HC.out]; simp)] at h
            exact h, hb2⟩
          case measure => simp [intOf]; omega
        · have fc := neq_t hc
          have HC := Lib.hid hc; clear hc
          go_wp2_with fail
          go_ret
          exact ⟨ret_int (by rw [← HD.out, HS.out, V.chkL_cons, if_neg (by rw [HT.out]; simp), if_pos HC.out]), hb2⟩
      · have ft := neq_t hty
        have HT := Lib.hid hty; clear hty
        go_wp2_with fail
        go_ret
        exact ⟨ret_int (by rw [← HD.out, HS.out, V.chkL_cons, if_pos HT.out]), hbel.alloc hs _⟩
    · go_wp2_with fail
      go_ret
      exact ⟨ret_int (by rw [← HD.out, List.drop_of_length_le (by omega), V.chkL_nil]), hbel⟩

set_option maxHeartbeats 800000 in
theorem checkTable_any (l : List V) (ih : ∀ x, x ∈ l → CheckC x) (sl : Value) (w : World) (B : Nat) (hrep : Rep w B sl l) (hB : B ≤ w.heap.size) :
    Calls Tryd.prog 87 #[sl] w fun e w' => e = .returned (.int .i64 (V.tab l)) ∧ Below w.heap.size w w' := by
  obtain ⟨oa, cap, rfl, hlc, hm, hel⟩ := hrep.slice
  by_cases h16 : 8 < l.length
  · have hz : V.tab l = 2 := if_pos h16
    rw [hz]; clear hz
    go_enter Tryd.func87, Tryd.ntmps87
    go_wp2_with fail
    go_ret
    exact ⟨rfl, Below.refl _ _⟩
  have hz : V.tab l = V.chkR (V.head l) l := if_neg h16
  rw [hz]; clear hz
  go_enter Tryd.func87, Tryd.ntmps87
  go_wp2_with fail
  go_loopw [12] (fun i wr => ∃ k : Nat, k ≤ l.length ∧ i = .int .i64 k ∧ Hid (V.chkR (V.head l) (l.drop k) = V.chkR (V.head l) l) ∧ Below w.heap.size w wr) (fun i _ => l.length - (intOf i).toNat)
  case atStart => exact ⟨0, Nat.zero_le _, rfl, rfl, Below.refl _ _⟩
  case round =>
    obtain ⟨k, hk, rfl, HD, hbel⟩ := hrel
    by_cases hlt : k < l.length
    · obtain ⟨b, off, oe, ce, rfl, hb, h0, h1, h2, h3, hr⟩ := hel k _ (List.getElem?_eq_getElem hlt)
      obtain ⟨b', off', oe', ce', e0, hb', _, _, _, g3, _⟩ := hel 0 _ (List.getElem?_eq_getElem (by omega : 0 < l.length))
      cases e0
      have g3' : w.cell? ⟨b, off + 3, none⟩ = some (.slice oe' l[0].l.length ce') := by simpa using g3
      rw [← hbel.cell (p := ⟨b, _, none⟩) (Nat.lt_of_lt_of_le hb hB)] at h0 h1 h2 h3 g3'
      clear g3
      have hs := hbel.size
      have g4 : ∀ o, (wr.alloc o).cell? ⟨b, off + 3, none⟩ = some (.slice oe' l[0].l.length ce') := fun o => (World.cell?_alloc_past _ _ _ (by omega)).trans g3'
      have HS := Lib.hid (drop_v l k hlt)
      have HH : Hid (V.head l = l[0].l.length) := by
        cases l with
        | nil => simp at hlt
        | cons a l => rfl
      by_cases hty : l[k].t = 6
      · have ft := neq_f hty
        have HT := Lib.hid hty; clear hty
        by_cases hc1 : (l[k].l.length : Int) < 1
        · go_wp2_with fail
          go_ret
          exact ⟨ret_int (by rw [← HD.out, HS.out, V.chkR_cons, if_neg (by rw [HT.out]; simp), if_pos (.inl (by omega))]), hbel.alloc hs _⟩
        by_cases hc2 : 8 < (l[k].l.length : Int)
        · go_wp2_with fail
          go_ret
          exact ⟨ret_int (by rw [← HD.out, HS.out, V.chkR_cons, if_neg (by rw [HT.out]; simp), if_pos (.inr (.inl (by omega)))]), hbel.alloc hs _⟩
        by_cases hc3 : l[k].l.length = l[0].l.length
        · have f3 : ((l[k].l.length : Int) != (l[0].l.length : Int)) = false := neq_f (by omega)
          have H3 := Lib.hid hc3; clear hc3
          go_wp2_with fail
          refine (ih _ (List.getElem_mem hlt) _ _ B (hr.later ((hbel.mono hB).alloc (by omega) _)) (by simp; omega)).mono ?_
          rintro e w1 ⟨rfl, hb1⟩
          have hb2 : Below w.heap.size w w1 := (hbel.alloc hs _).trans (hb1.mono (by simp; omega))
          by_cases hc : l[k].chk = 0
          · have fc := neq_f hc
            have HC := Lib.hid hc; clear hc
            go_wp2_with fail
            go_roundw
            case rel => exact ⟨k + 1, hlt, by go_num, by
              have h := HD.out
              rw [HS.out, V.chkR_cons, if_neg (by rw [HT.out]; simp), if_neg (by rw [HH.out, H3.out]; have := H3.out; omega), if_neg (by rw [HC.out]; simp)] at h
              exact h, hb2⟩
            case measure => simp [intOf]; omega
          · have fc := neq_t hc
            have HC := Lib.hid hc; clear hc
            go_wp2_with fail
            go_ret
            exact ⟨ret_int (by rw [← HD.out, HS.out, V.chkR_cons, if_neg (by rw [HT.out]; simp), if_neg (by rw [HH.out, H3.out]; have := H3.out; omega), if_pos HC.out]), hb2⟩
        · have f3 : ((l[k].l.length : Int) != (l[0].l.length : Int)) = true := neq_t (by omega)
          have H3 := Lib.hid hc3; clear hc3
          go_wp2_with fail
          go_ret
          exact ⟨ret_int (by rw [← HD.out, HS.out, V.chkR_cons, if_neg (by rw [HT.out]; simp), if_pos (.inr (.inr (by rw [HH.out]; exact H3.out)))]), hbel.alloc hs _⟩
      · have ft := neq_t hty
        have HT := Lib.hid hty; clear hty
        go_wp2_with fail
        go_ret
        exact ⟨ret_int (by rw [← HD.out, HS.out, V.chkR_cons, if_pos HT.out]), hbel.alloc hs _⟩
    · go_wp2_with fail
      go_ret
      exact ⟨ret_int (by rw [← HD.out, List.drop_of_length_le (by omega), V.chkR_nil]), hbel⟩

theorem hasUnused_is (t n : Int) (s : ByteArray) (oa : Option Addr) (len cap : Nat) (w : World) (h1 : 1 ≤ t) (h8 : t ≤ 8) (b : Bool) (hb : badForm t n s len = b) :
    Calls Tryd.prog 83 #[.agg #[.int .i64 t, .int .i64 n, .string s, .slice oa len cap]] w fun e w' => e = .returned (.bool b) ∧ Below w.heap.size w w' := by
  subst hb; exact hasUnused_any t n s oa len cap w h1 h8

set_option maxHeartbeats 1600000 in
theorem check_any (v : V) : CheckC v := by
  induction v using V.ind with
  | h v ih =>
  intro sl w B hrep hB
  obtain ⟨oa, cap, rfl, hlc, hm, hel⟩ := hrep.slice
  obtain ⟨t, ht⟩ : ∃ t, v.t = t := ⟨_, rfl⟩
  by_cases hout : t < 1 ∨ 8 < t
  · have HZ : Hid (v.chk = 3) := by rw [V.chk_eq, ht, if_pos hout]; rfl
    rw [ht]
    go_enter Tryd.func75, Tryd.ntmps75
    go_wp2_with (go_at_call 43; refine (isType_no _ _ hout).mono ?_; rintro e w' ⟨rfl, rfl⟩)
    go_ret
    exact ⟨ret_int HZ.out.symm, below1 _ _⟩
  have h1 : 1 ≤ t := by omega
  have h8 : t ≤ 8 := by omega
  clear hout
  by_cases hbad : badForm t v.n v.s v.l.length = true
  · have HZ : Hid (v.chk = 4) := by rw [V.chk_eq, ht, if_neg (by omega), if_pos hbad]; rfl
    have HB := Lib.hid hbad; clear hbad
    rw [ht]
    have HT := Lib.hid ht; clear ht
    go_enter Tryd.func75, Tryd.ntmps75
    go_wp2_with (go_at_call 43; refine (isType_yes _ _ h1 h8).mono ?_; rintro e w' ⟨rfl, rfl⟩)
    refine (hasUnused_is _ _ _ _ _ _ _ h1 h8 true HB.out).mono ?_
    rintro e w1 ⟨rfl, hb1⟩
    go_wp2_with fail
    go_ret
    exact ⟨ret_int HZ.out.symm, (below1 _ _).trans (hb1.mono (by simp))⟩
  have hbad' : badForm t v.n v.s v.l.length = false := by simpa using hbad
  have HB := Lib.hid hbad'; clear hbad hbad'
  have HC := Lib.hid (V.chk_at v t ht h1 h8 HB.out)
  rw [ht]
  have HT := Lib.hid ht; clear ht
  rcases ty_cases h1 h8 with rfl | rfl | rfl | rfl | rfl | rfl | rfl | rfl
  · go_enter Tryd.func75, Tryd.ntmps75
    go_wp2_with (go_at_call 43; refine (isType_yes _ _ h1 h8).mono ?_; rintro e w' ⟨rfl, rfl⟩)
    refine (hasUnused_is _ _ _ _ _ _ _ h1 h8 false HB.out).mono ?_
    rintro e w1 ⟨rfl, hb1⟩
    have hb2 := (Below.refl (w.heap.size + 1) (w.alloc (.cells #[.int .i64 1, .int .i64 v.n, .string v.s, .slice oa v.l.length cap] 48))).trans (hb1.mono (by simp))
    have hb3 : Below w.heap.size w w1 := (below1 _ _).trans (hb2.mono (by omega))
    obtain ⟨c0, c1, c2, c3⟩ := box_later hb2
    clear hb2
    have hs := hb3.size
    go_wp2_with (go_at_call 84; refine (checkRange_any _ _ _ _).mono ?_; rintro e w' ⟨rfl, rfl⟩)
    go_ret
    exact ⟨ret_int HC.out.symm, hb3⟩
  · go_enter Tryd.func75, Tryd.ntmps75
    go_wp2_with (go_at_call 43; refine (isType_yes _ _ h1 h8).mono ?_; rintro e w' ⟨rfl, rfl⟩)
    refine (hasUnused_is _ _ _ _ _ _ _ h1 h8 false HB.out).mono ?_
    rintro e w1 ⟨rfl, hb1⟩
    have hb2 := (Below.refl (w.heap.size + 1) (w.alloc (.cells #[.int .i64 2, .int .i64 v.n, .string v.s, .slice oa v.l.length cap] 48))).trans (hb1.mono (by simp))
    have hb3 : Below w.heap.size w w1 := (below1 _ _).trans (hb2.mono (by omega))
    obtain ⟨c0, c1, c2, c3⟩ := box_later hb2
    clear hb2
    have hs := hb3.size
    go_wp2_with (go_at_call 84; refine (checkRange_any _ _ _ _).mono ?_; rintro e w' ⟨rfl, rfl⟩)
    go_ret
    exact ⟨ret_int HC.out.symm, hb3⟩
  · go_enter Tryd.func75, Tryd.ntmps75
    go_wp2_with (go_at_call 43; refine (isType_yes _ _ h1 h8).mono ?_; rintro e w' ⟨rfl, rfl⟩)
    refine (hasUnused_is _ _ _ _ _ _ _ h1 h8 false HB.out).mono ?_
    rintro e w1 ⟨rfl, hb1⟩
    have hb2 := (Below.refl (w.heap.size + 1) (w.alloc (.cells #[.int .i64 3, .int .i64 v.n, .string v.s, .slice oa v.l.length cap] 48))).trans (hb1.mono (by simp))
    have hb3 : Below w.heap.size w w1 := (below1 _ _).trans (hb2.mono (by omega))
    obtain ⟨c0, c1, c2, c3⟩ := box_later hb2
    clear hb2
    have hs := hb3.size
    go_wp2_with (go_at_call 85; refine (checkText_any _ _).mono ?_; rintro e w' ⟨rfl, rfl⟩)
    go_ret
    exact ⟨ret_int HC.out.symm, hb3⟩
  · go_enter Tryd.func75, Tryd.ntmps75
    go_wp2_with (go_at_call 43; refine (isType_yes _ _ h1 h8).mono ?_; rintro e w' ⟨rfl, rfl⟩)
    refine (hasUnused_is _ _ _ _ _ _ _ h1 h8 false HB.out).mono ?_
    rintro e w1 ⟨rfl, hb1⟩
    have hb2 := (Below.refl (w.heap.size + 1) (w.alloc (.cells #[.int .i64 4, .int .i64 v.n, .string v.s, .slice oa v.l.length cap] 48))).trans (hb1.mono (by simp))
    have hb3 : Below w.heap.size w w1 := (below1 _ _).trans (hb2.mono (by omega))
    obtain ⟨c0, c1, c2, c3⟩ := box_later hb2
    clear hb2
    have hs := hb3.size
    go_wp2_with (go_at_call 84; refine (checkRange_any _ _ _ _).mono ?_; rintro e w' ⟨rfl, rfl⟩)
    go_ret
    exact ⟨ret_int HC.out.symm, hb3⟩
  · go_enter Tryd.func75, Tryd.ntmps75
    go_wp2_with (go_at_call 43; refine (isType_yes _ _ h1 h8).mono ?_; rintro e w' ⟨rfl, rfl⟩)
    refine (hasUnused_is _ _ _ _ _ _ _ h1 h8 false HB.out).mono ?_
    rintro e w1 ⟨rfl, hb1⟩
    have hb2 := (Below.refl (w.heap.size + 1) (w.alloc (.cells #[.int .i64 5, .int .i64 v.n, .string v.s, .slice oa v.l.length cap] 48))).trans (hb1.mono (by simp))
    have hb3 : Below w.heap.size w w1 := (below1 _ _).trans (hb2.mono (by omega))
    obtain ⟨c0, c1, c2, c3⟩ := box_later hb2
    clear hb2
    have hs := hb3.size
    go_wp2_with fail
    refine (checkList_any v.l ih _ _ B 2 (hrep.later (hb3.mono hB)) (by omega)).mono ?_
    rintro e w2 ⟨rfl, hb4⟩
    go_wp2_with fail
    go_ret
    exact ⟨ret_int HC.out.symm, hb3.trans (hb4.mono hs)⟩
  · go_enter Tryd.func75, Tryd.ntmps75
    go_wp2_with (go_at_call 43; refine (isType_yes _ _ h1 h8).mono ?_; rintro e w' ⟨rfl, rfl⟩)
    refine (hasUnused_is _ _ _ _ _ _ _ h1 h8 false HB.out).mono ?_
    rintro e w1 ⟨rfl, hb1⟩
    have hb2 := (Below.refl (w.heap.size + 1) (w.alloc (.cells #[.int .i64 6, .int .i64 v.n, .string v.s, .slice oa v.l.length cap] 48))).trans (hb1.mono (by simp))
    have hb3 : Below w.heap.size w w1 := (below1 _ _).trans (hb2.mono (by omega))
    obtain ⟨c0, c1, c2, c3⟩ := box_later hb2
    clear hb2
    have hs := hb3.size
    go_wp2_with fail
    refine (checkList_any v.l ih _ _ B 3 (hrep.later (hb3.mono hB)) (by omega)).mono ?_
    rintro e w2 ⟨rfl, hb4⟩
    go_wp2_with fail
    go_ret
    exact ⟨ret_int HC.out.symm, hb3.trans (hb4.mono hs)⟩
  · go_enter Tryd.func75, Tryd.ntmps75
    go_wp2_with (go_at_call 43; refine (isType_yes _ _ h1 h8).mono ?_; rintro e w' ⟨rfl, rfl⟩)
    refine (hasUnused_is _ _ _ _ _ _ _ h1 h8 false HB.out).mono ?_
    rintro e w1 ⟨rfl, hb1⟩
    have hb2 := (Below.refl (w.heap.size + 1) (w.alloc (.cells #[.int .i64 7, .int .i64 v.n, .string v.s, .slice oa v.l.length cap] 48))).trans (hb1.mono (by simp))
    have hb3 : Below w.heap.size w w1 := (below1 _ _).trans (hb2.mono (by omega))
    obtain ⟨c0, c1, c2, c3⟩ := box_later hb2
    clear hb2
    have hs := hb3.size
    go_wp2_with fail
    refine (checkTable_any v.l ih _ _ B (hrep.later (hb3.mono hB)) (by omega)).mono ?_
    rintro e w2 ⟨rfl, hb4⟩
    go_wp2_with fail
    go_ret
    exact ⟨ret_int HC.out.symm, hb3.trans (hb4.mono hs)⟩
  · go_enter Tryd.func75, Tryd.ntmps75
    go_wp2_with (go_at_call 43; refine (isType_yes _ _ h1 h8).mono ?_; rintro e w' ⟨rfl, rfl⟩)
    refine (hasUnused_is _ _ _ _ _ _ _ h1 h8 false HB.out).mono ?_
    rintro e w1 ⟨rfl, hb1⟩
    have hb2 := (Below.refl (w.heap.size + 1) (w.alloc (.cells #[.int .i64 8, .int .i64 v.n, .string v.s, .slice oa v.l.length cap] 48))).trans (hb1.mono (by simp))
    have hb3 : Below w.heap.size w w1 := (below1 _ _).trans (hb2.mono (by omega))
    obtain ⟨c0, c1, c2, c3⟩ := box_later hb2
    clear hb2
    have hs := hb3.size
    by_cases hz1 : (v.s.size : Int) < 1
    · go_wp2_with fail
      go_ret
      exact ⟨ret_int (HC.out.trans (chkText_out (by omega))).symm, hb3⟩
    by_cases hz2 : 40 < (v.s.size : Int)
    · go_wp2_with fail
      go_ret
      exact ⟨ret_int (HC.out.trans (chkText_out (by omega))).symm, hb3⟩
    have HX : Hid (chkText v.s 1 40 = chkText v.s 0 64) := by rw [chkText_in (by omega) (by omega), chkText_in (by omega) (by omega)]; rfl
    go_wp2_with (go_at_call 85; refine (checkText_any _ _).mono ?_; rintro e w' ⟨rfl, rfl⟩)
    go_ret
    exact ⟨ret_int (HC.out.trans HX.out).symm, hb3⟩

end Go.Proofs.YthnlkijkgnmbhaaDoor
