/-
  The walks of the reference's Check: it returns what the plain function computes, for every value.
-/
import Derived.Test.YthfdlaphglpnpaaDoorCheck2
namespace Go.Proofs.YthfdlaphglpnpaaDoor
open Go.RowKit

set_option maxHeartbeats 400000 in
theorem within_any (n lo hi : Int) (w : World) :
    Calls Tryd.prog 52 #[.int .i64 n, .int .i64 lo, .int .i64 hi] w fun e w' => e = .returned (.int .i64 (chkRange n lo hi)) ∧ w = w' := by
  by_cases h1 : n < lo
  · have hz : chkRange n lo hi = 1 := if_pos (.inl h1)
    have HZ := Lib.hid hz; clear hz
    go_enter Tryd.func52, Tryd.ntmps52
    go_wp2_with fail
    go_ret
    exact ⟨ret_int HZ.out.symm, rfl⟩
  by_cases h2 : hi < n
  · have hz : chkRange n lo hi = 1 := if_pos (.inr h2)
    have HZ := Lib.hid hz; clear hz
    go_enter Tryd.func52, Tryd.ntmps52
    go_wp2_with fail
    go_ret
    exact ⟨ret_int HZ.out.symm, rfl⟩
  · have hz : chkRange n lo hi = 0 := if_neg (by omega)
    have HZ := Lib.hid hz; clear hz
    go_enter Tryd.func52, Tryd.ntmps52
    go_wp2_with fail
    go_ret
    exact ⟨ret_int HZ.out.symm, rfl⟩

set_option maxHeartbeats 800000 in
theorem plain_any (s : ByteArray) (a b : Nat) (w : World) (_ha : (a : Int) ≤ 1) (hbb : (b : Int) ≤ 1000) :
    Calls Tryd.prog 53 #[.string s, .int .i64 a, .int .i64 b] w fun e w' => e = .returned (.int .i64 (chkText s a b)) ∧ w = w' := by
  by_cases h1 : (s.size : Int) < a
  · have HZ := Lib.hid (chkText_out (s := s) (a := a) (b := b) (by omega))
    have h1' : s.size < a := by omega
    go_enter Tryd.func53, Tryd.ntmps53
    go_wp2_with fail
    go_ret
    exact ⟨ret_int HZ.out.symm, rfl⟩
  by_cases h2 : (b : Int) < s.size
  · have HZ := Lib.hid (chkText_out (s := s) (a := a) (b := b) (by omega))
    have h1' : ¬ s.size < a := by omega
    have h2' : b < s.size := by omega
    go_enter Tryd.func53, Tryd.ntmps53
    go_wp2_with fail
    go_ret
    exact ⟨ret_int HZ.out.symm, rfl⟩
  have h1' : ¬ s.size < a := by omega
  have h2' : ¬ b < s.size := by omega
  have hsz : s.size ≤ 9223372036854775807 := by omega
  have HZ := Lib.hid (chkText_in (s := s) (a := a) (b := b) (by omega) (by omega))
  go_enter Tryd.func53, Tryd.ntmps53
  go_wp2_with fail
  go_loop [7] (fun i => ∃ k : Nat, k ≤ s.size ∧ i = .int .i64 k ∧ chkBytes (s.data.toList.drop k) = chkBytes s.data.toList) (fun i => s.size - (intOf i).toNat)
  case atStart => exact ⟨0, Nat.zero_le _, rfl, rfl⟩
  case round =>
    obtain ⟨k, hk, rfl, hd⟩ := hrel
    have HD := Lib.hid hd; clear hd
    by_cases hlt : k < s.size
    · have HS := Lib.hid (drop_byte s k hlt)
      by_cases g1 : (s[k].toNat : Int) < 32
      · go_wp2_with fail
        go_ret
        exact ⟨ret_int (by rw [HZ.out, ← HD.out, HS.out, chkBytes_bad _ _ (by simp [badByte]; omega)]), rfl⟩
      by_cases g2 : 126 < (s[k].toNat : Int)
      · go_wp2_with fail
        go_ret
        exact ⟨ret_int (by rw [HZ.out, ← HD.out, HS.out, chkBytes_bad _ _ (by simp [badByte]; omega)]), rfl⟩
      · go_wp2_with fail
        go_round
        case rel => exact ⟨k + 1, hlt, by go_num, by rw [← HD.out, HS.out, chkBytes_good _ _ (by simp [badByte]; omega)]⟩
        case measure => simp [intOf]; omega
    · go_wp2_with fail
      go_ret
      exact ⟨ret_int (by rw [HZ.out, ← HD.out, List.drop_of_length_le (by simp; omega)]; rfl), rfl⟩

def RefCheckC (v : V) : Prop := ∀ (sl : Value) (w : World) (B : Nat), Rep w B sl v.l → B ≤ w.heap.size →
  Calls Tryd.prog 33 #[.agg #[.int .i64 v.t, .int .i64 v.n, .string v.s, sl]] w fun e w' => e = .returned (.int .i64 v.chk) ∧ Below w.heap.size w w'

set_option maxHeartbeats 800000 in
theorem elements_any (l : List V) (ih : ∀ x, x ∈ l → RefCheckC x) (sl : Value) (w : World) (B : Nat) (ty : Int) (hrep : Rep w B sl l) (hB : B ≤ w.heap.size) :
    Calls Tryd.prog 54 #[sl, .int .i64 ty] w fun e w' => e = .returned (.int .i64 (V.lst ty l)) ∧ Below w.heap.size w w' := by
  obtain ⟨oa, cap, rfl, hlc, hm, hel⟩ := hrep.slice
  by_cases h16 : 16 < l.length
  · have hz : V.lst ty l = 2 := if_pos h16
    rw [hz]; clear hz
    go_enter Tryd.func54, Tryd.ntmps54
    go_wp2_with fail
    go_ret
    exact ⟨rfl, Below.refl _ _⟩
  have hz : V.lst ty l = V.chkL ty l := if_neg h16
  rw [hz]; clear hz
  go_enter Tryd.func54, Tryd.ntmps54
  go_wp2_with fail
  go_loopw [5] (fun i wr => ∃ k : Nat, k ≤ l.length ∧ i = .int .i64 k ∧ Hid (V.chkL ty (l.drop k) = V.chkL ty l) ∧ Below w.heap.size w wr) (fun i _ => l.length - (intOf i).toNat)
  case atStart => exact ⟨0, Nat.zero_le _, rfl, rfl, Below.refl _ _⟩
  case round =>
    obtain ⟨k, hk, rfl, HD, hbel⟩ := hrel
    by_cases hlt : k < l.length
    · obtain ⟨b, off, oe, ce, rfl, hb, h0, h1, h2, h3, hr⟩ := hel k _ (List.getElem?_eq_getElem hlt)
      rw [← hbel.cell (p := ⟨b, _, none⟩) (Nat.lt_of_lt_of_le hb hB)] at h0 h1 h2 h3
      have hs := hbel.size
      have HS := Lib.hid (drop_v l k hlt)
      by_cases hty : l[k].t = ty
      · have ft := neq_f hty
        have HT := Lib.hid hty; clear hty
        go_wp2_with fail
        refine (ih _ (List.getElem_mem hlt) _ _ B (hr.later (hbel.mono hB)) (by omega)).mono ?_
        rintro e w1 ⟨rfl, hb1⟩
        have hb2 : Below w.heap.size w w1 := hbel.trans (hb1.mono (by omega))
        by_cases hc : l[k].chk = 0
        · have fc := neq_f hc
          have HC := Lib.hid hc; clear hc
          go_wp2_with fail
          go_roundw
          case rel => exact ⟨k + 1, hlt, by go_num, by
            have h := HD.out
            rw [HS.out, V.chkL_cons, if_neg (by rw [HT.out]; simp), if_neg (by rw [HC.out]; simp)] at h
            exact h, hb2⟩
          case measure => simp [intOf]; omega
        · have fc := neq_t hc
          have HC := Lib.hid hc; clear hc
          go_wp2_with fail
          go_ret
          exact ⟨ret_int (by rw [← HD.out, HS.out, V.chkL_cons, if_neg (by rw [HT.out]; simp), if_pos HC.out]), hb2⟩
      · have ft := neq_t hty
        have HT := Lib.hid hty; clear hty
        go_wp2_with fail
        go_ret
        exact ⟨ret_int (by rw [← HD.out, HS.out, V.chkL_cons, if_pos HT.out]), hbel⟩
    · go_wp2_with fail
      go_ret
      exact ⟨ret_int (by rw [← HD.out, List.drop_of_length_le (by omega), V.chkL_nil]), hbel⟩

set_option maxHeartbeats 800000 in
theorem rows_any (l : List V) (ih : ∀ x, x ∈ l → RefCheckC x) (sl : Value) (w : World) (B : Nat) (hrep : Rep w B sl l) (hB : B ≤ w.heap.size) :
    Calls Tryd.prog 55 #[sl] w fun e w' => e = .returned (.int .i64 (V.tab l)) ∧ Below w.heap.size w w' := by
  obtain ⟨oa, cap, rfl, hlc, hm, hel⟩ := hrep.slice
  by_cases h16 : 8 < l.length
  · have hz : V.tab l = 2 := if_pos h16
    rw [hz]; clear hz
    go_enter Tryd.func55, Tryd.ntmps55
    go_wp2_with fail
    go_ret
    exact ⟨rfl, Below.refl _ _⟩
  have hz : V.tab l = V.chkR (V.head l) l := if_neg h16
  rw [hz]; clear hz
  go_enter Tryd.func55, Tryd.ntmps55
  go_wp2_with fail
  go_loopw [3] (fun i wr => ∃ k : Nat, k ≤ l.length ∧ i = .int .i64 k ∧ Hid (V.chkR (V.head l) (l.drop k) = V.chkR (V.head l) l) ∧ Below w.heap.size w wr) (fun i _ => l.length - (intOf i).toNat)
  case atStart => exact ⟨0, Nat.zero_le _, rfl, rfl, Below.refl _ _⟩
  case round =>
    obtain ⟨k, hk, rfl, HD, hbel⟩ := hrel
    by_cases hlt : k < l.length
    · obtain ⟨b, off, oe, ce, rfl, hb, h0, h1, h2, h3, hr⟩ := hel k _ (List.getElem?_eq_getElem hlt)
      obtain ⟨b', off', oe', ce', e0, hb', _, _, _, g3, _⟩ := hel 0 _ (List.getElem?_eq_getElem (by omega : 0 < l.length))
      cases e0
      have g3' : w.cell? ⟨b, off + 3, none⟩ = some (.slice oe' l[0].l.length ce') := by simpa using g3
      rw [← hbel.cell (p := ⟨b, _, none⟩) (Nat.lt_of_lt_of_le hb hB)] at h0 h1 h2 h3 g3'
      clear g3
      have hs := hbel.size
      have HS := Lib.hid (drop_v l k hlt)
      have HH : Hid (V.head l = l[0].l.length) := by
        cases l with
        | nil => simp at hlt
        | cons a l => rfl
      by_cases hty : l[k].t = 6
      · have ft := neq_f hty
        have HT := Lib.hid hty; clear hty
        by_cases hc1 : (l[k].l.length : Int) < 1
        · go_wp2_with fail
          go_ret
          exact ⟨ret_int (by rw [← HD.out, HS.out, V.chkR_cons, if_neg (by rw [HT.out]; simp), if_pos (.inl (by omega))]), hbel⟩
        by_cases hc2 : 8 < (l[k].l.length : Int)
        · go_wp2_with fail
          go_ret
          exact ⟨ret_int (by rw [← HD.out, HS.out, V.chkR_cons, if_neg (by rw [HT.out]; simp), if_pos (.inr (.inl (by omega)))]), hbel⟩
        by_cases hc3 : l[k].l.length = l[0].l.length
        · have f3 : ((l[k].l.length : Int) != (l[0].l.length : Int)) = false := neq_f (by omega)
          have H3 := Lib.hid hc3; clear hc3
          go_wp2_with fail
          refine (ih _ (List.getElem_mem hlt) _ _ B (hr.later (hbel.mono hB)) (by omega)).mono ?_
          rintro e w1 ⟨rfl, hb1⟩
          have hb2 : Below w.heap.size w w1 := hbel.trans (hb1.mono (by omega))
          by_cases hc : l[k].chk = 0
          · have fc := neq_f hc
            have HC := Lib.hid hc; clear hc
            go_wp2_with fail
            go_roundw
            case rel => exact ⟨k + 1, hlt, by go_num, by
              have h := HD.out
              rw [HS.out, V.chkR_cons, if_neg (by rw [HT.out]; simp), if_neg (by rw [HH.out, H3.out]; have := H3.out; omega), if_neg (by rw [HC.out]; simp)] at h
              exact h, hb2⟩
            case measure => simp [intOf]; omega
          · have fc := neq_t hc
            have HC := Lib.hid hc; clear hc
            go_wp2_with fail
            go_ret
            exact ⟨ret_int (by rw [← HD.out, HS.out, V.chkR_cons, if_neg (by rw [HT.out]; simp), if_neg (by rw [HH.out, H3.out]; have := H3.out; omega), if_pos HC.out]), hb2⟩
        · have f3 : ((l[k].l.length : Int) != (l[0].l.length : Int)) = true := neq_t (by omega)
          have H3 := Lib.hid hc3; clear hc3
          go_wp2_with fail
          go_ret
          exact ⟨ret_int (by rw [← HD.out, HS.out, V.chkR_cons, if_neg (by rw [HT.out]; simp), if_pos (.inr (.inr (by rw [HH.out]; exact H3.out)))]), hbel⟩
      · have ft := neq_t hty
        have HT := Lib.hid hty; clear hty
        go_wp2_with fail
        go_ret
        exact ⟨ret_int (by rw [← HD.out, HS.out, V.chkR_cons, if_pos HT.out]), hbel⟩
    · go_wp2_with fail
      go_ret
      exact ⟨ret_int (by rw [← HD.out, List.drop_of_length_le (by omega), V.chkR_nil]), hbel⟩

set_option maxRecDepth 100000 in
set_option maxHeartbeats 3200000 in
theorem refCheck_any (v : V) : RefCheckC v := by
  induction v using V.ind with
  | h v ih =>
  intro sl w B hrep hB
  obtain ⟨oa, cap, rfl, hlc, hm, hel⟩ := hrep.slice
  obtain ⟨t, ht⟩ : ∃ t, v.t = t := ⟨_, rfl⟩
  obtain ⟨n, hn⟩ : ∃ n, v.n = n := ⟨_, rfl⟩
  clear hel
  by_cases hout : t < 1 ∨ 8 < t
  · have HZ : Hid (v.chk = 3) := by rw [V.chk_eq, ht, if_pos hout]; rfl
    rw [ht]
    clear ht hn
    by_cases ho1 : t < 1
    · clear hout
      go_enter Tryd.func33, Tryd.ntmps33
      go_wp2_with fail
      go_ret
      exact ⟨ret_int HZ.out.symm, below1 _ _⟩
    · have ho2 : 8 < t := by omega
      clear hout
      go_enter Tryd.func33, Tryd.ntmps33
      go_wp2_with fail
      go_ret
      exact ⟨ret_int HZ.out.symm, below1 _ _⟩
  have h1 : 1 ≤ t := by omega
  have h8 : t ≤ 8 := by omega
  clear hout
  by_cases hbad : badForm t v.n v.s v.l.length = true
  · have HZ : Hid (v.chk = 4) := by rw [V.chk_eq, ht, if_neg (by omega), if_pos hbad]; rfl
    rw [ht, hn]
    rw [hn] at hbad
    clear ht hn
    rcases ty_cases h1 h8 with rfl | rfl | rfl | rfl | rfl | rfl | rfl | rfl
    · by_cases hs : v.s.toList = []
      · have hl : 0 < v.l.length := by have := str_nil hs; simp_all [badForm, usesNum, usesText, usesItems]
        clear hbad h1 h8
        go_enter Tryd.func33, Tryd.ntmps33
        go_wp2_with fail
        go_ret
        exact ⟨ret_int HZ.out.symm, below1 _ _⟩
      · clear hbad h1 h8
        go_enter Tryd.func33, Tryd.ntmps33
        go_wp2_with fail
        go_ret
        exact ⟨ret_int HZ.out.symm, below1 _ _⟩
    · by_cases hs : v.s.toList = []
      · have hl : 0 < v.l.length := by have := str_nil hs; simp_all [badForm, usesNum, usesText, usesItems]
        clear hbad h1 h8
        go_enter Tryd.func33, Tryd.ntmps33
        go_wp2_with fail
        go_ret
        exact ⟨ret_int HZ.out.symm, below1 _ _⟩
      · clear hbad h1 h8
        go_enter Tryd.func33, Tryd.ntmps33
        go_wp2_with fail
        go_ret
        exact ⟨ret_int HZ.out.symm, below1 _ _⟩
    · by_cases hn : n = 0
      · subst hn
        have hl : 0 < v.l.length := by simp_all [badForm, usesNum, usesText, usesItems]
        clear hbad h1 h8
        go_enter Tryd.func33, Tryd.ntmps33
        go_wp2_with fail
        go_ret
        exact ⟨ret_int HZ.out.symm, below1 _ _⟩
      · clear hbad h1 h8
        go_enter Tryd.func33, Tryd.ntmps33
        go_wp2_with fail
        go_ret
        exact ⟨ret_int HZ.out.symm, below1 _ _⟩
    · by_cases hs : v.s.toList = []
      · have hl : 0 < v.l.length := by have := str_nil hs; simp_all [badForm, usesNum, usesText, usesItems]
        clear hbad h1 h8
        go_enter Tryd.func33, Tryd.ntmps33
        go_wp2_with fail
        go_ret
        exact ⟨ret_int HZ.out.symm, below1 _ _⟩
      · clear hbad h1 h8
        go_enter Tryd.func33, Tryd.ntmps33
        go_wp2_with fail
        go_ret
        exact ⟨ret_int HZ.out.symm, below1 _ _⟩
    · by_cases hn : n = 0
      · subst hn
        have hs : ¬v.s.toList = [] := fun e => by have := str_nil e; simp_all [badForm, usesNum, usesText, usesItems]
        clear hbad h1 h8
        go_enter Tryd.func33, Tryd.ntmps33
        go_wp2_with fail
        go_ret
        exact ⟨ret_int HZ.out.symm, below1 _ _⟩
      · clear hbad h1 h8
        go_enter Tryd.func33, Tryd.ntmps33
        go_wp2_with fail
        go_ret
        exact ⟨ret_int HZ.out.symm, below1 _ _⟩
    · by_cases hn : n = 0
      · subst hn
        have hs : ¬v.s.toList = [] := fun e => by have := str_nil e; simp_all [badForm, usesNum, usesText, usesItems]
        clear hbad h1 h8
        go_enter Tryd.func33, Tryd.ntmps33
        go_wp2_with fail
        go_ret
        exact ⟨ret_int HZ.out.symm, below1 _ _⟩
      · clear hbad h1 h8
        go_enter Tryd.func33, Tryd.ntmps33
        go_wp2_with fail
        go_ret
        exact ⟨ret_int HZ.out.symm, below1 _ _⟩
    · by_cases hn : n = 0
      · subst hn
        have hs : ¬v.s.toList = [] := fun e => by have := str_nil e; simp_all [badForm, usesNum, usesText, usesItems]
        clear hbad h1 h8
        go_enter Tryd.func33, Tryd.ntmps33
        go_wp2_with fail
        go_ret
        exact ⟨ret_int HZ.out.symm, below1 _ _⟩
      · clear hbad h1 h8
        go_enter Tryd.func33, Tryd.ntmps33
        go_wp2_with fail
        go_ret
        exact ⟨ret_int HZ.out.symm, below1 _ _⟩
    · by_cases hn : n = 0
      · subst hn
        have hl : 0 < v.l.length := by simp_all [badForm, usesNum, usesText, usesItems]
        clear hbad h1 h8
        go_enter Tryd.func33, Tryd.ntmps33
        go_wp2_with fail
        go_ret
        exact ⟨ret_int HZ.out.symm, below1 _ _⟩
      · clear hbad h1 h8
        go_enter Tryd.func33, Tryd.ntmps33
        go_wp2_with fail
        go_ret
        exact ⟨ret_int HZ.out.symm, below1 _ _⟩
  have hgood : badForm t v.n v.s v.l.length = false := by simpa using hbad
  clear hbad
  have hC := V.chk_at v t ht h1 h8 hgood
  rw [hn] at hC hgood
  rw [ht, hn]
  clear ht hn
  have HC := Lib.hid hC
  clear hC
  rcases ty_cases h1 h8 with rfl | rfl | rfl | rfl | rfl | rfl | rfl | rfl
  · have hs : v.s.toList = [] := by
      by_cases hs : v.s.toList = []
      · exact hs
      · have := str_some hs; simp_all [badForm, usesNum, usesText, usesItems]
    have hl : ¬ 0 < v.l.length := by simp_all [badForm, usesNum, usesText, usesItems]
    clear hgood
    go_enter Tryd.func33, Tryd.ntmps33
    go_wp2_with fail
    refine (within_any _ _ _ _).mono ?_
    rintro e w1 ⟨rfl, rfl⟩
    go_wp2_with fail
    go_ret
    exact ⟨ret_int HC.out.symm, below1 _ _⟩
  · have hs : v.s.toList = [] := by
      by_cases hs : v.s.toList = []
      · exact hs
      · have := str_some hs; simp_all [badForm, usesNum, usesText, usesItems]
    have hl : ¬ 0 < v.l.length := by simp_all [badForm, usesNum, usesText, usesItems]
    clear hgood
    go_enter Tryd.func33, Tryd.ntmps33
    go_wp2_with fail
    refine (within_any _ _ _ _).mono ?_
    rintro e w1 ⟨rfl, rfl⟩
    go_wp2_with fail
    go_ret
    exact ⟨ret_int HC.out.symm, below1 _ _⟩
  · have hn : n = 0 := by simp_all [badForm, usesNum, usesText, usesItems]
    subst hn
    have hl : ¬ 0 < v.l.length := by simp_all [badForm, usesNum, usesText, usesItems]
    clear hgood
    go_enter Tryd.func33, Tryd.ntmps33
    go_wp2_with fail
    refine (plain_any v.s 0 64 _ (by decide) (by decide)).mono ?_
    rintro e w1 ⟨rfl, rfl⟩
    go_wp2_with fail
    go_ret
    exact ⟨ret_int HC.out.symm, below1 _ _⟩
  · have hs : v.s.toList = [] := by
      by_cases hs : v.s.toList = []
      · exact hs
      · have := str_some hs; simp_all [badForm, usesNum, usesText, usesItems]
    have hl : ¬ 0 < v.l.length := by simp_all [badForm, usesNum, usesText, usesItems]
    clear hgood
    go_enter Tryd.func33, Tryd.ntmps33
    go_wp2_with fail
    refine (within_any _ _ _ _).mono ?_
    rintro e w1 ⟨rfl, rfl⟩
    go_wp2_with fail
    go_ret
    exact ⟨ret_int HC.out.symm, below1 _ _⟩
  · have hn : n = 0 := by simp_all [badForm, usesNum, usesText, usesItems]
    subst hn
    have hs : v.s.toList = [] := by
      by_cases hs : v.s.toList = []
      · exact hs
      · have := str_some hs; simp_all [badForm, usesNum, usesText, usesItems]
    clear hgood
    go_enter Tryd.func33, Tryd.ntmps33
    go_wp2_with fail
    refine (elements_any v.l ih _ _ B 2 (hrep.later ((below1 _ _).mono hB)) (by simp; omega)).mono ?_
    rintro e w1 ⟨rfl, hb1⟩
    go_wp2_with fail
    go_ret
    exact ⟨ret_int HC.out.symm, (below1 _ _).trans (hb1.mono (by simp))⟩
  · have hn : n = 0 := by simp_all [badForm, usesNum, usesText, usesItems]
    subst hn
    have hs : v.s.toList = [] := by
      by_cases hs : v.s.toList = []
      · exact hs
      · have := str_some hs; simp_all [badForm, usesNum, usesText, usesItems]
    clear hgood
    go_enter Tryd.func33, Tryd.ntmps33
    go_wp2_with fail
    refine (elements_any v.l ih _ _ B 3 (hrep.later ((below1 _ _).mono hB)) (by simp; omega)).mono ?_
    rintro e w1 ⟨rfl, hb1⟩
    go_wp2_with fail
    go_ret
    exact ⟨ret_int HC.out.symm, (below1 _ _).trans (hb1.mono (by simp))⟩
  · have hn : n = 0 := by simp_all [badForm, usesNum, usesText, usesItems]
    subst hn
    have hs : v.s.toList = [] := by
      by_cases hs : v.s.toList = []
      · exact hs
      · have := str_some hs; simp_all [badForm, usesNum, usesText, usesItems]
    clear hgood
    go_enter Tryd.func33, Tryd.ntmps33
    go_wp2_with fail
    refine (rows_any v.l ih _ _ B (hrep.later ((below1 _ _).mono hB)) (by simp; omega)).mono ?_
    rintro e w1 ⟨rfl, hb1⟩
    go_wp2_with fail
    go_ret
    exact ⟨ret_int HC.out.symm, (below1 _ _).trans (hb1.mono (by simp))⟩
  · have hn : n = 0 := by simp_all [badForm, usesNum, usesText, usesItems]
    subst hn
    have hl : ¬ 0 < v.l.length := by simp_all [badForm, usesNum, usesText, usesItems]
    clear hgood
    go_enter Tryd.func33, Tryd.ntmps33
    go_wp2_with fail
    refine (plain_any v.s 1 40 _ (by decide) (by decide)).mono ?_
    rintro e w1 ⟨rfl, rfl⟩
    go_wp2_with fail
    go_ret
    exact ⟨ret_int HC.out.symm, below1 _ _⟩

end Go.Proofs.YthfdlaphglpnpaaDoor
