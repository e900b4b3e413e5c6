/-
  Check, PrintAll, ParseAll of the reference; small, smalls, same; the walk of LiteralTuples. Nothing is assumed but the tables of the shelf.
-/
import Derived.Test.YtmbmlcnipncgnaaGreatDoorLtCheck2
import Derived.Test.YtmbmlcnipncgnaaGreatDoorLtRefCmp
import Derived.Test.YtmbmlcnipncgnaaGreatDoorLtRefO
import Derived.Test.YtmbmlcnipncgnaaGreatDoorLzText
import Derived.Test.YtmbmlcnipncgnaaGreatDoorLtAwake
import Derived.StillTailTactics
namespace Go.Proofs.YtmbmlcnipncgnaaGreatDoor

section
open Go.RowKit

set_option maxHeartbeats 400000 in
theorem within_any (n lo hi : Int) (w : World) :
    Calls Tryz.prog 38 #[.int .i64 n, .int .i64 lo, .int .i64 hi] w fun e w' => e = .returned (.int .i64 (chkRange n lo hi)) ∧ w = w' := by
  by_cases h1 : n < lo
  · have hz : chkRange n lo hi = 1 := if_pos (.inl h1)
    have HZ := Lib.hid hz; clear hz
    go_enter Tryz.func38, Tryz.ntmps38
    go_wp2_with fail
    go_ret
    exact ⟨ret_int HZ.out.symm, rfl⟩
  by_cases h2 : hi < n
  · have hz : chkRange n lo hi = 1 := if_pos (.inr h2)
    have HZ := Lib.hid hz; clear hz
    go_enter Tryz.func38, Tryz.ntmps38
    go_wp2_with fail
    go_ret
    exact ⟨ret_int HZ.out.symm, rfl⟩
  · have hz : chkRange n lo hi = 0 := if_neg (by omega)
    have HZ := Lib.hid hz; clear hz
    go_enter Tryz.func38, Tryz.ntmps38
    go_wp2_with fail
    go_ret
    exact ⟨ret_int HZ.out.symm, rfl⟩

set_option maxHeartbeats 800000 in
theorem plain_any (s : ByteArray) (a b : Nat) (w : World) (_ha : (a : Int) ≤ 1) (hbb : (b : Int) ≤ 1000) :
    Calls Tryz.prog 39 #[.string s, .int .i64 a, .int .i64 b] w fun e w' => e = .returned (.int .i64 (chkText s a b)) ∧ w = w' := by
  by_cases h1 : (s.size : Int) < a
  · have HZ := Lib.hid (chkText_out (s := s) (a := a) (b := b) (by omega))
    have h1' : s.size < a := by omega
    go_enter Tryz.func39, Tryz.ntmps39
    go_wp2_with fail
    go_ret
    exact ⟨ret_int HZ.out.symm, rfl⟩
  by_cases h2 : (b : Int) < s.size
  · have HZ := Lib.hid (chkText_out (s := s) (a := a) (b := b) (by omega))
    have h1' : ¬ s.size < a := by omega
    have h2' : b < s.size := by omega
    go_enter Tryz.func39, Tryz.ntmps39
    go_wp2_with fail
    go_ret
    exact ⟨ret_int HZ.out.symm, rfl⟩
  have h1' : ¬ s.size < a := by omega
  have h2' : ¬ b < s.size := by omega
  have hsz : s.size ≤ 9223372036854775807 := by omega
  have HZ := Lib.hid (chkText_in (s := s) (a := a) (b := b) (by omega) (by omega))
  go_enter Tryz.func39, Tryz.ntmps39
  go_wp2_with fail
  go_loop [7] (fun i => ∃ k : Nat, k ≤ s.size ∧ i = .int .i64 k ∧ chkBytes (s.data.toList.drop k) = chkBytes s.data.toList) (fun i => s.size - (intOf i).toNat)
  case atStart => exact ⟨0, Nat.zero_le _, rfl, rfl⟩
  case round =>
    obtain ⟨k, hk, rfl, hd⟩ := hrel
    have HD := Lib.hid hd; clear hd
    by_cases hlt : k < s.size
    · have HS := Lib.hid (drop_byte s k hlt)
      by_cases g1 : (s[k].toNat : Int) < 32
      · go_wp2_with fail
        go_ret
        exact ⟨ret_int (by rw [HZ.out, ← HD.out, HS.out, chkBytes_bad _ _ (by simp [badByte]; omega)]), rfl⟩
      by_cases g2 : 126 < (s[k].toNat : Int)
      · go_wp2_with fail
        go_ret
        exact ⟨ret_int (by rw [HZ.out, ← HD.out, HS.out, chkBytes_bad _ _ (by simp [badByte]; omega)]), rfl⟩
      · go_wp2_with fail
        go_round
        case rel => exact ⟨k + 1, hlt, by go_num, by rw [← HD.out, HS.out, chkBytes_good _ _ (by simp [badByte]; omega)]⟩
        case measure => simp [intOf]; omega
    · go_wp2_with fail
      go_ret
      exact ⟨ret_int (by rw [HZ.out, ← HD.out, List.drop_of_length_le (by simp; omega)]; rfl), rfl⟩

def RefCheckC (v : V) : Prop := ∀ (sl : Value) (w : World) (B : Nat), Rep w B sl v.l → B ≤ w.heap.size →
  Calls Tryz.prog 19 #[.agg #[.int .i64 v.t, .int .i64 v.n, .string v.s, sl]] w fun e w' => e = .returned (.int .i64 v.chk) ∧ Below w.heap.size w w'

set_option maxHeartbeats 800000 in
theorem elements_any (l : List V) (ih : ∀ x, x ∈ l → RefCheckC x) (sl : Value) (w : World) (B : Nat) (ty : Int) (hrep : Rep w B sl l) (hB : B ≤ w.heap.size) :
    Calls Tryz.prog 40 #[sl, .int .i64 ty] w fun e w' => e = .returned (.int .i64 (V.lst ty l)) ∧ Below w.heap.size w w' := by
  obtain ⟨oa, cap, rfl, hlc, hm, hel⟩ := hrep.slice
  by_cases h16 : 16 < l.length
  · have hz : V.lst ty l = 2 := if_pos h16
    rw [hz]; clear hz
    go_enter Tryz.func40, Tryz.ntmps40
    go_wp2_with fail
    go_ret
    exact ⟨rfl, Below.refl _ _⟩
  have hz : V.lst ty l = V.chkL ty l := if_neg h16
  rw [hz]; clear hz
  go_enter Tryz.func40, Tryz.ntmps40
  go_wp2_with fail
  go_loopw [5] (fun i wr => ∃ k : Nat, k ≤ l.length ∧ i = .int .i64 k ∧ Hid (V.chkL ty (l.drop k) = V.chkL ty l) ∧ Below w.heap.size w wr) (fun i _ => l.length - (intOf i).toNat)
  case atStart => exact ⟨0, Nat.zero_le _, rfl, rfl, Below.refl _ _⟩
  case round =>
    obtain ⟨k, hk, rfl, HD, hbel⟩ := hrel
    by_cases hlt : k < l.length
    · obtain ⟨b, off, oe, ce, rfl, hb, h0, h1, h2, h3, hr⟩ := hel k _ (List.getElem?_eq_getElem hlt)
      rw [← hbel.cell (p := ⟨b, _, none⟩) (Nat.lt_of_lt_of_le hb hB)] at h0 h1 h2 h3
      have hs := hbel.size
      have HS := Lib.hid (drop_v l k hlt)
      by_cases hty : l[k].t = ty
      · have ft := neq_f hty
        have HT := Lib.hid hty; clear hty
        go_wp2_with fail
        refine (ih _ (List.getElem_mem hlt) _ _ B (hr.later (hbel.mono hB)) (by omega)).mono ?_
        rintro e w1 ⟨rfl, hb1⟩
        have hb2 : Below w.heap.size w w1 := hbel.trans (hb1.mono (by omega))
        by_cases hc : l[k].chk = 0
        · have fc := neq_f hc
          have HC := Lib.hid hc; clear hc
          go_wp2_with fail
          go_roundw
          case rel => exact ⟨k + 1, hlt, by go_num, by
            have h := HD.out
            rw [HS.out, V.chkL_cons, if_neg (by rw [HT.out]; simp), if_neg (by rw [HC.out]; simp)] at h
            exact h, hb2⟩
          case measure => simp [intOf]; omega
        · have fc := neq_t hc
          have HC := Lib.hid hc; clear hc
          go_wp2_with fail
          go_ret
          exact ⟨ret_int (by rw [← HD.out, HS.out, V.chkL_cons, if_neg (by rw [HT.out]; simp), if_pos HC.out]), hb2⟩
      · have ft := neq_t hty
        have HT := Lib.hid hty; clear hty
        go_wp2_with fail
        go_ret
        exact ⟨ret_int (by rw [← HD.out, HS.out, V.chkL_cons, if_pos HT.out]), hbel⟩
    · go_wp2_with fail
      go_ret
      exact ⟨ret_int (by rw [← HD.out, List.drop_of_length_le (by omega), V.chkL_nil]), hbel⟩

set_option maxHeartbeats 800000 in
theorem rows_any (l : List V) (ih : ∀ x, x ∈ l → RefCheckC x) (sl : Value) (w : World) (B : Nat) (hrep : Rep w B sl l) (hB : B ≤ w.heap.size) :
    Calls Tryz.prog 41 #[sl] w fun e w' => e = .returned (.int .i64 (V.tab l)) ∧ Below w.heap.size w w' := by
  obtain ⟨oa, cap, rfl, hlc, hm, hel⟩ := hrep.slice
  by_cases h16 : 8 < l.length
  · have hz : V.tab l = 2 := if_pos h16
    rw [hz]; clear hz
    go_enter Tryz.func41, Tryz.ntmps41
    go_wp2_with fail
    go_ret
    exact ⟨rfl, Below.refl _ _⟩
  have hz : V.tab l = V.chkR (V.head l) l := if_neg h16
  rw [hz]; clear hz
  go_enter Tryz.func41, Tryz.ntmps41
  go_wp2_with fail
  go_loopw [3] (fun i wr => ∃ k : Nat, k ≤ l.length ∧ i = .int .i64 k ∧ Hid (V.chkR (V.head l) (l.drop k) = V.chkR (V.head l) l) ∧ Below w.heap.size w wr) (fun i _ => l.length - (intOf i).toNat)
  case atStart => exact ⟨0, Nat.zero_le _, rfl, rfl, Below.refl _ _⟩
  case round =>
    obtain ⟨k, hk, rfl, HD, hbel⟩ := hrel
    by_cases hlt : k < l.length
    · obtain ⟨b, off, oe, ce, rfl, hb, h0, h1, h2, h3, hr⟩ := hel k _ (List.getElem?_eq_getElem hlt)
      obtain ⟨b', off', oe', ce', e0, hb', _, _, _, g3, _⟩ := hel 0 _ (List.getElem?_eq_getElem (by omega : 0 < l.length))
      cases e0
      have g3' : w.cell? ⟨b, off + 3, none⟩ = some (.slice oe' l[0].l.length ce') := by simpa using g3
      rw [← hbel.cell (p := ⟨b, _, none⟩) (Nat.lt_of_lt_of_le hb hB)] at h0 h1 h2 h3 g3'
      clear g3
      have hs := hbel.size
      have HS := Lib.hid (drop_v l k hlt)
      have HH : Hid (V.head l = l[0].l.length) := by
        cases l with
        | nil => simp at hlt
        | cons a l => rfl
      by_cases hty : l[k].t = 6
      · have ft := neq_f hty
        have HT := Lib.hid hty; clear hty
        by_cases hc1 : (l[k].l.length : Int) < 1
        · go_wp2_with fail
          go_ret
          exact ⟨ret_int (by rw [← HD.out, HS.out, V.chkR_cons, if_neg (by rw [HT.out]; simp), if_pos (.inl (by omega))]), hbel⟩
        by_cases hc2 : 8 < (l[k].l.length : Int)
        · go_wp2_with fail
          go_ret
          exact ⟨ret_int (by rw [← HD.out, HS.out, V.chkR_cons, if_neg (by rw [HT.out]; simp), if_pos (.inr (.inl (by omega)))]), hbel⟩
        by_cases hc3 : l[k].l.length = l[0].l.length
        · have f3 : ((l[k].l.length : Int) != (l[0].l.length : Int)) = false := neq_f (by omega)
          have H3 := Lib.hid hc3; clear hc3
          go_wp2_with fail
          refine (ih _ (List.getElem_mem hlt) _ _ B (hr.later (hbel.mono hB)) (by omega)).mono ?_
          rintro e w1 ⟨rfl, hb1⟩
          have hb2 : Below w.heap.size w w1 := hbel.trans (hb1.mono (by omega))
          by_cases hc : l[k].chk = 0
          · have fc := neq_f hc
            have HC := Lib.hid hc; clear hc
            go_wp2_with fail
            go_roundw
            case rel => exact ⟨k + 1, hlt, by go_num, by
              have h := HD.out
              rw [HS.out, V.chkR_cons, if_neg (by rw [HT.out]; simp), if_neg (by rw [HH.out, H3.out]; have := H3.out; omega), if_neg (by rw [HC.out]; simp)] at h
              exact h, hb2⟩
            case measure => simp [intOf]; omega
          · have fc := neq_t hc
            have HC := Lib.hid hc; clear hc
            go_wp2_with fail
            go_ret
            exact ⟨ret_int (by rw [← HD.out, HS.out, V.chkR_cons, if_neg (by rw [HT.out]; simp), if_neg (by rw [HH.out, H3.out]; have := H3.out; omega), if_pos HC.out]), hb2⟩
        · have f3 : ((l[k].l.length : Int) != (l[0].l.length : Int)) = true := neq_t (by omega)
          have H3 := Lib.hid hc3; clear hc3
          go_wp2_with fail
          go_ret
          exact ⟨ret_int (by rw [← HD.out, HS.out, V.chkR_cons, if_neg (by rw [HT.out]; simp), if_pos (.inr (.inr (by rw [HH.out]; exact H3.out)))]), hbel⟩
      · have ft := neq_t hty
        have HT := Lib.hid hty; clear hty
        go_wp2_with fail
        go_ret
        exact ⟨ret_int (by rw [← HD.out, HS.out, V.chkR_cons, if_pos HT.out]), hbel⟩
    · go_wp2_with fail
      go_ret
      exact ⟨ret_int (by rw [← HD.out, List.drop_of_length_le (by omega), V.chkR_nil]), hbel⟩

set_option maxRecDepth 100000 in
set_option maxHeartbeats 3200000 in
theorem refCheck_any (v : V) : RefCheckC v := by
  induction v using V.ind with
  | h v ih =>
  intro sl w B hrep hB
  obtain ⟨oa, cap, rfl, hlc, hm, hel⟩ := hrep.slice
  obtain ⟨t, ht⟩ : ∃ t, v.t = t := ⟨_, rfl⟩
  obtain ⟨n, hn⟩ : ∃ n, v.n = n := ⟨_, rfl⟩
  clear hel
  by_cases hout : t < 1 ∨ 8 < t
  · have HZ : Hid (v.chk = 3) := by rw [V.chk_eq, ht, if_pos hout]; rfl
    rw [ht]
    clear ht hn
    by_cases ho1 : t < 1
    · clear hout
      go_enter Tryz.func19, Tryz.ntmps19
      go_wp2_with fail
      go_ret
      exact ⟨ret_int HZ.out.symm, below1 _ _⟩
    · have ho2 : 8 < t := by omega
      clear hout
      go_enter Tryz.func19, Tryz.ntmps19
      go_wp2_with fail
      go_ret
      exact ⟨ret_int HZ.out.symm, below1 _ _⟩
  have h1 : 1 ≤ t := by omega
  have h8 : t ≤ 8 := by omega
  clear hout
  by_cases hbad : badForm t v.n v.s v.l.length = true
  · have HZ : Hid (v.chk = 4) := by rw [V.chk_eq, ht, if_neg (by omega), if_pos hbad]; rfl
    rw [ht, hn]
    rw [hn] at hbad
    clear ht hn
    rcases ty_cases h1 h8 with rfl | rfl | rfl | rfl | rfl | rfl | rfl | rfl
    · by_cases hs : v.s.toList = []
      · have hl : 0 < v.l.length := by have := str_nil hs; simp_all [badForm, usesNum, usesText, usesItems]
        clear hbad h1 h8
        go_enter Tryz.func19, Tryz.ntmps19
        go_wp2_with fail
        go_ret
        exact ⟨ret_int HZ.out.symm, below1 _ _⟩
      · clear hbad h1 h8
        go_enter Tryz.func19, Tryz.ntmps19
        go_wp2_with fail
        go_ret
        exact ⟨ret_int HZ.out.symm, below1 _ _⟩
    · by_cases hs : v.s.toList = []
      · have hl : 0 < v.l.length := by have := str_nil hs; simp_all [badForm, usesNum, usesText, usesItems]
        clear hbad h1 h8
        go_enter Tryz.func19, Tryz.ntmps19
        go_wp2_with fail
        go_ret
        exact ⟨ret_int HZ.out.symm, below1 _ _⟩
      · clear hbad h1 h8
        go_enter Tryz.func19, Tryz.ntmps19
        go_wp2_with fail
        go_ret
        exact ⟨ret_int HZ.out.symm, below1 _ _⟩
    · by_cases hn : n = 0
      · subst hn
        have hl : 0 < v.l.length := by simp_all [badForm, usesNum, usesText, usesItems]
        clear hbad h1 h8
        go_enter Tryz.func19, Tryz.ntmps19
        go_wp2_with fail
        go_ret
        exact ⟨ret_int HZ.out.symm, below1 _ _⟩
      · clear hbad h1 h8
        go_enter Tryz.func19, Tryz.ntmps19
        go_wp2_with fail
        go_ret
        exact ⟨ret_int HZ.out.symm, below1 _ _⟩
    · by_cases hs : v.s.toList = []
      · have hl : 0 < v.l.length := by have := str_nil hs; simp_all [badForm, usesNum, usesText, usesItems]
        clear hbad h1 h8
        go_enter Tryz.func19, Tryz.ntmps19
        go_wp2_with fail
        go_ret
        exact ⟨ret_int HZ.out.symm, below1 _ _⟩
      · clear hbad h1 h8
        go_enter Tryz.func19, Tryz.ntmps19
        go_wp2_with fail
        go_ret
        exact ⟨ret_int HZ.out.symm, below1 _ _⟩
    · by_cases hn : n = 0
      · subst hn
        have hs : ¬v.s.toList = [] := fun e => by have := str_nil e; simp_all [badForm, usesNum, usesText, usesItems]
        clear hbad h1 h8
        go_enter Tryz.func19, Tryz.ntmps19
        go_wp2_with fail
        go_ret
        exact ⟨ret_int HZ.out.symm, below1 _ _⟩
      · clear hbad h1 h8
        go_enter Tryz.func19, Tryz.ntmps19
        go_wp2_with fail
        go_ret
        exact ⟨ret_int HZ.out.symm, below1 _ _⟩
    · by_cases hn : n = 0
      · subst hn
        have hs : ¬v.s.toList = [] := fun e => by have := str_nil e; simp_all [badForm, usesNum, usesText, usesItems]
        clear hbad h1 h8
        go_enter Tryz.func19, Tryz.ntmps19
        go_wp2_with fail
        go_ret
        exact ⟨ret_int HZ.out.symm, below1 _ _⟩
      · clear hbad h1 h8
        go_enter Tryz.func19, Tryz.ntmps19
        go_wp2_with fail
        go_ret
        exact ⟨ret_int HZ.out.symm, below1 _ _⟩
    · by_cases hn : n = 0
      · subst hn
        have hs : ¬v.s.toList = [] := fun e => by have := str_nil e; simp_all [badForm, usesNum, usesText, usesItems]
        clear hbad h1 h8
        go_enter Tryz.func19, Tryz.ntmps19
        go_wp2_with fail
        go_ret
        exact ⟨ret_int HZ.out.symm, below1 _ _⟩
      · clear hbad h1 h8
        go_enter Tryz.func19, Tryz.ntmps19
        go_wp2_with fail
        go_ret
        exact ⟨ret_int HZ.out.symm, below1 _ _⟩
    · by_cases hn : n = 0
      · subst hn
        have hl : 0 < v.l.length := by simp_all [badForm, usesNum, usesText, usesItems]
        clear hbad h1 h8
        go_enter Tryz.func19, Tryz.ntmps19
        go_wp2_with fail
        go_ret
        exact ⟨ret_int HZ.out.symm, below1 _ _⟩
      · clear hbad h1 h8
        go_enter Tryz.func19, Tryz.ntmps19
        go_wp2_with fail
        go_ret
        exact ⟨ret_int HZ.out.symm, below1 _ _⟩
  have hgood : badForm t v.n v.s v.l.length = false := by simpa using hbad
  clear hbad
  have hC := V.chk_at v t ht h1 h8 hgood
  rw [hn] at hC hgood
  rw [ht, hn]
  clear ht hn
  have HC := Lib.hid hC
  clear hC
  rcases ty_cases h1 h8 with rfl | rfl | rfl | rfl | rfl | rfl | rfl | rfl
  · have hs : v.s.toList = [] := by
      by_cases hs : v.s.toList = []
      · exact hs
      · have := str_some hs; simp_all [badForm, usesNum, usesText, usesItems]
    have hl : ¬ 0 < v.l.length := by simp_all [badForm, usesNum, usesText, usesItems]
    clear hgood
    go_enter Tryz.func19, Tryz.ntmps19
    go_wp2_with fail
    refine (within_any _ _ _ _).mono ?_
    rintro e w1 ⟨rfl, rfl⟩
    go_wp2_with fail
    go_ret
    exact ⟨ret_int HC.out.symm, below1 _ _⟩
  · have hs : v.s.toList = [] := by
      by_cases hs : v.s.toList = []
      · exact hs
      · have := str_some hs; simp_all [badForm, usesNum, usesText, usesItems]
    have hl : ¬ 0 < v.l.length := by simp_all [badForm, usesNum, usesText, usesItems]
    clear hgood
    go_enter Tryz.func19, Tryz.ntmps19
    go_wp2_with fail
    refine (within_any _ _ _ _).mono ?_
    rintro e w1 ⟨rfl, rfl⟩
    go_wp2_with fail
    go_ret
    exact ⟨ret_int HC.out.symm, below1 _ _⟩
  · have hn : n = 0 := by simp_all [badForm, usesNum, usesText, usesItems]
    subst hn
    have hl : ¬ 0 < v.l.length := by simp_all [badForm, usesNum, usesText, usesItems]
    clear hgood
    go_enter Tryz.func19, Tryz.ntmps19
    go_wp2_with fail
    refine (plain_any v.s 0 64 _ (by decide) (by decide)).mono ?_
    rintro e w1 ⟨rfl, rfl⟩
    go_wp2_with fail
    go_ret
    exact ⟨ret_int HC.out.symm, below1 _ _⟩
  · have hs : v.s.toList = [] := by
      by_cases hs : v.s.toList = []
      · exact hs
      · have := str_some hs; simp_all [badForm, usesNum, usesText, usesItems]
    have hl : ¬ 0 < v.l.length := by simp_all [badForm, usesNum, usesText, usesItems]
    clear hgood
    go_enter Tryz.func19, Tryz.ntmps19
    go_wp2_with fail
    refine (within_any _ _ _ _).mono ?_
    rintro e w1 ⟨rfl, rfl⟩
    go_wp2_with fail
    go_ret
    exact ⟨ret_int HC.out.symm, below1 _ _⟩
  · have hn : n = 0 := by simp_all [badForm, usesNum, usesText, usesItems]
    subst hn
    have hs : v.s.toList = [] := by
      by_cases hs : v.s.toList = []
      · exact hs
      · have := str_some hs; simp_all [badForm, usesNum, usesText, usesItems]
    clear hgood
    go_enter Tryz.func19, Tryz.ntmps19
    go_wp2_with fail
    refine (elements_any v.l ih _ _ B 2 (hrep.later ((below1 _ _).mono hB)) (by simp; omega)).mono ?_
    rintro e w1 ⟨rfl, hb1⟩
    go_wp2_with fail
    go_ret
    exact ⟨ret_int HC.out.symm, (below1 _ _).trans (hb1.mono (by simp))⟩
  · have hn : n = 0 := by simp_all [badForm, usesNum, usesText, usesItems]
    subst hn
    have hs : v.s.toList = [] := by
      by_cases hs : v.s.toList = []
      · exact hs
      · have := str_some hs; simp_all [badForm, usesNum, usesText, usesItems]
    clear hgood
    go_enter Tryz.func19, Tryz.ntmps19
    go_wp2_with fail
    refine (elements_any v.l ih _ _ B 3 (hrep.later ((below1 _ _).mono hB)) (by simp; omega)).mono ?_
    rintro e w1 ⟨rfl, hb1⟩
    go_wp2_with fail
    go_ret
    exact ⟨ret_int HC.out.symm, (below1 _ _).trans (hb1.mono (by simp))⟩
  · have hn : n = 0 := by simp_all [badForm, usesNum, usesText, usesItems]
    subst hn
    have hs : v.s.toList = [] := by
      by_cases hs : v.s.toList = []
      · exact hs
      · have := str_some hs; simp_all [badForm, usesNum, usesText, usesItems]
    clear hgood
    go_enter Tryz.func19, Tryz.ntmps19
    go_wp2_with fail
    refine (rows_any v.l ih _ _ B (hrep.later ((below1 _ _).mono hB)) (by simp; omega)).mono ?_
    rintro e w1 ⟨rfl, hb1⟩
    go_wp2_with fail
    go_ret
    exact ⟨ret_int HC.out.symm, (below1 _ _).trans (hb1.mono (by simp))⟩
  · have hn : n = 0 := by simp_all [badForm, usesNum, usesText, usesItems]
    subst hn
    have hl : ¬ 0 < v.l.length := by simp_all [badForm, usesNum, usesText, usesItems]
    clear hgood
    go_enter Tryz.func19, Tryz.ntmps19
    go_wp2_with fail
    refine (plain_any v.s 1 40 _ (by decide) (by decide)).mono ?_
    rintro e w1 ⟨rfl, rfl⟩
    go_wp2_with fail
    go_ret
    exact ⟨ret_int HC.out.symm, below1 _ _⟩
end

section
open Go.RowKit

set_option maxHeartbeats 400000 in
theorem rsize_some (v : V) : ∀ (sl : Value) (w : World) (B : Nat), Rep w B sl v.l → B ≤ w.heap.size →
    Calls Tryz.prog 25 #[.agg #[.int .i64 v.t, .int .i64 v.n, .string v.s, sl]] w fun e w' => (∃ z, e = .returned (.int .i64 z)) ∧ Below w.heap.size w w' := by
  induction v using V.ind with
  | h v ih =>
  intro sl w B hrep hB
  obtain ⟨oa, cap, rfl, hlc, hm, hel⟩ := hrep.slice
  go_enter Tryz.func25, Tryz.ntmps25
  go_wp2_with fail
  go_loopw [3, 4] (fun s i wr => ∃ (k : Nat) (z : Int), k ≤ v.l.length ∧ i = .int .i64 k ∧ s = .int .i64 z ∧ Below (w.heap.size + 1) (w.alloc (.cells #[.int .i64 v.t, .int .i64 v.n, .string v.s, .slice oa v.l.length cap] 34)) wr) (fun _ i _ => v.l.length - (intOf i).toNat)
  case atStart => exact ⟨0, 1, Nat.zero_le _, rfl, rfl, Below.refl _ _⟩
  case round =>
    obtain ⟨k, z, hk, rfl, rfl, hbel'⟩ := hrel
    have hbel : Below w.heap.size w wr := (below1 _ _).trans (hbel'.mono (by omega))
    have hown : wr.cell? ⟨w.heap.size, 3, none⟩ = some (.slice oa v.l.length cap) := by
      rw [hbel'.cell (p := ⟨w.heap.size, 3, none⟩) (Nat.lt_succ_self _)]
      rw [World.cell?_alloc_at _ _ _ _ rfl]; rfl
    by_cases hlt : k < v.l.length
    · obtain ⟨b, off, oe, ce, rfl, hb, h0, h1, h2, h3, hr⟩ := hel k _ (List.getElem?_eq_getElem hlt)
      rw [← hbel.cell (p := ⟨b, _, none⟩) (Nat.lt_of_lt_of_le hb hB)] at h0 h1 h2 h3
      have hs := hbel.size
      go_wp2_with fail
      refine (ih _ (List.getElem_mem hlt) _ _ B (hr.later (hbel.mono hB)) (by omega)).mono ?_
      rintro e w1 ⟨⟨y, rfl⟩, hb1⟩
      have hs1 := hbel'.size
      go_wp2_with fail
      go_roundw
      case rel => exact ⟨k + 1, _, hlt, by go_num, rfl, hbel'.trans (hb1.mono (by simp at hs1; omega))⟩
      case measure => simp [intOf]; omega
    · go_wp2_with fail
      go_ret
      exact ⟨⟨_, rfl⟩, hbel⟩

/-- Some truth value. -/
def AnyB (e : Ending) : Prop := ∃ z, e = .returned (.bool z)
theorem AnyB.mk (z : Bool) : AnyB (.returned (.bool z)) := ⟨z, rfl⟩
set_option maxHeartbeats 1600000 in
theorem small_some (v : V) : ∀ (sl : Value) (w : World) (B d : Nat), Rep w B sl v.l → B ≤ w.heap.size → d ≤ 1000 →
    Calls Tryz.prog 11 #[.agg #[.int .i64 v.t, .int .i64 v.n, .string v.s, sl], .int .i64 (d : Int)] w fun e w' => AnyB e ∧ Below w.heap.size w w' := by
  induction v using V.ind with
  | h v ih =>
  intro sl w B d hrep hB hd
  have HR := Lib.hid hrep
  obtain ⟨oa, cap, rfl, hlc, hm, hel⟩ := hrep.slice
  clear hrep
  by_cases h0 : d = 0
  · subst h0
    go_enter Tryz.func11, Tryz.ntmps11
    go_wp2_with fail
    go_ret
    exact ⟨AnyB.mk _, below1 _ _⟩
  have hd0 : ((d : Int) == 0) = false := by rw [beq_eq_false_iff_ne]; omega
  by_cases ht : 200 < (v.s.size : Int)
  · clear h0
    go_enter Tryz.func11, Tryz.ntmps11
    go_wp2_with fail
    go_ret
    exact ⟨AnyB.mk _, below1 _ _⟩
  by_cases hi : 40 < (v.l.length : Int)
  · clear h0
    go_enter Tryz.func11, Tryz.ntmps11
    go_wp2_with fail
    go_ret
    exact ⟨AnyB.mk _, below1 _ _⟩
  obtain ⟨c, hc⟩ : ∃ c : Nat, d = c + 1 := ⟨d - 1, by omega⟩
  have hcd : (d : Int) - 1 = (c : Int) := by omega
  have hc1 : c ≤ 1000 := by omega
  clear h0 hc
  go_enter Tryz.func11, Tryz.ntmps11
  go_wp2_with fail
  go_loopw [5] (fun i wr => ∃ (k : Nat), k ≤ v.l.length ∧ i = .int .i64 k ∧ Below (w.heap.size + 1) (w.alloc (.cells #[.int .i64 v.t, .int .i64 v.n, .string v.s, .slice oa v.l.length cap] 34)) wr) (fun i _ => v.l.length - (intOf i).toNat)
  case atStart => exact ⟨0, Nat.zero_le _, rfl, Below.refl _ _⟩
  case round =>
    obtain ⟨k, hk, rfl, hbel'⟩ := hrel
    have hbel : Below w.heap.size w wr := (below1 _ _).trans (hbel'.mono (by omega))
    obtain ⟨g0, g1, g2, g3⟩ := box_later hbel'
    by_cases hlt : k < v.l.length
    · obtain ⟨b, off, oe, ce, rfl, hb, h0, h1, h2, h3, hr⟩ := hel k _ (List.getElem?_eq_getElem hlt)
      rw [← hbel.cell (p := ⟨b, _, none⟩) (Nat.lt_of_lt_of_le hb hB)] at h0 h1 h2 h3
      have hs := hbel.size
      have HI := Lib.hid (ih _ (List.getElem_mem hlt) _ wr B c (hr.later (hbel.mono hB)) (by omega) hc1)
      go_wp2_with fail
      refine HI.out.mono ?_
      rintro e w1 ⟨⟨y, rfl⟩, hb1⟩
      have hs1 := hbel'.size
      clear HI
      cases y
      · go_wp2_with fail
        go_ret
        exact ⟨AnyB.mk _, hbel.trans (hb1.mono (by omega))⟩
      · go_wp2_with fail
        go_roundw
        case rel => exact ⟨k + 1, hlt, by go_num, hbel'.trans (hb1.mono (by simp at hs1; omega))⟩
        case measure => simp [intOf]; omega
    · have HS := Lib.hid (rsize_some v _ wr B (HR.out.later (hbel.mono hB)) (by have := hbel.size; omega))
      have hs := hbel.size
      go_wp2_with fail
      refine HS.out.mono ?_
      rintro e w1 ⟨⟨z, rfl⟩, hb1⟩
      clear HS
      go_wp2_with fail
      go_ret
      exact ⟨AnyB.mk _, hbel.trans (hb1.mono hs)⟩
end

section
open Go.RowKit

theorem cmps_self2 (l : List V) (h : ∀ x, x ∈ l → x.cmp x = 0) : V.cmps l l = 0 := by
  induction l with
  | nil => rw [V.cmps_nil]; rfl
  | cons a l ih => rw [V.cmps_cons, if_neg (by rw [h a (List.mem_cons_self ..)]; simp)]; exact ih fun x hx => h x (List.mem_cons_of_mem _ hx)
theorem cmp_self2 (v : V) : v.cmp v = 0 := by
  induction v using V.ind with
  | h v ih => rw [V.cmp_eq, if_neg (by rw [cmpI_eq rfl]; simp), if_neg (by rw [cmpI_eq rfl]; simp), if_neg (by rw [cmpS_eq rfl]; simp)]; exact cmps_self2 _ ih
theorem eqb_self (v : V) : v.eqb v = true := by unfold V.eqb; rw [cmp_self2]; rfl
end

section
open Go.RowKit

set_option maxRecDepth 100000 in
set_option maxHeartbeats 3200000 in
theorem rprintAll_any (l : List V) (sl : Value) (w : World) (B : Nat) (hR : Rep w B sl l) (hBw : B ≤ w.heap.size) (hl : l.length ≤ 1000) :
    Calls Tryz.prog 7 #[sl] w fun e w' => RetS (printAllL l) e ∧ Below w.heap.size w w' := by
  have HR := Lib.hid hR
  obtain ⟨oa, cap, rfl, hlc, hm, hel⟩ := hR.slice
  clear hR
  go_enter Tryz.func7, Tryz.ntmps7
  go_wp2_with fail
  go_loopw [4] (fun i wr => ∃ k : Nat, k ≤ l.length ∧ i = .int .i64 k ∧ Hid (firstErr (l.drop k) = firstErr l) ∧ Below w.heap.size w wr) (fun i _ => l.length - (intOf i).toNat)
  case atStart => exact ⟨0, Nat.zero_le _, rfl, Lib.hid rfl, Below.refl _ _⟩
  case round =>
    obtain ⟨k, hk, rfl, HD, hbel⟩ := hrel
    have hs : w.heap.size ≤ wr.heap.size := hbel.size
    by_cases hlt : k < l.length
    · obtain ⟨b, off, oe, ce, rfl, hb, h0, h1, h2, h3, hr⟩ := hel k _ (List.getElem?_eq_getElem hlt)
      rw [← hbel.cell (p := ⟨b, _, none⟩) (Nat.lt_of_lt_of_le hb hBw)] at h0 h1 h2 h3
      have HS := Lib.hid (drop_v l k hlt)
      have HC := Lib.hid (refCheck_any (l[k]) _ wr B (hr.later (hbel.mono hBw)) (by omega))
      clear hr
      by_cases hc : (l[k]).chk = 0
      · have fc := neq_f hc
        have HZ := Lib.hid hc
        clear hc
        go_wp2_with fail
        refine HC.out.mono ?_
        rintro e w1 ⟨rfl, hb1⟩
        have hb2 : Below w.heap.size w w1 := hbel.trans (hb1.mono hs)
        clear HC hb1
        go_wp2_with fail
        go_roundw
        case rel => exact ⟨k + 1, hlt, by go_num, by
          have h := HD.out
          rw [HS.out, firstErr, if_pos HZ.out] at h
          exact h, hb2⟩
        case measure => simp [intOf]; omega
      · have fc := neq_t hc
        have HZ := Lib.hid hc
        clear hc
        go_wp2_with fail
        refine HC.out.mono ?_
        rintro e w1 ⟨rfl, hb1⟩
        have hb2 : Below w.heap.size w w1 := hbel.trans (hb1.mono hs)
        clear HC hb1
        go_wp2_with fail
        go_ret2
        refine ⟨?_, hb2⟩
        have h := HD.out
        rw [HS.out, firstErr, if_neg HZ.out] at h
        unfold RetS printAllL
        rw [← h, if_neg HZ.out]
        rfl
    · obtain rfl : k = l.length := by omega
      have h0 : firstErr l = 0 := by rw [← HD.out, List.drop_of_length_le (Nat.le_refl _), firstErr]
      have hall := firstErr_ok l h0
      have HP : Hid (printAllL l = (V.lits l, 0)) := Lib.hid (by unfold printAllL; rw [if_pos h0])
      have HJ := Lib.hid (rjoin_any l (fun x _ => rtext_any x) _ wr B (HR.out.later (hbel.mono hBw)) (by omega) hall hl)
      clear HD h0 hall
      go_wp2_with fail
      refine HJ.out.mono ?_
      rintro e w1 ⟨rfl, hb1⟩
      have hb2 : Below w.heap.size w w1 := hbel.trans (hb1.mono hs)
      clear HJ hb1
      go_wp2_with fail
      go_ret2
      refine ⟨?_, hb2⟩
      unfold RetS
      rw [HP.out]
      rfl

set_option maxRecDepth 100000 in
set_option maxHeartbeats 3200000 in
theorem rparseAll_any (s : ByteArray) (w : World) (hs : s.size ≤ 1000000) :
    Calls Tryz.prog 9 #[.string s] w fun e w' => RetA w w' (parseAllL s.data.toList) e ∧ Below w.heap.size w w' := by
  obtain ⟨i0, hi0, hz0, hz1, hz2⟩ := info_parts infoValue
  have hPA : parseAllL s.data.toList = whole s.data.toList [] (allL s.data.toList (s.size + 1) [] 0) := by unfold parseAllL; rw [lt_len]
  rw [hPA]
  clear hPA
  generalize hR : allL s.data.toList (s.size + 1) [] 0 = R at *
  have HE0 : Hid (R = allL s.data.toList (s.size + 1) [] 0) := Lib.hid hR.symm
  clear hR
  go_enter Tryz.func9, Tryz.ntmps9
  go_wp2_with fail
  go_loopg [5, 6] (s.size + 1) (fun g v iv wr => ∃ (acc : List V) (oc : Option Addr) (cc ii : Nat), v = .slice oc acc.length cc ∧ iv = .int .i64 (ii : Int) ∧ Hid (Acc wr w.heap.size (.slice oc acc.length cc) acc) ∧ ii ≤ s.size ∧ Below w.heap.size w wr ∧ Hid (R = allL s.data.toList g acc ii) ∧ s.size < ii + g ∧ acc.length ≤ ii)
  case atStart => exact ⟨[], none, 0, 0, rfl, rfl, Lib.hid (Acc.nil _ _), Nat.zero_le _, Below.refl _ _, HE0, by omega, Nat.le_refl _⟩
  case round =>
    obtain ⟨acc, oc, cc, ii, rfl, rfl, HA, hii, hbel, HE, hlg, hlen⟩ := hrel
    have HG := Lib.hid hlg
    obtain ⟨k, rfl⟩ : ∃ k, gk = k + 1 := ⟨gk - 1, by omega⟩
    clear HE0
    by_cases hend : ii = s.size
    · have HN : Hid (R = .ok acc ii) := Lib.hid (by rw [HE.out, allL_end _ _ _ _ (by rw [lt_len]; omega)])
      have hnl : ¬ (ii : Int) < (s.size : Int) := by omega
      have HEnd := Lib.hid hend
      clear hend HE
      go_wp2_with fail
      refine bodyPost_ret (v := .tuple #[.slice oc acc.length cc, .int .i64 0, .int .i64 0]) (by simp [results, Tryz.results9, go_sem, *]) rfl ?_
      rw [HN.out, whole_yes _ _ _ _ (by rw [lt_len]; exact HEnd.out)]
      exact ⟨⟨oc, cc, rfl, HA.out.repS (by omega)⟩, hbel⟩
    · have hltI : (ii : Int) < (s.size : Int) := by omega
      have hne : ¬ s.data.toList.length ≤ ii := by rw [lt_len]; omega
      by_cases hnil : acc = []
      · have HE1 : Hid (R = (oneL s.data.toList ii).bind fun v m => allL s.data.toList k (acc ++ [v]) m) := Lib.hid (by
          rw [HE.out, allL_more _ _ _ _ hne, sepL, if_pos hnil]
          rfl)
        have hgt : ¬ (0 : Int) < (acc.length : Int) := by rw [hnil]; decide
        obtain ⟨jj, hij⟩ : ∃ jj, jj = ii := ⟨_, rfl⟩
        have hjj : jj ≤ s.size := by omega
        have hjj0 : ii ≤ jj := by omega
        clear hend HE hnil hne
        subst hij
        have HC := Lib.hid (rone_any s jj wr hjj hs)
        cases hel : oneL s.data.toList jj with
        | bad m =>
          rw [hel] at HE1 HC
          have HN : Hid (R = .bad m) := Lib.hid HE1.out
          clear HE1 hel
          go_wp2_with fail
          refine HC.out.mono ?_
          rintro e w4 ⟨⟨t1, n1, S1, rfl⟩, hb4⟩
          have HB4 : Hid (Below w.heap.size w w4) := Lib.hid (hbel.trans (hb4.mono hbel.size))
          have hw4 : w.heap.size ≤ w4.heap.size := HB4.out.size
          clear hb4 HC HA
          go_wp2_with fail
          refine bodyPost_ret (v := .tuple #[.slice none 0 0, .int .i64 (m : Int), .int .i64 8]) (by simp [results, Tryz.results9, go_sem, *]) rfl ?_
          rw [HN.out, whole_bad]
          exact ⟨⟨none, 0, rfl, RepS.nil⟩, HB4.out.alloc hw4 _⟩
        | ok v m =>
          have hgt2 := oneL_gt hel
          rw [hel] at HE1 HC
          have HN : Hid (R = allL s.data.toList k (acc ++ [v]) m) := Lib.hid HE1.out
          have hmm : m ≤ s.size := by
            have := oneL_bd s.data.toList jj (by rw [lt_len]; exact hjj)
            rw [hel, lt_len] at this
            exact this.2
          clear HE1 hel
          go_wp2_with fail
          refine HC.out.mono ?_
          rintro e w4 ⟨⟨oe, ce, rfl, hrep⟩, hb4⟩
          have hs4 : wr.heap.size ≤ w4.heap.size := hb4.size
          have HB4 : Hid (Below w.heap.size w w4) := Lib.hid (hbel.trans (hb4.mono hbel.size))
          have hacc : Acc w4 w.heap.size (.slice oc acc.length cc) acc := HA.out.kp (X := fun _ => False) (.of hb4 (Nat.le_refl _)) (Nat.le_refl _) (fun _ _ h => h)
          obtain ⟨ps, hps, ho4, hr4⟩ := hacc
          have hpl : ps.length = acc.length := by rw [← hps, List.length_map]
          have hol : ∀ q, (Value.slice oc acc.length cc).ownBlock = some q → q < wr.heap.size := fun q hq => by
            obtain ⟨ps', hps', ho', -⟩ := HA.out
            exact (own_lt ho' q hq).2
          have HOL := Lib.hid hol
          have HO4 := Lib.hid ho4
          have HR4s := Lib.hid hr4
          have HRep := Lib.hid hrep
          have hn1 : ps.length + 1 ≤ maxLen := by unfold maxLen; omega
          have hby : (ps.length + 1) * 56 ≤ 140737488355328 := by omega
          have hwr := hbel.size
          have hw4 : w.heap.size ≤ w4.heap.size := Nat.le_trans hwr hs4
          have HBL := Lib.hid hbel
          rw [← hpl] at *
          clear hb4 hrep ho4 hr4 HC HA hol hbel
          have hnw : (((w4.alloc (.cells #[.int .i64 v.t, .int .i64 v.n, .string v.s, .slice oe v.l.length ce] 34)).alloc (.cells #[.int .i64 v.t, .int .i64 v.n, .string v.s, .slice oe v.l.length ce] 34))).heap[w4.heap.size + 1]? = some (.cells #[.int .i64 v.t, .int .i64 v.n, .string v.s, .slice oe v.l.length ce] 34 (0, 0)) := two_new' _ _ _
          have hsz2 : (((w4.alloc (.cells #[.int .i64 v.t, .int .i64 v.n, .string v.s, .slice oe v.l.length ce] 34)).alloc (.cells #[.int .i64 v.t, .int .i64 v.n, .string v.s, .slice oe v.l.length ce] 34))).heap.size = w4.heap.size + 2 := by simp
          have HO5 := Lib.hid ((HO4.out.alloc (.cells #[.int .i64 v.t, .int .i64 v.n, .string v.s, .slice oe v.l.length ce] 34)).alloc (.cells #[.int .i64 v.t, .int .i64 v.n, .string v.s, .slice oe v.l.length ce] 34))
          have HB5 : Hid (Below w.heap.size w ((w4.alloc (.cells #[.int .i64 v.t, .int .i64 v.n, .string v.s, .slice oe v.l.length ce] 34)).alloc (.cells #[.int .i64 v.t, .int .i64 v.n, .string v.s, .slice oe v.l.length ce] 34))) := Lib.hid ((HB4.out.alloc hw4 _).alloc (by simp; omega) _)
          have HRs5 : Hid (∀ p, p ∈ ps → RepS ((w4.alloc (.cells #[.int .i64 v.t, .int .i64 v.n, .string v.s, .slice oe v.l.length ce] 34)).alloc (.cells #[.int .i64 v.t, .int .i64 v.n, .string v.s, .slice oe v.l.length ce] 34)) (Off w.heap.size (((w4.alloc (.cells #[.int .i64 v.t, .int .i64 v.n, .string v.s, .slice oe v.l.length ce] 34)).alloc (.cells #[.int .i64 v.t, .int .i64 v.n, .string v.s, .slice oe v.l.length ce] 34))).heap.size (Value.slice oc ps.length cc).ownBlock) p.2 p.1.l) := Lib.hid (fun p hp => (HR4s.out p hp).later (fun q hq => ⟨⟨hq.1.1, by have := hq.1.2; rw [hsz2]; omega⟩, hq.2⟩) (fun q hq o => (below2 w4 _ _).cell (p := ⟨q, o, none⟩) hq.1.2))
          have HRp5 : Hid (RepS ((w4.alloc (.cells #[.int .i64 v.t, .int .i64 v.n, .string v.s, .slice oe v.l.length ce] 34)).alloc (.cells #[.int .i64 v.t, .int .i64 v.n, .string v.s, .slice oe v.l.length ce] 34)) (Btw wr.heap.size (((w4.alloc (.cells #[.int .i64 v.t, .int .i64 v.n, .string v.s, .slice oe v.l.length ce] 34)).alloc (.cells #[.int .i64 v.t, .int .i64 v.n, .string v.s, .slice oe v.l.length ce] 34))).heap.size) (.slice oe v.l.length ce) v.l) := Lib.hid (HRep.out.later (fun q hq => ⟨hq.1, by have := hq.2; rw [hsz2]; omega⟩) (fun q hq o => (below2 w4 _ _).cell (p := ⟨q, o, none⟩) hq.2))
          have HPS2 : Hid (ps.map (·.1) = acc) := Lib.hid hps
          clear HO4 HB4 HR4s HRep hps hpl
          go_wp2_with (at_builtin; refine wpList_append_lies _ rfl _ _ _ rfl w.heap.size 34 i0 _ 4 56 Tryz.underlying22 hi0 hz0 hz1 hz2 rfl (by omega) (.slice oc ps.length cc) ps.length (flat ps) rfl HO5.out ⟨w4.heap.size + 1, 0, none⟩ 1 1 [.int .i64 v.t, .int .i64 v.n, .string v.s, .slice oe v.l.length ce] rfl rfl (World.news_of_block (cs := #[.int .i64 v.t, .int .i64 v.n, .string v.s, .slice oe v.l.length ce]) (t := 34) (fr := (0, 0)) hnw) (by simp [Value.oneCell']) (by omega) hn1 hby (by simp; omega) (w4.heap.size + 2) hsz2 ?_)
          intro gg cap2 w5 hown5 hgrow hat hgl
          have HA6 : Hid (Acc w5 w.heap.size (.slice (some ⟨gg, 0, none⟩) (ps.length + 1) cap2) (acc ++ [v])) := Lib.hid (by
            rw [← HPS2.out]
            exact Acc.snoc HO5.out HRs5.out HRp5.out hwr HOL.out hown5 hgrow (by rw [hsz2]; exact hat) hgl)
          have HB6 : Hid (Below w.heap.size w w5) := Lib.hid (HB5.out.grown hgrow (by rw [hsz2]; omega) (fun q hq => (own_lt HO5.out q hq).1))
          have HPL2 : Hid (acc.length = ps.length) := Lib.hid (by rw [← HPS2.out, List.length_map])
          clear hown5 hgrow hat hgl HO5 HRs5 HRp5 HB5 HPS2
          go_wp2_with fail
          have hpl2 := HPL2.out
          go_roundg k
          case measure => omega
          case rel => exact ⟨acc ++ [v], some ⟨gg, 0, none⟩, cap2, m, by rw [List.length_append, hpl2]; rfl, rfl, by rw [List.length_append, hpl2]; exact HA6, hmm, HB6.out, HN, by have := HG.out; omega, by rw [List.length_append, hpl2]; show ps.length + 1 ≤ m; omega⟩
      · have hgt : (0 : Int) < (acc.length : Int) := by have := List.length_pos_iff.2 hnil; omega
        have HE1 : Hid (R = (wordL [44, 32] s.data.toList ii).bind fun _ j => (oneL s.data.toList j).bind fun v m => allL s.data.toList k (acc ++ [v]) m) := Lib.hid (by
          rw [HE.out, allL_more _ _ _ _ hne, sepL, if_neg hnil])
        have HW2 : Hid (∀ w', Calls Tryz.prog 22 #[.string s, .int .i64 (ii : Int), .string ⟨#[44, 32]⟩] w' fun e w'' => e = .returned (.tuple #[.int .i64 ((wordL [44, 32] s.data.toList ii).fin : Int), .bool (wordL [44, 32] s.data.toList ii).good]) ∧ ∃ m, w'' = w'.drewN m) := Lib.hid (fun w' => rword_any ⟨#[44, 32]⟩ s ii w' (by omega) (by decide))
        have hwb := wordL_bd [44, 32] s.data.toList ii (by rw [lt_len]; exact hii) (by decide)
        rw [lt_len] at hwb
        clear hend HE hnil hne
        generalize wordL [44, 32] s.data.toList ii = sep at *
        cases sep with
        | bad m =>
          have HN : Hid (R = .bad m) := Lib.hid HE1.out
          clear HE1 HA
          go_wp2_with fail
          refine (HW2.out _).mono ?_
          rintro e w3 ⟨rfl, m1, rfl⟩
          go_wp2_with fail
          refine bodyPost_ret (v := .tuple #[.slice none 0 0, .int .i64 (m : Int), .int .i64 8]) (by simp [results, Tryz.results9, go_sem, PR.fin, *]) rfl ?_
          rw [HN.out, whole_bad]
          exact ⟨⟨none, 0, rfl, RepS.nil⟩, blw_drewN hbel _⟩
        | ok u jj =>
          have hjj : jj ≤ s.size := hwb.2
          have hjj0 : ii ≤ jj := hwb.1
          have HE1 : Hid (R = (oneL s.data.toList jj).bind fun v m => allL s.data.toList k (acc ++ [v]) m) := Lib.hid HE1.out
          clear hwb
          go_wp2_with fail
          refine (HW2.out _).mono ?_
          rintro e w3 ⟨rfl, m1, hw3⟩
          have hbel : Below w.heap.size w w3 := by rw [hw3]; exact blw_drewN hbel _
          have HA : Hid (Acc w3 w.heap.size (.slice oc acc.length cc) acc) := Lib.hid (by rw [hw3]; exact HA.out.drewN m1)
          clear HW2 hw3
          have HC := Lib.hid (rone_any s jj w3 hjj hs)
          cases hel : oneL s.data.toList jj with
          | bad m =>
            rw [hel] at HE1 HC
            have HN : Hid (R = .bad m) := Lib.hid HE1.out
            clear HE1 hel
            go_wp2_with fail
            refine HC.out.mono ?_
            rintro e w4 ⟨⟨t1, n1, S1, rfl⟩, hb4⟩
            have HB4 : Hid (Below w.heap.size w w4) := Lib.hid (hbel.trans (hb4.mono hbel.size))
            have hw4 : w.heap.size ≤ w4.heap.size := HB4.out.size
            clear hb4 HC HA
            go_wp2_with fail
            refine bodyPost_ret (v := .tuple #[.slice none 0 0, .int .i64 (m : Int), .int .i64 8]) (by simp [results, Tryz.results9, go_sem, *]) rfl ?_
            rw [HN.out, whole_bad]
            exact ⟨⟨none, 0, rfl, RepS.nil⟩, HB4.out.alloc hw4 _⟩
          | ok v m =>
            have hgt2 := oneL_gt hel
            rw [hel] at HE1 HC
            have HN : Hid (R = allL s.data.toList k (acc ++ [v]) m) := Lib.hid HE1.out
            have hmm : m ≤ s.size := by
              have := oneL_bd s.data.toList jj (by rw [lt_len]; exact hjj)
              rw [hel, lt_len] at this
              exact this.2
            clear HE1 hel
            go_wp2_with fail
            refine HC.out.mono ?_
            rintro e w4 ⟨⟨oe, ce, rfl, hrep⟩, hb4⟩
            have hs4 : w3.heap.size ≤ w4.heap.size := hb4.size
            have HB4 : Hid (Below w.heap.size w w4) := Lib.hid (hbel.trans (hb4.mono hbel.size))
            have hacc : Acc w4 w.heap.size (.slice oc acc.length cc) acc := HA.out.kp (X := fun _ => False) (.of hb4 (Nat.le_refl _)) (Nat.le_refl _) (fun _ _ h => h)
            obtain ⟨ps, hps, ho4, hr4⟩ := hacc
            have hpl : ps.length = acc.length := by rw [← hps, List.length_map]
            have hol : ∀ q, (Value.slice oc acc.length cc).ownBlock = some q → q < w3.heap.size := fun q hq => by
              obtain ⟨ps', hps', ho', -⟩ := HA.out
              exact (own_lt ho' q hq).2
            have HOL := Lib.hid hol
            have HO4 := Lib.hid ho4
            have HR4s := Lib.hid hr4
            have HRep := Lib.hid hrep
            have hn1 : ps.length + 1 ≤ maxLen := by unfold maxLen; omega
            have hby : (ps.length + 1) * 56 ≤ 140737488355328 := by omega
            have hw3 := hbel.size
            have hw4 : w.heap.size ≤ w4.heap.size := Nat.le_trans hw3 hs4
            have HBL := Lib.hid hbel
            rw [← hpl] at *
            clear hb4 hrep ho4 hr4 HC HA hol hbel
            have hnw : (((w4.alloc (.cells #[.int .i64 v.t, .int .i64 v.n, .string v.s, .slice oe v.l.length ce] 34)).alloc (.cells #[.int .i64 v.t, .int .i64 v.n, .string v.s, .slice oe v.l.length ce] 34))).heap[w4.heap.size + 1]? = some (.cells #[.int .i64 v.t, .int .i64 v.n, .string v.s, .slice oe v.l.length ce] 34 (0, 0)) := two_new' _ _ _
            have hsz2 : (((w4.alloc (.cells #[.int .i64 v.t, .int .i64 v.n, .string v.s, .slice oe v.l.length ce] 34)).alloc (.cells #[.int .i64 v.t, .int .i64 v.n, .string v.s, .slice oe v.l.length ce] 34))).heap.size = w4.heap.size + 2 := by simp
            have HO5 := Lib.hid ((HO4.out.alloc (.cells #[.int .i64 v.t, .int .i64 v.n, .string v.s, .slice oe v.l.length ce] 34)).alloc (.cells #[.int .i64 v.t, .int .i64 v.n, .string v.s, .slice oe v.l.length ce] 34))
            have HB5 : Hid (Below w.heap.size w ((w4.alloc (.cells #[.int .i64 v.t, .int .i64 v.n, .string v.s, .slice oe v.l.length ce] 34)).alloc (.cells #[.int .i64 v.t, .int .i64 v.n, .string v.s, .slice oe v.l.length ce] 34))) := Lib.hid ((HB4.out.alloc hw4 _).alloc (by simp; omega) _)
            have HRs5 : Hid (∀ p, p ∈ ps → RepS ((w4.alloc (.cells #[.int .i64 v.t, .int .i64 v.n, .string v.s, .slice oe v.l.length ce] 34)).alloc (.cells #[.int .i64 v.t, .int .i64 v.n, .string v.s, .slice oe v.l.length ce] 34)) (Off w.heap.size (((w4.alloc (.cells #[.int .i64 v.t, .int .i64 v.n, .string v.s, .slice oe v.l.length ce] 34)).alloc (.cells #[.int .i64 v.t, .int .i64 v.n, .string v.s, .slice oe v.l.length ce] 34))).heap.size (Value.slice oc ps.length cc).ownBlock) p.2 p.1.l) := Lib.hid (fun p hp => (HR4s.out p hp).later (fun q hq => ⟨⟨hq.1.1, by have := hq.1.2; rw [hsz2]; omega⟩, hq.2⟩) (fun q hq o => (below2 w4 _ _).cell (p := ⟨q, o, none⟩) hq.1.2))
            have HRp5 : Hid (RepS ((w4.alloc (.cells #[.int .i64 v.t, .int .i64 v.n, .string v.s, .slice oe v.l.length ce] 34)).alloc (.cells #[.int .i64 v.t, .int .i64 v.n, .string v.s, .slice oe v.l.length ce] 34)) (Btw w3.heap.size (((w4.alloc (.cells #[.int .i64 v.t, .int .i64 v.n, .string v.s, .slice oe v.l.length ce] 34)).alloc (.cells #[.int .i64 v.t, .int .i64 v.n, .string v.s, .slice oe v.l.length ce] 34))).heap.size) (.slice oe v.l.length ce) v.l) := Lib.hid (HRep.out.later (fun q hq => ⟨hq.1, by have := hq.2; rw [hsz2]; omega⟩) (fun q hq o => (below2 w4 _ _).cell (p := ⟨q, o, none⟩) hq.2))
            have HPS2 : Hid (ps.map (·.1) = acc) := Lib.hid hps
            clear HO4 HB4 HR4s HRep hps hpl
            go_wp2_with (at_builtin; refine wpList_append_lies _ rfl _ _ _ rfl w.heap.size 34 i0 _ 4 56 Tryz.underlying22 hi0 hz0 hz1 hz2 rfl (by omega) (.slice oc ps.length cc) ps.length (flat ps) rfl HO5.out ⟨w4.heap.size + 1, 0, none⟩ 1 1 [.int .i64 v.t, .int .i64 v.n, .string v.s, .slice oe v.l.length ce] rfl rfl (World.news_of_block (cs := #[.int .i64 v.t, .int .i64 v.n, .string v.s, .slice oe v.l.length ce]) (t := 34) (fr := (0, 0)) hnw) (by simp [Value.oneCell']) (by omega) hn1 hby (by simp; omega) (w4.heap.size + 2) hsz2 ?_)
            intro gg cap2 w5 hown5 hgrow hat hgl
            have HA6 : Hid (Acc w5 w.heap.size (.slice (some ⟨gg, 0, none⟩) (ps.length + 1) cap2) (acc ++ [v])) := Lib.hid (by
              rw [← HPS2.out]
              exact Acc.snoc HO5.out HRs5.out HRp5.out hw3 HOL.out hown5 hgrow (by rw [hsz2]; exact hat) hgl)
            have HB6 : Hid (Below w.heap.size w w5) := Lib.hid (HB5.out.grown hgrow (by rw [hsz2]; omega) (fun q hq => (own_lt HO5.out q hq).1))
            have HPL2 : Hid (acc.length = ps.length) := Lib.hid (by rw [← HPS2.out, List.length_map])
            clear hown5 hgrow hat hgl HO5 HRs5 HRp5 HB5 HPS2
            go_wp2_with fail
            have hpl2 := HPL2.out
            go_roundg k
            case measure => omega
            case rel => exact ⟨acc ++ [v], some ⟨gg, 0, none⟩, cap2, m, by rw [List.length_append, hpl2]; rfl, rfl, by rw [List.length_append, hpl2]; exact HA6, hmm, HB6.out, HN, by have := HG.out; omega, by rw [List.length_append, hpl2]; show ps.length + 1 ≤ m; omega⟩
end

section
open Go.RowKit

def SmB (l : List V) (e : Ending) : Prop := ∃ z, e = .returned (.bool z) ∧ (z = true → l.length ≤ 30)
set_option maxRecDepth 100000 in
set_option maxHeartbeats 1600000 in
theorem smalls_any (l : List V) (sl : Value) (w : World) (B : Nat) (hR : Rep w B sl l) (hB : B ≤ w.heap.size) :
    Calls Tryz.prog 4 #[sl] w fun e w' => SmB l e ∧ Below w.heap.size w w' := by
  obtain ⟨oa, cap, rfl, hlc, hm, hel⟩ := hR.slice
  by_cases h30 : 30 < (l.length : Int)
  · clear hel
    go_enter Tryz.func4, Tryz.ntmps4
    go_wp2_with fail
    go_ret
    exact ⟨⟨false, rfl, fun h => by cases h⟩, Below.refl _ _⟩
  · have HEL := Lib.hid hel
    clear hel
    go_enter Tryz.func4, Tryz.ntmps4
    go_wp2_with fail
    go_loopw [3] (fun i wr => ∃ (k : Nat), k ≤ l.length ∧ i = .int .i64 k ∧ Below w.heap.size w wr) (fun i _ => l.length - (intOf i).toNat)
    case atStart => exact ⟨0, Nat.zero_le _, rfl, Below.refl _ _⟩
    case round =>
      obtain ⟨k, hk, rfl, hbel⟩ := hrel
      by_cases hlt : k < l.length
      · obtain ⟨b, off, oe, ce, rfl, hb, h0, h1, h2, h3, hr⟩ := HEL.out k _ (List.getElem?_eq_getElem hlt)
        rw [← hbel.cell (p := ⟨b, _, none⟩) (Nat.lt_of_lt_of_le hb hB)] at h0 h1 h2 h3
        have hs := hbel.size
        have HI := Lib.hid (small_some l[k] _ wr B 5 (hr.later (hbel.mono hB)) (by omega) (by decide))
        go_wp2_with fail
        refine HI.out.mono ?_
        rintro e w1 ⟨⟨y, rfl⟩, hb1⟩
        clear HI
        cases y
        · go_wp2_with fail
          go_ret
          exact ⟨⟨false, rfl, fun h => by cases h⟩, hbel.trans (hb1.mono hs)⟩
        · go_wp2_with fail
          go_roundw
          case rel => exact ⟨k + 1, hlt, by go_num, hbel.trans (hb1.mono hs)⟩
          case measure => simp [intOf]; omega
      · go_wp2_with fail
        go_ret
        exact ⟨⟨true, rfl, fun _ => by omega⟩, hbel⟩

set_option maxRecDepth 100000 in
set_option maxHeartbeats 1600000 in
theorem sames_any (l : List V) (sa sb : Value) (w : World) (B : Nat) (hra : Rep w B sa l) (hrb : Rep w B sb l) (hB : B ≤ w.heap.size) :
    Calls Tryz.prog 10 #[sa, sb] w fun e w' => e = .returned (.bool true) ∧ Below w.heap.size w w' := by
  obtain ⟨oa, ca, rfl, hlc, hm, hel⟩ := hra.slice
  obtain ⟨ob, cb, rfl, hlc', hm', hel'⟩ := hrb.slice
  go_enter Tryz.func10, Tryz.ntmps10
  go_wp2_with fail
  go_loopw [5] (fun i wr => ∃ k : Nat, k ≤ l.length ∧ i = .int .i64 k ∧ Below w.heap.size w wr) (fun i _ => l.length - (intOf i).toNat)
  case atStart => exact ⟨0, Nat.zero_le _, rfl, Below.refl _ _⟩
  case round =>
    obtain ⟨k, hk, rfl, hbel⟩ := hrel
    by_cases hlt : k < l.length
    · obtain ⟨b, off, oe, ce, rfl, hb, h0, h1, h2, h3, hr⟩ := hel k _ (List.getElem?_eq_getElem hlt)
      rw [← hbel.cell (p := ⟨b, _, none⟩) (Nat.lt_of_lt_of_le hb hB)] at h0 h1 h2 h3
      have hs := hbel.size
      obtain ⟨b', off', oe', ce', rfl, hb', g0, g1, g2, g3, hr'⟩ := hel' k _ (List.getElem?_eq_getElem hlt)
      rw [← hbel.cell (p := ⟨b', _, none⟩) (Nat.lt_of_lt_of_le hb' hB)] at g0 g1 g2 g3
      clear hel hel'
      have hz1 : (k : Int) < (l.length : Int) := by omega
      have HX := fun (w1 : World) (q1 : Rep w1 B (.slice oe l[k].l.length ce) l[k].l) (q2 : Rep w1 B (.slice oe' l[k].l.length ce') l[k].l) (q3 : B ≤ w1.heap.size) => Lib.hid (refEqual_any l[k] l[k] (.slice oe l[k].l.length ce) (.slice oe' l[k].l.length ce') w1 B q1 q2 q3)
      rw [eqb_self] at HX
      have HEQ := Lib.hid HX; clear HX
      go_wp2_with fail
      go_still_tail 8, (by kernel_rfl)
      change wpList _ _ _ _ _ wr.drew
      have hbw := hbel.drew
      have hsw : wr.drew.heap.size = wr.heap.size := rfl
      clear h0 h1 h2 h3 g0 g1 g2 g3
      go_wp2_with fail
      refine (HEQ.out _ (hr.later (hbw.mono hB)) (hr'.later (hbw.mono hB)) (by omega)).out.mono ?_
      rintro e w1 ⟨rfl, hb1⟩
      have hb2 : Below w.heap.size w w1 := hbw.trans (hb1.mono (by omega))
      clear hsw
      go_wp2_with fail
      go_roundw
      case rel => exact ⟨k + 1, hlt, by go_num, hb2⟩
      case measure => simp [intOf]; omega
    · clear hel hel'
      go_wp2_with fail
      go_ret
      exact ⟨rfl, hbel⟩

set_option maxRecDepth 100000 in
set_option maxHeartbeats 6400000 in
theorem tuples_any (l : List V) (sl : Value) (s : ByteArray) (w : World) (B : Nat) (hR : Rep w B sl l) (hB : B ≤ w.heap.size) (hT : TabsB w.heap.size w) :
    Calls Tryz.prog 3 #[sl, .string s] w fun e w' => e = .returned (.bool true) ∧ Below w.heap.size w w' := by
  have HT := Lib.hid hT
  clear hT
  have HS := Lib.hid (smalls_any l sl w B hR hB)
  have HR := Lib.hid hR
  obtain ⟨oa, cap, rfl, hlc, hm, -⟩ := hR.slice
  clear hR
  have hA0 : ∀ w1, Below w.heap.size w w1 → Calls Tryz.prog 5 #[] w1 fun e w' => e = .returned (.bool true) ∧ Below w1.heap.size w1 w' := fun w1 h => awake_any w1 (HT.out.up h h.size)
  have HA := Lib.hid hA0; clear hA0
  go_enter Tryz.func3, Tryz.ntmps3
  go_wp2_with fail
  refine HS.out.mono ?_
  rintro e w1 ⟨⟨z, rfl, hz⟩, hb1⟩
  cases z
  · clear hz
    go_wp2_with fail
    refine (HA.out _ hb1).mono ?_
    rintro e w2 ⟨rfl, hb2⟩
    go_wp2_with fail
    go_ret
    exact ⟨rfl, hb1.trans (hb2.mono hb1.size)⟩
  have h30 := hz rfl
  clear hz
  by_cases h3 : 1500 < (s.size : Int)
  · go_wp2_with fail
    refine (HA.out _ hb1).mono ?_
    rintro e w2 ⟨rfl, hb2⟩
    go_wp2_with fail
    go_ret
    exact ⟨rfl, hb1.trans (hb2.mono hb1.size)⟩
  have HR1 := Lib.hid (HR.out.later (hb1.mono hB))
  have hBw1 := Nat.le_trans hB hb1.size
  have HPA := Lib.hid (printAll_any l _ w1 B HR1.out hBw1 (HT.out.up hb1 hb1.size) (by omega))
  have HRA := Lib.hid (fun w' (hb : Below w1.heap.size w1 w') => rprintAll_any l _ w' B (HR1.out.later (hb.mono hBw1)) (Nat.le_trans hBw1 hb.size) (by omega : l.length ≤ 1000))
  obtain ⟨S3, z3, hSz⟩ : ∃ (S : ByteArray) (z : Int), S = str (printAllL l).1 ∧ z = (printAllL l).2 := ⟨_, _, rfl, rfl⟩
  have HPE : ∀ e, RetS (printAllL l) e ↔ e = .returned (.tuple #[.string S3, .int .i64 z3]) := fun e => by rw [hSz.1, hSz.2]; exact Iff.rfl
  simp only [HPE] at HPA HRA
  have hs6 : s.size ≤ 1000000 := by omega
  obtain ⟨pl, pn, pe, hp⟩ : ∃ pl pn pe, parseAllL s.data.toList = (pl, pn, pe) := ⟨_, _, _, rfl⟩
  have HPP : Hid (∀ w, Calls Tryz.prog 8 #[.string s] w fun e w' => (∃ oe ce, e = .returned (.tuple #[.slice oe pl.length ce, .int .i64 (pn : Int), .int .i64 pe]) ∧ RepS w' (Btw w.heap.size w'.heap.size) (.slice oe pl.length ce) pl) ∧ Below w.heap.size w w') := Lib.hid (fun w => by have h := parseAll_any s w hs6; rw [hp] at h; exact h)
  have HRP : Hid (∀ w, Calls Tryz.prog 9 #[.string s] w fun e w' => (∃ oe ce, e = .returned (.tuple #[.slice oe pl.length ce, .int .i64 (pn : Int), .int .i64 pe]) ∧ RepS w' (Btw w.heap.size w'.heap.size) (.slice oe pl.length ce) pl) ∧ Below w.heap.size w w') := Lib.hid (fun w => by have h := rparseAll_any s w hs6; rw [hp] at h; exact h)
  clear hSz HPE hp h30 hs6 HR HS HR1
  go_wp2_with fail
  refine HPA.out.mono ?_
  rintro e w2 ⟨rfl, hb2⟩
  have hB2 := hb1.trans (hb2.mono hb1.size)
  have HRA2 := Lib.hid (HRA.out w2 hb2)
  clear HPA HRA hb2
  go_wp2_with fail
  refine HRA2.out.mono ?_
  rintro e w3 ⟨rfl, hb3⟩
  have hB3 := hB2.trans (hb3.mono hB2.size)
  clear HRA2 hb3
  go_wp2_with fail
  refine (HPP.out _).mono ?_
  rintro e w4 ⟨⟨ox, cx, rfl, hRX⟩, hb4⟩
  have HRX := Lib.hid (hRX.rep (B := w4.heap.size) (fun b hb => hb.2))
  have hB4 := hB3.trans (hb4.mono hB3.size)
  clear HPP hRX hb4
  go_wp2_with fail
  refine (HRP.out _).mono ?_
  rintro e w5 ⟨⟨oy, cy, rfl, hRY⟩, hb5⟩
  have hs5 := hb5.size
  have HRY := Lib.hid (hRY.rep (B := w5.heap.size) (fun b hb => hb.2))
  have HRX5 := Lib.hid ((HRX.out.later hb5).mono hs5)
  have hB5 := hB4.trans (hb5.mono hB4.size)
  have HSA := Lib.hid (sames_any pl _ _ w5 w5.heap.size HRX5.out HRY.out (Nat.le_refl _))
  clear HRP hRY hb5 HRX hs5
  go_wp2_with fail
  refine HSA.out.mono ?_
  rintro e w6 ⟨rfl, hb6⟩
  have hB6 := hB5.trans (hb6.mono hB5.size)
  clear HSA hb6
  go_wp2_with fail
  refine (HA.out _ hB6).mono ?_
  rintro e w7 ⟨rfl, hb7⟩
  go_wp2_with fail
  go_ret
  exact ⟨rfl, hB6.trans (hb7.mono hB6.size)⟩
end

end Go.Proofs.YtmbmlcnipncgnaaGreatDoor
