/-
  awake: the chapter's examples come out as it says. Nothing is assumed but the tables of the shelf.
-/
import Derived.Test.YtmbmlcnipncgnaaGreatDoorLtLit
import Derived.Test.YtmbmlcnipncgnaaGreatDoorStNum
import Derived.Test.YtmbmlcnipncgnaaGreatDoorLtWrite
import Derived.Test.YtmbmlcnipncgnaaGreatDoorLtCheck2
import Derived.Test.YtmbmlcnipncgnaaGreatDoorLtParse
namespace Go.Proofs.YtmbmlcnipncgnaaGreatDoor

section
open Go.RowKit

theorem ex_a : parseL [48, 49] = (zeroV, 1, 8) := by rfl
theorem ex_b : parseL [49, 48, 48, 48, 48, 48, 49] = (zeroV, 6, 8) := by rfl
theorem ex_c : parseL [60, 123, 34, 97, 34, 125, 44, 32, 123, 34, 98, 34, 44, 32] = (zeroV, 12, 8) := by rfl
theorem ex_v : parseL [48, 120, 48, 102] = (.mk 4 15 ⟨#[]⟩ [], 0, 0) := by rfl
theorem ex_l : parseAllL [49, 44, 32, 34, 97, 34] = ([.mk 2 1 ⟨#[]⟩ [], .mk 3 0 ⟨#[97]⟩ []], 0, 0) := by rfl
theorem ex_d : parseAllL [49, 44] = ([], 2, 8) := by rfl
theorem ex_t : unquoteL [34, 92, 120, 48, 97, 92, 34, 34] = ([10, 34], 0, 0) := by rfl
theorem ex_q : quoteL [10, 34] = [34, 92, 120, 48, 97, 92, 34, 34] := by rfl
def exV : V := .mk 5 0 ⟨#[]⟩ [.mk 2 1 ⟨#[]⟩ [], .mk 2 (-2) ⟨#[]⟩ []]
theorem ex_chk : exV.chk = 0 := by
  unfold exV
  rw [V.chk_eq]
  decide +kernel
theorem itoa1 : Lib.itoa 1 = [49] := by
  unfold Lib.itoa
  rw [if_neg (by decide), show (1 : Int).toNat = 1 from rfl, dec_small (by decide)]
  rfl
theorem itoa2 : Lib.itoa (-2) = [45, 50] := by
  unfold Lib.itoa
  rw [if_pos (by decide), show (-2 : Int).natAbs = 2 from rfl, dec_small (by decide)]
  rfl
theorem ex_lit : exV.lit = [91, 49, 44, 32, 45, 50, 93] := by
  unfold exV
  rw [V.lit_eq]
  simp only [V.t, V.n, V.s, V.l, Int.reduceEq, if_false, if_true]
  rw [V.lits_cons, V.litT_cons, V.litT_nil, V.lit_eq, V.lit_eq]
  simp only [V.t, V.n, V.s, V.l, Int.reduceEq, if_false, if_true]
  rw [itoa1, itoa2]
  rfl
end

section
open Go.RowKit

/-- The first error of a list; 0 where there is none. -/
def firstErr : List V → Int
  | [] => 0
  | v :: l => if v.chk = 0 then firstErr l else v.chk
def printAllL (l : List V) : List UInt8 × Int := if firstErr l = 0 then (V.lits l, 0) else ([], firstErr l)
def printL (v : V) : List UInt8 × Int := if v.chk = 0 then (v.lit, 0) else ([], v.chk)
theorem firstErr_ok : ∀ l : List V, firstErr l = 0 → ∀ x, x ∈ l → x.chk = 0
  | [], _, x, hx => by cases hx
  | v :: l, h, x, hx => by
    rw [firstErr] at h
    by_cases hv : v.chk = 0
    · rw [if_pos hv] at h
      rcases List.mem_cons.1 hx with rfl | hx
      · exact hv
      · exact firstErr_ok l h x hx
    · rw [if_neg hv] at h
      exact absurd h hv
theorem printAll_one (v : V) : printAllL [v] = printL v := by
  unfold printAllL printL
  rw [firstErr, firstErr]
  by_cases h : v.chk = 0
  · rw [if_pos h, if_pos rfl, if_pos h, V.lits_cons, V.litT_nil, List.append_nil]
  · simp only [if_neg h]
theorem TabsB.up {B C : Nat} {w w' : World} (h : TabsB B w) (hb : Below B w w') (hBC : B ≤ C) : TabsB C w' := fun wr h1 => h wr (hb.trans (h1.mono hBC))
/-- What PrintAll and Print return. -/
def RetS (p : List UInt8 × Int) (e : Ending) : Prop := e = .returned (.tuple #[.string (str p.1), .int .i64 p.2])

set_option maxRecDepth 100000 in
set_option maxHeartbeats 3200000 in
theorem printAll_any (l : List V) (sl : Value) (w : World) (B : Nat) (hR : Rep w B sl l) (hBw : B ≤ w.heap.size) (hT : TabsB w.heap.size w) (hl : l.length ≤ 1000) :
    Calls Tryz.prog 6 #[sl] w fun e w' => RetS (printAllL l) e ∧ Below w.heap.size w w' := by
  have HR := Lib.hid hR
  have HT := Lib.hid hT
  obtain ⟨oa, cap, rfl, hlc, hm, hel⟩ := hR.slice
  clear hR hT
  go_enter Tryz.func6, Tryz.ntmps6
  go_wp2_with fail
  go_loopw [10] (fun i wr => ∃ k : Nat, k ≤ l.length ∧ i = .int .i64 k ∧ Hid (firstErr (l.drop k) = firstErr l) ∧ Below w.heap.size w wr) (fun i _ => l.length - (intOf i).toNat)
  case atStart => exact ⟨0, Nat.zero_le _, rfl, Lib.hid rfl, Below.refl _ _⟩
  case round =>
    obtain ⟨k, hk, rfl, HD, hbel⟩ := hrel
    have hs : w.heap.size ≤ wr.heap.size := hbel.size
    by_cases hlt : k < l.length
    · obtain ⟨b, off, oe, ce, rfl, hb, h0, h1, h2, h3, hr⟩ := hel k _ (List.getElem?_eq_getElem hlt)
      rw [← hbel.cell (p := ⟨b, _, none⟩) (Nat.lt_of_lt_of_le hb hBw)] at h0 h1 h2 h3
      have HS := Lib.hid (drop_v l k hlt)
      have HC := Lib.hid (check_any (l[k]) _ (wr.alloc (.cells #[.int .i64 (l[k]).t, .int .i64 (l[k]).n, .string (l[k]).s, .slice oe (l[k]).l.length ce] 34)) B (hr.later ((hbel.mono hBw).alloc (by omega) _)) (by simp; omega))
      clear hr
      by_cases hc : (l[k]).chk = 0
      · have fc := neq_f hc
        have HZ := Lib.hid hc
        clear hc
        go_wp2_with fail
        refine HC.out.mono ?_
        rintro e w1 ⟨rfl, hb1⟩
        have hb2 : Below w.heap.size w w1 := (hbel.alloc hs _).trans (hb1.mono (by simp; omega))
        clear HC hb1
        go_wp2_with fail
        go_roundw
        case rel => exact ⟨k + 1, hlt, by go_num, by
          have h := HD.out
          rw [HS.out, firstErr, if_pos HZ.out] at h
          exact h, hb2⟩
        case measure => simp [intOf]; omega
      · have fc := neq_t hc
        have HZ := Lib.hid hc
        clear hc
        go_wp2_with fail
        refine HC.out.mono ?_
        rintro e w1 ⟨rfl, hb1⟩
        have hb2 : Below w.heap.size w w1 := (hbel.alloc hs _).trans (hb1.mono (by simp; omega))
        clear HC hb1
        go_wp2_with fail
        go_ret2
        refine ⟨?_, hb2⟩
        have h := HD.out
        rw [HS.out, firstErr, if_neg HZ.out] at h
        unfold RetS printAllL
        rw [← h, if_neg HZ.out]
        rfl
    · obtain rfl : k = l.length := by omega
      have h0 : firstErr l = 0 := by rw [← HD.out, List.drop_of_length_le (Nat.le_refl _), firstErr]
      have hall := firstErr_ok l h0
      have hll := V.lits_len 40000 l fun x hx => lit_len (hall x hx)
      have HP : Hid (printAllL l = (V.lits l, 0)) := Lib.hid (by unfold printAllL; rw [if_pos h0])
      have hba := hbel.alloc hs (.cells #[.pointer none, .slice none 0 0] 45)
      have HW := Lib.hid (writeAll_any l (fun x _ => wvalue_any x) hall _ (wr.alloc (.cells #[.pointer none, .slice none 0 0] 45)) wr.heap.size [] ((HR.out.later (hba.mono hBw)).mono (by omega)) (HT.out.up hba hs) (isB_fresh wr) (by simp) (by
        have : l.length * (40000 + 2) ≤ 1000 * 40002 := Nat.mul_le_mul_right 40002 hl
        rw [List.length_nil]
        omega))
      clear HD h0 hall hll
      go_wp2_with fail
      refine HW.out.mono ?_
      rintro e w1 ⟨rfl, hB1, hb1⟩
      clear HW
      rw [List.nil_append] at hB1
      have hb2 := hba.trans (hb1.mono hs)
      have HX := Lib.hid (text_any wr.heap.size _ w1 hB1 (Nat.le_trans (by simp) hb1.size))
      clear hB1 hb1 hba
      go_wp2_with fail
      refine HX.out.mono ?_
      rintro e w2 ⟨rfl, hb3⟩
      have hb4 := hb2.trans (hb3.mono hs)
      go_wp2_with fail
      go_ret2
      refine ⟨?_, hb4⟩
      unfold RetS
      rw [HP.out]
      rfl

set_option maxRecDepth 100000 in
set_option maxHeartbeats 1600000 in
theorem print_v (v : V) (sl : Value) (w : World) (B : Nat) (hR : Rep w B sl v.l) (hBw : B ≤ w.heap.size) (hT : TabsB w.heap.size w) :
    Calls Tryz.prog 13 #[.agg #[.int .i64 v.t, .int .i64 v.n, .string v.s, sl]] w fun e w' => RetS (printL v) e ∧ Below w.heap.size w w' := by
  obtain ⟨oa, cap, rfl, hlc, hm, -⟩ := hR.slice
  have hb2 := below2 w (.cells #[.int .i64 v.t, .int .i64 v.n, .string v.s, .slice oa v.l.length cap] 34) (.cells #[.int .i64 v.t, .int .i64 v.n, .string v.s, .slice oa v.l.length cap] 34)
  have hb1 := below1 w (.cells #[.int .i64 v.t, .int .i64 v.n, .string v.s, .slice oa v.l.length cap] 34)
  have HW := Lib.hid (printAll_any [v] (.slice (some ⟨w.heap.size + 1, 0, none⟩) 1 1) ((w.alloc (.cells #[.int .i64 v.t, .int .i64 v.n, .string v.s, .slice oa v.l.length cap] 34)).alloc (.cells #[.int .i64 v.t, .int .i64 v.n, .string v.s, .slice oa v.l.length cap] 34)) (w.heap.size + 2)
    (Rep.new1 (hR.later (hb1.mono hBw)) (by simp; omega) (by simp) (by simp)) (by simp) (hT.up hb2 hb2.size) (by simp))
  rw [printAll_one] at HW
  clear hR hT hb1
  go_enter Tryz.func13, Tryz.ntmps13
  go_wp2_with fail
  refine HW.out.mono ?_
  rintro e w1 ⟨h1, hb3⟩
  unfold RetS at h1
  subst h1
  go_wp2_with fail
  go_ret2
  exact ⟨rfl, hb2.trans (hb3.mono hb2.size)⟩
end

section
open Go.RowKit

theorem parse_fault (s : ByteArray) (i : Nat) (w : World) (hs : s.size ≤ 1000000) (h : parseL s.data.toList = (zeroV, i, 8)) :
    Calls Tryz.prog 12 #[.string s] w fun e w' => (∃ oe ce, e = .returned (.tuple #[.agg #[.int .i64 0, .int .i64 0, .string ⟨#[]⟩, .slice oe 0 ce], .int .i64 (i : Int), .int .i64 8])) ∧ Below w.heap.size w w' := by
  refine (parse_any s w hs).mono ?_
  rintro e w' ⟨h1, hb⟩
  rw [h] at h1
  obtain ⟨oe, ce, rfl, -⟩ := h1
  exact ⟨⟨oe, ce, rfl⟩, hb⟩
theorem parse_a (w : World) : Calls Tryz.prog 12 #[.string ⟨#[48, 49]⟩] w fun e w' => (∃ oe ce, e = .returned (.tuple #[.agg #[.int .i64 0, .int .i64 0, .string ⟨#[]⟩, .slice oe 0 ce], .int .i64 1, .int .i64 8])) ∧ Below w.heap.size w w' := parse_fault ⟨#[48, 49]⟩ 1 w (by decide) ex_a
theorem parse_b (w : World) : Calls Tryz.prog 12 #[.string ⟨#[49, 48, 48, 48, 48, 48, 49]⟩] w fun e w' => (∃ oe ce, e = .returned (.tuple #[.agg #[.int .i64 0, .int .i64 0, .string ⟨#[]⟩, .slice oe 0 ce], .int .i64 6, .int .i64 8])) ∧ Below w.heap.size w w' := parse_fault ⟨#[49, 48, 48, 48, 48, 48, 49]⟩ 6 w (by decide) ex_b
theorem parse_c (w : World) : Calls Tryz.prog 12 #[.string ⟨#[60, 123, 34, 97, 34, 125, 44, 32, 123, 34, 98, 34, 44, 32]⟩] w fun e w' => (∃ oe ce, e = .returned (.tuple #[.agg #[.int .i64 0, .int .i64 0, .string ⟨#[]⟩, .slice oe 0 ce], .int .i64 12, .int .i64 8])) ∧ Below w.heap.size w w' := parse_fault ⟨#[60, 123, 34, 97, 34, 125, 44, 32, 123, 34, 98, 34, 44, 32]⟩ 12 w (by decide) ex_c
theorem parse_v (w : World) :
    Calls Tryz.prog 12 #[.string ⟨#[48, 120, 48, 102]⟩] w fun e w' => (∃ oe ce, e = .returned (.tuple #[.agg #[.int .i64 4, .int .i64 15, .string ⟨#[]⟩, .slice oe 0 ce], .int .i64 0, .int .i64 0])) ∧ Below w.heap.size w w' := by
  refine (parse_any ⟨#[48, 120, 48, 102]⟩ w (by decide)).mono ?_
  rintro e w' ⟨h1, hb⟩
  rw [show parseL (⟨#[48, 120, 48, 102]⟩ : ByteArray).data.toList = _ from ex_v] at h1
  obtain ⟨oe, ce, rfl, -⟩ := h1
  exact ⟨⟨oe, ce, rfl⟩, hb⟩
theorem parse_d (w : World) :
    Calls Tryz.prog 8 #[.string ⟨#[49, 44]⟩] w fun e w' => (∃ oe ce, e = .returned (.tuple #[.slice oe 0 ce, .int .i64 2, .int .i64 8])) ∧ Below w.heap.size w w' := by
  refine (parseAll_any ⟨#[49, 44]⟩ w (by decide)).mono ?_
  rintro e w' ⟨h1, hb⟩
  rw [show parseAllL (⟨#[49, 44]⟩ : ByteArray).data.toList = _ from ex_d] at h1
  obtain ⟨oe, ce, rfl, -⟩ := h1
  exact ⟨⟨oe, ce, rfl⟩, hb⟩
theorem parse_l (w : World) :
    Calls Tryz.prog 8 #[.string ⟨#[49, 44, 32, 34, 97, 34]⟩] w fun e w' => (∃ b off ce, e = .returned (.tuple #[.slice (some ⟨b, off, none⟩) 2 ce, .int .i64 0, .int .i64 0]) ∧ w'.cell? ⟨b, off + 1 * 4 + 2, none⟩ = some (.string ⟨#[97]⟩)) ∧ Below w.heap.size w w' := by
  refine (parseAll_any ⟨#[49, 44, 32, 34, 97, 34]⟩ w (by decide)).mono ?_
  rintro e w' ⟨h1, hb⟩
  rw [show parseAllL (⟨#[49, 44, 32, 34, 97, 34]⟩ : ByteArray).data.toList = _ from ex_l] at h1
  obtain ⟨oe, ce, rfl, hR⟩ := h1
  obtain ⟨oa, cap, he, -, -, hel⟩ := (hR.rep (B := w'.heap.size) (fun b hb => hb.2)).slice
  obtain ⟨b, off, oe', ce', rfl, -, -, -, h2, -⟩ := hel 1 _ rfl
  injection he with e1 e2 e3
  subst e1
  exact ⟨⟨b, off, ce, rfl, h2⟩, hb⟩
theorem unquote_t (w : World) :
    Calls Tryz.prog 14 #[.string ⟨#[34, 92, 120, 48, 97, 92, 34, 34]⟩] w fun e w' => e = .returned (.tuple #[.string ⟨#[10, 34]⟩, .int .i64 0, .int .i64 0]) ∧ Below w.heap.size w w' := by
  refine (unquote_any ⟨#[34, 92, 120, 48, 97, 92, 34, 34]⟩ w (by decide)).mono ?_
  rintro e w' ⟨h1, hb⟩
  rw [show unquoteL (⟨#[34, 92, 120, 48, 97, 92, 34, 34]⟩ : ByteArray).data.toList = _ from ex_t] at h1
  exact ⟨h1, hb⟩
theorem quote_q (w : World) (hT : TabsB w.heap.size w) :
    Calls Tryz.prog 15 #[.string ⟨#[10, 34]⟩] w fun e w' => e = .returned (.string ⟨#[34, 92, 120, 48, 97, 92, 34, 34]⟩) ∧ Below w.heap.size w w' := by
  have := quote_any ⟨#[10, 34]⟩ w (by decide) (fun wr hb => (hT wr hb).1)
  rw [show quoteL (⟨#[10, 34]⟩ : ByteArray).data.toList = _ from ex_q] at this
  exact this
theorem print_e (w : World) (hT : TabsB w.heap.size w) (t n : Nat) (hn : w.heap.size = n) :
    Calls Tryz.prog 13 #[.agg #[.int .i64 5, .int .i64 0, .string ⟨#[]⟩, .slice (some ⟨n, 0, none⟩) 2 2]] (w.alloc (.cells #[.int .i64 2, .int .i64 1, .string ⟨#[]⟩, .slice none 0 0, .int .i64 2, .int .i64 (-2), .string ⟨#[]⟩, .slice none 0 0] t)) fun e w' => e = .returned (.tuple #[.string ⟨#[91, 49, 44, 32, 45, 50, 93]⟩, .int .i64 0]) ∧ Below w.heap.size w w' := by
  subst hn
  have hb1 := below1 w (.cells #[.int .i64 2, .int .i64 1, .string ⟨#[]⟩, .slice none 0 0, .int .i64 2, .int .i64 (-2), .string ⟨#[]⟩, .slice none 0 0] t)
  have hR : Rep (w.alloc (.cells #[.int .i64 2, .int .i64 1, .string ⟨#[]⟩, .slice none 0 0, .int .i64 2, .int .i64 (-2), .string ⟨#[]⟩, .slice none 0 0] t)) (w.heap.size + 1) (.slice (some ⟨w.heap.size, 0, none⟩) exV.l.length 2) exV.l := by
    refine .arr w.heap.size 0 2 exV.l (fun _ => .slice none 0 0) (by omega) (by decide) (by decide) (fun i v hv => ?_) (fun i v hv => ?_)
    · match i, hv with
      | 0, hv => cases hv; exact ⟨cell_at _ _ _ _ _ rfl, cell_at _ _ _ _ _ rfl, cell_at _ _ _ _ _ rfl, cell_at _ _ _ _ _ rfl⟩
      | 1, hv => cases hv; exact ⟨cell_at _ _ _ _ _ rfl, cell_at _ _ _ _ _ rfl, cell_at _ _ _ _ _ rfl, cell_at _ _ _ _ _ rfl⟩
      | i + 2, hv => cases hv
    · match i, hv with
      | 0, hv => cases hv; exact Rep.nil
      | 1, hv => cases hv; exact Rep.nil
      | i + 2, hv => cases hv
  refine (print_v exV (.slice (some ⟨w.heap.size, 0, none⟩) 2 2) _ _ hR (by simp) (hT.up hb1 hb1.size)).mono ?_
  rintro e w' ⟨h1, hb⟩
  have hp : printL exV = ([91, 49, 44, 32, 45, 50, 93], 0) := by
    unfold printL
    rw [if_pos ex_chk, ex_lit]
  rw [hp] at h1
  exact ⟨h1, hb1.trans (hb.mono hb1.size)⟩

set_option maxRecDepth 100000 in
set_option maxHeartbeats 3200000 in
theorem awake_any (w : World) (hT : TabsB w.heap.size w) : Calls Tryz.prog 5 #[] w fun e w' => e = .returned (.bool true) ∧ Below w.heap.size w w' := by
  have HT := Lib.hid hT
  clear hT
  go_enter Tryz.func5, Tryz.ntmps5
  go_wp2_with fail
  refine (parse_a _).mono ?_
  rintro e w1 ⟨⟨oa, ca, rfl⟩, hb⟩
  go_wp2_with fail
  refine (parse_b _).mono ?_
  rintro e w2 ⟨⟨ob, cb, rfl⟩, hb1⟩
  replace hb := (hb.alloc hb.size _).trans (hb1.mono (by simp; have := hb.size; omega)); clear hb1
  go_wp2_with fail
  refine (parse_c _).mono ?_
  rintro e w3 ⟨⟨oc, cc, rfl⟩, hb1⟩
  replace hb := (hb.alloc hb.size _).trans (hb1.mono (by simp; have := hb.size; omega)); clear hb1
  go_wp2_with fail
  refine (parse_v _).mono ?_
  rintro e w4 ⟨⟨ov, cv, rfl⟩, hb1⟩
  replace hb := (hb.alloc hb.size _).trans (hb1.mono (by simp; have := hb.size; omega)); clear hb1
  go_wp2_with fail
  have hsz : w.heap.size ≤ (w4.alloc (.cells #[.int .i64 4, .int .i64 15, .string ⟨#[]⟩, .slice ov 0 cv] 34)).heap.size := by simp; have := hb.size; omega
  have hb4 := hb.alloc hb.size (.cells #[.int .i64 4, .int .i64 15, .string ⟨#[]⟩, .slice ov 0 cv] 34)
  have HE := Lib.hid (print_e _ (HT.out.up hb4 hsz) 34 (w4.heap.size + 1) (by simp))
  clear hb
  refine HE.out.mono ?_
  rintro e w5 ⟨rfl, hb5⟩
  clear HE
  have hv := (Below.refl (w4.heap.size + 1) (w4.alloc (.cells #[.int .i64 4, .int .i64 15, .string ⟨#[]⟩, .slice ov 0 cv] 34))).trans (hb5.mono (by simp))
  have hb := hb4.trans (hb5.mono hsz)
  clear hb4 hb5 hsz
  have h5 : w4.heap.size + 1 ≤ w5.heap.size := by have := hv.size; simp at this; omega
  go_wp2_with fail
  refine (parse_l _).mono ?_
  rintro e w6 ⟨⟨bl, ol, cl, rfl, hl⟩, hb1⟩
  replace hb := hb.trans (hb1.mono hb.size)
  replace hv := hv.trans (hb1.mono h5)
  have h6 := Nat.le_trans h5 hb1.size
  clear hb1 h5
  go_wp2_with fail
  refine (parse_d _).mono ?_
  rintro e w7 ⟨⟨od, cd, rfl⟩, hb1⟩
  replace hl := (hb1.cell (World.block_lt_of_cell? _ _ hl)).trans hl
  replace hb := hb.trans (hb1.mono hb.size)
  replace hv := hv.trans (hb1.mono h6)
  have h7 := Nat.le_trans h6 hb1.size
  clear hb1 h6
  go_wp2_with fail
  refine (unquote_t _).mono ?_
  rintro e w8 ⟨rfl, hb1⟩
  replace hl := (hb1.cell (World.block_lt_of_cell? _ _ hl)).trans hl
  replace hb := hb.trans (hb1.mono hb.size)
  replace hv := hv.trans (hb1.mono h7)
  clear hb1 h7
  obtain ⟨c0, c1, -, -⟩ := box_later hv
  have hl2 : w8.cell? ⟨bl, ol + 6, none⟩ = some (.string ⟨#[97]⟩) := hl
  have hl3 : w8.cell? ⟨bl, ol + 4 + 2, none⟩ = some (.string ⟨#[97]⟩) := hl
  have HQ := Lib.hid (quote_q w8 (HT.out.up hb hb.size))
  clear hl hv
  go_wp2_with fail
  refine HQ.out.mono ?_
  rintro e w9 ⟨rfl, hb1⟩
  go_wp2_with fail
  go_ret
  exact ⟨rfl, hb.trans (hb1.mono hb.size)⟩
end

end Go.Proofs.YtmbmlcnipncgnaaGreatDoor
