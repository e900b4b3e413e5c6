/-
  Check of package domain. Nothing is assumed.
-/
import Derived.Test.YthnlkijkgnmbhaaDoorDmSort
import Derived.Test.YthnlkijkgnmbhaaDoorDmClone
import Derived.Test.YthnlkijkgnmbhaaDoorCheck2
import Derived.Test.YthnlkijkgnmbhaaDoorLaw0B
import Derived.Lib.QuietBelow
import Derived.Deep.QuietTactic
namespace Go.Proofs.YthnlkijkgnmbhaaDoor
open Go.RowKit
open Go.Sort (grow)

/-! ### What Check computes -/

/-- The values before the first one that does not fit, and its error. -/
def fitN (t : Int) : List V → Nat
  | [] => 0
  | v :: a => if v.chk ≠ 0 then 0 else if v.t ≠ t then 0 else fitN t a + 1
def fitE (t : Int) : List V → Int
  | [] => 0
  | v :: a => if v.chk ≠ 0 then v.chk else if v.t ≠ t then 3 else fitE t a
/-- Does a value of the list occur before? -/
def dupV : List V → Bool
  | [] => false
  | v :: a => (a.any fun x => v.eqb x) || dupV a
def axE (t : Int) (a : List V) : Int := if dupV (a.take (fitN t a)) = true then 6 else fitE t a
def axsE : List Int → List (List V) → Int
  | t :: ts, a :: l => if axE t a ≠ 0 then axE t a else axsE ts l
  | _, _ => 0
def chkD (l : List (List V)) (ts : List Int) : Int := if l.length ≠ ts.length then 2 else if axsE ts l ≠ 0 then axsE ts l else if largeD l = true then 11 else 0

theorem fitN_le (t : Int) : ∀ a : List V, fitN t a ≤ a.length
  | [] => Nat.le_refl _
  | v :: a => by
    have := fitN_le t a
    rw [fitN]
    split
    · exact Nat.zero_le _
    · split
      · exact Nat.zero_le _
      · simp; omega
theorem fitN_chk {t : Int} {v : V} {a : List V} (h : v.chk ≠ 0) : fitN t (v :: a) = 0 ∧ fitE t (v :: a) = v.chk := ⟨if_pos h, if_pos h⟩
theorem fitN_ty {t : Int} {v : V} {a : List V} (h : v.chk = 0) (h1 : v.t ≠ t) : fitN t (v :: a) = 0 ∧ fitE t (v :: a) = 3 := by
  rw [fitN, fitE, if_neg (fun e => e h), if_pos h1, if_neg (fun e => e h), if_pos h1]
  exact ⟨rfl, rfl⟩
theorem fitN_ok {t : Int} {v : V} {a : List V} (h : v.chk = 0) (h1 : v.t = t) : fitN t (v :: a) = fitN t a + 1 ∧ fitE t (v :: a) = fitE t a := by
  rw [fitN, fitE, if_neg (fun e => e h), if_neg (fun e => e h1), if_neg (fun e => e h), if_neg (fun e => e h1)]
  exact ⟨rfl, rfl⟩

/-- Neighbours that are equal. -/
def adjV : List V → Bool
  | a :: b :: l => if a.eqb b = true then true else adjV (b :: l)
  | _ => false
theorem eqb_symm (a b : V) : a.eqb b = b.eqb a := by
  unfold V.eqb
  rw [V.anti b a]
  by_cases h : b.cmp a = 0
  · rw [h]; rfl
  · rw [beq_eq_false_iff_ne.2 h, beq_eq_false_iff_ne.2 (by omega)]
theorem eqb_iff (a b : V) : a.eqb b = true ↔ a.cmp b = 0 := by unfold V.eqb; exact beq_iff_eq
theorem dupV_iff (l : List V) : dupV l = true ↔ ¬ l.Pairwise (fun a b => a.eqb b = false) := by
  induction l with
  | nil => simp [dupV]
  | cons v a ih =>
    rw [dupV, Bool.or_eq_true, ih, List.pairwise_cons, List.any_eq_true]
    constructor
    · rintro (⟨x, hx, he⟩ | h) ⟨h1, h2⟩
      · rw [h1 x hx] at he; cases he
      · exact h h2
    · intro h
      by_cases h2 : a.Pairwise (fun a b => a.eqb b = false)
      · left
        by_cases h3 : ∃ x, x ∈ a ∧ v.eqb x = true
        · exact h3
        · exact absurd ⟨fun x hx => by
            cases e : v.eqb x with
            | false => rfl
            | true => exact absurd ⟨x, hx, e⟩ h3, h2⟩ h
      · exact .inr h2
theorem dupV_perm {l m : List V} (h : l.Perm m) : dupV l = dupV m := by
  have key : l.Pairwise (fun a b => a.eqb b = false) ↔ m.Pairwise (fun a b => a.eqb b = false) := h.pairwise_iff (fun hab => by rw [eqb_symm]; exact hab)
  cases hl : dupV l <;> cases hm : dupV m
  · rfl
  · exact absurd ((dupV_iff m).1 hm) (fun hn => hn (key.1 (Classical.byContradiction fun hc => by rw [(dupV_iff l).2 hc] at hl; cases hl)))
  · exact absurd ((dupV_iff l).1 hl) (fun hn => hn (key.2 (Classical.byContradiction fun hc => by rw [(dupV_iff m).2 hc] at hm; cases hm)))
  · rfl
theorem adj_sorted : ∀ {l : List V}, l.Pairwise (fun a b => a.cmp b ≤ 0) → adjV l = dupV l := by
  intro l
  induction l with
  | nil => intro _; rfl
  | cons a l ih =>
    intro h
    cases l with
    | nil => rfl
    | cons b l =>
      rw [List.pairwise_cons] at h
      obtain ⟨h1, h2⟩ := h
      rw [adjV, ih h2, show dupV (a :: b :: l) = (((b :: l).any fun x => a.eqb x) || dupV (b :: l)) from rfl]
      by_cases hab : a.eqb b = true
      · rw [if_pos hab]
        simp [hab]
      · rw [if_neg hab]
        have hno : ((b :: l).any fun x => a.eqb x) = false := by
          rw [List.any_eq_false]
          intro x hx hax
          rw [eqb_iff] at hax
          rcases List.mem_cons.1 hx with rfl | hx
          · exact hab ((eqb_iff _ _).2 hax)
          · have hbx := (List.pairwise_cons.1 h2).1 x hx
            have hab2 := h1 b (by simp)
            obtain ⟨r1, r2, r3, q1, q2, q3, q4⟩ := V.Q3 a b x
            unfold R3 at r1 r2 r3
            have hne : a.cmp b ≠ 0 := fun e => hab ((eqb_iff _ _).2 e)
            by_cases e2 : b.cmp x = 0
            · have := q2 e2; omega
            · have := q3 (by omega) (by omega)
              omega
        rw [hno]
        rfl

/-! ### The walks -/

set_option maxRecDepth 100000 in
set_option maxHeartbeats 1600000 in
theorem countFitting_any (a : List V) (t : Int) (x : Value) (w : World) (B : Nat) (hx : Rep w B x a) (hB : B ≤ w.heap.size) :
    Calls Tryd.prog 55 #[x, .int .i64 t] w fun e w' => e = .returned (.tuple #[.int .i64 (fitN t a : Nat), .int .i64 (fitE t a)]) ∧ Below w.heap.size w w' := by
  obtain ⟨oa, ca, rfl, _, hlm, hel⟩ := hx.slice
  have HEL := Lib.hid hel
  clear hx hel
  go_enter Tryd.func55, Tryd.ntmps55
  go_wp2_with fail
  go_loopw [11] (fun i wr => ∃ k : Nat, k ≤ a.length ∧ i = .int .i64 k ∧ Hid (k + fitN t (a.drop k) = fitN t a ∧ fitE t (a.drop k) = fitE t a) ∧ Below w.heap.size w wr) (fun i _ => a.length - (intOf i).toNat)
  case atStart => exact ⟨0, Nat.zero_le _, rfl, Lib.hid ⟨Nat.zero_add _, rfl⟩, Below.refl _ _⟩
  case round =>
    obtain ⟨k, hk, rfl, HD, hbel⟩ := hrel
    by_cases hlt : k < a.length
    · have HS := Lib.hid (drop_l a k hlt)
      obtain ⟨b, off, oe, ce, rfl, hb, c0, c1, c2, c3, hr⟩ := HEL.out k _ (List.getElem?_eq_getElem hlt)
      have hbw : b < w.heap.size := Nat.lt_of_lt_of_le hb hB
      rw [← hbel.cell (p := ⟨b, _, none⟩) hbw] at c0 c1 c2 c3
      have hki : (k : Int) < (a.length : Int) := by omega
      have hki0 : (0 : Int) ≤ (k : Int) := by omega
      obtain ⟨v, hvk⟩ : ∃ v, a[k] = v := ⟨_, rfl⟩
      rw [hvk] at c0 c1 c2 c3 hr HS
      have hsr := hbel.size
      have hal : Below w.heap.size w (wr.alloc (.cells #[.int .i64 v.t, .int .i64 v.n, .string v.s, .slice oe v.l.length ce] 48)) := hbel.trans ((below1 wr _).mono hsr)
      have HC := Lib.hid (check_any v (.slice oe v.l.length ce) (wr.alloc (.cells #[.int .i64 v.t, .int .i64 v.n, .string v.s, .slice oe v.l.length ce] 48)) B (hr.later (hal.mono hB)) (by simp; omega))
      have HBX := Lib.hid (Box.new (w := wr) v (.slice oe v.l.length ce) 48 rfl)
      clear hr hvk hal
      go_wp2_with fail
      refine HC.out.mono ?_
      rintro e w4 ⟨rfl, hb4⟩
      have HB4 := Lib.hid (hbel.trans (((below1 wr _).trans (hb4.mono (by simp))).mono hsr))
      obtain ⟨x0, x1, x2, x3⟩ := HBX.out.later (hb4.mono (by simp : wr.heap.size + 1 ≤ _)) (Nat.lt_succ_self _)
      clear hb4 c0 c1 c2 c3
      by_cases hc : v.chk = 0
      · have fc := neqf hc
        by_cases ht : v.t = t
        · have ft := neqf ht
          have HO := Lib.hid (fitN_ok (a := a.drop (k + 1)) hc ht)
          clear hc ht
          go_wp2_with fail
          go_roundw
          case rel => exact ⟨k + 1, hlt, by go_num, Lib.hid (by
            have h1 := HD.out.1
            have h2 := HD.out.2
            rw [HS.out, HO.out.1] at h1
            rw [HS.out, HO.out.2] at h2
            exact ⟨by omega, h2⟩), HB4.out⟩
          case measure => simp [intOf]; omega
        · have ft := neqt ht
          have HO := Lib.hid (fitN_ty (a := a.drop (k + 1)) hc ht)
          clear hc ht
          go_wp2_with fail
          go_ret2
          have h1 := HD.out.1
          have h2 := HD.out.2
          rw [HS.out, HO.out.1] at h1
          rw [HS.out, HO.out.2] at h2
          exact ⟨ret_two (by omega) h2, HB4.out⟩
      · have fc := neqt hc
        have HO := Lib.hid (fitN_chk (t := t) (a := a.drop (k + 1)) hc)
        clear hc
        go_wp2_with fail
        go_ret2
        have h1 := HD.out.1
        have h2 := HD.out.2
        rw [HS.out, HO.out.1] at h1
        rw [HS.out, HO.out.2] at h2
        exact ⟨ret_two (by omega) h2, HB4.out⟩
    · go_wp2_with fail
      go_ret2
      have h1 := HD.out.1
      have h2 := HD.out.2
      rw [List.drop_of_length_le (by omega), fitN] at h1
      rw [List.drop_of_length_le (by omega), fitE] at h2
      exact ⟨ret_two (by omega) h2, hbel⟩

/-- A row whose cells are told place by place. -/
def RowC (w : World) (n₀ g : Nat) (l : List V) : Prop := ∀ i u, l[i]? = some u → ∃ s, w.cell? ⟨g, i * 4, none⟩ = some (.int .i64 u.t) ∧ w.cell? ⟨g, i * 4 + 1, none⟩ = some (.int .i64 u.n) ∧ w.cell? ⟨g, i * 4 + 2, none⟩ = some (.string u.s) ∧
        w.cell? ⟨g, i * 4 + 3, none⟩ = some s ∧ Rep w n₀ s u.l
theorem RowC.later {w w' : World} {n₀ g : Nat} {l : List V} (h : RowC w n₀ g l) (hb : Below w.heap.size w w') (hn : n₀ ≤ w.heap.size) : RowC w' n₀ g l := fun i u hu => by
  obtain ⟨s, c0, c1, c2, c3, hr⟩ := h i u hu
  have lt : ∀ {a : Addr} {v : Value}, w.cell? a = some v → w'.cell? a = some v := fun h => (hb.cell (block_lt_of_cell h)).trans h
  exact ⟨s, lt c0, lt c1, lt c2, lt c3, hr.later (hb.mono hn)⟩

theorem adj_drop {l : List V} {k : Nat} (h : k + 1 < l.length) : adjV (l.drop k) = if l[k].eqb l[k + 1] = true then true else adjV (l.drop (k + 1)) := by
  rw [List.drop_eq_getElem_cons (by omega), List.drop_eq_getElem_cons h, adjV]

set_option maxRecDepth 100000 in
set_option maxHeartbeats 1600000 in
theorem hasRep_any (a : List V) (x : Value) (w : World) (B : Nat) (hx : Rep w B x a) (hB : B ≤ w.heap.size) (hl : a.length ≤ 1000) :
    Calls Tryd.prog 56 #[x] w fun e w' => e = .returned (.bool (dupV a)) ∧ Below w.heap.size w w' := by
  have HC := Lib.hid (sclone_any a x w B hx hl)
  have HL := Lib.hid hl
  obtain ⟨oa, ca, rfl, _, hlm, _⟩ := hx.slice
  clear hx hl
  go_enter Tryd.func56, Tryd.ntmps56
  go_wp2_with fail
  refine HC.out.mono ?_
  rintro e w1 ⟨⟨oa2, c2, rfl, hc2, hcase⟩, hb1⟩
  have HB1 := Lib.hid hb1
  have hs1 := hb1.size
  -- the sorted copy, of a list with elements and of the empty one alike
  have hsort : Calls Tryd.prog 76 #[.slice oa2 a.length c2, .func (.func 77) #[] #[]] w1 fun e w' => e = .returned (.tuple #[]) ∧
      (∃ (g : Nat) (l' : List V), (oa2 = some ⟨g, 0, none⟩ ∨ a = []) ∧ l'.length = a.length ∧ dupV l' = dupV a ∧ l'.Pairwise (fun a b => a.cmp b ≤ 0) ∧ RowC w' w.heap.size g l') ∧ Below w.heap.size w1 w' := by
    rcases hcase with rfl | ⟨g, sl, rfl, hg, hrow, hrp⟩
    · refine (sortFunc_nil oa2 c2 w1).mono ?_
      rintro e w' ⟨rfl, rfl⟩
      exact ⟨rfl, ⟨0, [], .inr rfl, rfl, rfl, List.Pairwise.nil, fun i u h => by simp at h⟩, Below.refl _ _⟩
    · by_cases hz : a.length = 0
      · obtain rfl := List.eq_nil_of_length_eq_zero hz
        refine (sortFunc_nil _ c2 w1).mono ?_
        rintro e w' ⟨rfl, rfl⟩
        exact ⟨rfl, ⟨0, [], .inr rfl, rfl, rfl, List.Pairwise.nil, fun i u h => by simp at h⟩, Below.refl _ _⟩
      · refine (sortFunc_any (W0 := w) (n₀ := w.heap.size) a _ (by omega) HL.out w1 g c2 hrow (fun i v hv => ⟨sl i, by simp only [hv]; rfl, (hrp i v hv).mono hB⟩) hg hb1 hs1).mono ?_
        rintro e w' ⟨rfl, ⟨l', hp, hs, hlen, hcells⟩, hb⟩
        exact ⟨rfl, ⟨g, l', .inl rfl, hlen, dupV_perm hp, hs, hcells⟩, hb⟩
  have HSO := Lib.hid hsort
  clear hsort hcase hb1
  go_wp2_with fail
  refine HSO.out.mono ?_
  rintro e w2 ⟨rfl, ⟨g, l', hoa, hlen, hdup, hpw, hcells⟩, hb2⟩
  have HOA := Lib.hid hoa
  have HLEN := Lib.hid hlen
  have HADJ := Lib.hid (show adjV l' = dupV a by rw [adj_sorted hpw, hdup])
  have HCE := Lib.hid hcells
  have HB2 := Lib.hid (HB1.out.trans hb2)
  have hs2 := HB2.out.size
  clear hoa hlen hdup hpw hcells hb2
  go_wp2_with fail
  go_loopw [4] (fun i wr => ∃ k : Nat, i = .int .i64 ((k + 1 : Nat) : Int) ∧ Hid (k + 1 ≤ a.length ∨ a.length = 0) ∧ Hid (adjV (l'.drop k) = dupV a) ∧ Below w2.heap.size w2 wr) (fun i _ => a.length - (intOf i).toNat)
  case atStart => exact ⟨0, rfl, Lib.hid (by omega), Lib.hid HADJ.out, Below.refl _ _⟩
  case round =>
    obtain ⟨k, rfl, HK, HD, hbel⟩ := hrel
    have HBW := Lib.hid (HB2.out.trans (hbel.mono hs2))
    obtain ⟨j, hj⟩ : ∃ j, k + 1 = j := ⟨_, rfl⟩
    rw [hj]
    by_cases hlt : j < a.length
    · have hlt' : k + 1 < l'.length := by rw [HLEN.out]; omega
      have HS := Lib.hid (adj_drop hlt')
      obtain ⟨g2, rfl⟩ : ∃ g2, oa2 = some ⟨g2, 0, none⟩ := by
        rcases HOA.out with h | h
        · exact ⟨_, h⟩
        · rw [h] at hlt; simp at hlt
      have hgg : g2 = g := by
        rcases HOA.out with h | h
        · cases h; rfl
        · rw [h] at hlt; simp at hlt
      subst hgg
      have hcw := HCE.out.later hbel hs2
      obtain ⟨s1, c0, c1, c2', c3, hr1⟩ := hcw k _ (List.getElem?_eq_getElem (by omega))
      obtain ⟨s2, e0, e1, e2, e3, hr2⟩ := hcw (k + 1) _ (List.getElem?_eq_getElem hlt')
      obtain ⟨u, hu⟩ : ∃ u, l'[k] = u := ⟨_, rfl⟩
      obtain ⟨v, hv⟩ : ∃ v, l'[k + 1] = v := ⟨_, rfl⟩
      rw [hu] at c0 c1 c2' hr1 HS
      rw [hv] at e0 e1 e2 hr2 HS
      rw [hj] at e0 e1 e2 e3
      obtain ⟨o1, k1, rfl, _, _, _⟩ := hr1.slice
      obtain ⟨o2, k2, rfl, _, _, _⟩ := hr2.slice
      have hsr := HBW.out.size
      have hki : (j : Int) < (a.length : Int) := by omega
      have hki2 : (k : Int) < (a.length : Int) := by omega
      have hki0 : (0 : Int) ≤ (k : Int) := by omega
      have hki1 : (0 : Int) ≤ (j : Int) := by omega
      have hsub : (j : Int) - 1 = (k : Int) := by omega
      have hsubw : IntKind.i64.wrap (k : Int) = (k : Int) := IntWalk.i64_in _ (by omega)
      have p0 := fun d os => cell_regrown c0 d os
      have p1 := fun d os => cell_regrown c1 d os
      have p2 := fun d os => cell_regrown c2' d os
      have p3 := fun d os => cell_regrown c3 d os
      have q0 := fun d os => cell_regrown e0 d os
      have q1 := fun d os => cell_regrown e1 d os
      have q2 := fun d os => cell_regrown e2 d os
      have q3 := fun d os => cell_regrown e3 d os
      have re := fun d os => Calls.regrown_of (equal_any u v (.slice o1 u.l.length k1) (.slice o2 v.l.length k2) (grow (redrawn wr d) os) w.heap.size (hr1.later ((below_regrown wr d os).mono hsr)) (hr2.later ((below_regrown wr d os).mono hsr)) (Nat.le_trans hsr (below_regrown wr d os).size))
      obtain ⟨z, hz⟩ : ∃ z, u.eqb v = z := ⟨_, rfl⟩
      have HZ := Lib.hid hz
      rw [hz] at re
      have H2 := Lib.hid (Nat.le_trans hs2 hbel.size)
      have HJ := Lib.hid hj
      clear hcw hr1 hr2 c0 c1 c2' c3 e0 e1 e2 e3 hu hv hz hlt' hj
      go_wp2_with fail
      refine wp_region_quiet_below (by kernel_rfl) (by kernel_rfl) ?_
      repeat (quiet_step (first | with_reducible exact re _ _))
      refine wpQuiet_nil ?_
      intro w' hw'
      obtain ⟨p, rfl⟩ := hw'
      have HBP := Lib.hid (hbel.trans ((below_regrown wr p.d p.os).mono hbel.size))
      clear q0 q1 q2 q3 p0 p1 p2 p3 re hsub hsubw
      cases z
      · go_wp2_with fail
        go_roundw
        case rel => exact ⟨k + 1, by have := HJ.out; go_num, Lib.hid (.inl (by have := HJ.out; omega)), Lib.hid (by rw [← HD.out, HS.out, HZ.out]; rfl), HBP.out⟩
        case measure => simp [intOf]; omega
      · go_wp2_with fail
        go_ret
        exact ⟨ret_bool (by rw [← HD.out, HS.out, HZ.out]; rfl), HB2.out.trans (HBP.out.mono hs2)⟩
    · have HJ := Lib.hid hj
      clear hj
      go_wp2_with fail
      go_ret
      refine ⟨ret_bool ?_, HBW.out⟩
      rw [← HD.out]
      have hll := HLEN.out
      have hjj := HJ.out
      cases hk : l'.drop k with
      | nil => rfl
      | cons b m =>
        cases m with
        | nil => rfl
        | cons c m =>
          have h := congrArg List.length hk
          simp at h
          omega

end Go.Proofs.YthnlkijkgnmbhaaDoor
