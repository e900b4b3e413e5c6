/-
  firstValues and Small of package domain; the law's alive. Nothing is assumed.
-/
import Derived.Test.YthnlkijkgnmbhaaDoorDmFirst
import Derived.Deep.RegionLaw
namespace Go.Proofs.YthnlkijkgnmbhaaDoor
open Go.RowKit

theorem range_snoc {α : Type} (f : Nat → α) (k : Nat) : (List.range (k + 1)).map f = (List.range k).map f ++ [f k] := by rw [List.range_succ, List.map_append]; rfl

theorem new_cells (w : World) (cs : List Value) (t : Nat) (j : Nat) (u : Value) (h : cs[j]? = some u) : (w.alloc (.cells cs.toArray t)).cell? ((⟨w.heap.size, 0, none⟩ : Addr).add j) = some u := by
  rw [Addr.add_lit, Nat.zero_add]
  exact cell_at _ _ _ _ _ (by simpa using h)

set_option maxRecDepth 100000 in
set_option maxHeartbeats 1600000 in
theorem firstValues_loop (t : Int) (fst : Nat → V) (m : Nat) (hf : FstC t fst m) (hm : m ≤ 1000) (n : Nat) (hmn : (t = 1 ∧ min (n : Int) 2 = (m : Int)) ∨ (t ≠ 1 ∧ n = m)) (w : World) :
    Calls Tryd.prog 29 #[.int .i64 t, .int .i64 (n : Int)] w fun e w' => (∃ v, e = .returned v ∧ Acc encV 48 w' 0 w.heap.size v ((List.range m).map fst)) ∧ Below w.heap.size w w' := by
  obtain ⟨i0, hi, hz0, hz1, hz2⟩ := info_parts infoValue
  have HF := Lib.hid hf
  clear hf
  rcases hmn with ⟨rfl, hmin⟩ | ⟨ht, rfl⟩
  · by_cases h2 : (n : Int) ≤ 2
    · obtain rfl : n = m := by omega
      clear hmin
      go_enter Tryd.func29, Tryd.ntmps29
      go_wp2_with fail
      go_loopw [12, 5] (fun iv v wr => ∃ k : Nat, k ≤ n ∧ iv = .int .i64 k ∧ Hid (Acc encV 48 wr 0 w.heap.size v ((List.range k).map fst)) ∧ Below w.heap.size w wr) (fun i _ _ => n - (intOf i).toNat)
      case atStart => exact ⟨0, Nat.zero_le _, rfl, Lib.hid (Acc.nil _ _ _ _ _), Below.refl _ _⟩
      case round =>
        obtain ⟨k, hk, rfl, HA, hbel⟩ := hrel
        by_cases hlt : k < n
        · have hki : (k : Int) < (n : Int) := by omega
          have HC := Lib.hid (HF.out k wr hlt)
          have hsr := hbel.size
          obtain ⟨ao, cp, hvf⟩ := HA.out.form
          rw [List.length_map, List.length_range] at hvf
          subst hvf
          clear hlt
          go_wp2_with (first | (go_at_call 44; refine HC.out.mono ?_; rintro e w2 ⟨⟨sl, rfl, hr2⟩, hb2⟩; obtain ⟨o2, c2, rfl, _⟩ := hr2.form; have HR2 := Lib.hid hr2; have HB2 := Lib.hid hb2; have HA2 := Lib.hid (HA.out.later hb2); clear hr2 hb2) | (at_builtin; refine Acc.append (E := encV) (e := 48) Tryd.underlying33 hi hz0 hz1 hz2 rfl (by decide) rfl _ _ rfl 0 w.heap.size (.slice ao k cp) ((List.range k).map fst) rfl ?c1 ⟨w2.heap.size, 0, none⟩ 1 (fst k) (.slice o2 (fst k).l.length c2) rfl rfl ?c2 ?c3 ?c4 ?c5 ?_))
          case c1 => exact HA2.out.later (below1 _ _)
          case c2 => exact fun j u hu => new_cells w2 (V.cs (fst k, .slice o2 (fst k).l.length c2)) _ j u hu
          case c3 => exact HR2.out.keep (fun b hb => ⟨.inr (by omega), by simp; omega, fun e => by have := (HA.out.lt b e).2; omega⟩) (fun b hb => (below1 w2 _).block b hb.2)
          case c4 => simp; omega
          case c5 => have := HB2.out.size; simp; omega
          intro v' w3 hA3 hg3
          have HA3 := Lib.hid hA3
          have HB3 := Lib.hid (((hbel.trans (HB2.out.mono hsr)).alloc (by have := HB2.out.size; omega) (.cells #[.int .i64 (fst k).t, .int .i64 (fst k).n, .string (fst k).s, .slice o2 (fst k).l.length c2] 48)).grown hg3 (by have := HB2.out.size; simp; omega) (fun q hq => (HA.out.lt q hq).1))
          clear hA3 hg3
          go_wp2_with fail
          go_roundw
          case rel => exact ⟨k + 1, by omega, by go_num, Lib.hid (by rw [range_snoc]; exact HA3.out), HB3.out⟩
          case measure => simp [intOf]; omega
        · obtain rfl : k = n := by omega
          go_wp2_with fail
          go_ret
          exact ⟨⟨_, rfl, HA.out⟩, hbel⟩
    · obtain rfl : m = 2 := by omega
      clear hmin
      go_enter Tryd.func29, Tryd.ntmps29
      go_wp2_with fail
      go_loopw [12, 5] (fun iv v wr => ∃ k : Nat, k ≤ 2 ∧ iv = .int .i64 k ∧ Hid (Acc encV 48 wr 0 w.heap.size v ((List.range k).map fst)) ∧ Below w.heap.size w wr) (fun i _ _ => 2 - (intOf i).toNat)
      case atStart => exact ⟨0, Nat.zero_le _, rfl, Lib.hid (Acc.nil _ _ _ _ _), Below.refl _ _⟩
      case round =>
        obtain ⟨k, hk, rfl, HA, hbel⟩ := hrel
        by_cases hlt : k < 2
        · have hki : (k : Int) < 2 := by omega
          have HC := Lib.hid (HF.out k wr hlt)
          have hsr := hbel.size
          obtain ⟨ao, cp, hvf⟩ := HA.out.form
          rw [List.length_map, List.length_range] at hvf
          subst hvf
          clear hlt
          go_wp2_with (first | (go_at_call 44; refine HC.out.mono ?_; rintro e w2 ⟨⟨sl, rfl, hr2⟩, hb2⟩; obtain ⟨o2, c2, rfl, _⟩ := hr2.form; have HR2 := Lib.hid hr2; have HB2 := Lib.hid hb2; have HA2 := Lib.hid (HA.out.later hb2); clear hr2 hb2) | (at_builtin; refine Acc.append (E := encV) (e := 48) Tryd.underlying33 hi hz0 hz1 hz2 rfl (by decide) rfl _ _ rfl 0 w.heap.size (.slice ao k cp) ((List.range k).map fst) rfl ?c1 ⟨w2.heap.size, 0, none⟩ 1 (fst k) (.slice o2 (fst k).l.length c2) rfl rfl ?c2 ?c3 ?c4 ?c5 ?_))
          case c1 => exact HA2.out.later (below1 _ _)
          case c2 => exact fun j u hu => new_cells w2 (V.cs (fst k, .slice o2 (fst k).l.length c2)) _ j u hu
          case c3 => exact HR2.out.keep (fun b hb => ⟨.inr (by omega), by simp; omega, fun e => by have := (HA.out.lt b e).2; omega⟩) (fun b hb => (below1 w2 _).block b hb.2)
          case c4 => simp; omega
          case c5 => have := HB2.out.size; simp; omega
          intro v' w3 hA3 hg3
          have HA3 := Lib.hid hA3
          have HB3 := Lib.hid (((hbel.trans (HB2.out.mono hsr)).alloc (by have := HB2.out.size; omega) (.cells #[.int .i64 (fst k).t, .int .i64 (fst k).n, .string (fst k).s, .slice o2 (fst k).l.length c2] 48)).grown hg3 (by have := HB2.out.size; simp; omega) (fun q hq => (HA.out.lt q hq).1))
          clear hA3 hg3
          go_wp2_with fail
          go_roundw
          case rel => exact ⟨k + 1, by omega, by go_num, Lib.hid (by rw [range_snoc]; exact HA3.out), HB3.out⟩
          case measure => simp [intOf]; omega
        · obtain rfl : k = 2 := by omega
          go_wp2_with fail
          go_ret
          exact ⟨⟨_, rfl, HA.out⟩, hbel⟩
  · have htb : (t == 1) = false := beq_eq_false_iff_ne.2 ht
    clear ht
    go_enter Tryd.func29, Tryd.ntmps29
    go_wp2_with fail
    go_loopw [12, 5] (fun iv v wr => ∃ k : Nat, k ≤ n ∧ iv = .int .i64 k ∧ Hid (Acc encV 48 wr 0 w.heap.size v ((List.range k).map fst)) ∧ Below w.heap.size w wr) (fun i _ _ => n - (intOf i).toNat)
    case atStart => exact ⟨0, Nat.zero_le _, rfl, Lib.hid (Acc.nil _ _ _ _ _), Below.refl _ _⟩
    case round =>
      obtain ⟨k, hk, rfl, HA, hbel⟩ := hrel
      by_cases hlt : k < n
      · have hki : (k : Int) < (n : Int) := by omega
        have HC := Lib.hid (HF.out k wr hlt)
        have hsr := hbel.size
        obtain ⟨ao, cp, hvf⟩ := HA.out.form
        rw [List.length_map, List.length_range] at hvf
        subst hvf
        clear hlt
        go_wp2_with (first | (go_at_call 44; refine HC.out.mono ?_; rintro e w2 ⟨⟨sl, rfl, hr2⟩, hb2⟩; obtain ⟨o2, c2, rfl, _⟩ := hr2.form; have HR2 := Lib.hid hr2; have HB2 := Lib.hid hb2; have HA2 := Lib.hid (HA.out.later hb2); clear hr2 hb2) | (at_builtin; refine Acc.append (E := encV) (e := 48) Tryd.underlying33 hi hz0 hz1 hz2 rfl (by decide) rfl _ _ rfl 0 w.heap.size (.slice ao k cp) ((List.range k).map fst) rfl ?c1 ⟨w2.heap.size, 0, none⟩ 1 (fst k) (.slice o2 (fst k).l.length c2) rfl rfl ?c2 ?c3 ?c4 ?c5 ?_))
        case c1 => exact HA2.out.later (below1 _ _)
        case c2 => exact fun j u hu => new_cells w2 (V.cs (fst k, .slice o2 (fst k).l.length c2)) _ j u hu
        case c3 => exact HR2.out.keep (fun b hb => ⟨.inr (by omega), by simp; omega, fun e => by have := (HA.out.lt b e).2; omega⟩) (fun b hb => (below1 w2 _).block b hb.2)
        case c4 => simp; omega
        case c5 => have := HB2.out.size; simp; omega
        intro v' w3 hA3 hg3
        have HA3 := Lib.hid hA3
        have HB3 := Lib.hid (((hbel.trans (HB2.out.mono hsr)).alloc (by have := HB2.out.size; omega) (.cells #[.int .i64 (fst k).t, .int .i64 (fst k).n, .string (fst k).s, .slice o2 (fst k).l.length c2] 48)).grown hg3 (by have := HB2.out.size; simp; omega) (fun q hq => (HA.out.lt q hq).1))
        clear hA3 hg3
        go_wp2_with fail
        go_roundw
        case rel => exact ⟨k + 1, by omega, by go_num, Lib.hid (by rw [range_snoc]; exact HA3.out), HB3.out⟩
        case measure => simp [intOf]; omega
      · obtain rfl : k = n := by omega
        go_wp2_with fail
        go_ret
        exact ⟨⟨_, rfl, HA.out⟩, hbel⟩
-- behind firstValues

/-- Text number m - 1 of the letters a and b: the binary digits of m but the first. -/
def letL (m : Nat) : List UInt8 := if _h : m ≤ 1 then [] else letL (m / 2) ++ [UInt8.ofNat (97 + m % 2)]
termination_by m
decreasing_by omega
def strB (l : List UInt8) : ByteArray := ⟨l.toArray⟩
def cellB (c : UInt8) : ByteArray := if c.toNat = 97 then ⟨#[]⟩ else ⟨#[97]⟩
def fText (i : Nat) : V := .mk 3 0 (strB (letL (i + 1))) []
def fPat (i : Nat) : V := .mk 8 0 (strB (letL (i + 2))) []
def fInts (i : Nat) : V := .mk 5 0 ⟨#[]⟩ ((letL (i + 1)).map fun c => .mk 2 ((c.toNat : Int) - 97) ⟨#[]⟩ [])
def fTexts (i : Nat) : V := .mk 6 0 ⟨#[]⟩ ((letL (i + 1)).map fun c => .mk 3 0 (cellB c) [])
def fTable (i : Nat) : V := .mk 7 0 ⟨#[]⟩ ((letL (i + 1)).map fun c => .mk 6 0 ⟨#[]⟩ [.mk 3 0 (cellB c) []])
/-- The first values of a type, and how many there are of n. -/
def fstOf (t : Int) : Nat → V := if t = 1 then fBool else if t = 4 then fBits else if t = 2 then fInt else if t = 3 then fText else if t = 8 then fPat else if t = 5 then fInts else if t = 6 then fTexts else fTable
def cntOf (t : Int) (n : Nat) : Nat := if t = 1 then min n 2 else n
def axOf (n : Nat) (t : Int) : List V := (List.range (cntOf t n)).map (fstOf t)
def allTy (ts : List Int) : Bool := ts.all isTy
def smE (ts : List Int) (n : Int) : Int := if 4 < ts.length then 2 else if allTy ts = false then 3 else if n < 0 ∨ 64 < n then 1 else if largeD (ts.map (axOf n.toNat)) = true then 11 else 0
def smLs (ts : List Int) (n : Int) : List (List V) := if smE ts n = 0 then ts.map (axOf n.toNat) else []

theorem smE_size {ts : List Int} {n : Int} (h : 4 < (ts.length : Int)) : smE ts n = 2 ∧ smLs ts n = [] := by
  have e : smE ts n = 2 := if_pos (by omega)
  exact ⟨e, if_neg (by rw [e]; decide)⟩
theorem smE_type {ts : List Int} {n : Int} (h : ¬ 4 < (ts.length : Int)) (h1 : allTy ts = false) : smE ts n = 3 ∧ smLs ts n = [] := by
  have e : smE ts n = 3 := by unfold smE; rw [if_neg (by omega), if_pos h1]
  exact ⟨e, if_neg (by rw [e]; decide)⟩
theorem smE_range {ts : List Int} {n : Int} (h : ¬ 4 < (ts.length : Int)) (h1 : allTy ts = true) (h2 : n < 0 ∨ 64 < n) : smE ts n = 1 ∧ smLs ts n = [] := by
  have e : smE ts n = 1 := by unfold smE; rw [if_neg (by omega), if_neg (by rw [h1]; simp), if_pos h2]
  exact ⟨e, if_neg (by rw [e]; decide)⟩
theorem smE_many {ts : List Int} {n : Int} (h : ¬ 4 < (ts.length : Int)) (h1 : allTy ts = true) (h2 : ¬ (n < 0 ∨ 64 < n)) (h3 : largeD (ts.map (axOf n.toNat)) = true) : smE ts n = 11 ∧ smLs ts n = [] := by
  have e : smE ts n = 11 := by unfold smE; rw [if_neg (by omega), if_neg (by rw [h1]; simp), if_neg h2, if_pos h3]
  exact ⟨e, if_neg (by rw [e]; decide)⟩
theorem smE_ok {ts : List Int} {n : Int} (h : ¬ 4 < (ts.length : Int)) (h1 : allTy ts = true) (h2 : ¬ (n < 0 ∨ 64 < n)) (h3 : ¬ largeD (ts.map (axOf n.toNat)) = true) : smE ts n = 0 ∧ smLs ts n = ts.map (axOf n.toNat) := by
  have e : smE ts n = 0 := by unfold smE; rw [if_neg (by omega), if_neg (by rw [h1]; simp), if_neg h2, if_neg h3]
  exact ⟨e, if_pos e⟩
theorem tname_nil {t : Int} (h : isTy t = true) : (tname t).toList.isEmpty = false := by
  unfold isTy at h
  rw [Bool.and_eq_true, decide_eq_true_eq, decide_eq_true_eq] at h
  rcases ty_cases h.1 h.2 with rfl | rfl | rfl | rfl | rfl | rfl | rfl | rfl <;> decide +kernel
theorem isTy_no {t : Int} (h : isTy t = false) : t < 1 ∨ 8 < t := by
  unfold isTy at h
  rw [Bool.and_eq_false_iff, decide_eq_false_iff_not, decide_eq_false_iff_not] at h
  omega
theorem isTy_yes {t : Int} (h : isTy t = true) : 1 ≤ t ∧ t ≤ 8 := by
  unfold isTy at h
  rw [Bool.and_eq_true, decide_eq_true_eq, decide_eq_true_eq] at h
  exact h

/-- What firstValues has returned lies beside what has been built before. -/
theorem small_rep {wr w2 : World} {n : Nat} {v v2 : Value} {L : List (List V)} {l : List V} {e1 : TypeId} {cells : Array Value} {ty : TypeId} (hA : Acc encA e1 wr 0 (n + 2) v L) (h2 : Acc encV 48 w2 0 wr.heap.size v2 l) (hs : n + 2 ≤ wr.heap.size) (hl : l.length ≤ 1000) :
    RepS (w2.alloc (.cells cells ty)) (SB 0 (n + 2) (w2.alloc (.cells cells ty)).heap.size v.ownBlock) v2 l :=
  (h2.values (by omega)).keep (fun b hb' => ⟨.inr (by omega), by simp; omega, fun e => by have := (hA.lt b e).2; omega⟩) (fun b hb' => (below1 w2 _).block b hb'.2)
theorem small_cell {wr w2 : World} {n : Nat} {v : Value} {L : List (List V)} {e1 : TypeId} {cells : Array Value} {ty : TypeId} {u : Value} (hA : Acc encA e1 wr 0 (n + 2) v L) (hb : Below wr.heap.size wr w2) (hc : wr.cell? ⟨n + 1, 0, none⟩ = some u) (hz : wr.frozen? ⟨n + 1, 0, none⟩ = false) :
    ∀ (_ : Value) (w3 : World), (w2.alloc (.cells cells ty)).grownBy w3 v.ownBlock → w3.cell? ⟨n + 1, 0, none⟩ = some u ∧ w3.frozen? ⟨n + 1, 0, none⟩ = false := by
  intro _ w3 hg
  have hlt : n + 1 < wr.heap.size := by
    have := World.block_lt_of_cell? _ _ hc
    simpa using this
  have hblk : w3.heap[n + 1]? = wr.heap[n + 1]? := by
    have h1 := hg.block (n + 1) (by have := hb.size; simp; omega) (fun e => by have := (hA.lt _ e.symm).1; omega)
    exact h1.trans (((below1 w2 _).block _ (by have := hb.size; omega)).trans (hb.block _ hlt))
  exact ⟨(World.cell?_of_block (w := wr) hblk).trans hc, (World.frozen?_of_block (w := wr) hblk).trans hz⟩

set_option maxRecDepth 100000 in
set_option maxHeartbeats 3200000 in
theorem smallOf_any (ts : List Int) (x : Value) (n : Int) (w : World) (B : Nat) (hx : LInts w B x ts) (hB : B ≤ w.heap.size) (hN : Names w) (hF : ∀ t, t ∈ ts → isTy t = true → FstC t (fstOf t) 65) :
    Calls Tryd.prog 14 #[x, .int .i64 n] w fun e w' => (∃ sl, e = .returned (.tuple #[.agg #[sl], .int .i64 (smE ts n)]) ∧ LAx w' w'.heap.size sl (smLs ts n)) ∧ Below w.heap.size w w' := by
  obtain ⟨oa, ca, rfl, hlm, hel⟩ := hx
  have hR0 : ∀ w', Below (w.heap.size + 1) (w.alloc (.cells #[.slice none 0 0] 24)) w' → w'.cell? ⟨w.heap.size, 0, none⟩ = some (.slice none 0 0) ∧ w'.frozen? ⟨w.heap.size, 0, none⟩ = false := fun w' h =>
    ⟨dbox h, (h.frozen (p := ⟨w.heap.size, 0, none⟩) (Nat.lt_succ_self _)).trans (frozen_new w _ _ 0)⟩
  have HR0 := Lib.hid hR0
  have HF := Lib.hid hF
  have HEL := Lib.hid hel
  have HNM := Lib.hid (hN.later (below1 w (.cells #[.slice none 0 0] 24)))
  clear hR0 hF hel hN
  by_cases h4 : 4 < (ts.length : Int)
  · have HZ := Lib.hid (smE_size (n := n) h4)
    obtain ⟨r0, z0⟩ := HR0.out _ (Below.refl _ _)
    go_enter Tryd.func14, Tryd.ntmps14
    go_wp2_with fail
    refine bodyPost_ret (v := .tuple #[.agg #[.slice none 0 0], .int .i64 2]) (by simp [results, Tryd.results14, go_sem, *]) rfl ?_
    exact ⟨⟨.slice none 0 0, by rw [HZ.out.1], by rw [HZ.out.2]; exact LAx.nil⟩, by first | exact below1 _ _ | exact (below1 _ _).setCell (p := ⟨w.heap.size, 0, none⟩) (Nat.le_refl _) _⟩
  have H4 := Lib.hid h4
  go_enter Tryd.func14, Tryd.ntmps14
  go_wp2_with fail
  go_loopw [17] (fun iv wr => ∃ k : Nat, k ≤ ts.length ∧ iv = .int .i64 k ∧ Hid (allTy (ts.drop k) = allTy ts) ∧ wr = w.alloc (.cells #[.slice none 0 0] 24)) (fun i _ => ts.length - (intOf i).toNat)
  case atStart => exact ⟨0, Nat.zero_le _, rfl, Lib.hid rfl, rfl⟩
  case round =>
    obtain ⟨k, hk, rfl, HD, rfl⟩ := hrel
    by_cases hlt : k < ts.length
    · have HS := Lib.hid (drop_l ts k hlt)
      obtain ⟨b, off, c, rfl, hb, hc, hr⟩ := HEL.out k _ (List.getElem?_eq_getElem hlt)
      cases hr
      have hc1 := ((below1 w (.cells #[.slice none 0 0] 24)).cell (p := ⟨b, off + k, none⟩) (Nat.lt_of_lt_of_le hb hB)).trans hc
      have hki : (k : Int) < (ts.length : Int) := by omega
      have hki0 : (0 : Int) ≤ (k : Int) := by omega
      obtain ⟨t, htk⟩ : ∃ t, ts[k] = t := ⟨_, rfl⟩
      rw [htk] at hc1 HS
      clear hc
      have HT := Lib.hid (typeName_any t _ HNM.out)
      go_wp2_with fail
      refine HT.out.mono ?_
      rintro e w2 ⟨rfl, rfl⟩
      by_cases hty : isTy t = true
      · have htn := tname_nil hty
        have HTY := Lib.hid hty
        clear hty
        go_wp2_with fail
        go_roundw
        case rel => exact ⟨k + 1, hlt, by go_num, Lib.hid (by rw [← HD.out, HS.out]; show _ = (isTy t && _); rw [HTY.out, Bool.true_and]; rfl), by first | rfl | trivial⟩
        case measure => simp [intOf]; omega
      · have hno := isTy_no (by simpa using hty)
        have htn : (tname t).toList.isEmpty = true := by rw [tname_no hno]; decide +kernel
        have HZ := Lib.hid (smE_type (ts := ts) (n := n) (by have := H4.out; omega) (by rw [← HD.out, HS.out]; show (isTy t && _) = false; rw [show isTy t = false by simpa using hty]; rfl))
        obtain ⟨r0, z0⟩ := HR0.out _ (Below.refl _ _)
        clear hno hty
        go_wp2_with fail
        refine bodyPost_ret (v := .tuple #[.agg #[.slice none 0 0], .int .i64 3]) (by simp [results, Tryd.results14, go_sem, *]) rfl ?_
        exact ⟨⟨.slice none 0 0, by rw [HZ.out.1], by rw [HZ.out.2]; exact LAx.nil⟩, by first | exact below1 _ _ | exact (below1 _ _).setCell (p := ⟨w.heap.size, 0, none⟩) (Nat.le_refl _) _⟩
    · have HTY := Lib.hid (show allTy ts = true by rw [← HD.out, List.drop_of_length_le (by omega)]; rfl)
      have hkl : k = ts.length := by omega
      subst hkl
      clear HD hlt hk
      by_cases hlow : n < 0
      · have HZ := Lib.hid (smE_range (ts := ts) (n := n) (by have := H4.out; omega) HTY.out (.inl hlow))
        obtain ⟨r0, z0⟩ := HR0.out _ (Below.refl _ _)
        go_wp2_with fail
        refine bodyPost_ret (v := .tuple #[.agg #[.slice none 0 0], .int .i64 1]) (by simp [results, Tryd.results14, go_sem, *]) rfl ?_
        exact ⟨⟨.slice none 0 0, by rw [HZ.out.1], by rw [HZ.out.2]; exact LAx.nil⟩, by first | exact below1 _ _ | exact (below1 _ _).setCell (p := ⟨w.heap.size, 0, none⟩) (Nat.le_refl _) _⟩
      by_cases hbig : 64 < n
      · have HZ := Lib.hid (smE_range (ts := ts) (n := n) (by have := H4.out; omega) HTY.out (.inr hbig))
        obtain ⟨r0, z0⟩ := HR0.out _ (Below.refl _ _)
        go_wp2_with fail
        refine bodyPost_ret (v := .tuple #[.agg #[.slice none 0 0], .int .i64 1]) (by simp [results, Tryd.results14, go_sem, *]) rfl ?_
        exact ⟨⟨.slice none 0 0, by rw [HZ.out.1], by rw [HZ.out.2]; exact LAx.nil⟩, by first | exact below1 _ _ | exact (below1 _ _).setCell (p := ⟨w.heap.size, 0, none⟩) (Nat.le_refl _) _⟩
      obtain ⟨m, rfl⟩ : ∃ m : Nat, n = m := ⟨n.toNat, by omega⟩
      obtain ⟨i0, hi, hz0, hz1, hz2⟩ := info_parts infoList
      have hm64 : m ≤ 64 := by omega
      go_wp2_with fail
      have HBX := Lib.hid (Below.refl (w.heap.size + 1) (w.alloc (.cells #[.slice none 0 0] 24)))
      go_loopw [36] (fun iv wr => ∃ (k : Nat) (v : Value), k ≤ ts.length ∧ iv = .int .i64 k ∧ Hid (Acc encA 33 wr 0 (w.heap.size + 2) v ((ts.take k).map (axOf m))) ∧ Hid (wr.cell? ⟨w.heap.size + 1, 0, none⟩ = some v ∧ wr.frozen? ⟨w.heap.size + 1, 0, none⟩ = false ∧ w.heap.size + 2 ≤ wr.heap.size) ∧
        Below (w.heap.size + 1) (w.alloc (.cells #[.slice none 0 0] 24)) wr) (fun i _ => ts.length - (intOf i).toNat)
      case atStart =>
        have hal : Below (w.heap.size + 1) (w.alloc (.cells #[.slice none 0 0] 24)) ((w.alloc (.cells #[.slice none 0 0] 24)).alloc (.cells #[.slice none 0 0] 24)) := (Below.refl _ _).alloc (by simp) _
        have hc := cell_at (w.alloc (.cells #[.slice none 0 0] 24)) #[.slice none 0 0] 24 0 _ rfl
        have hz := frozen_new (w.alloc (.cells #[.slice none 0 0] 24)) #[.slice none 0 0] 24 0
        rw [World.size_alloc] at hc hz
        exact ⟨0, .slice none 0 0, Nat.zero_le _, rfl, Lib.hid (Acc.nil _ _ _ _ _), Lib.hid ⟨hc, hz, by simp⟩, hal⟩
      case round =>
        obtain ⟨k, v, hk, rfl, HA, HV, hbel⟩ := hrel
        by_cases hlt : k < ts.length
        · obtain ⟨b, off, c, rfl, hb, hc, hr⟩ := HEL.out k _ (List.getElem?_eq_getElem hlt)
          cases hr
          have hc1 := (((below1 w (.cells #[.slice none 0 0] 24)).trans (hbel.mono (Nat.le_succ _))).cell (p := ⟨b, off + k, none⟩) (Nat.lt_of_lt_of_le hb hB)).trans hc
          have hki : (k : Int) < (ts.length : Int) := by omega
          have hki0 : (0 : Int) ≤ (k : Int) := by omega
          obtain ⟨t, htk⟩ : ∃ t, ts[k] = t := ⟨_, rfl⟩
          rw [htk] at hc1
          obtain ⟨ao, cp, hvf⟩ := HA.out.form
          rw [List.length_map, List.length_take, Nat.min_eq_left hk] at hvf
          subst hvf
          have HTK := Lib.hid (show (ts.take (k + 1)).map (axOf m) = (ts.take k).map (axOf m) ++ [axOf m t] by rw [List.take_succ_eq_append_getElem hlt, htk, List.map_append]; rfl)
          have hty : isTy t = true := List.all_eq_true.1 HTY.out t (by rw [← htk]; exact List.getElem_mem hlt)
          have hfst : FstC t (fstOf t) (cntOf t m) := fun i w' hi' => HF.out t (by rw [← htk]; exact List.getElem_mem hlt) hty i w' (by
            unfold cntOf at hi'
            split at hi' <;> omega)
          have HFV := Lib.hid (fun w' => firstValues_loop t (fstOf t) (cntOf t m) hfst (by unfold cntOf; split <;> omega) m (by
            unfold cntOf
            by_cases h1 : t = 1
            · exact .inl ⟨h1, by rw [if_pos h1]; omega⟩
            · exact .inr ⟨h1, by rw [if_neg h1]⟩) w')
          obtain ⟨hv1, hv2, hv3⟩ := HV.out
          clear hc hty hfst htk
          go_wp2_with fail
          have hsr := HV.out.2.2
          go_region_law (first | (refine Acc.step (E := encA) (e := 33) Tryd.underlying22 hi hz0 hz1 hz2 rfl (by decide) (by rfl) _ _ (by rfl) 0 (w.heap.size + 2) (.slice ao k cp) ((ts.take k).map (axOf m)) (by rfl) (HA2.out.later (below1 _ _)) ⟨w2.heap.size, 0, none⟩ 1 (axOf m t) (.slice o2 (axOf m t).length c2) (by rfl) rfl (fun j u hu => new_cells w2 [.slice o2 (axOf m t).length c2] _ j u hu) HRP.out (by rw [List.length_map, List.length_take]; omega) (by have := HB2.out.size; simp; omega) ?_; intro v3 w3 hA3 hg3; obtain ⟨o3, c3, hvf3⟩ := hA3.form; rw [List.length_append, List.length_map, List.length_take, Nat.min_eq_left hk, List.length_singleton] at hvf3; subst hvf3; have HG3 := Lib.hid (And.intro hA3 hg3); have hcv3 := HC3.out (.nilIface) w3 hg3; obtain ⟨hc3, hz3⟩ := hcv3; clear hA3 hg3) | (go_simp; go_at_call 29; refine (HFV.out wr.drew).mono ?_; rintro e w2 ⟨⟨v2, rfl, hv2a⟩, hb2⟩; obtain ⟨o2, c2, hvf2⟩ := hv2a.form; have hln : ((List.range (cntOf t m)).map (fstOf t)).length = (axOf m t).length := rfl; rw [hln] at hvf2; subst hvf2; have hb2' := (below_drewN wr wr.heap.size 1).trans hb2; have HB2 := Lib.hid hb2'; have HA2 := Lib.hid (HA.out.later hb2'); have HRP := Lib.hid (small_rep (cells := #[.slice o2 (axOf m t).length c2]) (ty := 33) HA.out hv2a hsr (by rw [List.length_map, List.length_range]; unfold cntOf; split <;> omega)); have HC3 := Lib.hid (small_cell HA.out HB2.out hv1 hv2 (cells := #[.slice o2 (axOf m t).length c2]) (ty := 33)); have hv12 := (hb2'.cell (p := ⟨w.heap.size + 1, 0, none⟩) (by simp; omega)).trans hv1; have hv13 : ∀ ob, (w2.alloc ob).cell? ⟨w.heap.size + 1, 0, none⟩ = some (.slice ao k cp) := (fun ob => ((below1 w2 ob).cell (p := ⟨w.heap.size + 1, 0, none⟩) (by have := HB2.out.size; simp; omega)).trans hv12); clear hv2a hb2 hb2' hln))
          all_goals
            have HZ3 := Lib.hid (And.intro hc3 hz3)
            clear hc3 hz3 hv12 hv13 hv1 hv2
            go_wp2_with fail
            go_roundw
            case rel =>
              have hs3 : w.heap.size + 2 ≤ w3.heap.size := by have h1 := HG3.out.2.size; have h2 := HB2.out.size; simp at h1; omega
              refine ⟨k + 1, .slice o3 (k + 1) c3, hlt, by go_num, Lib.hid (by rw [HTK.out]; exact HG3.out.1.setCell (Nat.zero_le _) (by omega)), Lib.hid ⟨World.cell?_setCell_same _ _ _ HZ3.out.1, by rw [World.frozen?_setCell]; exact HZ3.out.2, by rw [World.size_setCell]; exact hs3⟩, ?_⟩
              exact (((hbel.trans (HB2.out.mono (by omega))).alloc (by have := HB2.out.size; omega) (.cells #[.slice o2 (axOf m t).length c2] 33)).grown HG3.out.2 (by have := HB2.out.size; simp; omega) (fun q hq => by have := (HA.out.lt q hq).1; omega)).setCell (p := ⟨w.heap.size + 1, 0, none⟩) (Nat.le_refl _) _
            case measure => simp [intOf]; omega
        · have hkl : k = ts.length := by omega
          subst hkl
          rw [List.take_length] at HA
          have hax : LAx wr wr.heap.size v (ts.map (axOf m)) := HA.out.axes (by rw [List.length_map]; exact hlm)
          obtain ⟨ao, cp, rfl, _, _⟩ := hax.form
          have HL := Lib.hid (isLarge_any (ts.map (axOf m)) _ wr wr.heap.size hax (Nat.le_refl _))
          obtain ⟨hv1, hv2, hv3⟩ := HV.out
          have HLN := Lib.hid (show (ts.map (axOf m)).length = ts.length from List.length_map ..)
          obtain ⟨LL, hLL⟩ : ∃ LL, (ts.map (axOf m)).length = LL := ⟨_, rfl⟩
          rw [hLL] at HL hv1 HA
          have H4 := Lib.hid h4
          clear hax hk hlt HV
          go_wp2_with fail
          refine HL.out.mono ?_
          rintro e w4 ⟨rfl, hb4⟩
          have hb4' := hbel.trans (hb4.mono (by omega))
          obtain ⟨r0, z0⟩ := HR0.out _ hb4'
          have hv4 := (hb4.cell (p := ⟨w.heap.size + 1, 0, none⟩) (by simp; omega)).trans hv1
          have HB4 := Lib.hid hb4'
          have HA4 := Lib.hid (HA.out.later hb4)
          clear hb4 hb4' hv1 hv2
          by_cases hlg : largeD (ts.map (axOf m)) = true
          · have HZ := Lib.hid (smE_many (ts := ts) (n := (m : Int)) (by have := H4.out; omega) HTY.out (by omega) (by rw [Int.toNat_natCast]; exact hlg))
            have HLG := Lib.hid hlg
            go_wp2_with fail
            refine bodyPost_ret (v := .tuple #[.agg #[.slice none 0 0], .int .i64 11]) (by simp [results, Tryd.results14, go_sem, *]) rfl ?_
            exact ⟨⟨.slice none 0 0, by rw [HZ.out.1], by rw [HZ.out.2]; exact LAx.nil⟩, by first | exact (below1 _ _).trans (HB4.out.mono (Nat.le_succ _)) | exact ((below1 _ _).trans (HB4.out.mono (Nat.le_succ _))).setCell (p := ⟨w.heap.size, 0, none⟩) (Nat.le_refl _) _⟩
          · have HZ := Lib.hid (smE_ok (ts := ts) (n := (m : Int)) (by have := H4.out; omega) HTY.out (by omega) (by rw [Int.toNat_natCast]; exact hlg))
            have HLG := Lib.hid hlg
            go_wp2_with fail
            refine bodyPost_ret (v := .tuple #[.agg #[.slice ao LL cp], .int .i64 0]) (by simp [results, Tryd.results14, go_sem, *]) rfl ?_
            refine ⟨⟨.slice ao LL cp, by rw [HZ.out.1], ?_⟩, ((below1 _ _).trans (HB4.out.mono (Nat.le_succ _))).setCell (p := ⟨w.heap.size, 0, none⟩) (Nat.le_refl _) _⟩
            rw [HZ.out.2, Int.toNat_natCast]
            exact ((HA4.out.setCell (Nat.zero_le _) (by omega)).axes (by rw [List.length_map]; exact hlm))

end Go.Proofs.YthnlkijkgnmbhaaDoor
