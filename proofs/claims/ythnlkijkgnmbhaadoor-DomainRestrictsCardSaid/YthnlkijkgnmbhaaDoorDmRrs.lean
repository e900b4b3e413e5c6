/-
  Restrict of the reference, and what Restrict returns. Nothing is assumed.
-/
import Derived.Test.YthnlkijkgnmbhaaDoorDmSame
import Derived.Test.YthnlkijkgnmbhaaDoorDmFrame
import Derived.Test.YthnlkijkgnmbhaaDoorDmAcc
namespace Go.Proofs.YthnlkijkgnmbhaaDoor
open Go.RowKit

/-! ### What Restrict returns -/

def rL (N : Int) (ks : List Bool) : Nat → List (List V) → List (List V)
  | _, [] => []
  | i, a :: l => rAx i N ks a :: rL N ks (i + 1) l
def rstE (l : List (List V)) (N : Int) (ks : List Bool) : Int := if N < 0 ∨ (l.length : Int) ≤ N then 1 else if ks.length ≠ (l.getD N.toNat []).length then 2 else 0
def rstL (l : List (List V)) (N : Int) (ks : List Bool) : List (List V) := if rstE l N ks = 0 then rL N ks 0 l else []
theorem rst_range {l : List (List V)} {N : Int} {ks : List Bool} (h : N < 0 ∨ (l.length : Int) ≤ N) : rstE l N ks = 1 ∧ rstL l N ks = [] := by
  have e : rstE l N ks = 1 := if_pos h
  exact ⟨e, if_neg (by rw [e]; decide)⟩
theorem rst_size {l : List (List V)} {m : Nat} {ks : List Bool} {a : List V} (h : m < l.length) (ha : l[m] = a) (hk : ks.length ≠ a.length) : rstE l m ks = 2 ∧ rstL l m ks = [] := by
  have e : rstE l m ks = 2 := by
    unfold rstE
    rw [if_neg (by omega), Int.toNat_natCast, if_pos (by simp [List.getD, h, ha]; exact hk)]
  exact ⟨e, if_neg (by rw [e]; decide)⟩
theorem rst_ok {l : List (List V)} {m : Nat} {ks : List Bool} {a : List V} (h : m < l.length) (ha : l[m] = a) (hk : ks.length = a.length) : rstE l m ks = 0 ∧ rstL l m ks = rL m ks 0 l := by
  have e : rstE l m ks = 0 := by
    unfold rstE
    rw [if_neg (by omega), Int.toNat_natCast, if_neg (by simp [List.getD, h, ha]; exact hk)]
  exact ⟨e, if_pos e⟩
theorem rL_len (N : Int) (ks : List Bool) : ∀ (l : List (List V)) (n : Nat), (rL N ks n l).length = l.length
  | [], _ => rfl
  | a :: l, n => by rw [rL, List.length_cons, List.length_cons, rL_len N ks l]
theorem rL_snoc (N : Int) (ks : List Bool) (a : List V) : ∀ (l : List (List V)) (n : Nat), rL N ks n (l ++ [a]) = rL N ks n l ++ [rAx (n + l.length) N ks a]
  | [], n => rfl
  | b :: l, n => by
    rw [List.cons_append, rL, rL, rL_snoc N ks a l (n + 1), List.length_cons, List.cons_append, show n + 1 + l.length = n + (l.length + 1) by omega]
theorem rL_take {N : Int} {ks : List Bool} {l : List (List V)} {i : Nat} {a : List V} (h : i < l.length) (ha : l[i] = a) : rL N ks 0 (l.take (i + 1)) = rL N ks 0 (l.take i) ++ [rAx i N ks a] := by
  rw [List.take_succ_eq_append_getElem h, rL_snoc, ha, List.length_take, Nat.zero_add, Nat.min_eq_left (by omega)]
theorem keepF_take : ∀ {ks : List Bool} {a : List V} {k : Nat} {v : V} {b : Bool}, a[k]? = some v → ks[k]? = some b → keepF ks (a.take (k + 1)) = keepF ks (a.take k) ++ if b = true then [v] else []
  | [], _, _, _, _, _, h => by simp at h
  | _ :: _, [], _, _, _, h, _ => by simp at h
  | c :: ks, x :: a, 0, v, b, h, h' => by
    simp at h h'
    subst h h'
    rw [List.take_succ_cons, List.take_zero, List.take_zero, keepF]
    cases c <;> simp [keepF]
    all_goals (cases ks <;> rfl)
  | c :: ks, x :: a, k + 1, v, b, h, h' => by
    rw [List.take_succ_cons, List.take_succ_cons, keepF, keepF, keepF_take (ks := ks) (a := a) (k := k) (by simpa using h) (by simpa using h')]
    cases c <;> simp
theorem rAx_in {i : Nat} {N : Int} {ks : List Bool} {a : List V} {k : Nat} {v : V} {b : Bool} (e : (i : Int) = N) (h : a[k]? = some v) (h' : ks[k]? = some b) : rAx i N ks (a.take (k + 1)) = rAx i N ks (a.take k) ++ if b = true then [v] else [] := by
  unfold rAx
  rw [if_pos e, if_pos e, keepF_take h h']
theorem rAx_out {i : Nat} {N : Int} {ks : List Bool} {a : List V} {k : Nat} {v : V} (e : (i : Int) ≠ N) (h : a[k]? = some v) : rAx i N ks (a.take (k + 1)) = rAx i N ks (a.take k) ++ [v] := by
  unfold rAx
  obtain ⟨hk, rfl⟩ := List.getElem?_eq_some_iff.1 h
  rw [if_neg e, if_neg e, List.take_succ_eq_append_getElem hk]
theorem keepF_len : ∀ (ks : List Bool) (a : List V), (keepF ks a).length ≤ a.length
  | [], _ => by simp [keepF]
  | _ :: _, [] => by simp [keepF]
  | c :: ks, x :: a => by
    rw [keepF]
    have := keepF_len ks a
    split
    · simp; omega
    · simp; omega
theorem rAx_len (i : Nat) (N : Int) (ks : List Bool) (a : List V) : (rAx i N ks a).length ≤ a.length := by
  unfold rAx
  split
  · exact keepF_len ks a
  · exact Nat.le_refl _
theorem rAx_nil (i : Nat) (N : Int) (ks : List Bool) : rAx i N ks [] = [] := by
  have := rAx_len i N ks []
  exact List.eq_nil_of_length_eq_zero (by simpa using this)

theorem cell_grown {w1 w3 : World} {p : Nat} {ob : Obj} {u v : Value} (hg : (w1.alloc ob).grownBy w3 v.ownBlock) (hne : ∀ q, v.ownBlock = some q → q ≠ p) (hc : w1.cell? ⟨p, 0, none⟩ = some u) (hz : w1.frozen? ⟨p, 0, none⟩ = false) :
    w3.cell? ⟨p, 0, none⟩ = some u ∧ w3.frozen? ⟨p, 0, none⟩ = false := by
  have hlt : p < w1.heap.size := by
    have := World.block_lt_of_cell? _ _ hc
    simpa using this
  have hblk : w3.heap[p]? = w1.heap[p]? := (hg.block p (by simp; omega) (fun e => hne p e.symm rfl)).trans ((below1 w1 ob).block _ hlt)
  exact ⟨(World.cell?_of_block (w := w1) hblk).trans hc, (World.frozen?_of_block (w := w1) hblk).trans hz⟩

set_option maxRecDepth 100000 in
set_option maxHeartbeats 3200000 in
theorem rrest_any (l : List (List V)) (x : Value) (N : Int) (y : Value) (ks : List Bool) (w : World) (B : Nat) (hx : LAx w B x l) (hy : LBools w B y ks) (hB : B ≤ w.heap.size) (hl : l.length ≤ 1000) (hla : ∀ a, a ∈ l → a.length ≤ 1000) :
    Calls Tryd.prog 19 #[.agg #[x], .int .i64 N, y] w fun e w' => (∃ sl, e = .returned (.tuple #[.agg #[sl], .int .i64 (rstE l N ks)]) ∧ LAx w' w'.heap.size sl (rstL l N ks)) ∧ Below w.heap.size w w' := by
  have HX := Lib.hid hx
  obtain ⟨oa, ca, rfl, _, hlm⟩ := hx.form
  obtain ⟨oy, cy, rfl, hym, hely⟩ := hy
  have HEY := Lib.hid hely
  have HLA := Lib.hid hla
  clear hx hely hla
  have HB0 := Lib.hid (show Below w.heap.size w ((w.alloc (.cells #[.slice oa l.length ca] 24)).alloc (.cells #[.slice none 0 0] 24)) from (below1 w _).trans ((below1 _ _).mono (by simp)))
  have hR0 : ∀ w', Below (w.heap.size + 2) ((w.alloc (.cells #[.slice oa l.length ca] 24)).alloc (.cells #[.slice none 0 0] 24)) w' → w'.cell? ⟨w.heap.size, 0, none⟩ = some (.slice oa l.length ca) ∧ w'.cell? ⟨w.heap.size + 1, 0, none⟩ = some (.slice none 0 0) ∧ w'.frozen? ⟨w.heap.size + 1, 0, none⟩ = false := fun w' h => by
    have h1 := cell_at (w.alloc (.cells #[.slice oa l.length ca] 24)) #[.slice none 0 0] 24 0 _ rfl
    have h2 := frozen_new (w.alloc (.cells #[.slice oa l.length ca] 24)) #[.slice none 0 0] 24 0
    rw [World.size_alloc] at h1 h2
    exact ⟨(h.cell (p := ⟨w.heap.size, 0, none⟩) (by simp)).trans (((below1 _ _).cell (p := ⟨w.heap.size, 0, none⟩) (by simp)).trans (cell_at _ _ _ _ _ rfl)),
      (h.cell (p := ⟨w.heap.size + 1, 0, none⟩) (by simp)).trans h1, (h.frozen (p := ⟨w.heap.size + 1, 0, none⟩) (by simp)).trans h2⟩
  have HR0 := Lib.hid hR0
  clear hR0
  by_cases hlow : N < 0
  · have HZ := Lib.hid (rst_range (l := l) (N := N) (ks := ks) (.inl hlow))
    obtain ⟨hd, r0, z0⟩ := HR0.out _ (Below.refl _ _)
    go_enter Tryd.func19, Tryd.ntmps19
    go_wp2_with fail
    refine bodyPost_ret (v := .tuple #[.agg #[.slice none 0 0], .int .i64 1]) (by simp [results, Tryd.results19, go_sem, *]) rfl ?_
    exact ⟨⟨.slice none 0 0, by rw [HZ.out.1], by rw [HZ.out.2]; exact LAx.nil⟩, by first | exact HB0.out | exact HB0.out.setCell (p := ⟨w.heap.size + 1, 0, none⟩) (Nat.le_succ _) _⟩
  by_cases hbig : (l.length : Int) ≤ N
  · have HZ := Lib.hid (rst_range (l := l) (N := N) (ks := ks) (.inr hbig))
    obtain ⟨hd, r0, z0⟩ := HR0.out _ (Below.refl _ _)
    go_enter Tryd.func19, Tryd.ntmps19
    go_wp2_with fail
    refine bodyPost_ret (v := .tuple #[.agg #[.slice none 0 0], .int .i64 1]) (by simp [results, Tryd.results19, go_sem, *]) rfl ?_
    exact ⟨⟨.slice none 0 0, by rw [HZ.out.1], by rw [HZ.out.2]; exact LAx.nil⟩, by first | exact HB0.out | exact HB0.out.setCell (p := ⟨w.heap.size + 1, 0, none⟩) (Nat.le_succ _) _⟩
  obtain ⟨m, rfl⟩ : ∃ m : Nat, N = m := ⟨N.toNat, by omega⟩
  have hml : m < l.length := by omega
  have hmi : (m : Int) < (l.length : Int) := by omega
  have hm0 : (0 : Int) ≤ (m : Int) := by omega
  obtain ⟨am, ham⟩ : ∃ am, l[m] = am := ⟨_, rfl⟩
  have hlm' : l[m]? = some am := by rw [← ham]; exact List.getElem?_eq_getElem hml
  obtain ⟨bm, offm, om, cm, rfl, hbm, hcm, _⟩ := HX.out.at_ hlm'
  have hcm0 := (HB0.out.cell (p := ⟨bm, offm + m, none⟩) (Nat.lt_of_lt_of_le hbm hB)).trans hcm
  have HCM := Lib.hid hcm
  clear hcm
  by_cases hks' : ks.length ≠ am.length
  · have hkb : ((ks.length : Int) != (am.length : Int)) = true := neqt (by omega)
    have HZ := Lib.hid (rst_size hml ham hks')
    obtain ⟨hd, r0, z0⟩ := HR0.out _ (Below.refl _ _)
    go_enter Tryd.func19, Tryd.ntmps19
    go_wp2_with fail
    refine bodyPost_ret (v := .tuple #[.agg #[.slice none 0 0], .int .i64 2]) (by simp [results, Tryd.results19, go_sem, *]) rfl ?_
    exact ⟨⟨.slice none 0 0, by rw [HZ.out.1], by rw [HZ.out.2]; exact LAx.nil⟩, by first | exact HB0.out | exact HB0.out.setCell (p := ⟨w.heap.size + 1, 0, none⟩) (Nat.le_succ _) _⟩
  have hks : ks.length = am.length := by omega
  clear hks'
  have hkb : ((ks.length : Int) != (am.length : Int)) = false := neqf (by omega)
  have HZ := Lib.hid (rst_ok hml ham hks)
  have HKS := Lib.hid hks
  have HAM := Lib.hid ham
  obtain ⟨hd, r0, z0⟩ := HR0.out _ (Below.refl _ _)
  obtain ⟨i0, hi, hz0, hz1, hz2⟩ := info_parts infoList
  obtain ⟨j0, hj, hy0, hy1, hy2⟩ := info_parts infoValue
  clear ham hks
  go_enter Tryd.func19, Tryd.ntmps19
  go_wp2_with fail
  clear hd r0 z0 hcm0 hkb
  go_loopw [9] (fun iv wr => ∃ (i : Nat) (v : Value), i ≤ l.length ∧ iv = .int .i64 i ∧ Hid (Acc encA 33 wr w.heap.size (w.heap.size + 3) v (rL m ks 0 (l.take i))) ∧ Hid (wr.cell? ⟨w.heap.size + 1 + 1, 0, none⟩ = some v ∧ wr.frozen? ⟨w.heap.size + 1 + 1, 0, none⟩ = false ∧ w.heap.size + 3 ≤ wr.heap.size) ∧
      Below (w.heap.size + 2) ((w.alloc (.cells #[.slice (some ⟨bm, offm, none⟩) l.length ca] 24)).alloc (.cells #[.slice none 0 0] 24)) wr) (fun i _ => l.length - (intOf i).toNat)
  case atStart =>
    have hc := cell_at ((w.alloc (.cells #[.slice (some ⟨bm, offm, none⟩) l.length ca] 24)).alloc (.cells #[.slice none 0 0] 24)) #[.slice none 0 0] 24 0 _ rfl
    have hz := frozen_new ((w.alloc (.cells #[.slice (some ⟨bm, offm, none⟩) l.length ca] 24)).alloc (.cells #[.slice none 0 0] 24)) #[.slice none 0 0] 24 0
    rw [World.size_alloc, World.size_alloc] at hc hz
    exact ⟨0, .slice none 0 0, Nat.zero_le _, rfl, Lib.hid (Acc.nil _ _ _ _ _), Lib.hid ⟨hc, hz, by simp⟩, (Below.refl _ _).alloc (by simp) _⟩
  case round =>
    obtain ⟨i, v, hil, rfl, HA, HV, hbel⟩ := hrel
    obtain ⟨hd1, r1, z1⟩ := HR0.out _ hbel
    obtain ⟨wo, hwo⟩ : ∃ wo : World, wo = wr := ⟨_, rfl⟩
    subst hwo
    have HBW := Lib.hid (HB0.out.trans (hbel.mono (by omega)))
    by_cases hlt : i < l.length
    · obtain ⟨a, hia⟩ : ∃ a, l[i] = a := ⟨_, rfl⟩
      have hia' : l[i]? = some a := by rw [← hia]; exact List.getElem?_eq_getElem hlt
      obtain ⟨b, off, oe, ce, hoa, hb, hc, hr⟩ := HX.out.at_ hia'
      cases hoa
      have hbw := Nat.lt_of_lt_of_le hb hB
      have HC1 := Lib.hid hc
      have HRA := Lib.hid hr
      have hki : (i : Int) < (l.length : Int) := by omega
      have hki0 : (0 : Int) ≤ (i : Int) := by omega
      have HTK := Lib.hid (rL_take (N := (m : Int)) (ks := ks) hlt hia)
      have hal := HLA.out a (List.mem_of_getElem? hia')
      have HKA := Lib.hid (show (i : Int) = m → ks.length = a.length from fun e => by
        have : i = m := by omega
        subst this
        rw [HKS.out, ← hia, HAM.out])
      clear hc hr hia hia' r1 z1
      go_wp2_with fail
      go_loopw [11, 10] (fun kv v2 wr => ∃ k : Nat, k ≤ a.length ∧ kv = .int .i64 k ∧ Hid (Acc encV 48 wr w.heap.size wo.heap.size v2 (rAx i m ks (a.take k))) ∧ Below wo.heap.size wo wr) (fun k _ _ => a.length - (intOf k).toNat)
      case atStart => exact ⟨0, Nat.zero_le _, rfl, Lib.hid (by rw [List.take_zero, rAx_nil]; exact Acc.nil _ _ _ _ _), Below.refl _ _⟩
      case round =>
        obtain ⟨k, hk, rfl, HA2, hbel2⟩ := hrel
        have HBW2 := Lib.hid (HBW.out.trans (hbel2.mono HBW.out.size))
        have hs3 := HV.out.2.2
        have hd2 := (hbel2.cell (p := ⟨w.heap.size, 0, none⟩) (by simp; omega)).trans hd1
        have hc2 := (HBW2.out.cell (p := ⟨bm, offm + i, none⟩) hbw).trans HC1.out
        obtain ⟨cur, hcur⟩ : ∃ cur, rAx i m ks (a.take k) = cur := ⟨_, rfl⟩
        have HCUR := Lib.hid hcur
        rw [hcur] at HA2
        have hcl : cur.length ≤ 1000 := by have := rAx_len i m ks (a.take k); rw [hcur, List.length_take] at this; omega
        obtain ⟨ao, cp, hvf⟩ := HA2.out.form
        subst hvf
        clear hcur hd1
        by_cases hlt2 : k < a.length
        · obtain ⟨oa3, ca3, hsl, _, _, hel3⟩ := HRA.out.slice
          cases hsl
          obtain ⟨vv, hvk⟩ : ∃ vv, a[k] = vv := ⟨_, rfl⟩
          have hvk' : a[k]? = some vv := by rw [← hvk]; exact List.getElem?_eq_getElem hlt2
          obtain ⟨b3, off3, oe3, ce3, rfl, hb3, c0, c1, c2, c3, hr3⟩ := hel3 k _ hvk'
          have hb3w : b3 < w.heap.size := Nat.lt_of_lt_of_le hb3 hB
          rw [← HBW2.out.cell (p := ⟨b3, _, none⟩) hb3w] at c0 c1 c2 c3
          have HVK := Lib.hid hvk'
          have HR3 := Lib.hid hr3
          have hkk : (k : Int) < (a.length : Int) := by omega
          have hkk0 : (0 : Int) ≤ (k : Int) := by omega
          clear hvk hvk' hel3 hr3
          by_cases hin : (i : Int) = m
          · have fim : ((i : Int) != (m : Int)) = false := neqf hin
            have HIN := Lib.hid hin
            have hkl : k < ks.length := by rw [HKA.out hin]; exact hlt2
            have hkl' : (k : Int) < (ks.length : Int) := by omega
            obtain ⟨bb, hbb⟩ : ∃ bb, ks[k] = bb := ⟨_, rfl⟩
            have hbb' : ks[k]? = some bb := by rw [← hbb]; exact List.getElem?_eq_getElem hkl
            obtain ⟨b5, off5, c5, rfl, hb5, hc5, hi5⟩ := HEY.out k _ hbb'
            cases hi5
            rw [← HBW2.out.cell (p := ⟨b5, _, none⟩) (Nat.lt_of_lt_of_le hb5 hB)] at hc5
            have HST := Lib.hid (rAx_in (k := k) HIN.out HVK.out hbb')
            clear hin hbb hbb'
            cases bb
            · have HS2 := Lib.hid (show rAx i m ks (a.take (k + 1)) = rAx i m ks (a.take k) ++ [] from HST.out)
              clear HST
              go_wp2_with fail
              go_roundw
              case rel => exact ⟨k + 1, hlt2, by go_num, Lib.hid (by rw [HS2.out, HCUR.out, List.append_nil]; exact HA2.out), hbel2⟩
              case measure => simp [intOf]; omega
            · have HS2 := Lib.hid (show rAx i m ks (a.take (k + 1)) = rAx i m ks (a.take k) ++ [vv] from HST.out)
              clear HST
              go_wp2_with (at_builtin; refine Acc.append (E := encV) (e := 48) Tryd.underlying33 hj hy0 hy1 hy2 rfl (by decide) rfl _ _ rfl w.heap.size wo.heap.size (.slice ao cur.length cp) cur rfl ?c1 ⟨wr.heap.size, 0, none⟩ 1 vv (.slice oe3 vv.l.length ce3) rfl rfl ?c2 ?c3 ?c4 ?c5 ?_)
              case c1 => exact HA2.out.later (below1 _ _)
              case c2 => first | exact fun j u hu => hu | exact fun j u hu => new_cells wr (V.cs (vv, .slice oe3 vv.l.length ce3)) _ j u hu
              case c3 => exact (RepS.of (HR3.out.later (HBW2.out.mono hB))).keep (fun b hb => ⟨.inl (by omega), by have := HBW2.out.size; simp; omega, fun e => by have := (HA2.out.lt b e).1; have := HBW.out.size; omega⟩) (fun b hb => (below1 wr _).block b (by have := HBW2.out.size; omega))
              case c4 => exact (by omega)
              case c5 => have := hbel2.size; simp; omega
              intro v' w3 hA3 hg3
              have HA3 := Lib.hid hA3
              have HB3 := Lib.hid ((hbel2.alloc hbel2.size (.cells #[.int .i64 vv.t, .int .i64 vv.n, .string vv.s, .slice oe3 vv.l.length ce3] 48)).grown hg3 (by have := hbel2.size; simp; omega) (fun q hq => (HA2.out.lt q hq).1))
              clear hA3 hg3
              go_wp2_with fail
              go_roundw
              case rel => exact ⟨k + 1, hlt2, by go_num, Lib.hid (by rw [HS2.out, HCUR.out]; exact HA3.out), HB3.out⟩
              case measure => simp [intOf]; omega
          · have fim : ((i : Int) != (m : Int)) = true := neqt hin
            have HST := Lib.hid (rAx_out (ks := ks) (k := k) hin HVK.out)
            clear hin
            go_wp2_with (at_builtin; refine Acc.append (E := encV) (e := 48) Tryd.underlying33 hj hy0 hy1 hy2 rfl (by decide) rfl _ _ rfl w.heap.size wo.heap.size (.slice ao cur.length cp) cur rfl ?c1 ⟨wr.heap.size, 0, none⟩ 1 vv (.slice oe3 vv.l.length ce3) rfl rfl ?c2 ?c3 ?c4 ?c5 ?_)
            case c1 => exact HA2.out.later (below1 _ _)
            case c2 => first | exact fun j u hu => hu | exact fun j u hu => new_cells wr (V.cs (vv, .slice oe3 vv.l.length ce3)) _ j u hu
            case c3 => exact (RepS.of (HR3.out.later (HBW2.out.mono hB))).keep (fun b hb => ⟨.inl (by omega), by have := HBW2.out.size; simp; omega, fun e => by have := (HA2.out.lt b e).1; have := HBW.out.size; omega⟩) (fun b hb => (below1 wr _).block b (by have := HBW2.out.size; omega))
            case c4 => exact (by omega)
            case c5 => have := hbel2.size; simp; omega
            intro v' w3 hA3 hg3
            have HA3 := Lib.hid hA3
            have HB3 := Lib.hid ((hbel2.alloc hbel2.size (.cells #[.int .i64 vv.t, .int .i64 vv.n, .string vv.s, .slice oe3 vv.l.length ce3] 48)).grown hg3 (by have := hbel2.size; simp; omega) (fun q hq => (HA2.out.lt q hq).1))
            clear hA3 hg3
            go_wp2_with fail
            go_roundw
            case rel => exact ⟨k + 1, hlt2, by go_num, Lib.hid (by rw [HST.out, HCUR.out]; exact HA3.out), HB3.out⟩
            case measure => simp [intOf]; omega
        · have hka : k = a.length := by omega
          have HCA := Lib.hid (show rAx i m ks a = cur by rw [← HCUR.out, hka, List.take_length])
          obtain ⟨hv1, hv2, hv3⟩ := HV.out
          obtain ⟨av, cv, hvf2⟩ := HA.out.form
          rw [rL_len, List.length_take, Nat.min_eq_left hil] at hvf2
          subst hvf2
          have hw1 := (hbel2.cell (p := ⟨w.heap.size + 1 + 1, 0, none⟩) (by simp; omega)).trans hv1
          have hw2 := (hbel2.frozen (p := ⟨w.heap.size + 1 + 1, 0, none⟩) (by simp; omega)).trans hv2
          clear hv1 hv2 HV
          go_wp2_with (at_builtin; refine Acc.append (E := encA) (e := 33) Tryd.underlying22 hi hz0 hz1 hz2 rfl (by decide) rfl _ _ rfl w.heap.size (w.heap.size + 3) (.slice av i cv) (rL m ks 0 (l.take i)) rfl ?c1 ⟨wr.heap.size, 0, none⟩ 1 cur (.slice ao cur.length cp) rfl rfl ?c2 ?c3 ?c4 ?c5 ?_)
          case c1 => exact (HA.out.later hbel2).later (below1 _ _)
          case c2 => exact fun j u hu => new_cells wr [.slice ao cur.length cp] _ j u hu
          case c3 => exact (HA2.out.values (by omega)).keep (fun b hb => ⟨by have := hb.1; omega, by have := hb.2; simp; omega, fun e => by have := HA.out.lt b e; have := hb.1; omega⟩) (fun b hb => (below1 wr _).block b hb.2)
          case c4 => rw [rL_len, List.length_take]; omega
          case c5 => have := hbel2.size; simp; omega
          intro v' w3 hA3 hg3
          obtain ⟨o3, c3, hvf3⟩ := hA3.form
          rw [List.length_append, rL_len, List.length_take, Nat.min_eq_left hil, List.length_singleton] at hvf3
          subst hvf3
          obtain ⟨hx1, hx2⟩ := cell_grown hg3 (fun q hq => by have := (HA.out.lt q hq).1; omega) hw1 hw2
          have HX3 := Lib.hid (And.intro hx1 hx2)
          have HA3 := Lib.hid hA3
          have HB3 := Lib.hid (((hbel.trans (hbel2.mono (by omega))).alloc (by have := hbel2.size; omega) (.cells #[.slice ao cur.length cp] 33)).grown hg3 (by have := hbel2.size; simp; omega) (fun q hq => by have := (HA.out.lt q hq).1; omega))
          have hs9 : w.heap.size + 3 ≤ w3.heap.size := by have h1 := hg3.size; have h2 := hbel2.size; simp at h1; omega
          clear hA3 hg3 hw1 hw2
          go_wp2_with fail
          go_roundw
          case rel =>
            refine ⟨i + 1, .slice o3 (i + 1) c3, hlt, by go_num, Lib.hid (by rw [HTK.out, HCA.out]; exact HA3.out.setCell (by omega) (by omega)), Lib.hid ⟨World.cell?_setCell_same _ _ _ HX3.out.1, by rw [World.frozen?_setCell]; exact HX3.out.2, by rw [World.size_setCell]; exact hs9⟩, ?_⟩
            exact HB3.out.setCell (p := ⟨w.heap.size + 1 + 1, 0, none⟩) (Nat.le_refl _) _
          case measure => simp [intOf]; omega
    · obtain rfl : i = l.length := by omega
      obtain ⟨hv1, hv2, hv3⟩ := HV.out
      obtain ⟨av, cv, hvf2⟩ := HA.out.form
      rw [List.take_length, rL_len] at hvf2
      subst hvf2
      go_wp2_with fail
      refine bodyPost_ret (v := .tuple #[.agg #[.slice av l.length cv], .int .i64 0]) (by simp [results, Tryd.results19, go_sem, *]) rfl ?_
      refine ⟨⟨.slice av l.length cv, by rw [HZ.out.1], ?_⟩, HBW.out.setCell (p := ⟨w.heap.size + 1, 0, none⟩) (Nat.le_succ _) _⟩
      rw [HZ.out.2]
      have h := (HA.out.setCell (g := w.heap.size + 1) (o := 0) (u := .slice av l.length cv) (by omega) (by omega)).axes (by rw [rL_len, List.length_take, Nat.min_self]; exact hlm)
      rw [List.take_length] at h
      exact h

end Go.Proofs.YthnlkijkgnmbhaaDoor
