/-
  tupleAt of package domain: a tuple from its places. Nothing is assumed.
-/
import Derived.Test.YthnlkijkgnmbhaaDoorDmCopy
import Derived.Test.YthnlkijkgnmbhaaDoorDmBase
import Derived.OwnWalk
namespace Go.Proofs.YthnlkijkgnmbhaaDoor
open Go.RowKit

theorem pick_at : ∀ {l : List (List V)} {q : List Nat} {i : Nat} {a : List V} {p : Nat}, l[i]? = some a → q[i]? = some p → (pick l q)[i]? = some (a.getD p zeroV)
  | [], _, _, _, _, h, _ => by simp at h
  | _ :: _, [], _, _, _, _, h => by simp at h
  | a :: l, p :: q, 0, a', p', h, h' => by
    simp at h h'
    subst h h'
    rfl
  | a :: l, p :: q, i + 1, a', p', h, h' => by
    rw [pick, List.getElem?_cons_succ]
    exact pick_at (by simpa using h) (by simpa using h')
theorem pick_len : ∀ {l : List (List V)} {q : List Nat}, q.length = l.length → (pick l q).length = l.length
  | [], [], _ => rfl
  | [], _ :: _, h => by simp at h
  | _ :: _, [], h => by simp at h
  | a :: l, p :: q, h => by
    rw [pick, List.length_cons, List.length_cons, pick_len (by simpa using h)]

set_option maxRecDepth 100000 in
set_option maxHeartbeats 3200000 in
theorem tupleAt_any (l : List (List V)) (q : List Nat) (x y : Value) (w : World) (B : Nat) (hx : LAx w B x l) (hy : LInts w B y (q.map Int.ofNat)) (hB : B ≤ w.heap.size) (hl : l.length ≤ 1000) (hql : q.length = l.length)
    (hin : ∀ (i : Nat) (a : List V) (p : Nat), l[i]? = some a → q[i]? = some p → p < a.length) (hft : ∀ a, a ∈ l → ∀ v, v ∈ a → v.fits = true) :
    Calls Tryd.prog 40 #[y, x] w fun e w' => (∃ sl, e = .returned sl ∧ RepS w' (fun b => w.heap.size ≤ b ∧ b < w'.heap.size) sl (pick l q)) ∧ Below w.heap.size w w' := by
  have HX := Lib.hid hx
  obtain ⟨oa, ca, rfl, _, hlm⟩ := hx.form
  obtain ⟨oy, cy, rfl, hym, hely⟩ := hy
  rw [List.length_map] at hym ⊢
  have HEY := Lib.hid hely
  have HIN := Lib.hid hin
  have HFT := Lib.hid hft
  have HQL := Lib.hid hql
  clear hx hely hin hft
  obtain ⟨i0, hi, hz0, hz1, hz2⟩ := info_parts infoValue
  go_enter Tryd.func40, Tryd.ntmps40
  go_wp2_with (at_make; refine wpList_make_full _ rfl _ _ 33 rfl w.heap.size 48 i0 _ 4 Tryd.underlying33 hi hz0 hz1 _ _ _ _ l.length rfl rfl rfl rfl ?b2 ?b3 (Nat.le_refl _) ?_)
  case b2 => first | omega | (rw [hz2]; omega)
  case b3 => unfold maxLen; omega
  intro w4 hown4 hgrow4
  have hb4 : Below w.heap.size w w4 := (Below.refl _ _).grown hgrow4 (Nat.le_refl _) (fun k e => by cases e)
  have HR4 := Lib.hid (RowV.made hown4 (Nat.le_refl _))
  have HB4 := Lib.hid hb4
  clear hown4 hgrow4 hb4
  go_wp2_with fail
  go_loopw [13] (fun v wr => ∃ i : Nat, i ≤ l.length ∧ v = .int .i64 i ∧ Hid (∃ f, RowV wr w.heap.size l.length f ∧ ∀ j u, (pick l q)[j]? = some u → j < i → ∃ s, f j = some (u, s) ∧ RepS wr (fun b => w.heap.size < b ∧ b < wr.heap.size) s u.l) ∧ Below w.heap.size w wr) (fun v _ => l.length - (intOf v).toNat)
  case atStart => exact ⟨0, Nat.zero_le _, rfl, Lib.hid ⟨_, HR4.out, fun j u _ h => absurd h (Nat.not_lt_zero _)⟩, HB4.out⟩
  case round =>
    obtain ⟨i, hil, rfl, HF, hbel⟩ := hrel
    obtain ⟨f, hrow, hf⟩ := HF.out
    have HROW := Lib.hid hrow
    have HFF := Lib.hid hf
    have HGL := Lib.hid hrow.lt
    clear hf
    by_cases hlt : i < l.length
    · obtain ⟨a, ha⟩ : ∃ a, l[i] = a := ⟨_, rfl⟩
      have hai : l[i]? = some a := by rw [← ha]; exact List.getElem?_eq_getElem hlt
      have hiq : i < q.length := by rw [HQL.out]; exact hlt
      obtain ⟨p, hp⟩ : ∃ p, q[i] = p := ⟨_, rfl⟩
      have hqi : q[i]? = some p := by rw [← hp]; exact List.getElem?_eq_getElem hiq
      have hpl := HIN.out i a p hai hqi
      obtain ⟨u, hu⟩ : ∃ u, a[p] = u := ⟨_, rfl⟩
      have hpu : a[p]? = some u := by rw [← hu]; exact List.getElem?_eq_getElem hpl
      have HPK := Lib.hid (show (pick l q)[i]? = some u from by rw [pick_at hai hqi, List.getD, hpu]; rfl)
      obtain ⟨b, off, oe, ce, rfl, hb, hc, hr⟩ := HX.out.at_ hai
      have hc1 := (hbel.cell (p := ⟨b, off + i, none⟩) (Nat.lt_of_lt_of_le hb hB)).trans hc
      obtain ⟨b5, off5, c5, rfl, hb5, hc5, hi5⟩ := HEY.out i (Int.ofNat p) (by rw [List.getElem?_map, hqi]; rfl)
      cases hi5
      have hc6 := (hbel.cell (p := ⟨b5, off5 + i, none⟩) (Nat.lt_of_lt_of_le hb5 hB)).trans hc5
      rw [show Int.ofNat p = (p : Int) from rfl] at hc6
      obtain ⟨oa3, ca3, hsl, _, _, hel3⟩ := hr.slice
      cases hsl
      obtain ⟨b2, off2, oe2, ce2, rfl, hb2, c0, c1, c2, c3, hr2⟩ := hel3 p u hpu
      rw [← hbel.cell (p := ⟨b2, _, none⟩) (Nat.lt_of_lt_of_le hb2 hB)] at c0 c1 c2 c3
      have HCL := Lib.hid (clone_any u (HFT.out a (List.mem_of_getElem? hai) u (List.mem_of_getElem? hpu)) (.slice oe2 u.l.length ce2) wr B (hr2.later (hbel.mono hB)) (Nat.le_trans hB hbel.size))
      have hki : (i : Int) < (l.length : Int) := by omega
      have hki0 : (0 : Int) ≤ (i : Int) := by omega
      have hkq : (i : Int) < (q.length : Int) := by omega
      have hkp : (p : Int) < (a.length : Int) := by omega
      have hkp0 : (0 : Int) ≤ (p : Int) := by omega
      clear ha hai hp hqi hu hpu hc hc5 hel3 hr hr2 hrow
      go_wp2_with fail
      refine HCL.out.mono ?_
      rintro e w2 ⟨⟨sl2, rfl, hrs⟩, hb2'⟩
      obtain ⟨o2, c2', hvf2, _⟩ := hrs.form
      subst hvf2
      have hrow2 : RowV w2 w.heap.size l.length f := HROW.out.keep (hb2'.block _ HGL.out)
      have HROW2 := Lib.hid hrow2
      have HRS := Lib.hid hrs
      have HB2 := Lib.hid hb2'
      obtain ⟨d0, hd0⟩ := hrow2.there (o := i * 4) (by omega)
      obtain ⟨d1, hd1⟩ := hrow2.there (o := i * 4 + 1) (by omega)
      obtain ⟨d2, hd2⟩ := hrow2.there (o := i * 4 + 2) (by omega)
      obtain ⟨d3, hd3⟩ := hrow2.there (o := i * 4 + 3) (by omega)
      have e0 := hrow2.frozen (i * 4)
      have e1 := hrow2.frozen (i * 4 + 1)
      have e2 := hrow2.frozen (i * 4 + 2)
      have e3 := hrow2.frozen (i * 4 + 3)
      clear hrow2 hrs hb2' c0 c1 c2 c3 hc1 hc6
      go_wp2_with fail
      go_roundw
      case rel =>
        refine ⟨i + 1, hlt, by go_num, Lib.hid ⟨_, HROW2.out.store hlt u (.slice o2 u.l.length c2'), fun j z hz hj => ?_⟩, put4_below (v := u) (s := .slice o2 u.l.length c2') (k := i) (hbel.trans (HB2.out.mono hbel.size)) (Nat.le_refl _)⟩
        by_cases e : j = i
        · subst e
          rw [HPK.out] at hz
          cases hz
          refine ⟨_, if_pos rfl, HRS.out.keep (fun b hb => ⟨by have := hb.1; have := HGL.out; omega, ?_⟩) (fun b hb => put4_other w2 w.heap.size j u _ (by have := hb.1; have := HGL.out; omega))⟩
          have := hb.2
          show b < (put4 w2 w.heap.size j u (.slice o2 u.l.length c2')).heap.size
          rw [put4_size]
          exact this
        · obtain ⟨s, h1, h2⟩ := HFF.out j z hz (by omega)
          refine ⟨s, by simp only [if_neg e]; exact h1, h2.keep (fun b hb => ⟨hb.1, ?_⟩) (fun b hb => (put4_other w2 w.heap.size i u _ (by have := hb.1; omega)).trans (HB2.out.block b hb.2))⟩
          have := hb.2
          have := HB2.out.size
          show b < (put4 w2 w.heap.size i u (.slice o2 u.l.length c2')).heap.size
          rw [put4_size]
          omega
      case measure => simp [intOf]; omega
    · obtain rfl : i = l.length := by omega
      go_wp2_with fail
      go_ret
      refine ⟨⟨.slice (some ⟨w.heap.size, 0, none⟩) l.length l.length, rfl, ?_⟩, hbel⟩
      have hpl := pick_len HQL.out
      have h := RowV.repS (l := pick l q) (S := fun b => w.heap.size ≤ b ∧ b < wr.heap.size) (cap := l.length) (by rw [hpl]; exact HROW.out) ⟨Nat.le_refl _, HGL.out⟩ (by rw [hpl]; exact Nat.le_refl _) (by rw [hpl]; exact hlm) (fun j v hv => by
        have hj := (List.getElem?_eq_some_iff.1 hv).1
        rw [hpl] at hj
        obtain ⟨s, h1, h2⟩ := HFF.out j v hv hj
        exact ⟨s, h1, h2.keep (fun b hb => ⟨by have := hb.1; omega, hb.2⟩) (fun _ _ => rfl)⟩)
      rw [hpl] at h
      exact h

end Go.Proofs.YthnlkijkgnmbhaaDoor
