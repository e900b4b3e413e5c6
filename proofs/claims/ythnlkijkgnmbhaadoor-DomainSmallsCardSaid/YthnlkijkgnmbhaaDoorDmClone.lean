/-
  slices.Clone at lists of values; clone of package domain. Nothing is assumed.
-/
import Derived.Test.YthnlkijkgnmbhaaDoorDmRow
import Derived.Laws.AppendOwn
import Derived.Deep.RegionLaw
namespace Go.Proofs.YthnlkijkgnmbhaaDoor
open Go.RowKit

/-- A list of values with what lies behind each. -/
def withS (l : List V) (sl : Nat → Value) : List (V × Value) := l.zipIdx.map fun x => (x.1, sl x.2)
theorem withS_len (l : List V) (sl : Nat → Value) : (withS l sl).length = l.length := by simp [withS]
theorem withS_at (l : List V) (sl : Nat → Value) (i : Nat) : (withS l sl)[i]? = (l[i]?).map fun v => (v, sl i) := by
  simp [withS, List.getElem?_zipIdx, Function.comp_def]

set_option maxRecDepth 100000 in
set_option maxHeartbeats 1600000 in
theorem sclone_any (l : List V) (x : Value) (w : World) (B : Nat) (hx : Rep w B x l) (hl : l.length ≤ 1000) :
    Calls Tryd.prog 57 #[x] w fun e w' =>
      (∃ (oa : Option Addr) (c : Nat), e = .returned (.slice oa l.length c) ∧ l.length ≤ c ∧ (l = [] ∨ ∃ (g : Nat) (sl : Nat → Value), oa = some ⟨g, 0, none⟩ ∧ w.heap.size ≤ g ∧ RowV w' g l.length (fun i => (l[i]?).map fun v => (v, sl i)) ∧
        (∀ (i : Nat) (v : V), l[i]? = some v → Rep w B (sl i) v.l))) ∧ Below w.heap.size w w' := by
  have q22 : ∀ (w : World) (a : Option Addr) (n c n' c' : Nat), (binOp .eql 33 (.slice a n c) (.slice none n' c')).run Tryd.prog w = .ok (.bool a.isNone) w := fun w a n c n' c' => Lib.run_eql_slice_nil w _ _ a n c n' c' Tryd.underlying33
  obtain ⟨i0, hi, hz0, hz1, hz2⟩ := info_parts infoValue
  have hdata : ∃ (oa : Option Addr) (cap : Nat), x = .slice oa l.length cap ∧ (oa = none → l = []) ∧ ∀ ad, oa = some ad → ∃ ps : List (V × Value), ∃ sl, ps = withS l sl ∧ (∀ j u, (flat ps)[j]? = some u → w.cell? (ad.add j) = some u) ∧ (∀ u ∈ flat ps, u.oneCell' = true) ∧ ∀ i v, l[i]? = some v → Rep w B (sl i) v.l := by
    cases hx with
    | empty oa cap => exact ⟨oa, cap, rfl, fun _ => rfl, fun ad _ => ⟨_, fun _ => .nilIface, rfl, fun j u h => by simp [withS, flat] at h, fun u h => by simp [withS, flat] at h, fun i v h => by simp at h⟩⟩
    | arr b off cap l sl hb hlc hm hc hr =>
      refine ⟨_, cap, rfl, fun h => (nomatch h), fun ad had => ⟨_, sl, rfl, fun j u hj => ?_, fun u hu => ?_, hr⟩⟩
      · cases had
        have hjl : j < l.length * 4 := by
          have := (List.getElem?_eq_some_iff.1 hj).1
          rwa [flat_len, withS_len] at this
        have hi4 : j / 4 < l.length := by omega
        have hp : (withS l sl)[j / 4]? = some (l[j / 4], sl (j / 4)) := by rw [withS_at, List.getElem?_eq_getElem hi4]; rfl
        have hf := flat_at (withS l sl) (j / 4) (j % 4) _ hp (by omega)
        rw [show j / 4 * 4 + j % 4 = j by omega, hj] at hf
        obtain ⟨c0, c1, c2, c3⟩ := hc (j / 4) _ (List.getElem?_eq_getElem hi4)
        rw [Addr.add_lit]
        have hcase : j % 4 = 0 ∨ j % 4 = 1 ∨ j % 4 = 2 ∨ j % 4 = 3 := by omega
        rcases hcase with h | h | h | h
        · rw [h] at hf; cases hf; rw [show off + j = off + j / 4 * 4 by omega]; exact c0
        · rw [h] at hf; cases hf; rw [show off + j = off + j / 4 * 4 + 1 by omega]; exact c1
        · rw [h] at hf; cases hf; rw [show off + j = off + j / 4 * 4 + 2 by omega]; exact c2
        · rw [h] at hf; cases hf; rw [show off + j = off + j / 4 * 4 + 3 by omega]; exact c3
      · obtain ⟨p, hp, hu⟩ := List.mem_flatMap.1 hu
        obtain ⟨i, hpi⟩ := List.mem_iff_getElem?.1 hp
        rw [withS_at] at hpi
        obtain ⟨v, hv, rfl⟩ := Option.map_eq_some_iff.1 hpi
        obtain ⟨oe, ce, he, _⟩ := (hr i v hv).slice
        simp only [V.cs, List.mem_cons, List.not_mem_nil, or_false] at hu
        rcases hu with rfl | rfl | rfl | rfl
        · rfl
        · rfl
        · rfl
        · rw [he]; rfl
  obtain ⟨oa, cap, rfl, hnil, hsome⟩ := hdata
  cases oa with
  | none =>
    have HN := Lib.hid (hnil rfl)
    clear hnil hsome hx
    go_enter Tryd.func57, Tryd.ntmps57
    go_wp2_with fail
    go_ret
    exact ⟨⟨none, 0, by rw [HN.out]; rfl, by rw [HN.out]; exact Nat.le_refl _, .inl HN.out⟩, Below.refl _ _⟩
  | some ad =>
    obtain ⟨ps, sl, hps, hcell, hone, hrp⟩ := hsome ad rfl
    have hpl : ps.length = l.length := by rw [hps, withS_len]
    have HPS := Lib.hid hps
    have HRP := Lib.hid hrp
    clear hnil hsome hx hps hrp
    go_enter Tryd.func57, Tryd.ntmps57
    go_wp2_with (at_builtin; refine wpList_append_own _ rfl _ _ 33 rfl w.heap.size 48 i0 (.agg #[.int .i64 0, .int .i64 0, .string ⟨#[]⟩, .slice none 0 0]) 4 56 Tryd.underlying33 hi hz0 hz1 hz2 rfl (by decide) _ _ _ rfl (World.ownsRow_made w #[] 0 (Nat.le_refl _) (Nat.zero_le _) rfl) ad l.length cap (flat ps) rfl ?qc1 ?qc2 ?qc3 ?qc4 ?qc5 ?qc6 ?_)
    case qc1 => rw [flat_len, hpl]
    case qc2 => exact fun j u hj => Lib.cell?_alloc_some _ (hcell j u hj)
    case qc3 => exact hone
    case qc4 => unfold maxLen; omega
    case qc5 => omega
    case qc6 => simp
    intro v' w1 hown hgrow hnn
    have hbel : Below w.heap.size w w1 := ((Below.refl _ w).alloc (Nat.le_refl _) _).grown hgrow (by simp) (by intro k hk; simp [Value.ownBlock] at hk; omega)
    have hform : ∃ g c, v' = .slice (some ⟨g, 0, none⟩) l.length c ∧ l.length ≤ c := by
      rcases hown.2 with ⟨h0, hk⟩ | ⟨g, c, cur, hv, _, _, hnc, _⟩
      · exact absurd h0 hnn
      · exact ⟨g, c, hv, hnc⟩
    obtain ⟨g, c, rfl, hgc⟩ := hform
    rw [← hpl] at hown
    obtain ⟨hg, _, hrow⟩ := RowV.of_owns hown
    rw [hpl] at hrow
    have HR := Lib.hid hrow
    have HB1 := Lib.hid hbel
    clear hown hgrow hnn hrow hbel hcell hone
    go_wp2
    go_ret
    refine ⟨⟨_, c, rfl, hgc, .inr ⟨g, sl, rfl, hg, HR.out.weak (fun i p _ h => ?_), HRP.out⟩⟩, HB1.out⟩
    rw [HPS.out, withS_at]
    exact h

end Go.Proofs.YthnlkijkgnmbhaaDoor
