/-
  The step of two machines at once: the function of Same. Nothing is assumed.
-/
import Derived.Test.YtaipaddfehpmgaaDoorPaRows
import Derived.Test.YtaipaddfehpmgaaDoorPaStepr
import Derived.BigRegion
import Derived.Deep.RegionHeldLaw
namespace Go.Proofs.YtaipaddfehpmgaaDoor
open Go.RowKit

abbrev P2 := Int × Int
def fl2 (l : List P2) : List Value := l.flatMap fun p => [Value.int .u64 p.1, Value.int .u64 p.2]
theorem fl2_len (l : List P2) : (fl2 l).length = l.length * 2 := by
  induction l with
  | nil => rfl
  | cons a l ih => simp only [fl2, List.flatMap_cons, List.length_append, List.length_cons, List.length_nil] at *; omega
theorem fl2_append (l m : List P2) : fl2 (l ++ m) = fl2 l ++ fl2 m := by simp [fl2]
theorem fl2_at : ∀ (l : List P2) (k : Nat) (p : P2), l[k]? = some p → (fl2 l)[k * 2]? = some (.int .u64 p.1) ∧ (fl2 l)[k * 2 + 1]? = some (.int .u64 p.2)
  | [], k, p, h => by cases h
  | a :: l, 0, p, h => by cases h; exact ⟨rfl, rfl⟩
  | a :: l, k + 1, p, h => by
    have h' : l[k]? = some p := h
    have := fl2_at l k p h'
    rw [show (k + 1) * 2 = k * 2 + 2 by omega, show k * 2 + 2 + 1 = (k * 2 + 1) + 2 by omega]
    exact this
theorem fl2_set : ∀ (l : List P2) (k : Nat) (p : P2), ((fl2 l).set (k * 2) (.int .u64 p.1)).set (k * 2 + 1) (.int .u64 p.2) = fl2 (l.set k p)
  | [], k, p => by simp [fl2]
  | a :: l, 0, p => by simp [fl2]
  | a :: l, k + 1, p => by
    have := fl2_set l k p
    rw [List.set_cons_succ]
    show ((Value.int .u64 a.1 :: Value.int .u64 a.2 :: fl2 l).set ((k + 1) * 2) _).set ((k + 1) * 2 + 1) _ = Value.int .u64 a.1 :: Value.int .u64 a.2 :: fl2 (l.set k p)
    rw [← this, show (k + 1) * 2 + 1 = (k * 2 + 1) + 1 + 1 by omega, show (k + 1) * 2 = k * 2 + 1 + 1 by omega]
    rfl
/-- The head of a row of pairs, the rest zero. -/
def fillP (R : List P2) (k : Nat) : List P2 := R.take k ++ List.replicate (R.length - k) (0, 0)
theorem fillP_len (R : List P2) (k : Nat) (h : k ≤ R.length) : (fillP R k).length = R.length := by unfold fillP; simp; omega
theorem fillP_set (R : List P2) (k : Nat) (h : k < R.length) : (fillP R k).set k R[k] = fillP R (k + 1) := by
  have e : R.take (k + 1) = R.take k ++ [R[k]] := by rw [List.take_add_one, List.getElem?_eq_getElem h]; rfl
  have hl : (R.take k).length = k := by rw [List.length_take]; omega
  unfold fillP
  rw [List.set_append_right _ _ (by omega), hl, Nat.sub_self, e, List.append_assoc, show R.length - k = (R.length - (k + 1)) + 1 by omega, List.replicate_succ]
  rfl
theorem fillP_all (R : List P2) : fillP R R.length = R := by unfold fillP; simp
theorem fillP_zero (R : List P2) : fillP R 0 = List.replicate R.length (0, 0) := by unfold fillP; simp
theorem made2 (n : Nat) : (madeCells #[Value.int .u64 0, .int .u64 0] (n * 2)).toList = fl2 (List.replicate n (0, 0)) := by
  apply List.ext_getElem?
  intro i
  have h1 : (fl2 (List.replicate n ((0 : Int), (0 : Int))))[i]? = if i < n * 2 then some (.int .u64 0) else none := by
    split
    · rename_i h
      have hk : (List.replicate n ((0 : Int), (0 : Int)))[i / 2]? = some (0, 0) := by rw [List.getElem?_replicate, if_pos (by omega)]
      have := fl2_at _ (i / 2) _ hk
      rcases Nat.mod_two_eq_zero_or_one i with h0 | h0
      · rw [show i = i / 2 * 2 by omega]; exact this.1
      · rw [show i = i / 2 * 2 + 1 by omega]; exact this.2
    · rename_i h
      rw [List.getElem?_eq_none]
      rw [fl2_len, List.length_replicate]
      omega
  rw [h1]
  unfold madeCells
  simp only [Array.toList_map, Array.toList_range, List.getElem?_map]
  split
  · rename_i h
    rw [List.getElem?_range h]
    rcases Nat.mod_two_eq_zero_or_one i with h0 | h0 <;> simp [h0]
  · rename_i h
    rw [List.getElem?_eq_none (by rw [List.length_range]; omega)]
    rfl

/-- A row of pairs. -/
def OwnP (w : World) (base : Nat) (v : Value) (l : List P2) : Prop := w.ownsRow base 54 2 v l.length (fl2 l)
theorem infoP : (Tryd.prog.info? 54).map (fun i => (i.zero, i.size, i.bytes)) = some (some (.agg #[.int .u64 0, .int .u64 0]), 2, 16) := by kernel_rfl
/-- The pairs after a pair. -/
def stepP (ps qs : List Ps) (p : P2) : List P2 := List.zip (stepL ps p.1) (stepL qs p.2)
theorem stepP_len (ps qs : List Ps) (p : P2) : (stepP ps qs p).length = 95 := by unfold stepP; rw [List.length_zip, stepL_len, stepL_len]; rfl
theorem stepP_at {ps qs : List Ps} {p : P2} {k : Nat} {a b : Int} (ha : (stepL ps p.1)[k]? = some a) (hb : (stepL qs p.2)[k]? = some b) : (stepP ps qs p)[k]? = some (a, b) := by
  unfold stepP
  exact List.getElem?_zip_eq_some.2 ⟨ha, hb⟩
/-- What the function of Same holds: both steppers, below a block. -/
structure IsP (w : World) (N bA bB bm br gr g cap capr bm' br' gr' g' cap' capr' : Nat) (ps qs : List Ps) (last last' : Int) : Prop where
  a : IsSt w N bm br gr g cap capr ps last
  b : IsSt w N bm' br' gr' g' cap' capr' qs last'
  ca : w.heap[bA]? = some (.cells #[stV bm br] 47 (0, 0))
  cb : w.heap[bB]? = some (.cells #[stV bm' br'] 47 (0, 0))
  la : bA < N
  lb : bB < N
theorem IsP.later {w w' : World} {N bA bB bm br gr g cap capr bm' br' gr' g' cap' capr' : Nat} {ps qs : List Ps} {last last' : Int} (h : IsP w N bA bB bm br gr g cap capr bm' br' gr' g' cap' capr' ps qs last last') (hb : Below N w w') : IsP w' N bA bB bm br gr g cap capr bm' br' gr' g' cap' capr' ps qs last last' :=
  ⟨h.a.later hb, h.b.later hb, (hb.block _ h.la).trans h.ca, (hb.block _ h.lb).trans h.cb, h.la, h.lb⟩
theorem IsP.cells {w : World} {N bA bB bm br gr g cap capr bm' br' gr' g' cap' capr' : Nat} {ps qs : List Ps} {last last' : Int} (h : IsP w N bA bB bm br gr g cap capr bm' br' gr' g' cap' capr' ps qs last last') : w.cell? ⟨bA, 0, none⟩ = some (stV bm br) ∧ w.cell? ⟨bB, 0, none⟩ = some (stV bm' br') := by
  unfold World.cell?
  rw [h.ca, h.cb]
  exact ⟨rfl, rfl⟩
def prF (bA bB : Nat) : Value := .func (.func 19) #[] #[.pointer (some ⟨bA, 0, none⟩), .pointer (some ⟨bB, 0, none⟩)]

set_option maxRecDepth 100000 in
set_option maxHeartbeats 6400000 in
theorem pair_any (w : World) (N bA bB bm br gr g cap capr bm' br' gr' g' cap' capr' : Nat) (ps qs : List Ps) (last last' : Int) (p : P2) (h : IsP w N bA bB bm br gr g cap capr bm' br' gr' g' cap' capr' ps qs last last') :
    Calls Tryd.prog 19 #[prV p, .pointer (some ⟨bA, 0, none⟩), .pointer (some ⟨bB, 0, none⟩)] w fun e w' => (∃ gn, e = .returned (.slice (some ⟨gn, 0, none⟩) 95 95) ∧ OwnP w' w.heap.size (.slice (some ⟨gn, 0, none⟩) 95 95) (stepP ps qs p)) ∧ Below w.heap.size w w' := by
  obtain ⟨i0, hi, hz0, hz1, hz2⟩ := info_parts infoP
  obtain ⟨x, y⟩ := p
  obtain ⟨w1, hw1⟩ : ∃ w1, w1 = w.alloc (.cells #[.int .u64 x, .int .u64 y] 54) := ⟨_, rfl⟩
  have HW1 := Lib.hid hw1
  have hb1 : Below w.heap.size w w1 := by rw [hw1]; exact below1 _ _
  have hs1 : w1.heap.size = w.heap.size + 1 := by rw [hw1]; simp
  have hN := h.a.ln
  have HI1 := Lib.hid (h.later (hb1.mono hN))
  have HP1 : Hid (w1.heap[w.heap.size]? = some (.cells #[.int .u64 x, .int .u64 y] 54 (0, 0))) := Lib.hid (by rw [hw1]; exact new_at w _)
  have HB1 := Lib.hid hb1
  have HC : Hid (∀ V, Below w1.heap.size w1 V → V.cell? ⟨bA, 0, none⟩ = some (stV bm br) ∧ V.cell? ⟨bB, 0, none⟩ = some (stV bm' br') ∧ V.cell? ⟨w.heap.size, 0, none⟩ = some (.int .u64 x) ∧ V.cell? ⟨w.heap.size, 1, none⟩ = some (.int .u64 y)) := Lib.hid (fun V hV => by
    obtain ⟨c1, c2⟩ := (HI1.out.later (hV.mono (by omega))).cells
    have hp : V.heap[w.heap.size]? = some (.cells #[.int .u64 x, .int .u64 y] 54 (0, 0)) := (hV.block _ (by omega)).trans HP1.out
    refine ⟨c1, c2, ?_, ?_⟩
    · unfold World.cell?; rw [hp]; rfl
    · unfold World.cell?; rw [hp]; rfl)
  unfold stV at HC
  have HS1 := Lib.hid (fun V (hV : Below w1.heap.size w1 V) => step_any V N bm br gr g cap capr ps last x (HI1.out.later (hV.mono (by omega))).a)
  have HS2 := Lib.hid (fun V (hV : Below w1.heap.size w1 V) => step_any V N bm' br' gr' g' cap' capr' qs last' y (HI1.out.later (hV.mono (by omega))).b)
  have HR : Hid (stepP ps qs (x, y) = List.zip (stepL ps x) (stepL qs y)) := Lib.hid rfl
  obtain ⟨R, hR⟩ : ∃ R, R = stepP ps qs (x, y) := ⟨_, rfl⟩
  have HRl : Hid (R.length = 95) := Lib.hid (by rw [hR]; exact stepP_len _ _ _)
  have HRe := Lib.hid hR
  rw [← hR]
  obtain ⟨k0, k1, k2, k3⟩ := HC.out w1.drew (Below.refl _ _).drew
  clear h hb1 hw1 hR
  unfold prV
  go_enter Tryd.func19, Tryd.ntmps19
  go_wp2_with fail
  rw [← HW1.out]
  go_region_held_law (fun V => V.cell? ⟨bA, 0, none⟩ = some (.func (.func 46) #[] #[.pointer (some ⟨bm, 0, none⟩), .pointer (some ⟨br, 0, none⟩)]) ∧ V.cell? ⟨bB, 0, none⟩ = some (.func (.func 46) #[] #[.pointer (some ⟨bm', 0, none⟩), .pointer (some ⟨br', 0, none⟩)]) ∧ V.cell? ⟨w.heap.size, 0, none⟩ = some (.int .u64 x) ∧ V.cell? ⟨w.heap.size, 1, none⟩ = some (.int .u64 y)) (first | exact ⟨k0, k1, k2, k3⟩ | exact k5 | exact k6) (first
      | (have hz5 := HB5; clear hz5; go_simp; go_at_call 46; refine (HS2.out w5 HB5.out).mono ?_; rintro e w6 ⟨⟨gb, rfl, hob⟩, hb6⟩
         have hq6 : Below w1.heap.size w1 w6 := HB5.out.trans (hb6.mono HB5.out.size)
         have k6 := HC.out w6 hq6
         have HB56 := Lib.hid hb6
         have HB6 := Lib.hid hq6
         have HOB := Lib.hid hob
         clear hb6 hq6 hob
         try dsimp only)
      | (go_simp; go_at_call 46; refine (HS1.out w1.drew (Below.refl _ _).drew).mono ?_; rintro e w5 ⟨⟨ga, rfl, hoa⟩, hb5⟩
         have hq5 : Below w1.heap.size w1 w5 := (Below.refl _ _).drew.trans hb5
         have k5 := HC.out w5 hq5
         have HB5 := Lib.hid hq5
         have HOA := Lib.hid hoa
         clear hb5 hq5 hoa
         try dsimp only))
  all_goals
    obtain ⟨A, hA⟩ : ∃ A, A = stepL ps x := ⟨_, rfl⟩
    obtain ⟨B, hB⟩ : ∃ B, B = stepL qs y := ⟨_, rfl⟩
    have hAl : A.length = 95 := by rw [hA, stepL_len]
    have hBl : B.length = 95 := by rw [hB, stepL_len]
    have hga := (World.ownsRow.lt HOA.out ga rfl).2
    have hgb := (World.ownsRow.lt HOB.out gb rfl).2
    have hs56 := HB56.out.size
    have HCA : Hid (∀ V, Below w6.heap.size w6 V → ∀ (k : Nat) (a : Int), A[k]? = some a → V.cell? ⟨ga, k, none⟩ = some (.int .u64 a)) := Lib.hid (fun V hV k a hk => by
      have hkl := (List.getElem?_eq_some_iff.1 hk).1
      rw [(HB56.out.trans (hV.mono hs56)).cell (p := ⟨ga, k, none⟩) hga, World.ownsRow.cellAt HOA.out k (by omega), ← hA, List.getElem?_map, hk]
      rfl)
    have HCB : Hid (∀ V, Below w6.heap.size w6 V → ∀ (k : Nat) (a : Int), B[k]? = some a → V.cell? ⟨gb, k, none⟩ = some (.int .u64 a)) := Lib.hid (fun V hV k a hk => by
      have hkl := (List.getElem?_eq_some_iff.1 hk).1
      rw [hV.cell (p := ⟨gb, k, none⟩) hgb, World.ownsRow.cellAt HOB.out k (by omega), ← hB, List.getElem?_map, hk]
      rfl)
    have HRk : Hid (∀ (k : Nat) (a b : Int), A[k]? = some a → B[k]? = some b → R[k]? = some (a, b)) := Lib.hid (fun k a b ha hb => by
      rw [HRe.out]
      rw [hA] at ha
      rw [hB] at hb
      exact stepP_at ha hb)
    have HBw : Hid (Below w.heap.size w w6) := Lib.hid (HB1.out.trans (HB6.out.mono (by omega)))
    have hsw : w.heap.size ≤ w6.heap.size := HBw.out.size
    clear k5 k6 k0 k1 k2 k3 HOA HOB HB5 HB6 HB56 hga hgb hs56 hA hB HS1 HS2 HC HRe HR
    go_wp2_with (at_make; refine wpList_make_full _ rfl _ _ 49 rfl w6.heap.size 54 i0 _ 2 Tryd.underlying49 hi hz0 hz1 _ _ _ _ 95 rfl rfl rfl rfl ?b2 ?b3 (Nat.le_refl _) ?_)
    case b2 => rw [hz2]; decide
    case b3 => unfold maxLen; decide
    intro w7 hown7 hgrow7
    have hb7 : Below w6.heap.size w6 w7 := (Below.refl _ _).grown hgrow7 (Nat.le_refl _) (fun k h => by cases h)
    have HO7 : Hid (w7.ownsRow w6.heap.size 54 2 (.slice (some ⟨w6.heap.size, 0, none⟩) 95 95) 95 (fl2 (fillP R 0))) := Lib.hid (by
      rw [fillP_zero, HRl.out, ← made2]
      exact hown7)
    have HB7 := Lib.hid hb7
    have hs7 : w6.heap.size ≤ w7.heap.size := hb7.size
    clear hown7 hgrow7 hb7
    go_wp2_with fail
    go_loopw [22] (fun v wr => ∃ k : Nat, v = .int .i64 (k : Int) ∧ k ≤ 95 ∧ Hid (wr.ownsRow w6.heap.size 54 2 (.slice (some ⟨w6.heap.size, 0, none⟩) 95 95) 95 (fl2 (fillP R k))) ∧ Hid (Below w6.heap.size w6 wr) ∧ w6.heap.size ≤ wr.heap.size) (fun v _ => 95 - (intOf v).toNat)
    case atStart => exact ⟨0, rfl, Nat.zero_le _, HO7, HB7, hs7⟩
    case round =>
      obtain ⟨k, rfl, hk, HOr, HBr, hsr⟩ := hrel
      clear HO7 HB7
      by_cases hlt : k < 95
      · have hltI : (k : Int) < 95 := by omega
        have hk0 : (0 : Int) ≤ (k : Int) := by omega
        have hwk : IntKind.i64.wrap ((k : Int) + 1) = ((k + 1 : Nat) : Int) := by rw [IntWalk.i64_in _ (by omega)]; omega
        obtain ⟨xa, hxa⟩ : ∃ xa, A[k]? = some xa := ⟨_, List.getElem?_eq_getElem (by omega)⟩
        obtain ⟨xb, hxb⟩ : ∃ xb, B[k]? = some xb := ⟨_, List.getElem?_eq_getElem (by omega)⟩
        have c3 := HCA.out wr HBr.out k xa hxa
        have c4 := HCB.out wr HBr.out k xb hxb
        have hRk := HRk.out k xa xb hxa hxb
        have hkR : k < R.length := (List.getElem?_eq_some_iff.1 hRk).1
        have hfl := fillP_len R k (by omega)
        obtain ⟨⟨oa, ob⟩, hold⟩ : ∃ q, (fillP R k)[k]? = some q := ⟨_, List.getElem?_eq_getElem (by omega)⟩
        have hof := fl2_at _ _ _ hold
        have c5 : wr.cell? ⟨w6.heap.size, k * 2, none⟩ = some (.int .u64 oa) := by
          rw [World.ownsRow.cellAt HOr.out (k * 2) (by omega)]; exact hof.1
        have c6 : wr.cell? ⟨w6.heap.size, k * 2 + 1, none⟩ = some (.int .u64 ob) := by
          rw [World.ownsRow.cellAt HOr.out (k * 2 + 1) (by omega)]; exact hof.2
        have f5 := World.ownsRow.frozenAt HOr.out (k * 2)
        have f6 := World.ownsRow.frozenAt HOr.out (k * 2 + 1)
        have HEND : Hid (∀ W : World, W.heap = ((wr.setCell ⟨w6.heap.size, k * 2, none⟩ (.int .u64 xa)).setCell ⟨w6.heap.size, k * 2 + 1, none⟩ (.int .u64 xb)).heap → W.ownsRow w6.heap.size 54 2 (.slice (some ⟨w6.heap.size, 0, none⟩) 95 95) 95 (fl2 (fillP R (k + 1)))) := Lib.hid (fun W hW => by
          have h1 := (World.ownsRow.stored (World.ownsRow.stored HOr.out (k * 2) (.int .u64 xa)).1 (k * 2 + 1) (.int .u64 xb)).1
          have h2 := fillP_set R k hkR
          rw [(List.getElem?_eq_some_iff.1 hRk).2] at h2
          rw [fl2_set (fillP R k) k (xa, xb), h2] at h1
          exact own_keep h1 (fun q cur _ _ => by rw [hW]))
        have HBE : Hid (Below w6.heap.size w6 ((wr.setCell ⟨w6.heap.size, k * 2, none⟩ (.int .u64 xa)).setCell ⟨w6.heap.size, k * 2 + 1, none⟩ (.int .u64 xb))) := Lib.hid ((HBr.out.setCell (p := ⟨w6.heap.size, k * 2, none⟩) (Nat.le_refl _) _).setCell (p := ⟨w6.heap.size, k * 2 + 1, none⟩) (Nat.le_refl _) _)
        clear hxa hxb hRk hold hof hfl hkR
        go_wp2_with fail
        go_region
        have HO9 : Hid (((wr.setCell ⟨w6.heap.size, k * 2, none⟩ (.int .u64 xa)).setCell ⟨w6.heap.size, k * 2 + 1, none⟩ (.int .u64 xb)).drew.ownsRow w6.heap.size 54 2 (.slice (some ⟨w6.heap.size, 0, none⟩) 95 95) 95 (fl2 (fillP R (k + 1)))) := Lib.hid (HEND.out _ rfl)
        have HB9 : Hid (Below w6.heap.size w6 ((wr.setCell ⟨w6.heap.size, k * 2, none⟩ (.int .u64 xa)).setCell ⟨w6.heap.size, k * 2 + 1, none⟩ (.int .u64 xb)).drew) := Lib.hid HBE.out.drew
        have hs9 : w6.heap.size ≤ ((wr.setCell ⟨w6.heap.size, k * 2, none⟩ (.int .u64 xa)).setCell ⟨w6.heap.size, k * 2 + 1, none⟩ (.int .u64 xb)).drew.heap.size := HB9.out.size
        clear HEND HBE c3 c4 c5 c6 f5 f6 HOr HBr
        go_wp2_with fail
        go_roundw
        case rel => exact ⟨k + 1, by first | rfl | go_num, hlt, HO9, HB9, hs9⟩
        case measure => simp [intOf]; omega
      · have hltI : ¬ ((k : Int) < 95) := by omega
        obtain rfl : k = 95 := by omega
        have HOe : Hid (OwnP wr w.heap.size (.slice (some ⟨w6.heap.size, 0, none⟩) 95 95) R) := Lib.hid (by
          have h := HOr.out
          have e : fillP R 95 = R := by rw [← HRl.out]; exact fillP_all R
          rw [e] at h
          unfold OwnP
          rw [HRl.out]
          refine ⟨h.1, ?_⟩
          rcases h.2 with h2 | ⟨g2, cap3, cur, hv, hg, r⟩
          · exact .inl h2
          · exact .inr ⟨g2, cap3, cur, hv, by omega, r⟩)
        go_wp2_with fail
        go_ret
        exact ⟨⟨w6.heap.size, rfl, HOe.out⟩, HBw.out.trans (HBr.out.mono hsw)⟩
end Go.Proofs.YtaipaddfehpmgaaDoor
