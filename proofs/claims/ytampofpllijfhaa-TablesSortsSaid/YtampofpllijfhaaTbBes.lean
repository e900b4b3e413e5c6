/-
  Beside of both. Nothing is assumed.
-/
import Derived.Test.YtampofpllijfhaaTbStep
import Derived.Test.YtampofpllijfhaaTbUnpB
namespace Go.Proofs.Ytampofpllijfhaa
open Go.RowKit

def besE (a b : Tab) : Int := if bothE a b ≠ 0 then bothE a b else if a.length ≠ b.length then 4 else if 8 < colsT a + colsT b then 2 else 0
def besV (a b : Tab) : Tab := if besE a b = 0 then besT a b else []
theorem besE_both {a b : Tab} (h : bothE a b ≠ 0) : besE a b = bothE a b := if_pos h
theorem besE_form {a b : Tab} (h : bothE a b = 0) (h1 : a.length ≠ b.length) : besE a b = 4 := by unfold besE; rw [if_neg (by simp [h]), if_pos h1]
theorem besE_size {a b : Tab} (h : bothE a b = 0) (h1 : a.length = b.length) (h2 : 8 < colsT a + colsT b) : besE a b = 2 := by unfold besE; rw [if_neg (by simp [h]), if_neg (by simp [h1]), if_pos h2]
theorem besE_ok {a b : Tab} (h : bothE a b = 0) (h1 : a.length = b.length) (h2 : ¬ 8 < colsT a + colsT b) : besE a b = 0 := by unfold besE; rw [if_neg (by simp [h]), if_neg (by simp [h1]), if_neg h2]
theorem besV_bad {a b : Tab} (h : besE a b ≠ 0) : besV a b = [] := if_neg h
def besK (a b : Tab) (k : Nat) : Tab := besT (a.take k) (b.take k)
theorem besK_len (a b : Tab) (k : Nat) (h : k ≤ a.length) (hb : a.length = b.length) : (besK a b k).length = k := by simp [besK, besT]; omega
theorem besK_next (a b : Tab) (k : Nat) (h : k < a.length) (hb : k < b.length) (hl : a.length = b.length) : besK a b (k + 1) = besK a b k ++ [a[k] ++ b[k]] := by
  unfold besK besT
  rw [take_snoc a k h, take_snoc b k hb, List.zipWith_append (by simp; omega)]
  rfl
theorem besK_end (a b : Tab) (hl : a.length = b.length) : besK a b a.length = besT a b := by
  unfold besK
  rw [List.take_length, List.take_of_length_le (by omega)]
theorem rows_beside {w : World} {B : Nat} {x y : Value} {r q : Row} (h : HoldsS w (· < B) x r) (h' : HoldsS w (· < B) y q) (hB : B ≤ w.heap.size) :
    HoldsT (w.alloc (.cells #[x, y] 29)) (· < w.heap.size + 1) (.slice (some ⟨w.heap.size, 0, none⟩) 2 2) [r, q] := by
  have hb1 := below1 w (.cells #[x, y] 29)
  refine ⟨_, 2, rfl, Nat.le_refl _, by omega, fun i z hi => ?_⟩
  match i, hi with
  | 0, hi =>
    simp at hi
    subst hi
    exact ⟨_, 0, x, rfl, by omega, by simp, (h.later (hb1.mono hB)).mono (by omega)⟩
  | 1, hi =>
    simp at hi
    subst hi
    exact ⟨_, 0, y, rfl, by omega, by simp, (h'.later (hb1.mono hB)).mono (by omega)⟩
  | i + 2, hi => simp at hi

set_option maxRecDepth 100000 in
set_option maxHeartbeats 3200000 in
theorem Beside_any (x y : Value) (a b : List (List ByteArray)) (w : World) (B : Nat) (hx : HoldsT w (· < B) x a) (hy : HoldsT w (· < B) y b) (hB : B ≤ w.heap.size) :
    Calls Try.prog 39 #[x, y] w fun e w' => RetTE w w' (besV a b) (besE a b) e ∧ Below w.heap.size w w' := by
  obtain ⟨i0, hi0, hz0, hz1, hz2⟩ := info_parts infoTexts
  have HC := Lib.hid (checkBoth_any x y a b w (· < B) hx hy)
  have HCA := Lib.hid (cols_any x a w (· < B) hx)
  have HCB := Lib.hid (cols_any y b w (· < B) hy)
  have HX := Lib.hid hx
  have HY := Lib.hid hy
  obtain ⟨oa, ca, rfl, _, _⟩ := hx.form
  obtain ⟨ob, cb, rfl, _, _⟩ := hy.form
  clear hx hy
  by_cases h : bothE a b = 0
  · have fc := neq_fT h
    obtain ⟨h1, h2⟩ := bothE_ok h
    have la := (chkT_rows h1).1
    by_cases hl : a.length = b.length
    · have hle : ((a.length : Int) != (b.length : Int)) = false := by rw [hl]; simp
      have HL := Lib.hid hl
      have hca8 := colsT_le h1
      have hcb8 := colsT_le h2
      have HRA := Lib.hid (chkT_rows h1).2
      have HRB := Lib.hid (chkT_rows h2).2
      by_cases h8 : 8 < colsT a + colsT b
      · have HV : Hid (besE a b = 2 ∧ besV a b = []) := Lib.hid ⟨besE_size h hl h8, besV_bad (by rw [besE_size h hl h8]; decide)⟩
        obtain ⟨na, hna⟩ : ∃ n, colsT a = n := ⟨_, rfl⟩
        obtain ⟨nb, hnb⟩ : ∃ n, colsT b = n := ⟨_, rfl⟩
        rw [hna] at HCA h8 hca8
        rw [hnb] at HCB h8 hcb8
        have i8 : (8 : Int) < (na : Int) + (nb : Int) := by omega
        clear h h1 h2 hl hna hnb h8
        go_enter Try.func39, Try.ntmps39
        go_wp2_with fail
        refine HC.out.mono ?_
        rintro e w' ⟨rfl, rfl⟩
        go_wp2_with fail
        refine HCA.out.mono ?_
        rintro e w' ⟨rfl, rfl⟩
        go_wp2_with fail
        refine HCB.out.mono ?_
        rintro e w' ⟨rfl, rfl⟩
        go_wp2_with fail
        go_ret2
        exact ⟨RetTE.nil HV.out.2 HV.out.1.symm, Below.refl _ _⟩
      · have HV : Hid (besE a b = 0 ∧ besV a b = besT a b) := Lib.hid ⟨besE_ok h hl h8, if_pos (besE_ok h hl h8)⟩
        have HEN := Lib.hid (besK_end a b hl)
        obtain ⟨na, hna⟩ : ∃ n, colsT a = n := ⟨_, rfl⟩
        obtain ⟨nb, hnb⟩ : ∃ n, colsT b = n := ⟨_, rfl⟩
        rw [hna] at HCA h8 hca8 HRA
        rw [hnb] at HCB h8 hcb8 HRB
        have i8 : ¬ (8 : Int) < (na : Int) + (nb : Int) := by omega
        clear h h1 h2 hl hna hnb
        go_enter Try.func39, Try.ntmps39
        go_wp2_with fail
        refine HC.out.mono ?_
        rintro e w' ⟨rfl, rfl⟩
        go_wp2_with fail
        refine HCA.out.mono ?_
        rintro e w' ⟨rfl, rfl⟩
        go_wp2_with fail
        refine HCB.out.mono ?_
        rintro e w' ⟨rfl, rfl⟩
        go_wp2_with (at_make; refine wpList_make_full _ rfl _ _ 22 rfl w.heap.size 29 i0 _ 1 Try.underlying22 hi0 hz0 hz1 _ _ _ _ a.length rfl rfl rfl rfl ?b2 ?b3 (Nat.le_refl _) ?_)
        case b2 => rw [hz2]; omega
        case b3 => unfold maxLen; omega
        intro w1 hown hgrow
        have hrow : RowsT w1 w.heap.size w.heap.size a.length (besK a b 0) := RowsT.nil (Row1.made hown)
        have hg1 : w.heap.size < w1.heap.size := hrow.lt
        have hbw1 : Below w.heap.size w w1 := ((Below.refl _ _).grown hgrow (Nat.le_refl _) (fun k h => by cases h))
        clear hown hgrow
        go_wp2_with fail
        go_loopw [31] (fun j wr => ∃ k : Nat, k ≤ a.length ∧ j = .int .i64 k ∧ Hid (RowsT wr w.heap.size w.heap.size a.length (besK a b k)) ∧ Below w.heap.size w wr) (fun j _ => a.length - (intOf j).toNat)
        case atStart => exact ⟨0, Nat.zero_le _, rfl, Lib.hid hrow, hbw1⟩
        case round =>
          obtain ⟨k, hk, rfl, HR, hbel⟩ := hrel
          clear hrow hg1 hbw1
          have hsz := hbel.size
          by_cases hlt : k < a.length
          · have hltb : k < b.length := by have := HL.out; omega
            obtain ⟨p1, off1, o1, cr1, rfl, hp1, q1, hr1⟩ := HX.out.at_ (List.getElem?_eq_getElem hlt)
            obtain ⟨p2, off2, o2, cr2, rfl, hp2, q2, hr2⟩ := HY.out.at_ (List.getElem?_eq_getElem hltb)
            rw [← hbel.cell (p := ⟨p1, _, none⟩) (Nat.lt_of_lt_of_le hp1 hB)] at q1
            rw [← hbel.cell (p := ⟨p2, _, none⟩) (Nat.lt_of_lt_of_le hp2 hB)] at q2
            have hra := HRA.out _ (List.getElem_mem hlt)
            have hrb := HRB.out _ (List.getElem_mem hltb)
            have HSN := Lib.hid (besK_next a b k hlt hltb HL.out)
            have HLN := Lib.hid (besK_len a b k hk HL.out)
            obtain ⟨ra, hra'⟩ : ∃ ra, a[k] = ra := ⟨_, rfl⟩
            obtain ⟨rb, hrb'⟩ : ∃ rb, b[k] = rb := ⟨_, rfl⟩
            rw [hra'] at q1 hr1 hra HSN
            rw [hrb'] at q2 hr2 hrb HSN
            have HP0 := rows_beside (hr1.later (hbel.mono hB)) (hr2.later (hbel.mono hB)) (Nat.le_trans hB hsz)
            have HP := Lib.hid (HP0.later (Below.refl (wr.heap.size + 1) _).drew)
            have HJ := Lib.hid (joined_any _ [ra, rb] _ (wr.heap.size + 1) HP.out (by simp [World.drew]) (by simp; omega) (by simp))
            have hfl : [ra, rb].flatten = ra ++ rb := by simp
            rw [hfl] at HJ
            have HR8 : Hid ((ra ++ rb).length ≤ 16) := Lib.hid (by rw [List.length_append]; omega)
            obtain ⟨R1, hR1⟩ : ∃ R1, ra ++ rb = R1 := ⟨_, rfl⟩
            rw [hR1] at HJ HSN HR8
            have hki0 : (0 : Int) ≤ (k : Int) := by omega
            have hki1 : (k : Int) < (a.length : Int) := by omega
            have hki2 : (k : Int) < (b.length : Int) := by omega
            clear HP0 hfl hra hrb hra' hrb' hr1 hr2 hR1
            go_wp2_with fail
            go_region_law (first
              | (go_simp; go_at_call 53; refine HJ.out.mono ?_; rintro e w2 ⟨⟨g, rfl, hg, ho⟩, hb2⟩
                 have hbW : Below wr.heap.size wr w2 := ((below1 wr _).drew).trans (hb2.mono (by simp [World.drew]))
                 have HG := Lib.hid hg
                 have HO := Lib.hid ho
                 have HR2 := Lib.hid (HR.out.later hbW)
                 have HBW := Lib.hid hbW
                 obtain ⟨u0, e0, z0⟩ : ∃ u, w2.cell? ⟨w.heap.size, k, none⟩ = some u ∧ w2.frozen? ⟨w.heap.size, k, none⟩ = false := by
                   obtain ⟨xs, _, h1, _⟩ := HR2.out
                   exact h1.cell k hlt
                 clear hg ho hb2 hbW))
            all_goals
              have hbel2 := hbel.trans (HBW.out.mono hsz)
              have hsz2 := HBW.out.size
              have hgl := HR.out.lt
              have hgG := HG.out
              go_wp2_with fail
              refine ⟨⟨k + 1, hlt, by go_num, ?_, hbel2.setCell (p := ⟨w.heap.size, k, none⟩) (Nat.le_refl _) _⟩, by simp [intOf]; omega⟩
              refine Lib.hid ?_
              rw [HSN.out]
              refine HR2.out.step hlt HLN.out (HO.out.holds rfl (by have := HR8.out; omega) ⟨⟨?_, HO.out.lt⟩, ?_⟩)
              · simp [World.drew] at hgG; omega
              · simp [World.drew] at hgG; omega
          · obtain rfl : k = a.length := by omega
            go_wp2_with fail
            go_ret2
            exact ⟨RetTE.mk (HR.out.holds (besK_len a b _ (Nat.le_refl _) HL.out) (by omega) (Nat.le_refl _)) (by rw [HEN.out, HV.out.2]) HV.out.1.symm, hbel⟩
    · have HV : Hid (besE a b = 4 ∧ besV a b = []) := Lib.hid ⟨besE_form h hl, besV_bad (by rw [besE_form h hl]; decide)⟩
      have hle : ((a.length : Int) != (b.length : Int)) = true := by rw [bne_iff_ne]; omega
      clear h h1 h2 hl
      go_enter Try.func39, Try.ntmps39
      go_wp2_with fail
      refine HC.out.mono ?_
      rintro e w' ⟨rfl, rfl⟩
      go_wp2_with fail
      go_ret2
      exact ⟨RetTE.nil HV.out.2 HV.out.1.symm, Below.refl _ _⟩
  · have fc := neq_tT h
    have HV : Hid (besE a b = bothE a b ∧ besV a b = []) := Lib.hid ⟨besE_both h, besV_bad (by rw [besE_both h]; exact h)⟩
    clear h
    go_enter Try.func39, Try.ntmps39
    go_wp2_with fail
    refine HC.out.mono ?_
    rintro e w' ⟨rfl, rfl⟩
    go_wp2_with fail
    go_ret2
    exact ⟨RetTE.nil HV.out.2 HV.out.1.symm, Below.refl _ _⟩

end Go.Proofs.Ytampofpllijfhaa
