/-
  atom of the specification. Nothing is assumed.
-/
import Derived.Test.YtaipaddfehpmgaaDoorRfB
namespace Go.Proofs.YtaipaddfehpmgaaDoor

section
open Go.RowKit

theorem memL_low (L : List UInt8) (i : Nat) : memL L 0 i = memL L 32 i := by
  have h : ∀ c : Nat, (c < 0 ∨ inA c = false) ↔ (c < 32 ∨ inA c = false) := fun c => by
    constructor
    · rintro (h | h)
      · omega
      · exact .inr h
    · rintro (h | h)
      · right
        unfold inA
        simp
        omega
      · exact .inr h
  unfold memL
  simp only [h]
  rfl
theorem addsL_keep {d : Nat} (hd : d < 256) : ∀ (n : Nat) (s : S4) (c : Nat), s.Ok → c + n ≤ 256 → s.has d = true → (addsL n s c).has d = true
  | 0, _, _, _, _, h => h
  | n + 1, s, c, hs, hn, h => addsL_keep hd n (s.add c) (c + 1) (S4.add_ok hs c) (by omega) (by rw [has_add hs (by omega) hd, h]; rfl)
theorem has_addsL {d : Nat} (hd : d < 256) : ∀ (n : Nat) (s : S4) (c : Nat), s.Ok → c + n ≤ 256 → c ≤ d → d < c + n → (addsL n s c).has d = true
  | 0, _, c, _, _, h1, h2 => by omega
  | n + 1, s, c, h, hn, h1, h2 => by
    rw [addsL]
    by_cases he : c = d
    · subst he
      exact addsL_keep hd n (s.add c) (c + 1) (S4.add_ok h c) (by omega) (by rw [has_add h hd hd]; simp)
    · exact has_addsL hd n (s.add c) (c + 1) (S4.add_ok h c) (by omega) (by omega) (by omega)
theorem nz_of_has {s : S4} {d : Nat} (h : s.has d = true) : s.isZ = false := by
  cases hz : s.isZ
  · rfl
  · exfalso
    have : s = .zero := by
      unfold S4.isZ at hz
      simp at hz
      obtain ⟨⟨⟨h0, h1⟩, h2⟩, h3⟩ := hz
      cases s
      simp_all [S4.zero]
    rw [this, has_zero] at h
    cases h
theorem addsL_nz {s : S4} (h : s.Ok) {f l : Nat} (hf : f ≤ l) (hl : l < 256) : (addsL (l + 1 - f) s f).isZ = false :=
  nz_of_has (has_addsL (d := f) (by omega) (l + 1 - f) s f h (by omega) (Nat.le_refl _) (by omega))

def zeroR : Value := .agg #[.int .i64 0, .int .u64 0, .int .u64 0, .int .u64 0, .int .u64 0, .slice none 0 0]
/-- What a reading of the specification returns. -/
def OutR (w : World) (r : PR PT) (e : Ending) (w' : World) : Prop :=
  (match r with
    | .bad m => e = .returned (.tuple #[zeroR, .int .i64 (m : Int), .bool false])
    | .ok t m => ∃ oe ce, e = .returned (.tuple #[t.val (.slice oe t.l.length ce), .int .i64 (m : Int), .bool true]) ∧ HT w' (Btw w.heap.size w'.heap.size) (.slice oe t.l.length ce) t.l) ∧ Below w.heap.size w w'
theorem OutR.leaf {w w' : World} {t : PT} {m : Nat} (hl : t.l = []) (hb : Below w.heap.size w w') : OutR w (.ok t m) (.returned (.tuple #[t.val (.slice none 0 0), .int .i64 (m : Int), .bool true])) w' :=
  ⟨⟨none, 0, by rw [hl]; rfl, by rw [hl]; exact HT.nil⟩, hb⟩
theorem setT_l (n : Bool) (s : S4) : (setT n s).l = [] := classT_l _

set_option maxRecDepth 100000 in
set_option maxHeartbeats 3200000 in
theorem rBrackets_any (s : ByteArray) (i : Nat) (hi : i < s.size) (hs : s.size ≤ 100) (w : World) :
    Calls Tryd.prog 88 #[.string s, .int .i64 ((i + 1 : Nat) : Int)] w (OutR w (brackL s.data.toList i)) := by
  obtain ⟨j, hj⟩ : ∃ j, j = i + 1 := ⟨_, rfl⟩
  obtain ⟨RES, hRES⟩ : ∃ RES, RES = brackL s.data.toList i := ⟨_, rfl⟩
  have HRES := Lib.hid hRES
  rw [← hRES, ← hj]
  have hj1 : j ≤ s.size := by omega
  unfold brackL at hRES
  rw [← hj, show i + 2 = j + 1 by omega] at hRES
  clear HRES hj hi
  obtain ⟨w1, hw1⟩ : ∃ w1, w1 = w.alloc (.cells #[.int .i64 0, .int .u64 0, .int .u64 0, .int .u64 0, .int .u64 0, .slice none 0 0] 60) := ⟨_, rfl⟩
  have HW1 := Lib.hid hw1
  have hs1 : w1.heap.size = w.heap.size + 1 := by rw [hw1]; simp
  have hb1 : Below w.heap.size w w1 := by rw [hw1]; exact below1 _ _
  have HZ1 : Hid (Z6 w1 w.heap.size) := Lib.hid (by rw [hw1]; exact Box6.new _ _ _ _ _ _ _ rfl)
  have HB1 := Lib.hid hb1
  have HA1 := Lib.hid (rAt_any s j w1)
  have hwj : IntKind.i64.wrap ((j : Int) + 1) = ((j + 1 : Nat) : Int) := by rw [IntWalk.i64_in _ (by omega)]; omega
  clear hw1 hb1
  by_cases h93 : pk s.data.toList j = 93
  · rw [if_pos h93] at hRES
    have h93b : (((pk s.data.toList j : Nat) : Int) == 93) = true := by rw [beq_iff_eq]; omega
    obtain ⟨z0, z1, z2, z3, z4, z5, zf⟩ := HZ1.out
    go_enter Tryd.func88, Tryd.ntmps88
    go_wp2_with fail
    rw [← HW1.out]
    refine HA1.out.mono ?_
    rintro e w9 ⟨rfl, h9⟩; subst w9
    go_wp2_with fail
    refine bodyPost_ret (v := .tuple #[.agg #[.int .i64 1, .int .u64 0, .int .u64 0, .int .u64 0, .int .u64 0, .slice none 0 0], .int .i64 ((j + 1 : Nat) : Int), .bool true]) (by simp [results, Tryd.results88, go_sem, *]) rfl ?_
    rw [hRES]
    exact OutR.leaf rfl (below6 HB1.out (by omega) _ _ _ _ _ _)
  · rw [if_neg h93] at hRES
    have h93b : (((pk s.data.toList j : Nat) : Int) == 93) = false := by rw [beq_eq_false_iff_ne]; omega
    obtain ⟨ng, hng⟩ : ∃ ng, ng = decide (pk s.data.toList j = 94) := ⟨_, rfl⟩
    have h94b : (((pk s.data.toList j : Nat) : Int) == 94) = ng := by
      rw [hng, Bool.eq_iff_iff]; simp; omega
    have hneg : negL s.data.toList j = if ng = true then j + 1 else j := by
      unfold negL
      rw [hng]
      simp
    rw [hneg, ← hng] at hRES
    have hn94 : ng = true → j + 1 ≤ s.size := fun h => by
      rw [hng] at h
      have := pk_is (of_decide_eq_true h) (by decide)
      rw [lt_len] at this
      omega
    rw [lt_len] at hRES
    have HR := Lib.hid hRES
    clear hRES hneg hng
    obtain ⟨w2, hw2⟩ : ∃ w2, w2 = w1.alloc (.cells #[.int .u64 0, .int .u64 0, .int .u64 0, .int .u64 0] 33) := ⟨_, rfl⟩
    have HW2 := Lib.hid hw2
    have hs2 : w2.heap.size = w.heap.size + 2 := by rw [hw2]; simp [hs1]
    have hb2 : Below w1.heap.size w1 w2 := by rw [hw2]; exact below1 _ _
    have HS2 : Hid (SR w2 (w.heap.size + 1) .zero) := Lib.hid (by rw [hw2, ← hs1]; exact SR.new _)
    have HZ2 : Hid (Z6 w2 w.heap.size) := Lib.hid (HZ1.out.later hb2 (by omega))
    have HB2 : Hid (Below w.heap.size w w2) := Lib.hid (HB1.out.trans (hb2.mono (by omega)))
    clear hw2 hb2 HZ1 HB1
    cases ng
    · have hRES : Hid (RES = (setL s.data.toList (s.size + 1) .zero (j)).bind fun st m => .ok (setT false st) m) := Lib.hid HR.out
      clear HR
      go_enter Tryd.func88, Tryd.ntmps88
      go_wp2_with fail
      rw [← HW1.out]
      refine HA1.out.mono ?_
      rintro e w9 ⟨rfl, h9⟩; subst w9
      go_wp2_with fail
      refine HA1.out.mono ?_
      rintro e w9 ⟨rfl, h9⟩; subst w9
      go_wp2_with fail
      rw [← HW2.out]
      go_loopw [1, 9] (fun v1 v9 wr => ∃ (ii n g : Nat) (st : S4), v1 = .int .i64 (ii : Int) ∧ v9 = .int .i64 (n : Int) ∧ ii ≤ s.size ∧ n ≤ ii ∧ s.size < ii + g ∧ Hid (n = 0 ↔ st.isZ = true) ∧ Hid st.Ok ∧ Hid (RES = (setL s.data.toList g st ii).bind fun st m => .ok (setT false st) m) ∧ Hid (SR wr (w.heap.size + 1) st) ∧ Hid (Z6 wr w.heap.size) ∧ Hid (Below w.heap.size w wr) ∧ w.heap.size + 2 ≤ wr.heap.size) (fun v1 _ _ => s.size + 1 - (intOf v1).toNat)
      case atStart => exact ⟨j, 0, s.size + 1, .zero, by first | rfl | go_num, rfl, by omega, Nat.zero_le _, by omega, Lib.hid (iff_of_true rfl rfl), Lib.hid S4.zero_ok, hRES, HS2, HZ2, HB2, by omega⟩
      case round =>
        obtain ⟨ii, n, g, st, rfl, rfl, hii, hni, hg, HNZ, HOk, HE, HS, HZ, HB, hsz⟩ := hrel
        obtain ⟨g, rfl⟩ : ∃ g', g = g' + 1 := ⟨g - 1, by omega⟩
        clear hRES HS2 HZ2 HB2
        have HAi := Lib.hid (rAt_any s ii wr)
        have hwi : IntKind.i64.wrap ((ii : Int) + 1) = ((ii + 1 : Nat) : Int) := by rw [IntWalk.i64_in _ (by omega)]; omega
        by_cases hex : st.isZ = false ∧ pk s.data.toList ii = 93
        · have hn0 : n ≠ 0 := fun e => by have := HNZ.out.1 e; rw [hex.1] at this; cases this
          have hn0b : ((n : Int) == 0) = false := by rw [beq_eq_false_iff_ne]; omega
          have h93i : (((pk s.data.toList ii : Nat) : Int) == 93) = true := by rw [beq_iff_eq]; omega
          have h93n : (((pk s.data.toList ii : Nat) : Int) != 93) = false := by unfold bne; rw [h93i]; rfl
          have HF : Hid (RES = .ok (setT false st) (ii + 1)) := Lib.hid (by rw [HE.out, setL, if_pos hex]; rfl)
          clear hex HE
          obtain ⟨c0, c1, c2, c3⟩ := HS.out.cells
          obtain ⟨z0, z1, z2, z3, z4, z5, zf⟩ := HZ.out
          go_wp2_with fail
          refine HAi.out.mono ?_
          rintro e w9 ⟨rfl, h9⟩; subst w9
          have HCl := Lib.hid (rClass_any st wr)
          have hval : (setT false st).val (.slice none 0 0) = (classT st).val (.slice none 0 0) := rfl
          unfold S4.val at HCl
          unfold PT.val at HCl hval
          clear HAi
          go_wp2_with fail
          refine HCl.out.mono ?_
          rintro e w5 ⟨rfl, hb5⟩
          obtain ⟨z0, z1, z2, z3, z4, z5, zf⟩ := HZ.out.later hb5 (by omega)
          have HB5 := Lib.hid (HB.out.trans (hb5.mono (by omega)))
          clear hb5
          go_wp2_with fail
          refine bodyPost_ret (v := .tuple #[(classT st).val (.slice none 0 0), .int .i64 ((ii + 1 : Nat) : Int), .bool true]) (by simp [results, Tryd.results88, go_sem, PT.val, *]) rfl ?_
          rw [HF.out]
          exact OutR.leaf (setT_l _ _) (below6 HB5.out (Nat.le_refl _) _ _ _ _ _ _)
        · have HE1 : Hid (RES = ((itemL s.data.toList st ii).bind fun st' m => setL s.data.toList g st' m).bind fun st m => .ok (setT false st) m) := Lib.hid (by rw [HE.out, setL, if_neg hex])
          have hgo : ((n : Int) == 0) = true ∨ (((n : Int) == 0) = false ∧ (((pk s.data.toList ii : Nat) : Int) != 93) = true) := by
            by_cases hn : n = 0
            · left; rw [beq_iff_eq]; omega
            · right
              have hz : st.isZ = false := by
                cases hz : st.isZ
                · rfl
                · exact absurd (HNZ.out.2 hz) hn
              have hp : pk s.data.toList ii ≠ 93 := fun h => hex ⟨hz, h⟩
              exact ⟨by rw [beq_eq_false_iff_ne]; omega, by rw [bne_iff_ne]; omega⟩
          clear hex HE
          have hnw : IntKind.i64.wrap ((n : Int) + 1) = ((n + 1 : Nat) : Int) := by rw [IntWalk.i64_in _ (by omega)]; omega
          have HMe := Lib.hid (rMember_any s ii 0 (by omega) (by decide) wr)
          rw [memL_low] at HMe
          have hfw := memL_fwd s.data.toList 32 ii hii
          unfold itemL at HE1
          cases hm : memL s.data.toList 32 ii with
          | bad m =>
            rw [hm] at HMe HE1
            have HF : Hid (RES = .bad m) := Lib.hid HE1.out
            have HMe : Hid (Calls Tryd.prog 99 #[.string s, .int .i64 (ii : Int), .int .i64 0] wr fun e w' => e = .returned (.tuple #[.int .i64 0, .int .i64 (m : Int), .bool false]) ∧ w' = wr) := HMe
            obtain ⟨z0, z1, z2, z3, z4, z5, zf⟩ := HZ.out
            clear HE1 hm hfw
            rcases hgo with hgo | ⟨hgo, hgo2⟩
            · go_wp2_with fail
              refine HMe.out.mono ?_
              rintro e w9 ⟨rfl, h9⟩; subst w9
              go_wp2_with fail
              refine bodyPost_ret (v := .tuple #[zeroR, .int .i64 (m : Int), .bool false]) (by simp [results, Tryd.results88, go_sem, zeroR, *]) rfl ?_
              rw [HF.out]
              exact ⟨rfl, below6 HB.out (Nat.le_refl _) _ _ _ _ _ _⟩
            · go_wp2_with fail
              refine HAi.out.mono ?_
              rintro e w9 ⟨rfl, h9⟩; subst w9
              go_wp2_with fail
              refine HMe.out.mono ?_
              rintro e w9 ⟨rfl, h9⟩; subst w9
              go_wp2_with fail
              refine bodyPost_ret (v := .tuple #[zeroR, .int .i64 (m : Int), .bool false]) (by simp [results, Tryd.results88, go_sem, zeroR, *]) rfl ?_
              rw [HF.out]
              exact ⟨rfl, below6 HB.out (Nat.le_refl _) _ _ _ _ _ _⟩
          | ok f m =>
            rw [hm] at HMe HE1 hfw
            have hf := hfw.2 f m rfl
            have him : ii < m ∧ m ≤ s.size := by have := hfw.1; rw [lt_len] at this; exact this
            have HMe : Hid (Calls Tryd.prog 99 #[.string s, .int .i64 (ii : Int), .int .i64 0] wr fun e w' => e = .returned (.tuple #[.int .i64 (f : Int), .int .i64 (m : Int), .bool true]) ∧ w' = wr) := HMe
            have HAm := Lib.hid (rAt_any s m wr)
            have hwm : IntKind.i64.wrap ((m : Int) + 1) = ((m + 1 : Nat) : Int) := by rw [IntWalk.i64_in _ (by omega)]; omega
            have HE2 : Hid (RES = ((if pk s.data.toList m = 45 then (memL s.data.toList f (m + 1)).bind fun l q => .ok (addsL (l + 1 - f) st f) q else .ok (addsL 1 st f) m : PR S4).bind fun st' m => setL s.data.toList g st' m).bind fun st m => .ok (setT false st) m) := Lib.hid HE1.out
            clear HE1 hm hfw
            obtain ⟨c0, c1, c2, c3⟩ := HS.out.cells
            by_cases h45 : pk s.data.toList m = 45
            · have h45b : (((pk s.data.toList m : Nat) : Int) == 45) = true := by rw [beq_iff_eq]; omega
              rw [if_pos h45] at HE2
              have hm1 : m + 1 ≤ s.size := by have := pk_is h45 (by decide); rw [lt_len] at this; omega
              have HMf := Lib.hid (rMember_any s (m + 1) f (by omega) (by omega) wr)
              have hfw := memL_fwd s.data.toList f (m + 1) hm1
              cases hq : memL s.data.toList f (m + 1) with
              | bad q =>
                rw [hq] at HMf HE2
                have HF : Hid (RES = .bad q) := Lib.hid HE2.out
                have HMf : Hid (Calls Tryd.prog 99 #[.string s, .int .i64 ((m + 1 : Nat) : Int), .int .i64 (f : Int)] wr fun e w' => e = .returned (.tuple #[.int .i64 0, .int .i64 (q : Int), .bool false]) ∧ w' = wr) := HMf
                obtain ⟨z0, z1, z2, z3, z4, z5, zf⟩ := HZ.out
                clear HE2 hq hfw c0 c1 c2 c3 h45
                rcases hgo with hgo | ⟨hgo, hgo2⟩
                · go_wp2_with fail
                  refine HMe.out.mono ?_
                  rintro e w9 ⟨rfl, h9⟩; subst w9
                  go_wp2_with fail
                  refine HAm.out.mono ?_
                  rintro e w9 ⟨rfl, h9⟩; subst w9
                  go_wp2_with fail
                  refine HMf.out.mono ?_
                  rintro e w9 ⟨rfl, h9⟩; subst w9
                  go_wp2_with fail
                  refine bodyPost_ret (v := .tuple #[zeroR, .int .i64 (q : Int), .bool false]) (by simp [results, Tryd.results88, go_sem, zeroR, *]) rfl ?_
                  rw [HF.out]
                  exact ⟨rfl, below6 HB.out (Nat.le_refl _) _ _ _ _ _ _⟩
                · go_wp2_with fail
                  refine HAi.out.mono ?_
                  rintro e w9 ⟨rfl, h9⟩; subst w9
                  go_wp2_with fail
                  refine HMe.out.mono ?_
                  rintro e w9 ⟨rfl, h9⟩; subst w9
                  go_wp2_with fail
                  refine HAm.out.mono ?_
                  rintro e w9 ⟨rfl, h9⟩; subst w9
                  go_wp2_with fail
                  refine HMf.out.mono ?_
                  rintro e w9 ⟨rfl, h9⟩; subst w9
                  go_wp2_with fail
                  refine bodyPost_ret (v := .tuple #[zeroR, .int .i64 (q : Int), .bool false]) (by simp [results, Tryd.results88, go_sem, zeroR, *]) rfl ?_
                  rw [HF.out]
                  exact ⟨rfl, below6 HB.out (Nat.le_refl _) _ _ _ _ _ _⟩
              | ok l q =>
                rw [hq] at HMf HE2 hfw
                have hl := hfw.2 l q rfl
                have hmq : m + 1 < q ∧ q ≤ s.size := by have := hfw.1; rw [lt_len] at this; exact this
                have HMf : Hid (Calls Tryd.prog 99 #[.string s, .int .i64 ((m + 1 : Nat) : Int), .int .i64 (f : Int)] wr fun e w' => e = .returned (.tuple #[.int .i64 (l : Int), .int .i64 (q : Int), .bool true]) ∧ w' = wr) := HMf
                have HE3 : Hid (RES = (setL s.data.toList g (addsL (l + 1 - f) st f) q).bind fun st m => .ok (setT false st) m) := Lib.hid HE2.out
                have HWi := Lib.hid (rWith_any st HOk.out f l (by omega) (by omega) wr)
                have HNZ1 : Hid ((addsL (l + 1 - f) st f).isZ = false) := Lib.hid (addsL_nz HOk.out hl.1 (by omega))
                have HOk1 := Lib.hid (addsL_ok (l + 1 - f) st f HOk.out)
                generalize addsL (l + 1 - f) st f = st' at *
                unfold S4.val at HWi
                clear HE2 hq hfw h45 HNZ
                rcases hgo with hgo | ⟨hgo, hgo2⟩
                · go_wp2_with fail
                  refine HMe.out.mono ?_
                  rintro e w9 ⟨rfl, h9⟩; subst w9
                  go_wp2_with fail
                  refine HAm.out.mono ?_
                  rintro e w9 ⟨rfl, h9⟩; subst w9
                  go_wp2_with fail
                  refine HMf.out.mono ?_
                  rintro e w9 ⟨rfl, h9⟩; subst w9
                  go_wp2_with fail
                  refine HWi.out.mono ?_
                  rintro e w5 ⟨rfl, hb5⟩
                  have hs5 := HS.out.later hb5 HS.out.lt
                  obtain ⟨d0, d1, d2, d3⟩ := hs5.cells
                  have hf := hs5.free
                  have f0 := hf 0
                  have f1 := hf 1
                  have f2 := hf 2
                  have f3 := hf 3
                  have HS5 := Lib.hid hs5
                  have HZ5 := Lib.hid (HZ.out.later hb5 (by omega))
                  have HB5 := Lib.hid (HB.out.trans (hb5.mono (by omega)))
                  have hsz5 : w.heap.size + 2 ≤ w5.heap.size := Nat.le_trans hsz hb5.size
                  clear hf hb5 hs5
                  go_wp2_with fail
                  go_roundw
                  case rel =>
                    refine ⟨q, n + 1, g, st', by first | rfl | go_num, by first | rfl | go_num, by omega, by omega, by omega, Lib.hid (iff_of_false (by omega) (by rw [HNZ1.out]; decide)), HOk1, HE3, Lib.hid (HS5.out.all st'), Lib.hid (HZ5.out.of_block (far4 (by omega) _ _ _ _)), Lib.hid (below4 HB5.out (by omega) _ _ _ _), ?_⟩
                    rw [size4]; exact hsz5
                  case measure => simp [intOf]; omega
                · go_wp2_with fail
                  refine HAi.out.mono ?_
                  rintro e w9 ⟨rfl, h9⟩; subst w9
                  go_wp2_with fail
                  refine HMe.out.mono ?_
                  rintro e w9 ⟨rfl, h9⟩; subst w9
                  go_wp2_with fail
                  refine HAm.out.mono ?_
                  rintro e w9 ⟨rfl, h9⟩; subst w9
                  go_wp2_with fail
                  refine HMf.out.mono ?_
                  rintro e w9 ⟨rfl, h9⟩; subst w9
                  go_wp2_with fail
                  refine HWi.out.mono ?_
                  rintro e w5 ⟨rfl, hb5⟩
                  have hs5 := HS.out.later hb5 HS.out.lt
                  obtain ⟨d0, d1, d2, d3⟩ := hs5.cells
                  have hf := hs5.free
                  have f0 := hf 0
                  have f1 := hf 1
                  have f2 := hf 2
                  have f3 := hf 3
                  have HS5 := Lib.hid hs5
                  have HZ5 := Lib.hid (HZ.out.later hb5 (by omega))
                  have HB5 := Lib.hid (HB.out.trans (hb5.mono (by omega)))
                  have hsz5 : w.heap.size + 2 ≤ w5.heap.size := Nat.le_trans hsz hb5.size
                  clear hf hb5 hs5
                  go_wp2_with fail
                  go_roundw
                  case rel =>
                    refine ⟨q, n + 1, g, st', by first | rfl | go_num, by first | rfl | go_num, by omega, by omega, by omega, Lib.hid (iff_of_false (by omega) (by rw [HNZ1.out]; decide)), HOk1, HE3, Lib.hid (HS5.out.all st'), Lib.hid (HZ5.out.of_block (far4 (by omega) _ _ _ _)), Lib.hid (below4 HB5.out (by omega) _ _ _ _), ?_⟩
                    rw [size4]; exact hsz5
                  case measure => simp [intOf]; omega
            · have h45b : (((pk s.data.toList m : Nat) : Int) == 45) = false := by rw [beq_eq_false_iff_ne]; omega
              rw [if_neg h45] at HE2
              have HE3 : Hid (RES = (setL s.data.toList g (addsL 1 st f) m).bind fun st m => .ok (setT false st) m) := Lib.hid HE2.out
              have hone : addsL 1 st f = addsL (f + 1 - f) st f := by rw [show f + 1 - f = 1 by omega]
              rw [hone] at HE3
              have HWi := Lib.hid (rWith_any st HOk.out f f (by omega) (by omega) wr)
              have HNZ1 : Hid ((addsL (f + 1 - f) st f).isZ = false) := Lib.hid (addsL_nz HOk.out (Nat.le_refl _) (by omega))
              have HOk1 := Lib.hid (addsL_ok (f + 1 - f) st f HOk.out)
              generalize addsL (f + 1 - f) st f = st' at *
              unfold S4.val at HWi
              clear HE2 h45 HNZ hone
              rcases hgo with hgo | ⟨hgo, hgo2⟩
              · go_wp2_with fail
                refine HMe.out.mono ?_
                rintro e w9 ⟨rfl, h9⟩; subst w9
                go_wp2_with fail
                refine HAm.out.mono ?_
                rintro e w9 ⟨rfl, h9⟩; subst w9
                go_wp2_with fail
                refine HWi.out.mono ?_
                rintro e w5 ⟨rfl, hb5⟩
                have hs5 := HS.out.later hb5 HS.out.lt
                obtain ⟨d0, d1, d2, d3⟩ := hs5.cells
                have hf := hs5.free
                have f0 := hf 0
                have f1 := hf 1
                have f2 := hf 2
                have f3 := hf 3
                have HS5 := Lib.hid hs5
                have HZ5 := Lib.hid (HZ.out.later hb5 (by omega))
                have HB5 := Lib.hid (HB.out.trans (hb5.mono (by omega)))
                have hsz5 : w.heap.size + 2 ≤ w5.heap.size := Nat.le_trans hsz hb5.size
                clear hf hb5 hs5
                go_wp2_with fail
                go_roundw
                case rel =>
                  refine ⟨m, n + 1, g, st', by first | rfl | go_num, by first | rfl | go_num, by omega, by omega, by omega, Lib.hid (iff_of_false (by omega) (by rw [HNZ1.out]; decide)), HOk1, HE3, Lib.hid (HS5.out.all st'), Lib.hid (HZ5.out.of_block (far4 (by omega) _ _ _ _)), Lib.hid (below4 HB5.out (by omega) _ _ _ _), ?_⟩
                  rw [size4]; exact hsz5
                case measure => simp [intOf]; omega
              · go_wp2_with fail
                refine HAi.out.mono ?_
                rintro e w9 ⟨rfl, h9⟩; subst w9
                go_wp2_with fail
                refine HMe.out.mono ?_
                rintro e w9 ⟨rfl, h9⟩; subst w9
                go_wp2_with fail
                refine HAm.out.mono ?_
                rintro e w9 ⟨rfl, h9⟩; subst w9
                go_wp2_with fail
                refine HWi.out.mono ?_
                rintro e w5 ⟨rfl, hb5⟩
                have hs5 := HS.out.later hb5 HS.out.lt
                obtain ⟨d0, d1, d2, d3⟩ := hs5.cells
                have hf := hs5.free
                have f0 := hf 0
                have f1 := hf 1
                have f2 := hf 2
                have f3 := hf 3
                have HS5 := Lib.hid hs5
                have HZ5 := Lib.hid (HZ.out.later hb5 (by omega))
                have HB5 := Lib.hid (HB.out.trans (hb5.mono (by omega)))
                have hsz5 : w.heap.size + 2 ≤ w5.heap.size := Nat.le_trans hsz hb5.size
                clear hf hb5 hs5
                go_wp2_with fail
                go_roundw
                case rel =>
                  refine ⟨m, n + 1, g, st', by first | rfl | go_num, by first | rfl | go_num, by omega, by omega, by omega, Lib.hid (iff_of_false (by omega) (by rw [HNZ1.out]; decide)), HOk1, HE3, Lib.hid (HS5.out.all st'), Lib.hid (HZ5.out.of_block (far4 (by omega) _ _ _ _)), Lib.hid (below4 HB5.out (by omega) _ _ _ _), ?_⟩
                  rw [size4]; exact hsz5
                case measure => simp [intOf]; omega
    · have hRES : Hid (RES = (setL s.data.toList (s.size + 1) .zero (j + 1)).bind fun st m => .ok (setT true st) m) := Lib.hid HR.out
      have hj1 : j + 1 ≤ s.size := hn94 rfl
      clear HR
      go_enter Tryd.func88, Tryd.ntmps88
      go_wp2_with fail
      rw [← HW1.out]
      refine HA1.out.mono ?_
      rintro e w9 ⟨rfl, h9⟩; subst w9
      go_wp2_with fail
      refine HA1.out.mono ?_
      rintro e w9 ⟨rfl, h9⟩; subst w9
      go_wp2_with fail
      rw [← HW2.out]
      go_loopw [1, 9] (fun v1 v9 wr => ∃ (ii n g : Nat) (st : S4), v1 = .int .i64 (ii : Int) ∧ v9 = .int .i64 (n : Int) ∧ ii ≤ s.size ∧ n ≤ ii ∧ s.size < ii + g ∧ Hid (n = 0 ↔ st.isZ = true) ∧ Hid st.Ok ∧ Hid (RES = (setL s.data.toList g st ii).bind fun st m => .ok (setT true st) m) ∧ Hid (SR wr (w.heap.size + 1) st) ∧ Hid (Z6 wr w.heap.size) ∧ Hid (Below w.heap.size w wr) ∧ w.heap.size + 2 ≤ wr.heap.size) (fun v1 _ _ => s.size + 1 - (intOf v1).toNat)
      case atStart => exact ⟨j + 1, 0, s.size + 1, .zero, by first | rfl | go_num, rfl, by omega, Nat.zero_le _, by omega, Lib.hid (iff_of_true rfl rfl), Lib.hid S4.zero_ok, hRES, HS2, HZ2, HB2, by omega⟩
      case round =>
        obtain ⟨ii, n, g, st, rfl, rfl, hii, hni, hg, HNZ, HOk, HE, HS, HZ, HB, hsz⟩ := hrel
        obtain ⟨g, rfl⟩ : ∃ g', g = g' + 1 := ⟨g - 1, by omega⟩
        clear hRES HS2 HZ2 HB2
        have HAi := Lib.hid (rAt_any s ii wr)
        have hwi : IntKind.i64.wrap ((ii : Int) + 1) = ((ii + 1 : Nat) : Int) := by rw [IntWalk.i64_in _ (by omega)]; omega
        by_cases hex : st.isZ = false ∧ pk s.data.toList ii = 93
        · have hn0 : n ≠ 0 := fun e => by have := HNZ.out.1 e; rw [hex.1] at this; cases this
          have hn0b : ((n : Int) == 0) = false := by rw [beq_eq_false_iff_ne]; omega
          have h93i : (((pk s.data.toList ii : Nat) : Int) == 93) = true := by rw [beq_iff_eq]; omega
          have h93n : (((pk s.data.toList ii : Nat) : Int) != 93) = false := by unfold bne; rw [h93i]; rfl
          have HF : Hid (RES = .ok (setT true st) (ii + 1)) := Lib.hid (by rw [HE.out, setL, if_pos hex]; rfl)
          clear hex HE
          obtain ⟨c0, c1, c2, c3⟩ := HS.out.cells
          have HRe := Lib.hid (rRest_any st HOk.out wr)
          unfold S4.val at HRe
          go_wp2_with fail
          refine HAi.out.mono ?_
          rintro e w9 ⟨rfl, h9⟩; subst w9
          go_wp2_with fail
          refine HRe.out.mono ?_
          rintro e w4 ⟨rfl, hb4⟩
          have HS4 := HS.out.later hb4 (by omega)
          obtain ⟨d0, d1, d2, d3⟩ := HS4.cells
          have hf := HS4.free
          have f0 := hf 0
          have f1 := hf 1
          have f2 := hf 2
          have f3 := hf 3
          have HZ4 := Lib.hid (HZ.out.later hb4 (by omega))
          have HB4 := Lib.hid (HB.out.trans (hb4.mono (by omega)))
          have hsz4 : w.heap.size + 2 ≤ w4.heap.size := Nat.le_trans hsz hb4.size
          have hset : setT true st = classT (S4.alpha.without st) := rfl
          have HSET := Lib.hid hset
          clear hf hb4 HS4 hset HRe HAi c0 c1 c2 c3
          rw [HSET.out] at HF
          generalize S4.alpha.without st = t' at *
          have HCl := Lib.hid (rClass_any t')
          unfold S4.val at HCl
          unfold PT.val at HCl
          go_wp2_with fail
          refine (HCl.out _).mono ?_
          rintro e w5 ⟨rfl, hb5⟩
          have hz5 : Z6 w5 w.heap.size := (HZ4.out.of_block (far4 (g := w.heap.size + 1) (by omega) _ _ _ _)).later hb5 (by rw [size4]; omega)
          obtain ⟨z0, z1, z2, z3, z4, z5, zf⟩ := hz5
          have HB5 : Hid (Below w.heap.size w w5) := Lib.hid ((below4 HB4.out (by omega) _ _ _ _).trans (hb5.mono (by rw [size4]; omega)))
          clear hb5
          go_wp2_with fail
          refine bodyPost_ret (v := .tuple #[(classT t').val (.slice none 0 0), .int .i64 ((ii + 1 : Nat) : Int), .bool true]) (by simp [results, Tryd.results88, go_sem, PT.val, *]) rfl ?_
          rw [HF.out]
          exact OutR.leaf (classT_l _) (below6 HB5.out (Nat.le_refl _) _ _ _ _ _ _)
        · have HE1 : Hid (RES = ((itemL s.data.toList st ii).bind fun st' m => setL s.data.toList g st' m).bind fun st m => .ok (setT true st) m) := Lib.hid (by rw [HE.out, setL, if_neg hex])
          have hgo : ((n : Int) == 0) = true ∨ (((n : Int) == 0) = false ∧ (((pk s.data.toList ii : Nat) : Int) != 93) = true) := by
            by_cases hn : n = 0
            · left; rw [beq_iff_eq]; omega
            · right
              have hz : st.isZ = false := by
                cases hz : st.isZ
                · rfl
                · exact absurd (HNZ.out.2 hz) hn
              have hp : pk s.data.toList ii ≠ 93 := fun h => hex ⟨hz, h⟩
              exact ⟨by rw [beq_eq_false_iff_ne]; omega, by rw [bne_iff_ne]; omega⟩
          clear hex HE
          have hnw : IntKind.i64.wrap ((n : Int) + 1) = ((n + 1 : Nat) : Int) := by rw [IntWalk.i64_in _ (by omega)]; omega
          have HMe := Lib.hid (rMember_any s ii 0 (by omega) (by decide) wr)
          rw [memL_low] at HMe
          have hfw := memL_fwd s.data.toList 32 ii hii
          unfold itemL at HE1
          cases hm : memL s.data.toList 32 ii with
          | bad m =>
            rw [hm] at HMe HE1
            have HF : Hid (RES = .bad m) := Lib.hid HE1.out
            have HMe : Hid (Calls Tryd.prog 99 #[.string s, .int .i64 (ii : Int), .int .i64 0] wr fun e w' => e = .returned (.tuple #[.int .i64 0, .int .i64 (m : Int), .bool false]) ∧ w' = wr) := HMe
            obtain ⟨z0, z1, z2, z3, z4, z5, zf⟩ := HZ.out
            clear HE1 hm hfw
            rcases hgo with hgo | ⟨hgo, hgo2⟩
            · go_wp2_with fail
              refine HMe.out.mono ?_
              rintro e w9 ⟨rfl, h9⟩; subst w9
              go_wp2_with fail
              refine bodyPost_ret (v := .tuple #[zeroR, .int .i64 (m : Int), .bool false]) (by simp [results, Tryd.results88, go_sem, zeroR, *]) rfl ?_
              rw [HF.out]
              exact ⟨rfl, below6 HB.out (Nat.le_refl _) _ _ _ _ _ _⟩
            · go_wp2_with fail
              refine HAi.out.mono ?_
              rintro e w9 ⟨rfl, h9⟩; subst w9
              go_wp2_with fail
              refine HMe.out.mono ?_
              rintro e w9 ⟨rfl, h9⟩; subst w9
              go_wp2_with fail
              refine bodyPost_ret (v := .tuple #[zeroR, .int .i64 (m : Int), .bool false]) (by simp [results, Tryd.results88, go_sem, zeroR, *]) rfl ?_
              rw [HF.out]
              exact ⟨rfl, below6 HB.out (Nat.le_refl _) _ _ _ _ _ _⟩
          | ok f m =>
            rw [hm] at HMe HE1 hfw
            have hf := hfw.2 f m rfl
            have him : ii < m ∧ m ≤ s.size := by have := hfw.1; rw [lt_len] at this; exact this
            have HMe : Hid (Calls Tryd.prog 99 #[.string s, .int .i64 (ii : Int), .int .i64 0] wr fun e w' => e = .returned (.tuple #[.int .i64 (f : Int), .int .i64 (m : Int), .bool true]) ∧ w' = wr) := HMe
            have HAm := Lib.hid (rAt_any s m wr)
            have hwm : IntKind.i64.wrap ((m : Int) + 1) = ((m + 1 : Nat) : Int) := by rw [IntWalk.i64_in _ (by omega)]; omega
            have HE2 : Hid (RES = ((if pk s.data.toList m = 45 then (memL s.data.toList f (m + 1)).bind fun l q => .ok (addsL (l + 1 - f) st f) q else .ok (addsL 1 st f) m : PR S4).bind fun st' m => setL s.data.toList g st' m).bind fun st m => .ok (setT true st) m) := Lib.hid HE1.out
            clear HE1 hm hfw
            obtain ⟨c0, c1, c2, c3⟩ := HS.out.cells
            by_cases h45 : pk s.data.toList m = 45
            · have h45b : (((pk s.data.toList m : Nat) : Int) == 45) = true := by rw [beq_iff_eq]; omega
              rw [if_pos h45] at HE2
              have hm1 : m + 1 ≤ s.size := by have := pk_is h45 (by decide); rw [lt_len] at this; omega
              have HMf := Lib.hid (rMember_any s (m + 1) f (by omega) (by omega) wr)
              have hfw := memL_fwd s.data.toList f (m + 1) hm1
              cases hq : memL s.data.toList f (m + 1) with
              | bad q =>
                rw [hq] at HMf HE2
                have HF : Hid (RES = .bad q) := Lib.hid HE2.out
                have HMf : Hid (Calls Tryd.prog 99 #[.string s, .int .i64 ((m + 1 : Nat) : Int), .int .i64 (f : Int)] wr fun e w' => e = .returned (.tuple #[.int .i64 0, .int .i64 (q : Int), .bool false]) ∧ w' = wr) := HMf
                obtain ⟨z0, z1, z2, z3, z4, z5, zf⟩ := HZ.out
                clear HE2 hq hfw c0 c1 c2 c3 h45
                rcases hgo with hgo | ⟨hgo, hgo2⟩
                · go_wp2_with fail
                  refine HMe.out.mono ?_
                  rintro e w9 ⟨rfl, h9⟩; subst w9
                  go_wp2_with fail
                  refine HAm.out.mono ?_
                  rintro e w9 ⟨rfl, h9⟩; subst w9
                  go_wp2_with fail
                  refine HMf.out.mono ?_
                  rintro e w9 ⟨rfl, h9⟩; subst w9
                  go_wp2_with fail
                  refine bodyPost_ret (v := .tuple #[zeroR, .int .i64 (q : Int), .bool false]) (by simp [results, Tryd.results88, go_sem, zeroR, *]) rfl ?_
                  rw [HF.out]
                  exact ⟨rfl, below6 HB.out (Nat.le_refl _) _ _ _ _ _ _⟩
                · go_wp2_with fail
                  refine HAi.out.mono ?_
                  rintro e w9 ⟨rfl, h9⟩; subst w9
                  go_wp2_with fail
                  refine HMe.out.mono ?_
                  rintro e w9 ⟨rfl, h9⟩; subst w9
                  go_wp2_with fail
                  refine HAm.out.mono ?_
                  rintro e w9 ⟨rfl, h9⟩; subst w9
                  go_wp2_with fail
                  refine HMf.out.mono ?_
                  rintro e w9 ⟨rfl, h9⟩; subst w9
                  go_wp2_with fail
                  refine bodyPost_ret (v := .tuple #[zeroR, .int .i64 (q : Int), .bool false]) (by simp [results, Tryd.results88, go_sem, zeroR, *]) rfl ?_
                  rw [HF.out]
                  exact ⟨rfl, below6 HB.out (Nat.le_refl _) _ _ _ _ _ _⟩
              | ok l q =>
                rw [hq] at HMf HE2 hfw
                have hl := hfw.2 l q rfl
                have hmq : m + 1 < q ∧ q ≤ s.size := by have := hfw.1; rw [lt_len] at this; exact this
                have HMf : Hid (Calls Tryd.prog 99 #[.string s, .int .i64 ((m + 1 : Nat) : Int), .int .i64 (f : Int)] wr fun e w' => e = .returned (.tuple #[.int .i64 (l : Int), .int .i64 (q : Int), .bool true]) ∧ w' = wr) := HMf
                have HE3 : Hid (RES = (setL s.data.toList g (addsL (l + 1 - f) st f) q).bind fun st m => .ok (setT true st) m) := Lib.hid HE2.out
                have HWi := Lib.hid (rWith_any st HOk.out f l (by omega) (by omega) wr)
                have HNZ1 : Hid ((addsL (l + 1 - f) st f).isZ = false) := Lib.hid (addsL_nz HOk.out hl.1 (by omega))
                have HOk1 := Lib.hid (addsL_ok (l + 1 - f) st f HOk.out)
                generalize addsL (l + 1 - f) st f = st' at *
                unfold S4.val at HWi
                clear HE2 hq hfw h45 HNZ
                rcases hgo with hgo | ⟨hgo, hgo2⟩
                · go_wp2_with fail
                  refine HMe.out.mono ?_
                  rintro e w9 ⟨rfl, h9⟩; subst w9
                  go_wp2_with fail
                  refine HAm.out.mono ?_
                  rintro e w9 ⟨rfl, h9⟩; subst w9
                  go_wp2_with fail
                  refine HMf.out.mono ?_
                  rintro e w9 ⟨rfl, h9⟩; subst w9
                  go_wp2_with fail
                  refine HWi.out.mono ?_
                  rintro e w5 ⟨rfl, hb5⟩
                  have hs5 := HS.out.later hb5 HS.out.lt
                  obtain ⟨d0, d1, d2, d3⟩ := hs5.cells
                  have hf := hs5.free
                  have f0 := hf 0
                  have f1 := hf 1
                  have f2 := hf 2
                  have f3 := hf 3
                  have HS5 := Lib.hid hs5
                  have HZ5 := Lib.hid (HZ.out.later hb5 (by omega))
                  have HB5 := Lib.hid (HB.out.trans (hb5.mono (by omega)))
                  have hsz5 : w.heap.size + 2 ≤ w5.heap.size := Nat.le_trans hsz hb5.size
                  clear hf hb5 hs5
                  go_wp2_with fail
                  go_roundw
                  case rel =>
                    refine ⟨q, n + 1, g, st', by first | rfl | go_num, by first | rfl | go_num, by omega, by omega, by omega, Lib.hid (iff_of_false (by omega) (by rw [HNZ1.out]; decide)), HOk1, HE3, Lib.hid (HS5.out.all st'), Lib.hid (HZ5.out.of_block (far4 (by omega) _ _ _ _)), Lib.hid (below4 HB5.out (by omega) _ _ _ _), ?_⟩
                    rw [size4]; exact hsz5
                  case measure => simp [intOf]; omega
                · go_wp2_with fail
                  refine HAi.out.mono ?_
                  rintro e w9 ⟨rfl, h9⟩; subst w9
                  go_wp2_with fail
                  refine HMe.out.mono ?_
                  rintro e w9 ⟨rfl, h9⟩; subst w9
                  go_wp2_with fail
                  refine HAm.out.mono ?_
                  rintro e w9 ⟨rfl, h9⟩; subst w9
                  go_wp2_with fail
                  refine HMf.out.mono ?_
                  rintro e w9 ⟨rfl, h9⟩; subst w9
                  go_wp2_with fail
                  refine HWi.out.mono ?_
                  rintro e w5 ⟨rfl, hb5⟩
                  have hs5 := HS.out.later hb5 HS.out.lt
                  obtain ⟨d0, d1, d2, d3⟩ := hs5.cells
                  have hf := hs5.free
                  have f0 := hf 0
                  have f1 := hf 1
                  have f2 := hf 2
                  have f3 := hf 3
                  have HS5 := Lib.hid hs5
                  have HZ5 := Lib.hid (HZ.out.later hb5 (by omega))
                  have HB5 := Lib.hid (HB.out.trans (hb5.mono (by omega)))
                  have hsz5 : w.heap.size + 2 ≤ w5.heap.size := Nat.le_trans hsz hb5.size
                  clear hf hb5 hs5
                  go_wp2_with fail
                  go_roundw
                  case rel =>
                    refine ⟨q, n + 1, g, st', by first | rfl | go_num, by first | rfl | go_num, by omega, by omega, by omega, Lib.hid (iff_of_false (by omega) (by rw [HNZ1.out]; decide)), HOk1, HE3, Lib.hid (HS5.out.all st'), Lib.hid (HZ5.out.of_block (far4 (by omega) _ _ _ _)), Lib.hid (below4 HB5.out (by omega) _ _ _ _), ?_⟩
                    rw [size4]; exact hsz5
                  case measure => simp [intOf]; omega
            · have h45b : (((pk s.data.toList m : Nat) : Int) == 45) = false := by rw [beq_eq_false_iff_ne]; omega
              rw [if_neg h45] at HE2
              have HE3 : Hid (RES = (setL s.data.toList g (addsL 1 st f) m).bind fun st m => .ok (setT true st) m) := Lib.hid HE2.out
              have hone : addsL 1 st f = addsL (f + 1 - f) st f := by rw [show f + 1 - f = 1 by omega]
              rw [hone] at HE3
              have HWi := Lib.hid (rWith_any st HOk.out f f (by omega) (by omega) wr)
              have HNZ1 : Hid ((addsL (f + 1 - f) st f).isZ = false) := Lib.hid (addsL_nz HOk.out (Nat.le_refl _) (by omega))
              have HOk1 := Lib.hid (addsL_ok (f + 1 - f) st f HOk.out)
              generalize addsL (f + 1 - f) st f = st' at *
              unfold S4.val at HWi
              clear HE2 h45 HNZ hone
              rcases hgo with hgo | ⟨hgo, hgo2⟩
              · go_wp2_with fail
                refine HMe.out.mono ?_
                rintro e w9 ⟨rfl, h9⟩; subst w9
                go_wp2_with fail
                refine HAm.out.mono ?_
                rintro e w9 ⟨rfl, h9⟩; subst w9
                go_wp2_with fail
                refine HWi.out.mono ?_
                rintro e w5 ⟨rfl, hb5⟩
                have hs5 := HS.out.later hb5 HS.out.lt
                obtain ⟨d0, d1, d2, d3⟩ := hs5.cells
                have hf := hs5.free
                have f0 := hf 0
                have f1 := hf 1
                have f2 := hf 2
                have f3 := hf 3
                have HS5 := Lib.hid hs5
                have HZ5 := Lib.hid (HZ.out.later hb5 (by omega))
                have HB5 := Lib.hid (HB.out.trans (hb5.mono (by omega)))
                have hsz5 : w.heap.size + 2 ≤ w5.heap.size := Nat.le_trans hsz hb5.size
                clear hf hb5 hs5
                go_wp2_with fail
                go_roundw
                case rel =>
                  refine ⟨m, n + 1, g, st', by first | rfl | go_num, by first | rfl | go_num, by omega, by omega, by omega, Lib.hid (iff_of_false (by omega) (by rw [HNZ1.out]; decide)), HOk1, HE3, Lib.hid (HS5.out.all st'), Lib.hid (HZ5.out.of_block (far4 (by omega) _ _ _ _)), Lib.hid (below4 HB5.out (by omega) _ _ _ _), ?_⟩
                  rw [size4]; exact hsz5
                case measure => simp [intOf]; omega
              · go_wp2_with fail
                refine HAi.out.mono ?_
                rintro e w9 ⟨rfl, h9⟩; subst w9
                go_wp2_with fail
                refine HMe.out.mono ?_
                rintro e w9 ⟨rfl, h9⟩; subst w9
                go_wp2_with fail
                refine HAm.out.mono ?_
                rintro e w9 ⟨rfl, h9⟩; subst w9
                go_wp2_with fail
                refine HWi.out.mono ?_
                rintro e w5 ⟨rfl, hb5⟩
                have hs5 := HS.out.later hb5 HS.out.lt
                obtain ⟨d0, d1, d2, d3⟩ := hs5.cells
                have hf := hs5.free
                have f0 := hf 0
                have f1 := hf 1
                have f2 := hf 2
                have f3 := hf 3
                have HS5 := Lib.hid hs5
                have HZ5 := Lib.hid (HZ.out.later hb5 (by omega))
                have HB5 := Lib.hid (HB.out.trans (hb5.mono (by omega)))
                have hsz5 : w.heap.size + 2 ≤ w5.heap.size := Nat.le_trans hsz hb5.size
                clear hf hb5 hs5
                go_wp2_with fail
                go_roundw
                case rel =>
                  refine ⟨m, n + 1, g, st', by first | rfl | go_num, by first | rfl | go_num, by omega, by omega, by omega, Lib.hid (iff_of_false (by omega) (by rw [HNZ1.out]; decide)), HOk1, HE3, Lib.hid (HS5.out.all st'), Lib.hid (HZ5.out.of_block (far4 (by omega) _ _ _ _)), Lib.hid (below4 HB5.out (by omega) _ _ _ _), ?_⟩
                  rw [size4]; exact hsz5
                case measure => simp [intOf]; omega
end

section
open Go.RowKit

theorem HT.six {w5 : World} {n lo lo' : Nat} {x : Value} {l : List PT} (h : HT w5 (Btw lo w5.heap.size) x l) (hn : n < lo) (hlo : lo' ≤ lo) (a b c d e f : Value) :
    HT ((((((w5.setCell ⟨n, 0, none⟩ a).setCell ⟨n, 1, none⟩ b).setCell ⟨n, 2, none⟩ c).setCell ⟨n, 3, none⟩ d).setCell ⟨n, 4, none⟩ e).setCell ⟨n, 5, none⟩ f) (Btw lo' ((((((w5.setCell ⟨n, 0, none⟩ a).setCell ⟨n, 1, none⟩ b).setCell ⟨n, 2, none⟩ c).setCell ⟨n, 3, none⟩ d).setCell ⟨n, 4, none⟩ e).setCell ⟨n, 5, none⟩ f).heap.size) x l :=
  (kpset6 (Kp.refl w5.heap.size (Is n) w5) rfl a b c d e f).rep h (Nat.le_refl _) (fun k h1 _ h => by unfold Is at h; omega) hlo (by rw [size6]; exact Nat.le_refl _)
theorem HT.more {w : World} {lo : Nat} {x : Value} {l : List PT} (h : HT w (Btw lo w.heap.size) x l) (o : Obj) : HT (w.alloc o) (Btw lo (w.alloc o).heap.size) x l :=
  h.later (fun _ hb => ⟨hb.1, by have := hb.2; rw [World.size_alloc]; omega⟩) (fun b hb o' => (below1 w o).cell (p := ⟨b, o', none⟩) hb.2)

set_option maxRecDepth 100000 in
set_option maxHeartbeats 3200000 in
theorem rAtom_any (s : ByteArray) (pat : Nat → PR PT) (d i : Nat) (hi : i ≤ s.size) (hs : s.size ≤ 100) (hd : s.size < i + (d + 1))
    (hgd : Good s.data.toList pat) (halt : ∀ (w' : World) (j : Nat), j ≤ s.size → s.size < j + d → Calls Tryd.prog 47 #[.string s, .int .i64 (j : Int)] w' (OutR w' (pat j))) (w : World) :
    Calls Tryd.prog 81 #[.string s, .int .i64 (i : Int)] w (OutR w (atomL pat s.data.toList i)) := by
  obtain ⟨RES, hRES⟩ : ∃ RES, RES = atomL pat s.data.toList i := ⟨_, rfl⟩
  rw [← hRES]
  unfold atomL groupL at hRES
  obtain ⟨w1, hw1⟩ : ∃ w1, w1 = w.alloc (.cells #[.int .i64 0, .int .u64 0, .int .u64 0, .int .u64 0, .int .u64 0, .slice none 0 0] 60) := ⟨_, rfl⟩
  have HW1 := Lib.hid hw1
  have hs1 : w1.heap.size = w.heap.size + 1 := by rw [hw1]; simp
  have hb1 : Below w.heap.size w w1 := by rw [hw1]; exact below1 _ _
  have HZ1 : Hid (Z6 w1 w.heap.size) := Lib.hid (by rw [hw1]; exact Box6.new _ _ _ _ _ _ _ rfl)
  have HB1 := Lib.hid hb1
  have HA1 := Lib.hid (rAt_any s i w1)
  have HA2 := Lib.hid (rAt_any s (i + 1) w1)
  have HGD := Lib.hid hgd
  have HALT := Lib.hid halt
  have hwi : IntKind.i64.wrap ((i : Int) + 1) = ((i + 1 : Nat) : Int) := by rw [IntWalk.i64_in _ (by omega)]; omega
  have hwi2 : IntKind.i64.wrap ((i : Int) + 2) = ((i + 2 : Nat) : Int) := by rw [IntWalk.i64_in _ (by omega)]; omega
  have hp1 := pk_lt s.data.toList i
  have hp2 := pk_lt s.data.toList (i + 1)
  have HLT : Hid (pk s.data.toList i ≠ 0 → i < s.size) := Lib.hid (fun h => by have := pk_ne s.data.toList i h; rwa [lt_len] at this)
  have HIn := Lib.hid (rIn_any (pk s.data.toList i))
  have HSp := Lib.hid (rSpecial_any (pk s.data.toList i))
  have HSp2 := Lib.hid (rSpecial_any (pk s.data.toList (i + 1)))
  have HBr : Hid (i < s.size → Calls Tryd.prog 88 #[.string s, .int .i64 ((i + 1 : Nat) : Int)] w1 (OutR w1 (brackL s.data.toList i))) := Lib.hid (fun h => rBrackets_any s i h hs w1)
  obtain ⟨z0, z1, z2, z3, z4, z5, zf⟩ := HZ1.out
  obtain ⟨BR, hBR⟩ : ∃ BR, BR = brackL s.data.toList i := ⟨_, rfl⟩
  rw [← hBR] at hRES HBr
  clear hw1 hb1 hgd halt hBR
  generalize pk s.data.toList i = c at *
  generalize pk s.data.toList (i + 1) = c2 at *
  by_cases h40 : c = 40
  · have h40b : ((c : Int) == 40) = true := by rw [beq_iff_eq]; omega
    rw [if_pos h40] at hRES
    have hlt := HLT.out (by omega)
    by_cases h41 : c2 = 41
    · have h41b : ((c2 : Int) == 41) = true := by rw [beq_iff_eq]; omega
      rw [if_pos h41] at hRES
      have HF := Lib.hid hRES
      clear hRES h40 h41
      go_enter Tryd.func81, Tryd.ntmps81
      go_wp2_with fail
      rw [← HW1.out]
      refine HA1.out.mono ?_
      rintro e w9 ⟨rfl, h9⟩; subst w9
      go_wp2_with fail
      refine HA2.out.mono ?_
      rintro e w9 ⟨rfl, h9⟩; subst w9
      go_wp2_with fail
      refine bodyPost_ret (v := .tuple #[.agg #[.int .i64 2, .int .u64 0, .int .u64 0, .int .u64 0, .int .u64 0, .slice none 0 0], .int .i64 ((i + 2 : Nat) : Int), .bool true]) (by simp [results, Tryd.results81, go_sem, *]) rfl ?_
      rw [HF.out]
      exact OutR.leaf rfl (below6 HB1.out (Nat.le_refl _) _ _ _ _ _ _)
    · have h41b : ((c2 : Int) == 41) = false := by rw [beq_eq_false_iff_ne]; omega
      rw [if_neg h41] at hRES
      have HC := Lib.hid (HALT.out w1 (i + 1) (by omega) (by omega))
      have hg := (HGD.out (i + 1) (by rw [lt_len]; omega)).1
      clear h40 h41
      cases hq : pat (i + 1) with
      | bad m =>
        rw [hq] at HC hRES
        have HF : Hid (RES = .bad m) := Lib.hid hRES
        clear hRES hq hg
        go_enter Tryd.func81, Tryd.ntmps81
        go_wp2_with fail
        rw [← HW1.out]
        refine HA1.out.mono ?_
        rintro e w9 ⟨rfl, h9⟩; subst w9
        go_wp2_with fail
        refine HA2.out.mono ?_
        rintro e w9 ⟨rfl, h9⟩; subst w9
        go_wp2_with fail
        refine HC.out.mono ?_
        rintro e w4 ⟨rfl, hb4⟩
        have hz4 := HZ1.out.later hb4 (by omega)
        have hb5 := below1 w4 (.cells #[.int .i64 0, .int .u64 0, .int .u64 0, .int .u64 0, .int .u64 0, .slice none 0 0] 60)
        have hs4 := hb4.size
        have HB5 := Lib.hid ((HB1.out.trans (hb4.mono (by omega))).trans (hb5.mono (by omega)))
        clear z0 z1 z2 z3 z4 z5 zf
        obtain ⟨z0, z1, z2, z3, z4, z5, zf⟩ := hz4.later hb5 (by omega)
        clear hb4 hb5 hz4
        unfold zeroR
        go_wp2_with fail
        refine bodyPost_ret (v := .tuple #[zeroR, .int .i64 ((m : Nat) : Int), .bool false]) (by simp [results, Tryd.results81, go_sem, zeroR, *]) rfl ?_
        rw [HF.out]
        exact ⟨rfl, below6 HB5.out (Nat.le_refl _) _ _ _ _ _ _⟩
      | ok t m =>
        rw [hq] at HC hRES hg
        have hm : i + 1 < m ∧ m ≤ s.size := by have := hg; rw [lt_len] at this; exact this
        have hRES : RES = if pk s.data.toList m = 41 then .ok t (m + 1) else .bad m := hRES
        have hwm : IntKind.i64.wrap ((m : Int) + 1) = ((m + 1 : Nat) : Int) := by rw [IntWalk.i64_in _ (by omega)]; omega
        have HA3 := Lib.hid (rAt_any s m)
        clear hq hg
        by_cases h41m : pk s.data.toList m = 41
        · rw [if_pos h41m] at hRES
          have HF := Lib.hid hRES
          have h41mb : (((pk s.data.toList m : Nat) : Int) != 41) = false := by rw [bne_eq_false_iff_eq]; omega
          clear hRES h41m
          go_enter Tryd.func81, Tryd.ntmps81
          go_wp2_with fail
          rw [← HW1.out]
          refine HA1.out.mono ?_
          rintro e w9 ⟨rfl, h9⟩; subst w9
          go_wp2_with fail
          refine HA2.out.mono ?_
          rintro e w9 ⟨rfl, h9⟩; subst w9
          go_wp2_with fail
          refine HC.out.mono ?_
          rintro e w4 ⟨⟨oe, ce, rfl, hT⟩, hb4⟩
          have hz4 := HZ1.out.later hb4 (by omega)
          have hb5 := below1 w4 (.cells #[.int .i64 t.k, .int .u64 t.s.a, .int .u64 t.s.b, .int .u64 t.s.c, .int .u64 t.s.d, .slice oe t.l.length ce] 60)
          have hs4 := hb4.size
          have HB5 := Lib.hid ((HB1.out.trans (hb4.mono (by omega))).trans (hb5.mono (by omega)))
          have HT5 := Lib.hid (hT.more (.cells #[.int .i64 t.k, .int .u64 t.s.a, .int .u64 t.s.b, .int .u64 t.s.c, .int .u64 t.s.d, .slice oe t.l.length ce] 60))
          clear z0 z1 z2 z3 z4 z5 zf
          obtain ⟨z0, z1, z2, z3, z4, z5, zf⟩ := hz4.later hb5 (by omega)
          clear hb4 hb5 hz4 hT
          unfold PT.val
          go_wp2_with fail
          refine (HA3.out _).mono ?_
          rintro e w9 ⟨rfl, h9⟩; subst w9
          go_wp2_with fail
          refine bodyPost_ret (v := .tuple #[.agg #[.int .i64 t.k, .int .u64 t.s.a, .int .u64 t.s.b, .int .u64 t.s.c, .int .u64 t.s.d, .slice oe t.l.length ce], .int .i64 ((m + 1 : Nat) : Int), .bool true]) (by simp [results, Tryd.results81, go_sem, *]) rfl ?_
          rw [HF.out]
          exact ⟨⟨oe, ce, rfl, HT5.out.six (by omega) (by omega) _ _ _ _ _ _⟩, below6 HB5.out (Nat.le_refl _) _ _ _ _ _ _⟩
        · rw [if_neg h41m] at hRES
          have HF := Lib.hid hRES
          have h41mb : (((pk s.data.toList m : Nat) : Int) != 41) = true := by rw [bne_iff_ne]; omega
          clear hRES h41m
          go_enter Tryd.func81, Tryd.ntmps81
          go_wp2_with fail
          rw [← HW1.out]
          refine HA1.out.mono ?_
          rintro e w9 ⟨rfl, h9⟩; subst w9
          go_wp2_with fail
          refine HA2.out.mono ?_
          rintro e w9 ⟨rfl, h9⟩; subst w9
          go_wp2_with fail
          refine HC.out.mono ?_
          rintro e w4 ⟨⟨oe, ce, rfl, hT⟩, hb4⟩
          have hz4 := HZ1.out.later hb4 (by omega)
          have hb5 := below1 w4 (.cells #[.int .i64 t.k, .int .u64 t.s.a, .int .u64 t.s.b, .int .u64 t.s.c, .int .u64 t.s.d, .slice oe t.l.length ce] 60)
          have hs4 := hb4.size
          have HB5 := Lib.hid ((HB1.out.trans (hb4.mono (by omega))).trans (hb5.mono (by omega)))
          have HT5 := Lib.hid (hT.more (.cells #[.int .i64 t.k, .int .u64 t.s.a, .int .u64 t.s.b, .int .u64 t.s.c, .int .u64 t.s.d, .slice oe t.l.length ce] 60))
          clear z0 z1 z2 z3 z4 z5 zf
          obtain ⟨z0, z1, z2, z3, z4, z5, zf⟩ := hz4.later hb5 (by omega)
          clear hb4 hb5 hz4 hT
          unfold PT.val
          go_wp2_with fail
          refine (HA3.out _).mono ?_
          rintro e w9 ⟨rfl, h9⟩; subst w9
          go_wp2_with fail
          refine bodyPost_ret (v := .tuple #[zeroR, .int .i64 ((m : Nat) : Int), .bool false]) (by simp [results, Tryd.results81, go_sem, zeroR, *]) rfl ?_
          rw [HF.out]
          exact ⟨rfl, below6 HB5.out (Nat.le_refl _) _ _ _ _ _ _⟩
  have h40b : ((c : Int) == 40) = false := by rw [beq_eq_false_iff_ne]; omega
  rw [if_neg h40] at hRES
  clear h40
  by_cases h91 : c = 91
  · have h91b : ((c : Int) == 91) = true := by rw [beq_iff_eq]; omega
    rw [if_pos h91] at hRES
    have HC := Lib.hid (HBr.out (HLT.out (by omega)))
    have HR := Lib.hid hRES
    clear hRES h91
    cases BR with
    | bad m =>
      have HF : Hid (RES = .bad m) := HR
      go_enter Tryd.func81, Tryd.ntmps81
      go_wp2_with fail
      rw [← HW1.out]
      refine HA1.out.mono ?_
      rintro e w9 ⟨rfl, h9⟩; subst w9
      go_wp2_with fail
      refine HC.out.mono ?_
      rintro e w4 ⟨rfl, hb4⟩
      have hz4 := HZ1.out.later hb4 (by omega)
      have HB5 := Lib.hid (HB1.out.trans (hb4.mono (by omega)))
      clear z0 z1 z2 z3 z4 z5 zf
      obtain ⟨z0, z1, z2, z3, z4, z5, zf⟩ := hz4
      clear hb4
      unfold zeroR
      go_wp2_with fail
      refine bodyPost_ret (v := .tuple #[zeroR, .int .i64 ((m : Nat) : Int), .bool false]) (by simp [results, Tryd.results81, go_sem, zeroR, *]) rfl ?_
      rw [HF.out]
      exact ⟨rfl, below6 HB5.out (Nat.le_refl _) _ _ _ _ _ _⟩
    | ok t m =>
      have HF : Hid (RES = .ok t m) := HR
      go_enter Tryd.func81, Tryd.ntmps81
      go_wp2_with fail
      rw [← HW1.out]
      refine HA1.out.mono ?_
      rintro e w9 ⟨rfl, h9⟩; subst w9
      go_wp2_with fail
      refine HC.out.mono ?_
      rintro e w4 ⟨⟨oe, ce, rfl, hT⟩, hb4⟩
      have hz4 := HZ1.out.later hb4 (by omega)
      have HB5 := Lib.hid (HB1.out.trans (hb4.mono (by omega)))
      have HT5 := Lib.hid hT
      clear z0 z1 z2 z3 z4 z5 zf
      obtain ⟨z0, z1, z2, z3, z4, z5, zf⟩ := hz4
      clear hb4 hT
      unfold PT.val
      go_wp2_with fail
      refine bodyPost_ret (v := .tuple #[.agg #[.int .i64 t.k, .int .u64 t.s.a, .int .u64 t.s.b, .int .u64 t.s.c, .int .u64 t.s.d, .slice oe t.l.length ce], .int .i64 ((m : Nat) : Int), .bool true]) (by simp [results, Tryd.results81, go_sem, *]) rfl ?_
      rw [HF.out]
      exact ⟨⟨oe, ce, rfl, HT5.out.six (by omega) (by omega) _ _ _ _ _ _⟩, below6 HB5.out (Nat.le_refl _) _ _ _ _ _ _⟩
  have h91b : ((c : Int) == 91) = false := by rw [beq_eq_false_iff_ne]; omega
  rw [if_neg h91] at hRES
  clear h91 HBr
  by_cases h46 : c = 46
  · have h46b : ((c : Int) == 46) = true := by rw [beq_iff_eq]; omega
    rw [if_pos h46] at hRES
    have HF := Lib.hid hRES
    have HRe0 := rRest_any .zero S4.zero_ok w1
    rw [without_zero] at HRe0
    have HRe := Lib.hid HRe0
    clear hRES h46 HRe0
    generalize S4.alpha = st at *
    have HCl := Lib.hid (rClass_any st)
    unfold S4.val at HRe HCl
    unfold S4.zero at HRe
    unfold PT.val at HCl
    go_enter Tryd.func81, Tryd.ntmps81
    go_wp2_with fail
    rw [← HW1.out]
    refine HA1.out.mono ?_
    rintro e w9 ⟨rfl, h9⟩; subst w9
    go_wp2_with fail
    refine HRe.out.mono ?_
    rintro e w4 ⟨rfl, hb4⟩
    have HZ4 := Lib.hid (HZ1.out.later hb4 (by omega))
    have HB4 := Lib.hid (HB1.out.trans (hb4.mono (by omega)))
    have hs4 : w.heap.size + 1 ≤ w4.heap.size := by have := hb4.size; omega
    clear hb4
    go_wp2_with fail
    refine (HCl.out w4).mono ?_
    rintro e w5 ⟨rfl, hb5⟩
    have HZ5 := Lib.hid (HZ4.out.later hb5 (by omega))
    have HB5 := Lib.hid (HB4.out.trans (hb5.mono (by omega)))
    clear hb5 z0 z1 z2 z3 z4 z5 zf
    obtain ⟨z0, z1, z2, z3, z4, z5, zf⟩ := HZ5.out
    go_wp2_with fail
    refine bodyPost_ret (v := .tuple #[(classT st).val (.slice none 0 0), .int .i64 ((i + 1 : Nat) : Int), .bool true]) (by simp [results, Tryd.results81, go_sem, PT.val, *]) rfl ?_
    rw [HF.out]
    exact OutR.leaf (classT_l _) (below6 HB5.out (Nat.le_refl _) _ _ _ _ _ _)
  have h46b : ((c : Int) == 46) = false := by rw [beq_eq_false_iff_ne]; omega
  rw [if_neg h46] at hRES
  clear h46
  by_cases h92 : c = 92
  · have h92b : ((c : Int) == 92) = true := by rw [beq_iff_eq]; omega
    rw [if_pos h92] at hRES
    clear h92
    cases hsp : isSp c2
    · rw [hsp, if_neg (by decide)] at hRES
      rw [hsp] at HSp2
      have HF := Lib.hid hRES
      clear hRES
      go_enter Tryd.func81, Tryd.ntmps81
      go_wp2_with fail
      rw [← HW1.out]
      refine HA1.out.mono ?_
      rintro e w9 ⟨rfl, h9⟩; subst w9
      go_wp2_with fail
      refine HA2.out.mono ?_
      rintro e w9 ⟨rfl, h9⟩; subst w9
      go_wp2_with fail
      refine (HSp2.out w1).mono ?_
      rintro e w9 ⟨rfl, h9⟩; subst w9
      go_wp2_with fail
      refine bodyPost_ret (v := .tuple #[zeroR, .int .i64 ((i + 1 : Nat) : Int), .bool false]) (by simp [results, Tryd.results81, go_sem, zeroR, *]) rfl ?_
      rw [HF.out]
      exact ⟨rfl, below6 HB1.out (Nat.le_refl _) _ _ _ _ _ _⟩
    · rw [hsp, if_pos rfl] at hRES
      rw [hsp] at HSp2
      have HF := Lib.hid hRES
      clear hRES
      go_enter Tryd.func81, Tryd.ntmps81
      go_wp2_with fail
      rw [← HW1.out]
      refine HA1.out.mono ?_
      rintro e w9 ⟨rfl, h9⟩; subst w9
      go_wp2_with fail
      refine HA2.out.mono ?_
      rintro e w9 ⟨rfl, h9⟩; subst w9
      go_wp2_with fail
      refine (HSp2.out w1).mono ?_
      rintro e w9 ⟨rfl, h9⟩; subst w9
      have hone : addsL (c2 + 1 - c2) .zero c2 = S4.zero.add c2 := by rw [show c2 + 1 - c2 = 1 by omega]; rfl
      have HWi0 := rWith_any .zero S4.zero_ok c2 c2 (by omega) (by omega) w1
      rw [hone] at HWi0
      have HWi := Lib.hid HWi0
      clear HWi0 hone
      unfold oneT at HF
      generalize S4.zero.add c2 = st at *
      have HCl := Lib.hid (rClass_any st)
      unfold S4.val at HWi HCl
      unfold S4.zero at HWi
      unfold PT.val at HCl
      go_wp2_with fail
      refine HWi.out.mono ?_
      rintro e w4 ⟨rfl, hb4⟩
      have HZ4 := Lib.hid (HZ1.out.later hb4 (by omega))
      have HB4 := Lib.hid (HB1.out.trans (hb4.mono (by omega)))
      have hs4 : w.heap.size + 1 ≤ w4.heap.size := by have := hb4.size; omega
      clear hb4
      go_wp2_with fail
      refine (HCl.out w4).mono ?_
      rintro e w5 ⟨rfl, hb5⟩
      have HZ5 := Lib.hid (HZ4.out.later hb5 (by omega))
      have HB5 := Lib.hid (HB4.out.trans (hb5.mono (by omega)))
      clear hb5 z0 z1 z2 z3 z4 z5 zf
      obtain ⟨z0, z1, z2, z3, z4, z5, zf⟩ := HZ5.out
      go_wp2_with fail
      refine bodyPost_ret (v := .tuple #[(classT st).val (.slice none 0 0), .int .i64 ((i + 2 : Nat) : Int), .bool true]) (by simp [results, Tryd.results81, go_sem, PT.val, *]) rfl ?_
      rw [HF.out]
      exact OutR.leaf (classT_l _) (below6 HB5.out (Nat.le_refl _) _ _ _ _ _ _)
  have h92b : ((c : Int) == 92) = false := by rw [beq_eq_false_iff_ne]; omega
  rw [if_neg h92] at hRES
  clear h92
  unfold isPl at hRES
  cases hin : inA c
  · rw [hin] at HIn hRES
    have HF : Hid (RES = .bad i) := Lib.hid (by rw [hRES]; rfl)
    clear hRES
    go_enter Tryd.func81, Tryd.ntmps81
    go_wp2_with fail
    rw [← HW1.out]
    refine HA1.out.mono ?_
    rintro e w9 ⟨rfl, h9⟩; subst w9
    go_wp2_with fail
    refine (HIn.out w1).mono ?_
    rintro e w9 ⟨rfl, h9⟩; subst w9
    go_wp2_with fail
    refine bodyPost_ret (v := .tuple #[zeroR, .int .i64 ((i : Nat) : Int), .bool false]) (by simp [results, Tryd.results81, go_sem, zeroR, *]) rfl ?_
    rw [HF.out]
    exact ⟨rfl, below6 HB1.out (Nat.le_refl _) _ _ _ _ _ _⟩
  · rw [hin] at HIn hRES
    cases hsp : isSp c
    · rw [hsp] at HSp hRES
      have HF : Hid (RES = .ok (oneT c) (i + 1)) := Lib.hid (by rw [hRES]; rfl)
      clear hRES
      go_enter Tryd.func81, Tryd.ntmps81
      go_wp2_with fail
      rw [← HW1.out]
      refine HA1.out.mono ?_
      rintro e w9 ⟨rfl, h9⟩; subst w9
      go_wp2_with fail
      refine (HIn.out w1).mono ?_
      rintro e w9 ⟨rfl, h9⟩; subst w9
      go_wp2_with fail
      refine (HSp.out w1).mono ?_
      rintro e w9 ⟨rfl, h9⟩; subst w9
      have hone : addsL (c + 1 - c) .zero c = S4.zero.add c := by rw [show c + 1 - c = 1 by omega]; rfl
      have HWi0 := rWith_any .zero S4.zero_ok c c (by omega) (by omega) w1
      rw [hone] at HWi0
      have HWi := Lib.hid HWi0
      clear HWi0 hone
      unfold oneT at HF
      generalize S4.zero.add c = st at *
      have HCl := Lib.hid (rClass_any st)
      unfold S4.val at HWi HCl
      unfold S4.zero at HWi
      unfold PT.val at HCl
      go_wp2_with fail
      refine HWi.out.mono ?_
      rintro e w4 ⟨rfl, hb4⟩
      have HZ4 := Lib.hid (HZ1.out.later hb4 (by omega))
      have HB4 := Lib.hid (HB1.out.trans (hb4.mono (by omega)))
      have hs4 : w.heap.size + 1 ≤ w4.heap.size := by have := hb4.size; omega
      clear hb4
      go_wp2_with fail
      refine (HCl.out w4).mono ?_
      rintro e w5 ⟨rfl, hb5⟩
      have HZ5 := Lib.hid (HZ4.out.later hb5 (by omega))
      have HB5 := Lib.hid (HB4.out.trans (hb5.mono (by omega)))
      clear hb5 z0 z1 z2 z3 z4 z5 zf
      obtain ⟨z0, z1, z2, z3, z4, z5, zf⟩ := HZ5.out
      go_wp2_with fail
      refine bodyPost_ret (v := .tuple #[(classT st).val (.slice none 0 0), .int .i64 ((i + 1 : Nat) : Int), .bool true]) (by simp [results, Tryd.results81, go_sem, PT.val, *]) rfl ?_
      rw [HF.out]
      exact OutR.leaf (classT_l _) (below6 HB5.out (Nat.le_refl _) _ _ _ _ _ _)
    · rw [hsp] at HSp hRES
      have HF : Hid (RES = .bad i) := Lib.hid (by rw [hRES]; rfl)
      clear hRES
      go_enter Tryd.func81, Tryd.ntmps81
      go_wp2_with fail
      rw [← HW1.out]
      refine HA1.out.mono ?_
      rintro e w9 ⟨rfl, h9⟩; subst w9
      go_wp2_with fail
      refine (HIn.out w1).mono ?_
      rintro e w9 ⟨rfl, h9⟩; subst w9
      go_wp2_with fail
      refine (HSp.out w1).mono ?_
      rintro e w9 ⟨rfl, h9⟩; subst w9
      go_wp2_with fail
      refine bodyPost_ret (v := .tuple #[zeroR, .int .i64 ((i : Nat) : Int), .bool false]) (by simp [results, Tryd.results81, go_sem, zeroR, *]) rfl ?_
      rw [HF.out]
      exact ⟨rfl, below6 HB1.out (Nat.le_refl _) _ _ _ _ _ _⟩
end

end Go.Proofs.YtaipaddfehpmgaaDoor
