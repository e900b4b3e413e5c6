/-
  Alternate, Star and Literal of the specification. Nothing is assumed.
-/
import Derived.Test.YtlonddlemlkhoaaDoorPaComb
namespace Go.Proofs.YtlonddlemlkhoaaDoor
open Go.RowKit

theorem rlimited_any (p : ByteArray) (w : World) : Calls Tryd.prog 37 #[.string p] w fun e w' => e = .returned (.tuple #[.string (limS p), .int .i64 (limE p)]) ∧ w' = w := by
  unfold limS limE
  by_cases h : 40 < p.size
  · have hI : (40 : Int) < (p.size : Int) := by omega
    rw [if_pos h, if_pos h]
    go_enter Tryd.func37, Tryd.ntmps37
    go_wp2_with fail
    go_ret2
    exact ⟨rfl, rfl⟩
  · have hI : ¬ (40 : Int) < (p.size : Int) := by omega
    rw [if_neg h, if_neg h]
    go_enter Tryd.func37, Tryd.ntmps37
    go_wp2_with fail
    go_ret2
    exact ⟨rfl, rfl⟩
set_option maxRecDepth 100000 in
set_option maxHeartbeats 1600000 in
theorem wrap_any (p : ByteArray) (hp : p.size ≤ 40) (t : PT) (oe : Option Addr) (ce : Nat) (r : Bool) (ks : List Int) (hk : (t.k = 5 ∨ (r = true ∧ 4 ≤ t.k)) ↔ hasK ks t.k = true) (w : World) :
    Calls Tryd.prog 38 #[.string p, t.val (.slice oe t.l.length ce), .bool r] w fun e w' => e = .returned (.string (if hasK ks t.k = true then ⟨#[40]⟩ ++ p ++ ⟨#[41]⟩ else p)) ∧ Below w.heap.size w w' := by
  have c1 : ¬ 9223372036854775807 < 1 + p.size := by omega
  have c2 : ¬ 9223372036854775807 < 1 + p.size + 1 := by omega
  clear hp
  unfold PT.val
  by_cases h5 : t.k = 5
  · rw [if_pos (hk.1 (.inl h5))]
    clear hk
    go_enter Tryd.func38, Tryd.ntmps38
    go_wp2_with fail
    go_ret
    exact ⟨rfl, below1 w _⟩
  have h5b : (t.k == 5) = false := by simpa using h5
  cases r with
  | false =>
    rw [if_neg (fun h => by rcases hk.2 h with h | ⟨h, -⟩; exact h5 h; cases h)]
    clear hk
    go_enter Tryd.func38, Tryd.ntmps38
    go_wp2_with fail
    go_ret
    exact ⟨rfl, below1 w _⟩
  | true =>
    by_cases h4 : 4 ≤ t.k
    · rw [if_pos (hk.1 (.inr ⟨rfl, h4⟩))]
      clear hk
      go_enter Tryd.func38, Tryd.ntmps38
      go_wp2_with fail
      go_ret
      exact ⟨rfl, below1 w _⟩
    · rw [if_neg (fun h => by rcases hk.2 h with h | ⟨-, h⟩; exact h5 h; exact h4 h)]
      clear hk
      go_enter Tryd.func38, Tryd.ntmps38
      go_wp2_with fail
      go_ret
      exact ⟨rfl, below1 w _⟩

set_option maxRecDepth 100000 in
set_option maxHeartbeats 1600000 in
theorem ralternate_any (p q : ByteArray) (w : World) :
    Calls Tryd.prog 18 #[.string p, .string q] w fun e w' => e = .returned (.tuple #[.string (twoS p q (p ++ ⟨#[124]⟩ ++ q)), .int .i64 (twoE p q (p ++ ⟨#[124]⟩ ++ q))]) ∧ Below w.heap.size w w' := by
  have HP := Lib.hid (rparse_u p w)
  have HQ := Lib.hid (fun (V : World) => rparse_u q V)
  have HL := Lib.hid (fun V => rlimited_any (p ++ ⟨#[124]⟩ ++ q) V)
  unfold twoS twoE
  generalize treeU p = t at *
  generalize (fauP p : Int) = fa at *
  generalize treeU q = u at *
  generalize (fauP q : Int) = fb at *
  unfold PT.val at HP HQ
  by_cases h0 : errP p = 0
  · rw [if_pos h0, if_pos h0]
    have hl0 := err_len h0
    rw [h0] at HP
    by_cases h1 : errP q = 0
    · rw [if_pos h1, if_pos h1]
      have hl1 := err_len h1
      rw [h1] at HQ
      have c1 : ¬ 9223372036854775807 < p.size + 1 := by omega
      have c2 : ¬ 9223372036854775807 < p.size + 1 + q.size := by omega
      clear h0 h1 hl0 hl1
      go_enter Tryd.func18, Tryd.ntmps18
      go_wp2_with fail
      refine HP.out.mono ?_
      rintro e w1 ⟨⟨oe, ce, rfl, -⟩, hb1⟩
      have HB1 := Lib.hid (hb1.trans ((below1 w1 (.cells #[.int .i64 t.k, .int .u64 t.s.a, .int .u64 t.s.b, .int .u64 t.s.c, .int .u64 t.s.d, .slice oe t.l.length ce] 33)).mono hb1.size))
      clear hb1
      go_wp2_with fail
      refine (HQ.out _).mono ?_
      rintro e w2 ⟨⟨of, cf, rfl, -⟩, hb2⟩
      have hb2' := HB1.out.trans (hb2.mono HB1.out.size)
      have HB2 := Lib.hid (hb2'.trans ((below1 w2 (.cells #[.int .i64 u.k, .int .u64 u.s.a, .int .u64 u.s.b, .int .u64 u.s.c, .int .u64 u.s.d, .slice of u.l.length cf] 33)).mono hb2'.size))
      clear hb2 hb2'
      go_wp2_with fail
      refine (HL.out _).mono ?_
      rintro e w3 ⟨rfl, h3⟩; subst h3
      go_wp2_with fail
      go_ret2
      exact ⟨rfl, HB2.out⟩
    · rw [if_neg h1, if_neg h1]
      have hne : ((errP q != 0) : Bool) = true := by rw [bne_iff_ne]; exact h1
      clear h0
      generalize errP q = er at *
      go_enter Tryd.func18, Tryd.ntmps18
      go_wp2_with fail
      refine HP.out.mono ?_
      rintro e w1 ⟨⟨oe, ce, rfl, -⟩, hb1⟩
      have HB1 := Lib.hid (hb1.trans ((below1 w1 (.cells #[.int .i64 t.k, .int .u64 t.s.a, .int .u64 t.s.b, .int .u64 t.s.c, .int .u64 t.s.d, .slice oe t.l.length ce] 33)).mono hb1.size))
      clear hb1
      go_wp2_with fail
      refine (HQ.out _).mono ?_
      rintro e w2 ⟨⟨of, cf, rfl, -⟩, hb2⟩
      have hb2' := HB1.out.trans (hb2.mono HB1.out.size)
      have HB2 := Lib.hid (hb2'.trans ((below1 w2 (.cells #[.int .i64 u.k, .int .u64 u.s.a, .int .u64 u.s.b, .int .u64 u.s.c, .int .u64 u.s.d, .slice of u.l.length cf] 33)).mono hb2'.size))
      clear hb2 hb2'
      go_wp2_with fail
      go_ret2
      exact ⟨rfl, HB2.out⟩
  · rw [if_neg h0, if_neg h0]
    have hne : ((errP p != 0) : Bool) = true := by rw [bne_iff_ne]; exact h0
    generalize errP p = er at *
    go_enter Tryd.func18, Tryd.ntmps18
    go_wp2_with fail
    refine HP.out.mono ?_
    rintro e w1 ⟨⟨oe, ce, rfl, -⟩, hb1⟩
    have HB1 := Lib.hid (hb1.trans ((below1 w1 (.cells #[.int .i64 t.k, .int .u64 t.s.a, .int .u64 t.s.b, .int .u64 t.s.c, .int .u64 t.s.d, .slice oe t.l.length ce] 33)).mono hb1.size))
    clear hb1
    go_wp2_with fail
    go_ret2
    exact ⟨rfl, HB1.out⟩

set_option maxRecDepth 100000 in
set_option maxHeartbeats 1600000 in
theorem rstar_any (p : ByteArray) (w : World) :
    Calls Tryd.prog 20 #[.string p] w fun e w' => e = .returned (.tuple #[.string (onS p (encS [4, 5, 6] p ++ ⟨#[42]⟩)), .int .i64 (onE p (encS [4, 5, 6] p ++ ⟨#[42]⟩))]) ∧ Below w.heap.size w w' := by
  have HP := Lib.hid (rparse_u p w)
  have HL := Lib.hid (fun V => rlimited_any (encS [4, 5, 6] p ++ ⟨#[42]⟩) V)
  unfold onS onE
  by_cases h0 : errP p = 0
  · rw [if_pos h0, if_pos h0]
    have hl0 := enc_len [4, 5, 6] h0
    have hp := err_len h0
    obtain ⟨ha, hb⟩ := tree_k h0
    have HWR := Lib.hid (fun (oe : Option Addr) (ce : Nat) (V : World) => wrap_any p hp (treeU p) oe ce true [4, 5, 6] (by
      constructor
      · intro h
        have : (treeU p).k = 4 ∨ (treeU p).k = 5 ∨ (treeU p).k = 6 := by omega
        unfold hasK
        rcases this with h | h | h <;> rw [h] <;> rfl
      · intro h
        right
        refine ⟨rfl, ?_⟩
        unfold hasK at h
        simp at h
        omega) V)
    have HE : Hid (encS [4, 5, 6] p = if hasK [4, 5, 6] (treeU p).k = true then ⟨#[40]⟩ ++ p ++ ⟨#[41]⟩ else p) := Lib.hid rfl
    rw [← HE.out] at HWR
    rw [h0] at HP
    clear HE ha hb hp
    generalize encS [4, 5, 6] p = s at *
    generalize treeU p = t at *
    generalize (fauP p : Int) = fa at *
    unfold PT.val at HP HWR
    have c1 : ¬ 9223372036854775807 < s.size + 1 := by omega
    clear h0 hl0
    go_enter Tryd.func20, Tryd.ntmps20
    go_wp2_with fail
    refine HP.out.mono ?_
    rintro e w1 ⟨⟨oe, ce, rfl, -⟩, hb1⟩
    obtain ⟨w2, hw2⟩ : ∃ w2, w2 = w1.alloc (.cells #[.int .i64 t.k, .int .u64 t.s.a, .int .u64 t.s.b, .int .u64 t.s.c, .int .u64 t.s.d, .slice oe t.l.length ce] 33) := ⟨_, rfl⟩
    have HW2 := Lib.hid hw2
    have hT2 : TR w2 w1.heap.size 33 t (.slice oe t.l.length ce) := by rw [hw2]; exact new_at w1 _
    have hb2 : Below w1.heap.size w1 w2 := by rw [hw2]; exact below1 _ _
    obtain ⟨k0, k1, k2, k3, k4, k5⟩ := hT2.cells
    have HB2 := Lib.hid (hb1.trans (hb2.mono hb1.size))
    have HC := Lib.hid (HWR.out oe ce w2)
    clear hb1 hb2 hw2 hT2
    go_wp2_with fail
    rw [← HW2.out]
    go_wp2_with (go_at_call 38; refine HC.out.mono ?_; rintro e w3 ⟨rfl, hb3⟩)
    have HB3 := Lib.hid (HB2.out.trans (hb3.mono HB2.out.size))
    clear hb3
    go_wp2_with fail
    refine (HL.out _).mono ?_
    rintro e w4 ⟨rfl, h3⟩; subst h3
    go_wp2_with fail
    go_ret2
    exact ⟨rfl, HB3.out⟩
  · rw [if_neg h0, if_neg h0]
    have hne : ((errP p != 0) : Bool) = true := by rw [bne_iff_ne]; exact h0
    generalize errP p = er at *
    generalize treeU p = t at *
    generalize (fauP p : Int) = fa at *
    unfold PT.val at HP
    go_enter Tryd.func20, Tryd.ntmps20
    go_wp2_with fail
    refine HP.out.mono ?_
    rintro e w1 ⟨⟨oe, ce, rfl, -⟩, hb1⟩
    have HB1 := Lib.hid (hb1.trans ((below1 w1 (.cells #[.int .i64 t.k, .int .u64 t.s.a, .int .u64 t.s.b, .int .u64 t.s.c, .int .u64 t.s.d, .slice oe t.l.length ce] 33)).mono hb1.size))
    clear hb1
    go_wp2_with fail
    go_ret2
    exact ⟨rfl, HB1.out⟩

set_option maxRecDepth 100000 in
set_option maxHeartbeats 1600000 in
theorem shown_any (c : UInt8) (r : Bool) (w : World) :
    Calls Tryd.prog 43 #[.int .i64 (c.toNat : Int), .bool r] w fun e w' => e = .returned (.string (if r = true then str [92, c] else str [c])) ∧ Below w.heap.size w w' := by
  have hc := UInt8.toNat_lt c
  have hw8 : IntKind.u8.wrap (c.toNat : Int) = (c.toNat : Int) := by
    unfold IntKind.wrap
    simp [IntKind.signed, IntKind.bits]
    omega
  obtain ⟨w1, hw1⟩ : ∃ w1, w1 = w.alloc (.cells #[.int .u8 (c.toNat : Int)] 5) := ⟨_, rfl⟩
  have hback := run_convert_bytes_back (P := Tryd.prog) w1 69 9 5 ⟨w.heap.size, 0, none⟩ 1 [c] Tryd.underlying69 Tryd.underlying5 Tryd.underlying9 (fun j hj => by
    have : j = 0 := by simp at hj; omega
    subst this
    rw [hw1]
    exact cell_at _ _ _ _ _ rfl)
  rw [hw1, show [c].length = 1 from rfl] at hback
  have e92 : (⟨#[92]⟩ : ByteArray) ++ ⟨[c].toArray⟩ = str [92, c] := by
    unfold str
    rfl
  cases r with
  | true =>
    rw [if_pos rfl]
    go_enter Tryd.func43, Tryd.ntmps43
    go_wp2_with fail
    go_ret
    exact ⟨rfl, below1 w _⟩
  | false =>
    rw [if_neg (by decide)]
    go_enter Tryd.func43, Tryd.ntmps43
    go_wp2_with fail
    go_ret
    exact ⟨rfl, below1 w _⟩

theorem str_join (a b : List UInt8) : str a ++ str b = str (a ++ b) := by
  unfold str
  simp [ByteArray.ext_iff]
theorem lits_le2 (R : List UInt8) : R.length ≤ (litsL R).length := by
  induction R with
  | nil => exact Nat.le_refl _
  | cons c R ih =>
    have : 1 ≤ (escL c).length := by unfold escL; split <;> simp
    rw [litsL, List.length_append, List.length_cons]
    omega
theorem lit_end (s : ByteArray) (i : Nat) (hi : i ≤ s.size) (he : i = s.size ∨ i = 41) (hall : (s.data.toList.take i).all (fun c => inA c.toNat) = true) (hz : ¬ s.size = 0) :
    (40 < (litsL (s.data.toList.take i)).length → litS s = ⟨#[]⟩) ∧ (¬ 40 < (litsL (s.data.toList.take i)).length → litS s = str (litsL (s.data.toList.take i))) := by
  have hle := lits_le2 (s.data.toList.take i)
  rw [List.length_take, lt_len] at hle
  unfold litS
  rw [if_neg hz]
  by_cases h40 : 40 < s.size
  · rw [if_pos h40]
    exact ⟨fun _ => rfl, fun h => absurd (by omega) h⟩
  · rw [if_neg h40]
    obtain rfl : i = s.size := by omega
    have htk : s.data.toList.take s.size = s.data.toList := List.take_of_length_le (by rw [lt_len]; exact Nat.le_refl _)
    rw [htk] at hall ⊢
    rw [if_pos hall]
    exact ⟨fun h => if_pos h, fun h => if_neg h⟩
set_option maxRecDepth 100000 in
set_option maxHeartbeats 1600000 in
theorem rliteral_any (s : ByteArray) (w : World) :
    Calls Tryd.prog 22 #[.string s] w fun e w' => e = .returned (.string (litS s)) ∧ Below w.heap.size w w' := by
  obtain ⟨R, hR⟩ : ∃ R, R = litS s := ⟨_, rfl⟩
  rw [← hR]
  have HR := Lib.hid hR
  clear hR
  go_enter Tryd.func22, Tryd.ntmps22
  go_wp2_with fail
  go_loopw [3, 4] (fun a b wr => ∃ i : Nat, a = .string (str (litsL (s.data.toList.take i))) ∧ b = .int .i64 (i : Int) ∧ i ≤ s.size ∧ i ≤ 41 ∧ Hid ((s.data.toList.take i).all (fun c => inA c.toNat) = true) ∧ Hid (Below w.heap.size w wr) ∧ w.heap.size ≤ wr.heap.size) (fun _ b _ => s.size - (intOf b).toNat)
  case atStart => exact ⟨0, rfl, rfl, Nat.zero_le _, by decide, Lib.hid rfl, Lib.hid (Below.refl _ _), Nat.le_refl _⟩
  case round =>
    obtain ⟨i, rfl, rfl, his, hi41, HAr, HBr, hsr⟩ := hrel
    have hll : (litsL (s.data.toList.take i)).length ≤ 100 := by
      have := litsL_len (s.data.toList.take i)
      rw [List.length_take, lt_len] at this
      omega
    by_cases hlt : i < s.size
    · have hltI : (i : Int) < (s.size : Int) := by omega
      have hi0 : (0 : Int) ≤ (i : Int) := by omega
      by_cases h40 : i ≤ 40
      · have h40I : (i : Int) ≤ 40 := by omega
        have hwi : IntKind.i64.wrap ((i : Int) + 1) = ((i + 1 : Nat) : Int) := by rw [IntWalk.i64_in _ (by omega)]; omega
        have hjl : i < s.data.toList.length := by rw [lt_len]; exact hlt
        have hsj : s.data.toList[i]'hjl = s[i]'hlt := by
          have := lt_at s i hlt
          rw [List.getElem?_eq_getElem hjl] at this
          exact Option.some.inj this
        have htk : s.data.toList.take (i + 1) = s.data.toList.take i ++ [s[i]'hlt] := by rw [List.take_add_one, List.getElem?_eq_getElem hjl, hsj]; rfl
        have HTK := Lib.hid htk
        have HC := Lib.hid (rIn_any (s[i]'hlt).toNat wr)
        clear hsj hjl htk
        cases hin : inA (s[i]'hlt).toNat with
        | false =>
          rw [hin] at HC
          have HRe : Hid (R = ⟨#[]⟩) := Lib.hid (by
            have hne : ¬ s.size = 0 := by omega
            have hall : ¬ s.data.toList.all (fun c => inA c.toNat) = true := by
              intro hall
              have := List.all_eq_true.1 hall (s[i]'hlt) (by
                have h := HTK.out
                exact List.mem_of_mem_take (i := i + 1) (by rw [h]; simp))
              rw [hin] at this
              cases this
            rw [HR.out]
            unfold litS
            rw [if_neg hne, if_neg hall]
            split <;> rfl)
          go_wp2_with fail
          refine HC.out.mono ?_
          rintro e w5 ⟨rfl, h5⟩; subst w5
          go_wp2_with fail
          go_ret
          exact ⟨by rw [HRe.out]; rfl, HBr.out⟩
        | true =>
          rw [hin] at HC
          have HSP := Lib.hid (fun V => rSpecial_any (s[i]'hlt).toNat V)
          have HSH := Lib.hid (fun V => shown_any (s[i]'hlt) (isSp (s[i]'hlt).toNat) V)
          have HA1 : Hid ((s.data.toList.take (i + 1)).all (fun c => inA c.toNat) = true) := Lib.hid (by rw [HTK.out, List.all_append, HAr.out]; simp [hin])
          have HST : Hid (str (litsL (s.data.toList.take i)) ++ (if isSp (s[i]'hlt).toNat = true then str [92, (s[i]'hlt)] else str [(s[i]'hlt)]) = str (litsL (s.data.toList.take (i + 1)))) := Lib.hid (by
            rw [HTK.out, litsL_snoc, ← str_join]
            unfold escL
            split <;> rfl)
          have hes : (if isSp (s[i]'hlt).toNat = true then str [92, (s[i]'hlt)] else str [(s[i]'hlt)]).size ≤ 2 := by
            split
            · exact Nat.le_refl 2
            · exact Nat.le_succ 1
          have hsz : (str (litsL (s.data.toList.take i))).size = (litsL (s.data.toList.take i)).length := by show (litsL (s.data.toList.take i)).toArray.size = _; simp
          clear hin HTK
          generalize str (litsL (s.data.toList.take i)) = x1 at *
          generalize (if isSp (s[i]'hlt).toNat = true then str [92, (s[i]'hlt)] else str [(s[i]'hlt)]) = x2 at *
          have c1 : ¬ 9223372036854775807 < x1.size + x2.size := by omega
          go_wp2_with fail
          refine HC.out.mono ?_
          rintro e w5 ⟨rfl, h5⟩; subst w5
          go_wp2_with fail
          have hwc : IntKind.i64.wrap ((s[i]'hlt).toNat : Int) = ((s[i]'hlt).toNat : Int) := IntWalk.i64_in _ (by have := UInt8.toNat_lt (s[i]'hlt); omega)
          clear hes hsz hll
          go_region_held_law (fun _ => True) (exact trivial) (first
            | (have hz5 := HQ5; clear hz5; go_simp; go_at_call 43; refine (HSH.out _).mono ?_; rintro e w6 ⟨rfl, hb6⟩
               have HQ6 := Lib.hid hb6
               clear hb6
               try dsimp only)
            | (go_simp; go_at_call 44; refine (HSP.out _).mono ?_; rintro e w5 ⟨rfl, h5⟩; subst w5
               have HQ5 : Hid True := Lib.hid trivial
               try dsimp only))
          all_goals
            have HB6 : Hid (Below w.heap.size w w6) := Lib.hid (HBr.out.trans (((Below.refl _ _).drew.trans HQ6.out).mono hsr))
            have hs6 : w.heap.size ≤ w6.heap.size := HB6.out.size
            go_wp2_with fail
            go_roundw
            case rel => exact ⟨i + 1, by rw [HST.out], by first | rfl | go_num, hlt, by omega, HA1, HB6, hs6⟩
            case measure => simp [intOf]; omega
      · have h40I : ¬ (i : Int) ≤ 40 := by omega
        have HLE := Lib.hid (lit_end s i his (by omega) HAr.out)
        clear HAr
        generalize litsL (s.data.toList.take i) = L at *
        have hsz : (str L).size = L.length := by show L.toArray.size = _; simp
        by_cases hz : s.size = 0
        · exfalso; omega
        · have hze : s.toList.isEmpty = false := by
            rw [ByteArray.toList_eq]
            cases hl : s.data.toList with
            | nil => exact absurd (by have := lt_len s; rw [hl] at this; exact this.symm) hz
            | cons a r => rfl
          by_cases hb : 40 < L.length
          · have HRe : Hid (R = ⟨#[]⟩) := Lib.hid (by rw [HR.out]; exact (HLE.out hz).1 hb)
            have hbI : (L.length : Int) > 40 := by omega
            rw [← hsz] at hbI
            go_wp2_with fail
            go_ret
            exact ⟨by rw [HRe.out]; rfl, HBr.out⟩
          · have HRe : Hid (R = str L) := Lib.hid (by rw [HR.out]; exact (HLE.out hz).2 hb)
            have hbI : ¬ (L.length : Int) > 40 := by omega
            rw [← hsz] at hbI
            go_wp2_with fail
            go_ret
            exact ⟨by rw [HRe.out]; rfl, HBr.out⟩
    · have hltI : ¬ (i : Int) < (s.size : Int) := by omega
      have HLE := Lib.hid (lit_end s i his (by omega) HAr.out)
      clear HAr
      generalize litsL (s.data.toList.take i) = L at *
      have hsz : (str L).size = L.length := by show L.toArray.size = _; simp
      by_cases hz : s.size = 0
      · have hze : s.toList.isEmpty = true := by
          rw [ByteArray.toList_eq, List.length_eq_zero_iff.1 (show s.data.toList.length = 0 by rw [lt_len]; exact hz)]; rfl
        have HRe : Hid (R = ⟨#[40, 41]⟩) := Lib.hid (by rw [HR.out]; unfold litS; rw [if_pos hz])
        go_wp2_with fail
        go_ret
        exact ⟨by rw [HRe.out]; rfl, HBr.out⟩
      · have hze : s.toList.isEmpty = false := by
          rw [ByteArray.toList_eq]
          cases hl : s.data.toList with
          | nil => exact absurd (by have := lt_len s; rw [hl] at this; exact this.symm) hz
          | cons a r => rfl
        by_cases hb : 40 < L.length
        · have HRe : Hid (R = ⟨#[]⟩) := Lib.hid (by rw [HR.out]; exact (HLE.out hz).1 hb)
          have hbI : (L.length : Int) > 40 := by omega
          rw [← hsz] at hbI
          go_wp2_with fail
          go_ret
          exact ⟨by rw [HRe.out]; rfl, HBr.out⟩
        · have HRe : Hid (R = str L) := Lib.hid (by rw [HR.out]; exact (HLE.out hz).2 hb)
          have hbI : ¬ (L.length : Int) > 40 := by omega
          rw [← hsz] at hbI
          go_wp2_with fail
          go_ret
          exact ⟨by rw [HRe.out]; rfl, HBr.out⟩
end Go.Proofs.YtlonddlemlkhoaaDoor
