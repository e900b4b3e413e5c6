/-
  setText of the specification: the text of a class. Nothing is assumed.
-/
import Derived.Test.YtkogldlhidppaaaDoorPaText
import Derived.Test.YtkogldlhidppaaaDoorRfQ
import Derived.Test.YtkogldlhidppaaaDoorPaCnt
import Derived.Lib.QuietBelow
namespace Go.Proofs.YtkogldlhidppaaaDoor

section
open Go.RowKit

set_option maxRecDepth 100000 in
set_option maxHeartbeats 1600000 in
theorem shown_any (c : UInt8) (r : Bool) (w : World) :
    Calls Tryd.prog 63 #[.int .i64 (c.toNat : Int), .bool r] w fun e w' => e = .returned (.string (if r = true then str [92, c] else str [c])) ∧ Below w.heap.size w w' := by
  have hc := UInt8.toNat_lt c
  have hw8 : IntKind.u8.wrap (c.toNat : Int) = (c.toNat : Int) := by
    unfold IntKind.wrap
    simp [IntKind.signed, IntKind.bits]
    omega
  obtain ⟨w1, hw1⟩ : ∃ w1, w1 = w.alloc (.cells #[.int .u8 (c.toNat : Int)] 5) := ⟨_, rfl⟩
  have hback := run_convert_bytes_back (P := Tryd.prog) w1 49 9 5 ⟨w.heap.size, 0, none⟩ 1 [c] Tryd.underlying49 Tryd.underlying5 Tryd.underlying9 (fun j hj => by
    have : j = 0 := by simp at hj; omega
    subst this
    rw [hw1]
    exact cell_at _ _ _ _ _ rfl)
  rw [hw1, show [c].length = 1 from rfl] at hback
  have e92 : (⟨#[92]⟩ : ByteArray) ++ ⟨[c].toArray⟩ = str [92, c] := by
    unfold str
    rfl
  cases r with
  | true =>
    rw [if_pos rfl]
    go_enter Tryd.func63, Tryd.ntmps63
    go_wp2_with fail
    go_ret
    exact ⟨rfl, below1 w _⟩
  | false =>
    rw [if_neg (by decide)]
    go_enter Tryd.func63, Tryd.ntmps63
    go_wp2_with fail
    go_ret
    exact ⟨rfl, below1 w _⟩
theorem str_join (a b : List UInt8) : str a ++ str b = str (a ++ b) := by
  unfold str
  simp [ByteArray.ext_iff]
end

section
open Go.RowKit
open Go.Sort (grow)

theorem rset_eqIn2 (a b c d e f g h : Int) (w : World) : (Op.equalIn 10000 23 (.agg #[.int .u64 a, .int .u64 b, .int .u64 c, .int .u64 d]) (.agg #[.int .u64 e, .int .u64 f, .int .u64 g, .int .u64 h])).run Tryd.prog w = .ok (eqQ a b c d e f g h) w := by
  have u3 := Tryd.underlying22
  have a3 := Tryd.isAgg22
  have z3 := Tryd.sizeOf22
  rw [show (10000 : Nat) = 9999 + 1 from rfl, Op.equalIn]
  simp only [Sem.run_bind, run_underlying Tryd.underlying23, Result.andThen_ok]
  simp only [Std.Legacy.Range.forIn_eq_forIn_range', Std.Legacy.Range.size, Nat.sub_zero, Nat.add_sub_cancel, Nat.div_one, List.range'_succ, List.range'_zero, List.forIn_cons, List.forIn_nil]
  unfold eqQ
  go_simp
  by_cases h1 : a = e <;> by_cases h2 : b = f <;> by_cases h3 : c = g <;> by_cases h4 : d = h <;> simp [h1, h2, h3, h4]
@[go_sem high] theorem rset_eql2 (a b c d e f g h : Int) (w : World) : (binOp .eql 23 (.agg #[.int .u64 a, .int .u64 b, .int .u64 c, .int .u64 d]) (.agg #[.int .u64 e, .int .u64 f, .int .u64 g, .int .u64 h])).run Tryd.prog w = .ok (.bool (eqQ a b c d e f g h)) w := by
  rw [run_eql_struct, rset_eqIn2]; rfl

theorem memE_two (c : UInt8) : (memE c).length ≤ 2 := memE_len c
theorem refB_le (s : S4) (b : Nat) : (refB s b).length ≤ 2 := by
  unfold refB
  split
  · split
    · split <;> simp
    · exact memE_len _
  · simp
theorem refO_le (s : S4) : ∀ k, (refO s k).length ≤ 2 * k
  | 0 => by rw [refO]; simp
  | k + 1 => by
    have := refO_le s k
    have := refB_le s (32 + k)
    rw [refO, List.length_append]
    omega
theorem str_size (l : List UInt8) : (str l).size = l.length := by unfold str; simp [ByteArray.size]

set_option maxRecDepth 100000 in
set_option maxHeartbeats 6400000 in
theorem rsetText_any (s : S4) (hs : s.Ok) (ha : (s.without S4.alpha).isZ = true) (w : World) :
    Calls Tryd.prog 47 #[s.val] w fun e w' => e = .returned (.string (str (classE s))) ∧ Below w.heap.size w w' := by
  have HE := Lib.hid (classE_ref hs ha)
  have HOut := Lib.hid (out_alpha hs ha)
  obtain ⟨w1, hw1⟩ : ∃ w1, w1 = w.alloc (.cells #[.int .u64 s.a, .int .u64 s.b, .int .u64 s.c, .int .u64 s.d] 23) := ⟨_, rfl⟩
  have HW1 := Lib.hid hw1
  have hs1 : w1.heap.size = w.heap.size + 1 := by rw [hw1]; simp
  have HB1 := Lib.hid (show Below w.heap.size w w1 by rw [hw1]; exact below1 _ _)
  have hS1 : SR w1 w.heap.size s := by rw [hw1]; exact SR.box w s
  have HEl : Hid (∀ V, Below w1.heap.size w1 V → V.cell? ⟨w.heap.size, 0, none⟩ = some (.int .u64 s.a) ∧ V.cell? ⟨w.heap.size, 1, none⟩ = some (.int .u64 s.b) ∧ V.cell? ⟨w.heap.size, 2, none⟩ = some (.int .u64 s.c) ∧ V.cell? ⟨w.heap.size, 3, none⟩ = some (.int .u64 s.d)) := Lib.hid (fun V hV => (hS1.later hV (by omega)).cells)
  obtain ⟨c0, c1, c2, c3⟩ := HEl.out w1 (Below.refl _ _)
  have p0 := fun d os => cell_regrown c0 d os
  have p1 := fun d os => cell_regrown c1 d os
  have p2 := fun d os => cell_regrown c2 d os
  have p3 := fun d os => cell_regrown c3 d os
  have re := fun d os => Calls.regrown_of (rRest_any .zero S4.zero_ok (grow (redrawn w1 d) os))
  rw [without_zero] at re
  have hq : isAl s = eqQ s.a s.b s.c s.d S4.alpha.a S4.alpha.b S4.alpha.c S4.alpha.d := rfl
  have HHA := Lib.hid (fun b hb V => rHas_any s hs b hb V)
  unfold S4.val at HHA re
  unfold S4.val
  rw [show S4.zero.a = 0 from rfl, show S4.zero.b = 0 from rfl, show S4.zero.c = 0 from rfl, show S4.zero.d = 0 from rfl] at re
  generalize S4.alpha.a = aa at *
  generalize S4.alpha.b = ab at *
  generalize S4.alpha.c = ac at *
  generalize S4.alpha.d = ad at *
  generalize isAl s = al at *
  clear hS1
  go_enter Tryd.func47, Tryd.ntmps47
  go_wp2_with fail
  rw [← hw1]
  clear hw1
  refine wp_region_quiet_below (by kernel_rfl) (by kernel_rfl) ?_
  repeat (quiet_step (first | with_reducible exact re _ _))
  refine wpQuiet_nil ?_
  intro w' hw'
  obtain ⟨p, rfl⟩ := hw'
  have HBc : Hid (Below w1.heap.size w1 (grow (redrawn w1 p.d) p.os)) := Lib.hid (below_regrown w1 p.d p.os)
  generalize grow (redrawn w1 p.d) p.os = w2 at *
  clear p0 p1 p2 p3 re c0 c1 c2 c3
  rw [← hq]
  -- the loop
  cases al
  rotate_left
  · have HZ := Lib.hid (show classE s = [46] by rw [HE.out]; rfl)
    go_wp2_with fail
    go_ret
    exact ⟨by rw [HZ.out]; rfl, HB1.out.trans (HBc.out.mono (by omega))⟩
  have HE2 := Lib.hid (show classE s = if cntS s 95 = 1 then escL (UInt8.ofNat (onlS s 95)) else 91 :: (refO s 95 ++ [93]) by rw [HE.out]; rfl)
  clear HE hq
  go_wp2_with fail
  go_loopw [6, 3, 4, 5] (fun bv ov nv yv wr => ∃ (k : Nat) (so : ByteArray), bv = .int .i64 ((32 + k : Nat) : Int) ∧ ov = .string so ∧ nv = .int .i64 (cntS s k : Nat) ∧ yv = .int .i64 (onlS s k : Nat) ∧ k ≤ 95 ∧ Hid (so = str (91 :: refO s k)) ∧ Hid (Below w1.heap.size w1 wr)) (fun bv _ _ _ _ => 127 - (intOf bv).toNat)
  case atStart => exact ⟨0, str [91], rfl, rfl, rfl, rfl, Nat.zero_le _, Lib.hid rfl, HBc⟩
  case round =>
    clear HBc
    obtain ⟨k, so, rfl, rfl, rfl, rfl, hk, HSO, HBc⟩ := hrel
    obtain ⟨b, hb⟩ : ∃ b, b = 32 + k := ⟨_, rfl⟩
    obtain ⟨n, hn⟩ : ∃ n, cntS s k = n := ⟨_, rfl⟩
    obtain ⟨y, hy⟩ : ∃ y, onlS s k = y := ⟨_, rfl⟩
    have hnk : n ≤ 95 := by have := cntS_le s k; omega
    have HBN := Lib.hid (And.intro hb (And.intro hn hy))
    have HSZ := Lib.hid (show so.size ≤ 200 by rw [HSO.out, str_size, List.length_cons]; have := refO_le s k; omega)
    rw [← hb, hn, hy]
    by_cases hlt : k < 95
    · have hbI : (b : Int) ≤ 126 := by omega
      have hb8 : b < 256 := by omega
      obtain ⟨q, hq⟩ : ∃ q, q = b + 1 := ⟨_, rfl⟩
      obtain ⟨p, hp⟩ : ∃ p, p = b - 1 := ⟨_, rfl⟩
      obtain ⟨r, hr⟩ : ∃ r, r = b - 2 := ⟨_, rfl⟩
      obtain ⟨n1, hn1⟩ : ∃ n1, n1 = n + 1 := ⟨_, rfl⟩
      have HQ := Lib.hid (And.intro hq (And.intro hp (And.intro hr hn1)))
      have hqI : (b : Int) + 1 = (q : Int) := by omega
      have hpI : (b : Int) - 1 = (p : Int) := by omega
      have hrI : (b : Int) - 2 = (r : Int) := by omega
      have hnI : (n : Int) + 1 = (n1 : Int) := by omega
      have hwq : IntKind.i64.wrap (q : Int) = (q : Int) := IntWalk.i64_in _ (by omega)
      have hwp : IntKind.i64.wrap (p : Int) = (p : Int) := IntWalk.i64_in _ (by omega)
      have hwr : IntKind.i64.wrap (r : Int) = (r : Int) := IntWalk.i64_in _ (by omega)
      have hwn : IntKind.i64.wrap (n1 : Int) = (n1 : Int) := IntWalk.i64_in _ (by omega)
      have hw8 : IntKind.u8.wrap (b : Int) = (b : Int) := by
        show (b : Int) % 256 = b
        omega
      have hsz := HSZ.out
      have hsz1 : ¬ 9223372036854775807 < so.size + 1 := by omega
      have HC0 := Lib.hid (HHA.out b hb8)
      have HC1 := Lib.hid (HHA.out p (by omega))
      have HC2 := Lib.hid (HHA.out q (by omega))
      have HC3 := Lib.hid (HHA.out r (by omega))
      have HM := Lib.hid (fun V => rMarked_any b V)
      have hcb : (UInt8.ofNat b).toNat = b := by rw [UInt8.toNat_ofNat']; omega
      have hme : (if isSpM b = true then str [92, UInt8.ofNat b] else str [UInt8.ofNat b]) = str (memE (UInt8.ofNat b)) := by
        unfold memE
        rw [hcb]
        split <;> rfl
      have HSH := Lib.hid (fun V => by
        have h := shown_any (UInt8.ofNat b) (isSpM b) V
        rw [hcb, hme] at h
        exact h)
      obtain ⟨sm, hsm⟩ : ∃ sm, str (memE (UInt8.ofNat b)) = sm := ⟨_, rfl⟩
      rw [hsm] at HSH
      have HSM := Lib.hid hsm
      have hsz2 : ¬ 9223372036854775807 < so.size + sm.size := by
        have h2 : sm.size ≤ 2 := by rw [← hsm, str_size]; exact memE_len _
        omega
      have HK1 := Lib.hid (show k + 1 ≤ 95 from hlt)
      clear hsz hcb hme hsm hb hn hy hlt hnk hq hp hr hn1
      obtain ⟨c0, c1, c2, c3⟩ := HEl.out wr HBc.out
      cases hhb : s.has b
      · rw [hhb] at HC0
        have HHB := Lib.hid hhb
        clear hhb
        go_wp2_with (first
          | (go_at_call 45; first | with_reducible refine (HC0.out _).mono ?_ | with_reducible refine (HC1.out _).mono ?_ | with_reducible refine (HC2.out _).mono ?_ | with_reducible refine (HC3.out _).mono ?_
             rintro e w5 ⟨rfl, hb5⟩
             have HBc := Lib.hid (HBc.out.trans (hb5.mono HBc.out.size))
             clear hb5
             obtain ⟨c0, c1, c2, c3⟩ := HEl.out _ HBc.out)
          | (go_at_call 64; refine (HM.out _).mono ?_; rintro e w6 ⟨rfl, rfl⟩)
          | (go_at_call 63; refine (HSH.out _).mono ?_
             rintro e w5 ⟨rfl, hb5⟩
             have HBc := Lib.hid (HBc.out.trans (hb5.mono HBc.out.size))
             clear hb5))
        go_roundw
        case rel =>
          have hrb : refB s b = [] := by unfold refB; rw [HHB.out]; rfl
          have hh : ¬ s.has (32 + k) = true := by rw [← HBN.out.1, HHB.out]; decide
          exact ⟨k + 1, so, by rw [HQ.out.1, HBN.out.1]; rfl, rfl, by rw [cntS, if_neg hh, HBN.out.2.1]; rfl, by rw [onlS, if_neg hh, HBN.out.2.2], HK1.out, Lib.hid (by rw [HSO.out, refO, ← HBN.out.1, hrb, List.append_nil]), HBc⟩
        case measure => have := HK1.out; have := HBN.out.1; simp [intOf]; omega
      · rw [hhb] at HC0
        have HHB := Lib.hid hhb
        clear hhb
        have REL : Hid (∀ (t : List UInt8) (st : ByteArray) (wx : World), refB s b = t → st = str t → Below w1.heap.size w1 wx → ∃ (k' : Nat) (so' : ByteArray), Value.int .i64 (q : Int) = .int .i64 ((32 + k' : Nat) : Int) ∧ Value.string (so ++ st) = .string so' ∧ Value.int .i64 (n1 : Int) = .int .i64 (cntS s k' : Nat) ∧ Value.int .i64 (b : Int) = .int .i64 (onlS s k' : Nat) ∧ k' ≤ 95 ∧ Hid (so' = str (91 :: refO s k')) ∧ Hid (Below w1.heap.size w1 wx)) := Lib.hid (by
          intro t st wx h1 h2 h3
          have hh : s.has (32 + k) = true := by rw [← HBN.out.1]; exact HHB.out
          refine ⟨k + 1, so ++ st, by rw [HQ.out.1, HBN.out.1]; rfl, rfl, by rw [cntS, if_pos hh, HBN.out.2.1, HQ.out.2.2.2], by rw [onlS, if_pos hh, HBN.out.1], HK1.out, Lib.hid ?_, Lib.hid h3⟩
          rw [HSO.out, h2, str_join, refO, ← HBN.out.1, h1]
          rfl)
        have REL0 : Hid (∀ (wx : World), refB s b = [] → Below w1.heap.size w1 wx → ∃ (k' : Nat) (so' : ByteArray), Value.int .i64 (q : Int) = .int .i64 ((32 + k' : Nat) : Int) ∧ Value.string so = .string so' ∧ Value.int .i64 (n1 : Int) = .int .i64 (cntS s k' : Nat) ∧ Value.int .i64 (b : Int) = .int .i64 (onlS s k' : Nat) ∧ k' ≤ 95 ∧ Hid (so' = str (91 :: refO s k')) ∧ Hid (Below w1.heap.size w1 wx)) := Lib.hid (by
          intro wx h1 h3
          have hh : s.has (32 + k) = true := by rw [← HBN.out.1]; exact HHB.out
          refine ⟨k + 1, so, by rw [HQ.out.1, HBN.out.1]; rfl, rfl, by rw [cntS, if_pos hh, HBN.out.2.1, HQ.out.2.2.2], by rw [onlS, if_pos hh, HBN.out.1], HK1.out, Lib.hid ?_, Lib.hid h3⟩
          rw [HSO.out, refO, ← HBN.out.1, h1, List.append_nil])
        have HRB := Lib.hid (show refB s b = (if s.has p = true ∧ s.has q = true then (if s.has r = true then [] else [45]) else memE (UInt8.ofNat b)) by rw [HQ.out.1, HQ.out.2.1, HQ.out.2.2.1]; unfold refB; rw [if_pos HHB.out])
        have hkc : k = 0 ∨ k = 94 ∨ (1 ≤ k ∧ k < 94) := by have := HK1.out; omega
        rcases hkc with h0 | h94 | ⟨h1, h93⟩
        · have e32 : ¬ (32 : Int) < (b : Int) := by have := HBN.out.1; omega
          have e126 : (b : Int) < 126 := by have := HBN.out.1; omega
          have HX := Lib.hid (show refB s b = memE (UInt8.ofNat b) by rw [HRB.out, if_neg (fun h => by have := HOut.out p (by have := HQ.out.2.1; omega) (.inl (by have := HBN.out.1; have := HQ.out.2.1; omega)); rw [this] at h; cases h.1)])
          clear h0
          cases hq2 : s.has q
          all_goals
            rw [hq2] at HC2
            clear hq2
            go_wp2_with (first
              | (go_at_call 45; first | with_reducible refine (HC0.out _).mono ?_ | with_reducible refine (HC1.out _).mono ?_ | with_reducible refine (HC2.out _).mono ?_ | with_reducible refine (HC3.out _).mono ?_
                 rintro e w5 ⟨rfl, hb5⟩
                 have HBc := Lib.hid (HBc.out.trans (hb5.mono HBc.out.size))
                 clear hb5
                 obtain ⟨c0, c1, c2, c3⟩ := HEl.out _ HBc.out)
              | (go_at_call 64; refine (HM.out _).mono ?_; rintro e w6 ⟨rfl, rfl⟩)
              | (go_at_call 63; refine (HSH.out _).mono ?_
                 rintro e w5 ⟨rfl, hb5⟩
                 have HBc := Lib.hid (HBc.out.trans (hb5.mono HBc.out.size))
                 clear hb5))
            go_roundw
            case rel => exact REL.out _ _ _ HX.out HSM.out.symm HBc.out
            case measure => have := HK1.out; have := HBN.out.1; simp [intOf]; omega
        · have e32 : (32 : Int) < (b : Int) := by have := HBN.out.1; omega
          have e126 : ¬ (b : Int) < 126 := by have := HBN.out.1; omega
          have HX := Lib.hid (show refB s b = memE (UInt8.ofNat b) by rw [HRB.out, if_neg (fun h => by have := HOut.out q (by have := HQ.out.1; omega) (.inr (by have := HBN.out.1; have := HQ.out.1; omega)); rw [this] at h; cases h.2)])
          clear h94
          cases hq2 : s.has p
          all_goals
            rw [hq2] at HC1
            clear hq2
            go_wp2_with (first
              | (go_at_call 45; first | with_reducible refine (HC0.out _).mono ?_ | with_reducible refine (HC1.out _).mono ?_ | with_reducible refine (HC2.out _).mono ?_ | with_reducible refine (HC3.out _).mono ?_
                 rintro e w5 ⟨rfl, hb5⟩
                 have HBc := Lib.hid (HBc.out.trans (hb5.mono HBc.out.size))
                 clear hb5
                 obtain ⟨c0, c1, c2, c3⟩ := HEl.out _ HBc.out)
              | (go_at_call 64; refine (HM.out _).mono ?_; rintro e w6 ⟨rfl, rfl⟩)
              | (go_at_call 63; refine (HSH.out _).mono ?_
                 rintro e w5 ⟨rfl, hb5⟩
                 have HBc := Lib.hid (HBc.out.trans (hb5.mono HBc.out.size))
                 clear hb5))
            go_roundw
            case rel => exact REL.out _ _ _ HX.out HSM.out.symm HBc.out
            case measure => have := HK1.out; have := HBN.out.1; simp [intOf]; omega
        · have e32 : (32 : Int) < (b : Int) := by have := HBN.out.1; omega
          have e126 : (b : Int) < 126 := by have := HBN.out.1; omega
          cases hq1 : s.has p
          · have HX := Lib.hid (show refB s b = memE (UInt8.ofNat b) by rw [HRB.out, if_neg (fun h => by rw [hq1] at h; cases h.1)])
            rw [hq1] at HC1
            clear hq1 h1 h93
            cases hq2 : s.has q
            all_goals
              rw [hq2] at HC2
              clear hq2
              go_wp2_with (first
                | (go_at_call 45; first | with_reducible refine (HC0.out _).mono ?_ | with_reducible refine (HC1.out _).mono ?_ | with_reducible refine (HC2.out _).mono ?_ | with_reducible refine (HC3.out _).mono ?_
                   rintro e w5 ⟨rfl, hb5⟩
                   have HBc := Lib.hid (HBc.out.trans (hb5.mono HBc.out.size))
                   clear hb5
                   obtain ⟨c0, c1, c2, c3⟩ := HEl.out _ HBc.out)
                | (go_at_call 64; refine (HM.out _).mono ?_; rintro e w6 ⟨rfl, rfl⟩)
                | (go_at_call 63; refine (HSH.out _).mono ?_
                   rintro e w5 ⟨rfl, hb5⟩
                   have HBc := Lib.hid (HBc.out.trans (hb5.mono HBc.out.size))
                   clear hb5))
              go_roundw
              case rel => exact REL.out _ _ _ HX.out HSM.out.symm HBc.out
              case measure => have := HK1.out; have := HBN.out.1; simp [intOf]; omega
          · rw [hq1] at HC1
            cases hq2 : s.has q
            · have HX := Lib.hid (show refB s b = memE (UInt8.ofNat b) by rw [HRB.out, if_neg (fun h => by rw [hq2] at h; cases h.2)])
              rw [hq2] at HC2
              clear hq1 hq2 h1 h93
              go_wp2_with (first
                | (go_at_call 45; first | with_reducible refine (HC0.out _).mono ?_ | with_reducible refine (HC1.out _).mono ?_ | with_reducible refine (HC2.out _).mono ?_ | with_reducible refine (HC3.out _).mono ?_
                   rintro e w5 ⟨rfl, hb5⟩
                   have HBc := Lib.hid (HBc.out.trans (hb5.mono HBc.out.size))
                   clear hb5
                   obtain ⟨c0, c1, c2, c3⟩ := HEl.out _ HBc.out)
                | (go_at_call 64; refine (HM.out _).mono ?_; rintro e w6 ⟨rfl, rfl⟩)
                | (go_at_call 63; refine (HSH.out _).mono ?_
                   rintro e w5 ⟨rfl, hb5⟩
                   have HBc := Lib.hid (HBc.out.trans (hb5.mono HBc.out.size))
                   clear hb5))
              go_roundw
              case rel => exact REL.out _ _ _ HX.out HSM.out.symm HBc.out
              case measure => have := HK1.out; have := HBN.out.1; simp [intOf]; omega
            · rw [hq2] at HC2
              by_cases h0 : k = 1
              · have e33 : ¬ (33 : Int) < (b : Int) := by have := HBN.out.1; omega
                have HX := Lib.hid (show refB s b = [45] by rw [HRB.out, if_pos ⟨hq1, hq2⟩, if_neg (fun h => by have := HOut.out r (by have := HQ.out.2.2.1; omega) (.inl (by have := HBN.out.1; have := HQ.out.2.2.1; omega)); rw [this] at h; cases h)])
                clear hq1 hq2 h1 h93 h0
                go_wp2_with (first
                  | (go_at_call 45; first | with_reducible refine (HC0.out _).mono ?_ | with_reducible refine (HC1.out _).mono ?_ | with_reducible refine (HC2.out _).mono ?_ | with_reducible refine (HC3.out _).mono ?_
                     rintro e w5 ⟨rfl, hb5⟩
                     have HBc := Lib.hid (HBc.out.trans (hb5.mono HBc.out.size))
                     clear hb5
                     obtain ⟨c0, c1, c2, c3⟩ := HEl.out _ HBc.out)
                  | (go_at_call 64; refine (HM.out _).mono ?_; rintro e w6 ⟨rfl, rfl⟩)
                  | (go_at_call 63; refine (HSH.out _).mono ?_
                     rintro e w5 ⟨rfl, hb5⟩
                     have HBc := Lib.hid (HBc.out.trans (hb5.mono HBc.out.size))
                     clear hb5))
                go_roundw
                case rel => exact REL.out _ _ _ HX.out rfl HBc.out
                case measure => have := HK1.out; have := HBN.out.1; simp [intOf]; omega
              · have e33 : (33 : Int) < (b : Int) := by have := HBN.out.1; omega
                cases hq3 : s.has r
                · have HX := Lib.hid (show refB s b = [45] by rw [HRB.out, if_pos ⟨hq1, hq2⟩, if_neg (by rw [hq3]; decide)])
                  rw [hq3] at HC3
                  clear hq1 hq2 hq3 h1 h93 h0
                  go_wp2_with (first
                    | (go_at_call 45; first | with_reducible refine (HC0.out _).mono ?_ | with_reducible refine (HC1.out _).mono ?_ | with_reducible refine (HC2.out _).mono ?_ | with_reducible refine (HC3.out _).mono ?_
                       rintro e w5 ⟨rfl, hb5⟩
                       have HBc := Lib.hid (HBc.out.trans (hb5.mono HBc.out.size))
                       clear hb5
                       obtain ⟨c0, c1, c2, c3⟩ := HEl.out _ HBc.out)
                    | (go_at_call 64; refine (HM.out _).mono ?_; rintro e w6 ⟨rfl, rfl⟩)
                    | (go_at_call 63; refine (HSH.out _).mono ?_
                       rintro e w5 ⟨rfl, hb5⟩
                       have HBc := Lib.hid (HBc.out.trans (hb5.mono HBc.out.size))
                       clear hb5))
                  go_roundw
                  case rel => exact REL.out _ _ _ HX.out rfl HBc.out
                  case measure => have := HK1.out; have := HBN.out.1; simp [intOf]; omega
                · have HX := Lib.hid (show refB s b = [] by rw [HRB.out, if_pos ⟨hq1, hq2⟩, if_pos hq3])
                  rw [hq3] at HC3
                  clear hq1 hq2 hq3 h1 h93 h0
                  go_wp2_with (first
                    | (go_at_call 45; first | with_reducible refine (HC0.out _).mono ?_ | with_reducible refine (HC1.out _).mono ?_ | with_reducible refine (HC2.out _).mono ?_ | with_reducible refine (HC3.out _).mono ?_
                       rintro e w5 ⟨rfl, hb5⟩
                       have HBc := Lib.hid (HBc.out.trans (hb5.mono HBc.out.size))
                       clear hb5
                       obtain ⟨c0, c1, c2, c3⟩ := HEl.out _ HBc.out)
                    | (go_at_call 64; refine (HM.out _).mono ?_; rintro e w6 ⟨rfl, rfl⟩)
                    | (go_at_call 63; refine (HSH.out _).mono ?_
                       rintro e w5 ⟨rfl, hb5⟩
                       have HBc := Lib.hid (HBc.out.trans (hb5.mono HBc.out.size))
                       clear hb5))
                  go_roundw
                  case rel => exact REL0.out _ HX.out HBc.out
                  case measure => have := HK1.out; have := HBN.out.1; simp [intOf]; omega
    · obtain rfl : k = 95 := by omega
      have hbI : ¬ (b : Int) ≤ 126 := by omega
      have hyl : y < 256 := by have := onlS_lt s 95; omega
      have hw8 : IntKind.u8.wrap (y : Int) = (y : Int) := by
        show (y : Int) % 256 = y
        omega
      have hsz := HSZ.out
      have hsz1 : ¬ 9223372036854775807 < so.size + 1 := by omega
      have HBw := Lib.hid (HB1.out.trans (HBc.out.mono (by omega)))
      have HM := Lib.hid (fun V => rSpecial_any y V)
      have hcb : (UInt8.ofNat y).toNat = y := by rw [UInt8.toNat_ofNat']; omega
      have hme : (if isSp y = true then str [92, UInt8.ofNat y] else str [UInt8.ofNat y]) = str (escL (UInt8.ofNat y)) := by
        unfold escL
        rw [hcb]
        split <;> rfl
      have HSH := Lib.hid (fun V => by
        have h := shown_any (UInt8.ofNat y) (isSp y) V
        rw [hcb, hme] at h
        exact h)
      clear hsz hcb hme hb hy hlt hnk hk hyl
      by_cases h1 : n = 1
      · have hnI : (n : Int) = 1 := by omega
        obtain ⟨se, hse⟩ : ∃ se, str (escL (UInt8.ofNat y)) = se := ⟨_, rfl⟩
        have HF := Lib.hid (show str (classE s) = se by rw [HE2.out, HBN.out.2.1, if_pos h1, HBN.out.2.2, hse])
        rw [hse] at HSH
        clear h1 hse
        go_wp2_with fail
        refine (HM.out _).mono ?_
        rintro e w6 ⟨rfl, rfl⟩
        go_wp2_with fail
        refine (HSH.out _).mono ?_
        rintro e w7 ⟨rfl, hb7⟩
        have HB7 := Lib.hid (HBw.out.trans (hb7.mono HBw.out.size))
        clear hb7
        go_wp2_with fail
        go_ret
        exact ⟨by rw [HF.out]; rfl, HB7.out⟩
      · have hnI : ¬ (n : Int) = 1 := by omega
        have hnb : ((n : Int) == 1) = false := by rw [beq_eq_false_iff_ne]; exact hnI
        have HF := Lib.hid (show str (classE s) = so ++ ⟨#[93]⟩ by
          rw [HE2.out, HBN.out.2.1, if_neg h1, HSO.out]
          show _ = str (91 :: refO s 95) ++ str [93]
          rw [str_join]
          rfl)
        clear h1
        go_wp2_with fail
        go_ret
        exact ⟨by rw [HF.out]; rfl, HBw.out⟩
end

end Go.Proofs.YtkogldlhidppaaaDoor
