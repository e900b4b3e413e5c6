/-
  writeClass of package pattern. Nothing is assumed.
-/
import Derived.Test.YtaipaddfehpmgaaDoorPaText
import Derived.BigQuiet
namespace Go.Proofs.YtaipaddfehpmgaaDoor
open Go.RowKit Go.Shelf

theorem OwnB.others {w w' : World} {base B : Nat} {v : Value} {l : List (Nat × Nat)} (h : OwnB w base v l) (hk : Lib.OthersKept 5 (some B) w w') (hB : B < base) : OwnB w' base v l := by
  refine ⟨h.1, ?_⟩
  rcases h.2 with h0 | ⟨g, cap, cur, hv, hg, hh, r⟩
  · exact .inl h0
  · exact .inr ⟨g, cap, cur, hv, hg, hk g _ hh (by simp; omega) (fun c fz e => by cases e), r⟩
theorem set_eqIn2 (a b c d e f g h : Int) (w : World) : (Op.equalIn 10000 121 (.agg #[.int .u64 a, .int .u64 b, .int .u64 c, .int .u64 d]) (.agg #[.int .u64 e, .int .u64 f, .int .u64 g, .int .u64 h])).run Tryd.prog w = .ok (eqQ a b c d e f g h) w := by
  have u3 := Tryd.underlying32
  have a3 := Tryd.isAgg32
  have z3 := Tryd.sizeOf32
  rw [show (10000 : Nat) = 9999 + 1 from rfl, Op.equalIn]
  simp only [Sem.run_bind, run_underlying Tryd.underlying121, Result.andThen_ok]
  simp only [Std.Legacy.Range.forIn_eq_forIn_range', Std.Legacy.Range.size, Nat.sub_zero, Nat.add_sub_cancel, Nat.div_one, List.range'_succ, List.range'_zero, List.forIn_cons, List.forIn_nil]
  unfold eqQ
  go_simp
  by_cases h1 : a = e <;> by_cases h2 : b = f <;> by_cases h3 : c = g <;> by_cases h4 : d = h <;> simp [h1, h2, h3, h4]
@[go_sem high] theorem set_eql2 (a b c d e f g h : Int) (w : World) : (binOp .eql 121 (.agg #[.int .u64 a, .int .u64 b, .int .u64 c, .int .u64 d]) (.agg #[.int .u64 e, .int .u64 f, .int .u64 g, .int .u64 h])).run Tryd.prog w = .ok (.bool (eqQ a b c d e f g h)) w := by
  rw [run_eql_struct, set_eqIn2]; rfl
theorem below_others {w w' : World} {b : Option Nat} (h : Below w.heap.size w w') : Lib.OthersKept 5 b w w' := fun k _ hk _ _ => (h.block k (Array.getElem?_eq_some_iff.1 hk).1).trans hk
set_option maxRecDepth 100000 in
set_option maxHeartbeats 3200000 in
theorem writeClass_any (B : Nat) (l : List UInt8) (s : S4) (w : World) (h : IsB B l w) (hA : AL w) (hlen : l.length ≤ 90000) (hBw : B < w.heap.size) :
    Calls Tryd.prog 60 #[.pointer (some ⟨B, 0, none⟩), s.val] w fun e w' => e = .returned (.tuple #[]) ∧ IsB B (l ++ classE s) w' ∧ Below B w w' ∧ Lib.OthersKept 5 (some B) w w' := by
  obtain ⟨w1, hw1⟩ : ∃ w1, w1 = w.alloc (.cells #[.int .u64 s.a, .int .u64 s.b, .int .u64 s.c, .int .u64 s.d] 121) := ⟨_, rfl⟩
  have HW1 := Lib.hid hw1
  have hs1 : w1.heap.size = w.heap.size + 1 := by rw [hw1]; simp
  have HB1 : Hid (Below w.heap.size w w1) := Lib.hid (by rw [hw1]; exact below1 _ _)
  have HS1 : Hid (RnB w1 w.heap.size s) := Lib.hid (by rw [hw1]; exact new_at w _)
  have HI1 : Hid (IsB B l w1) := Lib.hid (isB_later h HB1.out)
  have HA1 : Hid (AL w1) := Lib.hid (hA.later HB1.out)
  have HR := Lib.hid (runs_any s w1)
  unfold S4.val at HR ⊢
  obtain ⟨c0, c1, c2, c3⟩ := HS1.out.cells
  clear hw1 h hA
  go_enter Tryd.func60, Tryd.ntmps60
  go_wp2_with fail
  rw [← HW1.out]
  refine HR.out.mono ?_
  rintro e w2 ⟨⟨oa, cap, rfl, hO⟩, hb2⟩
  have HO := Lib.hid hO
  obtain ⟨d0, d1, d2, d3⟩ := (HA1.out.later hb2)
  have HS2 : Hid (RnB w2 w.heap.size s) := Lib.hid ((hb2.block _ (by omega)).trans HS1.out)
  obtain ⟨e0, e1, e2, e3⟩ := HS2.out.cells
  have HI2 : Hid (IsB B l w2) := Lib.hid (isB_later HI1.out hb2)
  have HB2 : Hid (Below B w w2) := Lib.hid ((HB1.out.trans (hb2.mono (by omega))).mono (Nat.le_of_lt hBw))
  have HK2 : Hid (Lib.OthersKept 5 (some B) w w2) := Lib.hid ((below_others HB1.out).trans (below_others hb2))
  clear hb2 hO c0 c1 c2 c3 HR HI1 HA1 HS1 HB1
  cases hal : isAl s
  · have hq : eqQ s.a s.b s.c s.d S4.alpha.a S4.alpha.b S4.alpha.c S4.alpha.d = false := hal
    have hE : classE s = match runsR s with
      | [p] => if p.1 = p.2 then escL (UInt8.ofNat p.1) else 91 :: (pairU p ++ [93])
      | L => 91 :: (L.flatMap pairU ++ [93]) := by unfold classE; rw [hal]; rfl
    have hok : ∀ p ∈ runsR s, p.1 ≤ p.2 ∧ 32 ≤ p.1 ∧ p.2 < 127 := (runsTo_ok s 95).2
    have hln : (runsR s).length ≤ 95 := (runsTo_ok s 95).1
    have HOK := Lib.hid hok
    clear hal hok
    generalize S4.alpha.a = xa at *
    generalize S4.alpha.b = xb at *
    generalize S4.alpha.c = xc at *
    generalize S4.alpha.d = xd at *
    generalize runsR s = L at *
    have HE := Lib.hid hE
    clear hE
    by_cases h1 : ∃ x : Nat, L = [(x, x)]
    · obtain ⟨x, rfl⟩ := h1
      obtain ⟨_, hx1, hx2⟩ := HOK.out (x, x) (by simp)
      replace hx1 : 32 ≤ x := hx1
      replace hx2 : x < 127 := hx2
      have HE2 : Hid (classE s = escL (UInt8.ofNat x)) := Lib.hid (by rw [HE.out]; simp)
      have hlen1 : ([(x, x)] : List (Nat × Nat)).length = 1 := rfl
      obtain ⟨g, rfl⟩ : ∃ g, oa = some ⟨g, 0, none⟩ := by
        rcases HO.out.2 with ⟨hv, h0⟩ | ⟨gl, cq, cur, hv, _⟩
        · simp at h0
        · cases hv; exact ⟨gl, rfl⟩
      obtain ⟨q0, q1⟩ := HO.out.at_ rfl (i := 0) (p := (x, x)) rfl
      simp only [Nat.zero_mul, Nat.zero_add] at q0 q1
      have hun : (UInt8.ofNat x).toNat = x := by simp; omega
      have H1 := Lib.hid (fun (V : World) (hV : Below w2.heap.size w2 V) => writeByte_any B l (UInt8.ofNat x) V (isB_later HI2.out hV) (by omega) (by have := HB2.out.size; have := hV.size; omega))
      rw [hun] at H1
      clear HOK HE HO
      go_wp2_with fail
      go_quiet (fail)
      go_wp2_with fail
      have hd : ∀ nq, Below w2.heap.size w2 (w2.drewN nq) := fun nq => ⟨rfl, rfl, rfl, Nat.le_refl _, fun _ _ => rfl⟩
      refine (H1.out _ (hd _)).mono ?_
      rintro e w3 ⟨rfl, hB, hb, hk⟩
      have HB := Lib.hid hB
      have HB3 := Lib.hid ((HB2.out.trans ((hd _).mono (by have := HB2.out.size; omega))).trans hb)
      have HK3 := Lib.hid ((HK2.out.trans (below_others (hd _))).trans hk)
      clear hB hb hk
      go_wp2_with fail
      go_end0
      exact ⟨rfl, by rw [HE2.out]; exact HB.out, HB3.out, HK3.out⟩
    · have HE2 : Hid (classE s = 91 :: (L.flatMap pairU ++ [93])) := Lib.hid (by
        rw [HE.out]
        split
        · rename_i p
          split
          · rename_i h2
            exact absurd ⟨p.1, by rw [show p = (p.1, p.1) from Prod.ext rfl h2.symm]⟩ h1
          · simp
        · rfl)
      have H1 := Lib.hid (fun (V : World) (hV : Below w2.heap.size w2 V) => byte_any B l 91 V (isB_later HI2.out hV) (by omega) (by have := HB2.out.size; have := hV.size; omega))
      clear HE
      by_cases hl1 : L.length = 1
      · have HL1 := Lib.hid hl1
        obtain ⟨g, rfl⟩ : ∃ g, oa = some ⟨g, 0, none⟩ := by
          rcases HO.out.2 with ⟨hv, h0⟩ | ⟨gl, cq, cur, hv, _⟩
          · omega
          · cases hv; exact ⟨gl, rfl⟩
        obtain ⟨⟨x0, y0⟩, hp0⟩ : ∃ p, L[0]? = some p := ⟨_, List.getElem?_eq_getElem (by omega)⟩
        obtain ⟨q2, q3⟩ := HO.out.at_ rfl hp0
        simp only [Nat.zero_mul, Nat.zero_add] at q2 q3
        have hxy : x0 ≠ y0 := fun e => h1 ⟨x0, by
          obtain ⟨z, hz⟩ := List.length_eq_one_iff.1 hl1
          rw [hz] at hp0
          simp at hp0
          rw [hz, hp0, e]⟩
        have hxyI : ¬ ((x0 : Int) = (y0 : Int)) := by omega
        rw [hl1]
        have HO := Lib.hid (show OwnB w2 w1.heap.size (.slice (some ⟨g, 0, none⟩) 1 cap) L by have h := HO.out; rw [hl1] at h; exact h)
        clear h1 hl1 hp0
        go_wp2_with fail
        go_quiet (fail)
        go_wp2_with fail
        have hd : ∀ nq, Below w2.heap.size w2 (w2.drewN nq) := fun nq => ⟨rfl, rfl, rfl, Nat.le_refl _, fun _ _ => rfl⟩
        refine (H1.out _ (hd _)).mono ?_
        rintro e w3 ⟨rfl, hB, hb, hk⟩
        have HO3 := Lib.hid ((HO.out.later (hd _)).others hk (by omega))
        have HI3 : Hid (IsB B (l ++ [91] ++ (L.take 0).flatMap pairU) w3) := Lib.hid (by simpa using hB)
        have HB3 := Lib.hid ((HB2.out.trans ((hd _).mono (by have := HB2.out.size; omega))).trans hb)
        have HK3 := Lib.hid ((HK2.out.trans (below_others (hd _))).trans hk)
        clear hB hb hk hd H1 HO
        go_wp2_with fail
        go_loopw [13] (fun v wr => ∃ i : Nat, v = .int .i64 (i : Int) ∧ i ≤ 1 ∧ Hid (IsB B (l ++ [91] ++ (L.take i).flatMap pairU) wr) ∧ Hid (OwnB wr w1.heap.size (.slice (some ⟨g, 0, none⟩) 1 cap) L) ∧ Hid (Below B w wr) ∧ Hid (Lib.OthersKept 5 (some B) w wr)) (fun v _ => 1 - (intOf v).toNat)
        case atStart => exact ⟨0, rfl, Nat.zero_le _, HI3, HO3, HB3, HK3⟩
        case round =>
          obtain ⟨i, rfl, hi, HI, HOr, HBr, HKr⟩ := hrel
          clear HI3 HO3 HB3 HK3
          have hsr := HBr.out.size
          by_cases hlt : i < 1
          · have hltI : (i : Int) < (1 : Int) := by omega
            have hi0 : (0 : Int) ≤ (i : Int) := by omega
            have hwi : IntKind.i64.wrap ((i : Int) + 1) = ((i + 1 : Nat) : Int) := by rw [IntWalk.i64_in _ (by omega)]; omega
            obtain ⟨⟨x, y⟩, hp⟩ : ∃ p, L[i]? = some p := ⟨_, List.getElem?_eq_getElem (by rw [HL1.out]; exact hlt)⟩
            obtain ⟨q0, q1⟩ := HOr.out.at_ HL1.out hp
            go_wp2_with fail
            obtain ⟨k1, k2, k3⟩ := HOK.out (x, y) (List.mem_of_getElem? hp)
            replace k1 : x ≤ y := k1
            replace k2 : 32 ≤ x := k2
            replace k3 : y < 127 := k3
            have hux : (UInt8.ofNat x).toNat = x := by simp; omega
            have huy : (UInt8.ofNat y).toNat = y := by simp; omega
            have hfl := flat_len (L.take i)
            have htl : (L.take i).length ≤ 95 := by rw [List.length_take]; omega
            have hb5 := below1 wr (.cells #[.int .u8 (x : Int), .int .u8 (y : Int)] 142)
            have H2 := writeRun_any B (l ++ [91] ++ (L.take i).flatMap pairU) (UInt8.ofNat x) (UInt8.ofNat y) _ (isB_later HI.out hb5) (by rw [List.length_append, List.length_append]; show _ + 1 + _ ≤ _; omega) (by rw [World.size_alloc]; omega) (by omega)
            rw [hux, huy] at H2
            refine H2.mono ?_
            rintro e w4 ⟨rfl, hB, hb, hk⟩
            have HI4 : Hid (IsB B (l ++ [91] ++ (L.take (i + 1)).flatMap pairU) w4) := Lib.hid (by
              rw [List.take_add_one, hp]
              simp only [Option.toList_some, List.flatMap_append, List.flatMap_cons, List.flatMap_nil, List.append_nil, ← List.append_assoc]
              exact hB)
            have HO4 := Lib.hid ((HOr.out.later hb5).others hk (by omega))
            have HB4 := Lib.hid ((HBr.out.trans (hb5.mono (by omega))).trans hb)
            have HK4 := Lib.hid ((HKr.out.trans (below_others hb5)).trans hk)
            clear hB hb hk hb5 H2 HI HOr HBr HKr hp q0 q1
            go_wp2_with fail
            go_roundw
            case rel => exact ⟨i + 1, by first | rfl | go_num, hlt, HI4, HO4, HB4, HK4⟩
            case measure => simp [intOf]; omega
          · have hltI : ¬ ((i : Int) < (1 : Int)) := by omega
            obtain rfl : i = 1 := by omega
            have H2 := Lib.hid (byte_any B (l ++ [91] ++ L.flatMap pairU) 93 wr (by have := HI.out; rwa [List.take_of_length_le (by rw [HL1.out]; exact Nat.le_refl _)] at this) (by have := flat_len L; rw [List.length_append, List.length_append]; show _ + 1 + _ ≤ _; omega) (by omega))
            go_wp2_with fail
            refine H2.out.mono ?_
            rintro e w4 ⟨rfl, hB, hb, hk⟩
            have HB := Lib.hid hB
            have HB4 := Lib.hid (HBr.out.trans hb)
            have HK4 := Lib.hid (HKr.out.trans hk)
            clear hB hb hk
            go_wp2_with fail
            go_end0
            refine ⟨rfl, ?_, HB4.out, HK4.out⟩
            rw [HE2.out]
            have := HB.out
            simp only [List.append_assoc] at this
            exact this
      · have hlI : ¬ ((L.length : Int) = 1) := by omega
        clear h1
        go_wp2_with fail
        go_quiet (fail)
        go_wp2_with fail
        have hd : ∀ nq, Below w2.heap.size w2 (w2.drewN nq) := fun nq => ⟨rfl, rfl, rfl, Nat.le_refl _, fun _ _ => rfl⟩
        refine (H1.out _ (hd _)).mono ?_
        rintro e w3 ⟨rfl, hB, hb, hk⟩
        have HO3 := Lib.hid ((HO.out.later (hd _)).others hk (by omega))
        have HI3 : Hid (IsB B (l ++ [91] ++ (L.take 0).flatMap pairU) w3) := Lib.hid (by simpa using hB)
        have HB3 := Lib.hid ((HB2.out.trans ((hd _).mono (by have := HB2.out.size; omega))).trans hb)
        have HK3 := Lib.hid ((HK2.out.trans (below_others (hd _))).trans hk)
        clear hB hb hk hd H1 HO
        go_wp2_with fail
        go_loopw [13] (fun v wr => ∃ i : Nat, v = .int .i64 (i : Int) ∧ i ≤ L.length ∧ Hid (IsB B (l ++ [91] ++ (L.take i).flatMap pairU) wr) ∧ Hid (OwnB wr w1.heap.size (.slice oa L.length cap) L) ∧ Hid (Below B w wr) ∧ Hid (Lib.OthersKept 5 (some B) w wr)) (fun v _ => L.length - (intOf v).toNat)
        case atStart => exact ⟨0, rfl, Nat.zero_le _, HI3, HO3, HB3, HK3⟩
        case round =>
          obtain ⟨i, rfl, hi, HI, HOr, HBr, HKr⟩ := hrel
          clear HI3 HO3 HB3 HK3
          have hsr := HBr.out.size
          by_cases hlt : i < L.length
          · have hltI : (i : Int) < (L.length : Int) := by omega
            have hi0 : (0 : Int) ≤ (i : Int) := by omega
            have hwi : IntKind.i64.wrap ((i : Int) + 1) = ((i + 1 : Nat) : Int) := by rw [IntWalk.i64_in _ (by omega)]; omega
            obtain ⟨g, rfl⟩ : ∃ g, oa = some ⟨g, 0, none⟩ := by
              rcases HOr.out.2 with ⟨hv, h0⟩ | ⟨gl, cq, cur, hv, _⟩
              · omega
              · cases hv; exact ⟨gl, rfl⟩
            obtain ⟨⟨x, y⟩, hp⟩ : ∃ p, L[i]? = some p := ⟨_, List.getElem?_eq_getElem hlt⟩
            obtain ⟨q0, q1⟩ := HOr.out.at_ rfl hp
            go_wp2_with fail
            obtain ⟨k1, k2, k3⟩ := HOK.out (x, y) (List.mem_of_getElem? hp)
            replace k1 : x ≤ y := k1
            replace k2 : 32 ≤ x := k2
            replace k3 : y < 127 := k3
            have hux : (UInt8.ofNat x).toNat = x := by simp; omega
            have huy : (UInt8.ofNat y).toNat = y := by simp; omega
            have hfl := flat_len (L.take i)
            have htl : (L.take i).length ≤ 95 := by rw [List.length_take]; omega
            have hb5 := below1 wr (.cells #[.int .u8 (x : Int), .int .u8 (y : Int)] 142)
            have H2 := writeRun_any B (l ++ [91] ++ (L.take i).flatMap pairU) (UInt8.ofNat x) (UInt8.ofNat y) _ (isB_later HI.out hb5) (by rw [List.length_append, List.length_append]; show _ + 1 + _ ≤ _; omega) (by rw [World.size_alloc]; omega) (by omega)
            rw [hux, huy] at H2
            refine H2.mono ?_
            rintro e w4 ⟨rfl, hB, hb, hk⟩
            have HI4 : Hid (IsB B (l ++ [91] ++ (L.take (i + 1)).flatMap pairU) w4) := Lib.hid (by
              rw [List.take_add_one, hp]
              simp only [Option.toList_some, List.flatMap_append, List.flatMap_cons, List.flatMap_nil, List.append_nil, ← List.append_assoc]
              exact hB)
            have HO4 := Lib.hid ((HOr.out.later hb5).others hk (by omega))
            have HB4 := Lib.hid ((HBr.out.trans (hb5.mono (by omega))).trans hb)
            have HK4 := Lib.hid ((HKr.out.trans (below_others hb5)).trans hk)
            clear hB hb hk hb5 H2 HI HOr HBr HKr hp q0 q1
            go_wp2_with fail
            go_roundw
            case rel => exact ⟨i + 1, by first | rfl | go_num, hlt, HI4, HO4, HB4, HK4⟩
            case measure => simp [intOf]; omega
          · have hltI : ¬ ((i : Int) < (L.length : Int)) := by omega
            obtain rfl : i = L.length := by omega
            have H2 := Lib.hid (byte_any B (l ++ [91] ++ L.flatMap pairU) 93 wr (by have := HI.out; rwa [List.take_length] at this) (by have := flat_len L; rw [List.length_append, List.length_append]; show _ + 1 + _ ≤ _; omega) (by omega))
            go_wp2_with fail
            refine H2.out.mono ?_
            rintro e w4 ⟨rfl, hB, hb, hk⟩
            have HB := Lib.hid hB
            have HB4 := Lib.hid (HBr.out.trans hb)
            have HK4 := Lib.hid (HKr.out.trans hk)
            clear hB hb hk
            go_wp2_with fail
            go_end0
            refine ⟨rfl, ?_, HB4.out, HK4.out⟩
            rw [HE2.out]
            have := HB.out
            simp only [List.append_assoc] at this
            exact this
  · have hq : eqQ s.a s.b s.c s.d S4.alpha.a S4.alpha.b S4.alpha.c S4.alpha.d = true := hal
    have HE : Hid (classE s = [46]) := Lib.hid (by unfold classE; rw [hal]; rfl)
    have H1 := Lib.hid (byte_any B l 46 w2 HI2.out (by omega) (by have := HB2.out.size; omega))
    clear hal
    generalize S4.alpha.a = xa at *
    generalize S4.alpha.b = xb at *
    generalize S4.alpha.c = xc at *
    generalize S4.alpha.d = xd at *
    go_wp2_with fail
    refine H1.out.mono ?_
    rintro e w3 ⟨rfl, hB, hb, hk⟩
    have HB := Lib.hid hB
    have HB3 := Lib.hid (HB2.out.trans hb)
    have HK3 := Lib.hid (HK2.out.trans hk)
    clear hB hb hk
    go_wp2_with fail
    go_end0
    exact ⟨rfl, by rw [HE.out]; exact HB.out, HB3.out, HK3.out⟩
end Go.Proofs.YtaipaddfehpmgaaDoor
