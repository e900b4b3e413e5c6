/-
  rest and class of the specification. Nothing is assumed.
-/
import Derived.Test.YtaipaddfehpmgaaDoorPtSev
import Derived.Test.YtaipaddfehpmgaaDoorEnP
namespace Go.Proofs.YtaipaddfehpmgaaDoor

section
open Go.RowKit

/-- A set in a block of its own, as the specification holds it. -/
def SR (w : World) (g : Nat) (s : S4) : Prop := w.heap[g]? = some (.cells #[.int .u64 s.a, .int .u64 s.b, .int .u64 s.c, .int .u64 s.d] 33 (0, 0))
theorem SR.cells {w : World} {g : Nat} {s : S4} (h : SR w g s) : w.cell? ⟨g, 0, none⟩ = some (.int .u64 s.a) ∧ w.cell? ⟨g, 1, none⟩ = some (.int .u64 s.b) ∧ w.cell? ⟨g, 2, none⟩ = some (.int .u64 s.c) ∧ w.cell? ⟨g, 3, none⟩ = some (.int .u64 s.d) := by
  unfold World.cell?
  rw [h]
  exact ⟨rfl, rfl, rfl, rfl⟩
theorem SR.free {w : World} {g : Nat} {s : S4} (h : SR w g s) (k : Nat) : w.frozen? ⟨g, k, none⟩ = false := by unfold World.frozen?; rw [h]; simp
theorem SR.lt {w : World} {g : Nat} {s : S4} (h : SR w g s) : g < w.heap.size := (Array.getElem?_eq_some_iff.1 h).1
theorem SR.set0 {w : World} {g : Nat} {s : S4} (h : SR w g s) (x : Int) : SR (w.setCell ⟨g, 0, none⟩ (.int .u64 x)) g { s with a := x } := by
  unfold SR at *
  simp [World.setCell, Array.getElem?_modify, h]
theorem SR.set1 {w : World} {g : Nat} {s : S4} (h : SR w g s) (x : Int) : SR (w.setCell ⟨g, 1, none⟩ (.int .u64 x)) g { s with b := x } := by
  unfold SR at *
  simp [World.setCell, Array.getElem?_modify, h]
theorem SR.set2 {w : World} {g : Nat} {s : S4} (h : SR w g s) (x : Int) : SR (w.setCell ⟨g, 2, none⟩ (.int .u64 x)) g { s with c := x } := by
  unfold SR at *
  simp [World.setCell, Array.getElem?_modify, h]
theorem SR.set3 {w : World} {g : Nat} {s : S4} (h : SR w g s) (x : Int) : SR (w.setCell ⟨g, 3, none⟩ (.int .u64 x)) g { s with d := x } := by
  unfold SR at *
  simp [World.setCell, Array.getElem?_modify, h]
theorem SR.new (w : World) : SR (w.alloc (.cells #[.int .u64 0, .int .u64 0, .int .u64 0, .int .u64 0] 33)) w.heap.size .zero := by
  show (w.heap.push _)[w.heap.size]? = some _
  rw [Array.getElem?_push, if_pos rfl]
  rfl
theorem SR.kp {w w' : World} {g N : Nat} {X : Nat → Prop} {s : S4} (h : SR w g s) (hk : Kp N X w w') (hN : g < N) (hX : ¬ X g) : SR w' g s := (hk.block g hN hX).trans h
theorem SR.later {w w' : World} {g B : Nat} {s : S4} (h : SR w g s) (hb : Below B w w') (hg : g < B) : SR w' g s := (hb.block g hg).trans h
theorem SR.box (w : World) (s : S4) : SR (w.alloc (.cells #[.int .u64 s.a, .int .u64 s.b, .int .u64 s.c, .int .u64 s.d] 33)) w.heap.size s := by
  show (w.heap.push _)[w.heap.size]? = some _
  rw [Array.getElem?_push, if_pos rfl]

theorem isSp_i (c : Nat) : isSp c = ((c : Int) == 40 || (c : Int) == 41 || (c : Int) == 91 || (c : Int) == 93 || (c : Int) == 46 || (c : Int) == 42 || (c : Int) == 124 || (c : Int) == 92) := by
  rw [Bool.eq_iff_iff]
  unfold isSp spec8
  simp
  omega
theorem isSpM_i (c : Nat) : isSpM c = ((c : Int) == 93 || (c : Int) == 92 || (c : Int) == 94 || (c : Int) == 45) := by
  rw [Bool.eq_iff_iff]
  unfold isSpM
  simp
  omega
theorem inA_i (c : Nat) : inA c = (decide ((32 : Int) ≤ (c : Int)) && decide ((c : Int) ≤ 126)) := by
  rw [Bool.eq_iff_iff]
  unfold inA
  simp
  omega
set_option maxRecDepth 100000 in
theorem rSpecial_any (c : Nat) (w : World) :
    Calls Tryd.prog 91 #[.int .u8 (c : Int)] w fun e w' => e = .returned (.bool (isSp c)) ∧ w' = w := by
  rw [isSp_i]
  go_enter Tryd.func91, Tryd.ntmps91
  go_wp2_with fail
  all_goals
    go_ret
    exact ⟨ret_bool (by first | (simp [*]; done) | (simp [*]; omega)), rfl⟩
set_option maxRecDepth 100000 in
theorem rMarked_any (c : Nat) (w : World) :
    Calls Tryd.prog 102 #[.int .u8 (c : Int)] w fun e w' => e = .returned (.bool (isSpM c)) ∧ w' = w := by
  rw [isSpM_i]
  go_enter Tryd.func102, Tryd.ntmps102
  go_wp2_with fail
  all_goals
    go_ret
    exact ⟨ret_bool (by first | (simp [*]; done) | (simp [*]; omega)), rfl⟩
set_option maxRecDepth 100000 in
theorem rIn_any (c : Nat) (w : World) :
    Calls Tryd.prog 82 #[.int .u8 (c : Int)] w fun e w' => e = .returned (.bool (inA c)) ∧ w' = w := by
  rw [inA_i]
  go_enter Tryd.func82, Tryd.ntmps82
  go_wp2_with fail
  all_goals
    go_ret
    exact ⟨ret_bool (by first | (simp [*]; done) | (simp [*]; omega)), rfl⟩
set_option maxRecDepth 100000 in
theorem rAt_any (s : ByteArray) (i : Nat) (w : World) :
    Calls Tryd.prog 68 #[.string s, .int .i64 (i : Int)] w fun e w' => e = .returned (.int .u8 (pk s.data.toList i : Int)) ∧ w' = w := by
  by_cases hlt : i < s.size
  · have hltI : (i : Int) < (s.size : Int) := by omega
    have hi0 : (0 : Int) ≤ (i : Int) := by omega
    rw [pk_in s i hlt]
    go_enter Tryd.func68, Tryd.ntmps68
    go_wp2_with fail
    go_ret
    exact ⟨rfl, rfl⟩
  · have hltI : ¬ ((i : Int) < (s.size : Int)) := by omega
    rw [pk_out s.data.toList i (by rw [lt_len]; omega)]
    go_enter Tryd.func68, Tryd.ntmps68
    go_wp2_with fail
    go_ret
    exact ⟨rfl, rfl⟩

set_option maxRecDepth 100000 in
theorem rHas_any (s : S4) (hs : s.Ok) (c : Nat) (hc : c < 256) (w : World) :
    Calls Tryd.prog 51 #[s.val, .int .i64 (c : Int)] w fun e w' => e = .returned (.bool (s.has c)) ∧ Below w.heap.size w w' := by
  unfold S4.val
  rcases div64 hc with h | h | h | h
  all_goals
    have hq : s.has c = ((s.get (c / 64) / 2 ^ (c % 64)).tmod 2 == 1) := hasQ_mod (hs.get_ok _) c
    rw [h] at hq
    rw [hq]
    clear hq
    go_enter Tryd.func51, Tryd.ntmps51
    go_wp2_with fail
    go_ret
    exact ⟨rfl, below1 _ _⟩

theorem addsL_step (l b : Nat) (s : S4) (h : b ≤ l) : addsL (l + 1 - b) s b = addsL (l + 1 - (b + 1)) (s.add b) (b + 1) := by
  rw [show l + 1 - b = (l + 1 - (b + 1)) + 1 by omega, addsL]
set_option maxRecDepth 100000 in
set_option maxHeartbeats 1600000 in
theorem rWith_any (s : S4) (hs : s.Ok) (f l : Nat) (hf : f ≤ l + 1) (hl : l < 256) (w : World) :
    Calls Tryd.prog 92 #[s.val, .int .i64 (f : Int), .int .i64 (l : Int)] w fun e w' => e = .returned (addsL (l + 1 - f) s f).val ∧ Below w.heap.size w w' := by
  obtain ⟨w0, hw0⟩ : ∃ w0, w0 = (w.alloc (.cells #[.int .u64 s.a, .int .u64 s.b, .int .u64 s.c, .int .u64 s.d] 33)).alloc (.cells #[.int .u64 0, .int .u64 0, .int .u64 0, .int .u64 0] 33) := ⟨_, rfl⟩
  have hb0 : Below w.heap.size w w0 := by rw [hw0]; exact below2 _ _ _
  have hs0 : w0.heap.size = w.heap.size + 2 := by rw [hw0]; simp
  have HS0 : Hid (SR w0 w.heap.size s) := Lib.hid (by rw [hw0]; exact (SR.box w s).later (below1 _ _) (by simp))
  have HZ0 : Hid (SR w0 (w.heap.size + 1) .zero) := Lib.hid (by
    rw [hw0]
    have := SR.new (w.alloc (.cells #[.int .u64 s.a, .int .u64 s.b, .int .u64 s.c, .int .u64 s.d] 33))
    rwa [show (w.alloc (.cells #[.int .u64 s.a, .int .u64 s.b, .int .u64 s.c, .int .u64 s.d] 33)).heap.size = w.heap.size + 1 by simp] at this)
  have HB0 := Lib.hid hb0
  have HW0 := Lib.hid hw0
  clear hb0 hw0
  obtain ⟨R, hR⟩ : ∃ R, R = addsL (l + 1 - f) s f := ⟨_, rfl⟩
  have HR := Lib.hid hR
  rw [← hR]
  clear hR
  unfold S4.val
  go_enter Tryd.func92, Tryd.ntmps92
  go_wp2_with fail
  rw [← HW0.out]
  go_loopw [7] (fun v wr => ∃ (b : Nat) (s' : S4), v = .int .i64 (b : Int) ∧ b ≤ l + 1 ∧ Hid s'.Ok ∧ Hid (R = addsL (l + 1 - b) s' b) ∧ Hid (SR wr w.heap.size s') ∧ Hid (SR wr (w.heap.size + 1) .zero) ∧ Hid (Below w.heap.size w wr) ∧ w.heap.size + 2 ≤ wr.heap.size) (fun v _ => l + 1 - (intOf v).toNat)
  case atStart => exact ⟨f, s, rfl, hf, Lib.hid hs, HR, HS0, HZ0, HB0, by omega⟩
  case round =>
    obtain ⟨b, s', rfl, hb, HO, HE, HS, HZ, HB, hsz⟩ := hrel
    obtain ⟨c0, c1, c2, c3⟩ := HS.out.cells
    by_cases hbl : b ≤ l
    · have hblI : (b : Int) ≤ (l : Int) := by omega
      have hb8 : b < 256 := by omega
      have hwb : IntKind.i64.wrap ((b : Int) + 1) = ((b + 1 : Nat) : Int) := by rw [IntWalk.i64_in _ (by omega)]; omega
      have HH := Lib.hid (rHas_any s' HO.out b hb8 wr)
      have HE1 : Hid (R = addsL (l + 1 - (b + 1)) (s'.add b) (b + 1)) := Lib.hid (by rw [HE.out, addsL_step l b s' hbl])
      have HA1 := Lib.hid (S4.add_ok HO.out b)
      clear HS0 HZ0 HB0 HR
      unfold S4.val at HH
      go_wp2_with fail
      refine HH.out.mono ?_
      rintro e w5 ⟨rfl, hb5⟩
      have HS5 : Hid (SR w5 w.heap.size s') := Lib.hid (HS.out.later hb5 HS.out.lt)
      have HZ5 : Hid (SR w5 (w.heap.size + 1) .zero) := Lib.hid (HZ.out.later hb5 HZ.out.lt)
      have HB5 := Lib.hid (HB.out.trans (hb5.mono (by omega)))
      have hs5 : w.heap.size + 2 ≤ w5.heap.size := Nat.le_trans hsz hb5.size
      clear hb5 HH c0 c1 c2 c3
      cases hhas : s'.has b
      · obtain ⟨c0, c1, c2, c3⟩ := HS5.out.cells
        have hf := HS5.out.free
        have f0 := hf 0
        have f1 := hf 1
        have f2 := hf 2
        have f3 := hf 3
        clear hf
        rcases div64 hb8 with h | h | h | h
        · have HV : Hid (s'.add b = { s' with a := IntKind.u64.wrap (s'.a + IntKind.u64.wrap (2 ^ (b % 64))) }) := Lib.hid (by
            have hq : hasQ (s'.get (b / 64)) b = false := hhas
            rw [h] at hq
            have := orQ_sum (HO.out.get_ok 0) hq
            unfold S4.add
            rw [h]
            show ({ s' with a := orQ s'.a b } : S4) = _
            rw [show orQ s'.a b = IntKind.u64.wrap (s'.a + IntKind.u64.wrap (2 ^ (b % 64))) from this])
          go_wp2_with fail
          go_region
          go_wp2_with fail
          go_roundw
          case rel =>
            refine ⟨b + 1, s'.add b, by first | rfl | go_num, by omega, HA1, HE1, ?_, ?_, ?_, ?_⟩
            · exact Lib.hid (by rw [HV.out]; exact HS5.out.set0 _)
            · exact Lib.hid ((Below.heap_setCell _ _ _ _ (by simp)).trans HZ5.out)
            · exact Lib.hid (HB5.out.setCell (p := ⟨w.heap.size, 0, none⟩) (Nat.le_refl _) _).drew
            · simp [World.setCell, World.drew]; omega
          case measure => simp [intOf]; omega
        · have HV : Hid (s'.add b = { s' with b := IntKind.u64.wrap (s'.b + IntKind.u64.wrap (2 ^ (b % 64))) }) := Lib.hid (by
            have hq : hasQ (s'.get (b / 64)) b = false := hhas
            rw [h] at hq
            have := orQ_sum (HO.out.get_ok 1) hq
            unfold S4.add
            rw [h]
            show ({ s' with b := orQ s'.b b } : S4) = _
            rw [show orQ s'.b b = IntKind.u64.wrap (s'.b + IntKind.u64.wrap (2 ^ (b % 64))) from this])
          go_wp2_with fail
          go_region
          go_wp2_with fail
          go_roundw
          case rel =>
            refine ⟨b + 1, s'.add b, by first | rfl | go_num, by omega, HA1, HE1, ?_, ?_, ?_, ?_⟩
            · exact Lib.hid (by rw [HV.out]; exact HS5.out.set1 _)
            · exact Lib.hid ((Below.heap_setCell _ _ _ _ (by simp)).trans HZ5.out)
            · exact Lib.hid (HB5.out.setCell (p := ⟨w.heap.size, 1, none⟩) (Nat.le_refl _) _).drew
            · simp [World.setCell, World.drew]; omega
          case measure => simp [intOf]; omega
        · have HV : Hid (s'.add b = { s' with c := IntKind.u64.wrap (s'.c + IntKind.u64.wrap (2 ^ (b % 64))) }) := Lib.hid (by
            have hq : hasQ (s'.get (b / 64)) b = false := hhas
            rw [h] at hq
            have := orQ_sum (HO.out.get_ok 2) hq
            unfold S4.add
            rw [h]
            show ({ s' with c := orQ s'.c b } : S4) = _
            rw [show orQ s'.c b = IntKind.u64.wrap (s'.c + IntKind.u64.wrap (2 ^ (b % 64))) from this])
          go_wp2_with fail
          go_region
          go_wp2_with fail
          go_roundw
          case rel =>
            refine ⟨b + 1, s'.add b, by first | rfl | go_num, by omega, HA1, HE1, ?_, ?_, ?_, ?_⟩
            · exact Lib.hid (by rw [HV.out]; exact HS5.out.set2 _)
            · exact Lib.hid ((Below.heap_setCell _ _ _ _ (by simp)).trans HZ5.out)
            · exact Lib.hid (HB5.out.setCell (p := ⟨w.heap.size, 2, none⟩) (Nat.le_refl _) _).drew
            · simp [World.setCell, World.drew]; omega
          case measure => simp [intOf]; omega
        · have HV : Hid (s'.add b = { s' with d := IntKind.u64.wrap (s'.d + IntKind.u64.wrap (2 ^ (b % 64))) }) := Lib.hid (by
            have hq : hasQ (s'.get (b / 64)) b = false := hhas
            rw [h] at hq
            have := orQ_sum (HO.out.get_ok 3) hq
            unfold S4.add
            rw [h]
            show ({ s' with d := orQ s'.d b } : S4) = _
            rw [show orQ s'.d b = IntKind.u64.wrap (s'.d + IntKind.u64.wrap (2 ^ (b % 64))) from this])
          go_wp2_with fail
          go_region
          go_wp2_with fail
          go_roundw
          case rel =>
            refine ⟨b + 1, s'.add b, by first | rfl | go_num, by omega, HA1, HE1, ?_, ?_, ?_, ?_⟩
            · exact Lib.hid (by rw [HV.out]; exact HS5.out.set3 _)
            · exact Lib.hid ((Below.heap_setCell _ _ _ _ (by simp)).trans HZ5.out)
            · exact Lib.hid (HB5.out.setCell (p := ⟨w.heap.size, 3, none⟩) (Nat.le_refl _) _).drew
            · simp [World.setCell, World.drew]; omega
          case measure => simp [intOf]; omega
      · have HE2 : Hid (R = addsL (l + 1 - (b + 1)) s' (b + 1)) := Lib.hid (by rw [HE1.out, S4.add_same HO.out hhas])
        go_wp2_with fail
        go_roundw
        case rel => exact ⟨b + 1, s', by first | rfl | go_num, by omega, HO, HE2, HS5, HZ5, HB5, hs5⟩
        case measure => simp [intOf]; omega
    · have hblI : ¬ ((b : Int) ≤ (l : Int)) := by omega
      obtain rfl : b = l + 1 := by omega
      have hRe : R = s' := by rw [HE.out, Nat.sub_self, addsL]
      subst hRe
      obtain ⟨z0, z1, z2, z3⟩ := HZ.out.cells
      have hf := HZ.out.free
      have f0 := hf 0
      have f1 := hf 1
      have f2 := hf 2
      have f3 := hf 3
      clear hf HE HR
      go_wp2_with fail
      refine bodyPost_ret (v := .agg #[.int .u64 R.a, .int .u64 R.b, .int .u64 R.c, .int .u64 R.d]) (by simp [results, Tryd.results92, go_sem, *]) rfl ⟨rfl, ?_⟩
      have h1 := HB.out
      exact (((h1.setCell (p := ⟨w.heap.size + 1, 0, none⟩) (by show w.heap.size ≤ w.heap.size + 1; omega) _).setCell (p := ⟨w.heap.size + 1, 1, none⟩) (by show w.heap.size ≤ w.heap.size + 1; omega) _).setCell (p := ⟨w.heap.size + 1, 2, none⟩) (by show w.heap.size ≤ w.heap.size + 1; omega) _).setCell (p := ⟨w.heap.size + 1, 3, none⟩) (by show w.heap.size ≤ w.heap.size + 1; omega) _

/-- The outcome of a reading of a byte. -/
def memV : PR Nat → Value
  | .bad m => .tuple #[.int .i64 0, .int .i64 (m : Int), .bool false]
  | .ok c m => .tuple #[.int .i64 (c : Int), .int .i64 (m : Int), .bool true]
set_option maxRecDepth 100000 in
set_option maxHeartbeats 1600000 in
theorem rMember_any (s : ByteArray) (i least : Nat) (hi : i ≤ 1000) (hl : least < 256) (w : World) :
    Calls Tryd.prog 99 #[.string s, .int .i64 (i : Int), .int .i64 (least : Int)] w fun e w' => e = .returned (memV (memL s.data.toList least i)) ∧ w' = w := by
  have HA := Lib.hid (rAt_any s i w)
  have HA1 := Lib.hid (rAt_any s (i + 1) w)
  have h1 : IntKind.i64.wrap ((i : Int) + 1) = ((i + 1 : Nat) : Int) := by rw [IntWalk.i64_in _ (by omega)]; omega
  have h2 : IntKind.i64.wrap ((i : Int) + 2) = ((i + 2 : Nat) : Int) := by rw [IntWalk.i64_in _ (by omega)]; omega
  have hp1 := pk_lt s.data.toList i
  have hp2 := pk_lt s.data.toList (i + 1)
  unfold memL
  generalize pk s.data.toList i = c at *
  generalize pk s.data.toList (i + 1) = d at *
  have HM := Lib.hid (rMarked_any c w)
  have HN := Lib.hid (rMarked_any d w)
  have HI := Lib.hid (rIn_any c w)
  by_cases h92 : c = 92
  · rw [if_pos h92]
    have h92b : ((c : Int) == 92) = true := by rw [beq_iff_eq]; omega
    by_cases hle : 94 < least
    · rw [if_pos hle]
      have hleI : (94 : Int) < (least : Int) := by omega
      go_enter Tryd.func99, Tryd.ntmps99
      go_wp2_with fail
      refine HA.out.mono ?_
      rintro e w1 ⟨rfl, rfl⟩
      go_wp2_with fail
      exact bodyPost_ret (v := memV (.bad i)) (by simp [results, Tryd.results99, go_sem, memV]) rfl ⟨rfl, rfl⟩
    · rw [if_neg hle]
      have hleI : ¬ ((94 : Int) < (least : Int)) := by omega
      cases hm : isSpM d
      · rw [if_pos rfl]
        rw [hm] at HN
        go_enter Tryd.func99, Tryd.ntmps99
        go_wp2_with fail
        refine HA.out.mono ?_
        rintro e w1 ⟨rfl, rfl⟩
        go_wp2_with fail
        refine HA1.out.mono ?_
        rintro e w1 ⟨rfl, rfl⟩
        go_wp2_with fail
        refine HN.out.mono ?_
        rintro e w1 ⟨rfl, rfl⟩
        go_wp2_with fail
        exact bodyPost_ret (v := memV (.bad (i + 1))) (by simp [results, Tryd.results99, go_sem, memV]) rfl ⟨rfl, rfl⟩
      · rw [if_neg (by decide)]
        rw [hm] at HN
        have hin : inA d = true := by
          have := isSpM_lt hm
          unfold inA
          simp
          omega
        by_cases hdl : d < least
        · rw [if_pos (.inl hdl)]
          have hdlI : (d : Int) < (least : Int) := by omega
          go_enter Tryd.func99, Tryd.ntmps99
          go_wp2_with fail
          refine HA.out.mono ?_
          rintro e w1 ⟨rfl, rfl⟩
          go_wp2_with fail
          refine HA1.out.mono ?_
          rintro e w1 ⟨rfl, rfl⟩
          go_wp2_with fail
          refine HN.out.mono ?_
          rintro e w1 ⟨rfl, rfl⟩
          go_wp2_with fail
          exact bodyPost_ret (v := memV (.bad (i + 1))) (by simp [results, Tryd.results99, go_sem, memV]) rfl ⟨rfl, rfl⟩
        · rw [if_neg (by rw [hin]; simp; omega)]
          have hdlI : ¬ ((d : Int) < (least : Int)) := by omega
          go_enter Tryd.func99, Tryd.ntmps99
          go_wp2_with fail
          refine HA.out.mono ?_
          rintro e w1 ⟨rfl, rfl⟩
          go_wp2_with fail
          refine HA1.out.mono ?_
          rintro e w1 ⟨rfl, rfl⟩
          go_wp2_with fail
          refine HN.out.mono ?_
          rintro e w1 ⟨rfl, rfl⟩
          go_wp2_with fail
          exact bodyPost_ret (v := memV (.ok d (i + 2))) (by simp [results, Tryd.results99, go_sem, memV]) rfl ⟨rfl, rfl⟩
  · rw [if_neg h92]
    have h92b : ((c : Int) == 92) = false := by rw [beq_eq_false_iff_ne]; omega
    cases hin : inA c
    · have hm : isSpM c = false := by
        cases h : isSpM c
        · rfl
        · have := isSpM_lt h
          unfold inA at hin
          simp at hin
          omega
      rw [hm, if_neg (by decide), if_pos (.inr rfl)]
      rw [hin] at HI
      go_enter Tryd.func99, Tryd.ntmps99
      go_wp2_with fail
      refine HA.out.mono ?_
      rintro e w1 ⟨rfl, rfl⟩
      go_wp2_with fail
      refine HI.out.mono ?_
      rintro e w1 ⟨rfl, rfl⟩
      go_wp2_with fail
      exact bodyPost_ret (v := memV (.bad i)) (by simp [results, Tryd.results99, go_sem, memV]) rfl ⟨rfl, rfl⟩
    · rw [hin] at HI
      cases hm : isSpM c
      · rw [if_neg (by decide)]
        rw [hm] at HM
        by_cases hdl : c < least
        · rw [if_pos (.inl hdl)]
          have hdlI : (c : Int) < (least : Int) := by omega
          go_enter Tryd.func99, Tryd.ntmps99
          go_wp2_with fail
          refine HA.out.mono ?_
          rintro e w1 ⟨rfl, rfl⟩
          go_wp2_with fail
          refine HI.out.mono ?_
          rintro e w1 ⟨rfl, rfl⟩
          go_wp2_with fail
          refine HM.out.mono ?_
          rintro e w1 ⟨rfl, rfl⟩
          go_wp2_with fail
          exact bodyPost_ret (v := memV (.bad i)) (by simp [results, Tryd.results99, go_sem, memV]) rfl ⟨rfl, rfl⟩
        · rw [if_neg (by simp; omega)]
          have hdlI : ¬ ((c : Int) < (least : Int)) := by omega
          go_enter Tryd.func99, Tryd.ntmps99
          go_wp2_with fail
          refine HA.out.mono ?_
          rintro e w1 ⟨rfl, rfl⟩
          go_wp2_with fail
          refine HI.out.mono ?_
          rintro e w1 ⟨rfl, rfl⟩
          go_wp2_with fail
          refine HM.out.mono ?_
          rintro e w1 ⟨rfl, rfl⟩
          go_wp2_with fail
          exact bodyPost_ret (v := memV (.ok c (i + 1))) (by simp [results, Tryd.results99, go_sem, memV]) rfl ⟨rfl, rfl⟩
      · rw [if_pos rfl]
        rw [hm] at HM
        go_enter Tryd.func99, Tryd.ntmps99
        go_wp2_with fail
        refine HA.out.mono ?_
        rintro e w1 ⟨rfl, rfl⟩
        go_wp2_with fail
        refine HI.out.mono ?_
        rintro e w1 ⟨rfl, rfl⟩
        go_wp2_with fail
        refine HM.out.mono ?_
        rintro e w1 ⟨rfl, rfl⟩
        go_wp2_with fail
        exact bodyPost_ret (v := memV (.bad i)) (by simp [results, Tryd.results99, go_sem, memV]) rfl ⟨rfl, rfl⟩
end

section
open Go.RowKit

theorem rset_eqIn (a b c d : Int) (w : World) : (Op.equalIn 10000 33 (.agg #[.int .u64 a, .int .u64 b, .int .u64 c, .int .u64 d]) (.agg #[.int .u64 0, .int .u64 0, .int .u64 0, .int .u64 0])).run Tryd.prog w = .ok (zQ a b c d) w := by
  have u3 := Tryd.underlying32
  have a3 := Tryd.isAgg32
  have z3 := Tryd.sizeOf32
  rw [show (10000 : Nat) = 9999 + 1 from rfl, Op.equalIn]
  simp only [Sem.run_bind, run_underlying Tryd.underlying33, Result.andThen_ok]
  simp only [Std.Legacy.Range.forIn_eq_forIn_range', Std.Legacy.Range.size, Nat.sub_zero, Nat.add_sub_cancel, Nat.div_one, List.range'_succ, List.range'_zero, List.forIn_cons, List.forIn_nil]
  unfold zQ
  go_simp
  by_cases h1 : a = 0 <;> by_cases h2 : b = 0 <;> by_cases h3 : c = 0 <;> by_cases h4 : d = 0 <;> simp [h1, h2, h3, h4]
@[go_sem] theorem rset_guard (x y : Operand) (xs ys : Array Value) (w : World) : (eqGuard .eql 33 x y (.agg xs) (.agg ys)).run Tryd.prog w = .ok () w := run_eqGuard_agg w _ _ x y xs ys (by kernel_rfl)
@[go_sem high] theorem rset_eql (a b c d : Int) (w : World) : (binOp .eql 33 (.agg #[.int .u64 a, .int .u64 b, .int .u64 c, .int .u64 d]) (.agg #[.int .u64 0, .int .u64 0, .int .u64 0, .int .u64 0])).run Tryd.prog w = .ok (.bool (zQ a b c d)) w := by
  rw [run_eql_struct, rset_eqIn]; rfl

theorem SR.all {w : World} {g : Nat} {s : S4} (h : SR w g s) (t : S4) : SR ((((w.setCell ⟨g, 0, none⟩ (.int .u64 t.a)).setCell ⟨g, 1, none⟩ (.int .u64 t.b)).setCell ⟨g, 2, none⟩ (.int .u64 t.c)).setCell ⟨g, 3, none⟩ (.int .u64 t.d)) g t := (((h.set0 t.a).set1 t.b).set2 t.c).set3 t.d
theorem far4 {w : World} {g k : Nat} (h : k ≠ g) (a b c d : Value) : ((((w.setCell ⟨g, 0, none⟩ a).setCell ⟨g, 1, none⟩ b).setCell ⟨g, 2, none⟩ c).setCell ⟨g, 3, none⟩ d).heap[k]? = w.heap[k]? := by
  rw [Below.heap_setCell _ _ _ _ h, Below.heap_setCell _ _ _ _ h, Below.heap_setCell _ _ _ _ h, Below.heap_setCell _ _ _ _ h]
theorem below4 {B n : Nat} {w w1 : World} (h : Below B w w1) (hn : B ≤ n) (a b c d : Value) : Below B w ((((w1.setCell ⟨n, 0, none⟩ a).setCell ⟨n, 1, none⟩ b).setCell ⟨n, 2, none⟩ c).setCell ⟨n, 3, none⟩ d) :=
  (((h.setCell (p := ⟨n, 0, none⟩) hn a).setCell (p := ⟨n, 1, none⟩) hn b).setCell (p := ⟨n, 2, none⟩) hn c).setCell (p := ⟨n, 3, none⟩) hn d
theorem size4 {n : Nat} {w : World} (a b c d : Value) : ((((w.setCell ⟨n, 0, none⟩ a).setCell ⟨n, 1, none⟩ b).setCell ⟨n, 2, none⟩ c).setCell ⟨n, 3, none⟩ d).heap.size = w.heap.size := by simp [World.setCell]

set_option maxRecDepth 100000 in
set_option maxHeartbeats 1600000 in
theorem rRest_any (s : S4) (hs : s.Ok) (w : World) :
    Calls Tryd.prog 90 #[s.val] w fun e w' => e = .returned (S4.alpha.without s).val ∧ Below w.heap.size w w' := by
  obtain ⟨w0, hw0⟩ : ∃ w0, w0 = ((w.alloc (.cells #[.int .u64 s.a, .int .u64 s.b, .int .u64 s.c, .int .u64 s.d] 33)).alloc (.cells #[.int .u64 0, .int .u64 0, .int .u64 0, .int .u64 0] 33)).alloc (.cells #[.int .u64 0, .int .u64 0, .int .u64 0, .int .u64 0] 33) := ⟨_, rfl⟩
  have hb0 : Below w.heap.size w w0 := by rw [hw0]; exact (below2 _ _ _).alloc (by simp; omega) _
  have hs0 : w0.heap.size = w.heap.size + 3 := by rw [hw0]; simp
  have HS0 : Hid (SR w0 w.heap.size s) := Lib.hid (by rw [hw0]; exact (SR.box w s).later (below2 _ _ _) (by simp))
  have HZ0 : Hid (SR w0 (w.heap.size + 1) .zero) := Lib.hid (by
    rw [hw0]
    have := (SR.new (w.alloc (.cells #[.int .u64 s.a, .int .u64 s.b, .int .u64 s.c, .int .u64 s.d] 33))).later (below1 _ (.cells #[.int .u64 0, .int .u64 0, .int .u64 0, .int .u64 0] 33)) (by simp)
    rwa [show (w.alloc (.cells #[.int .u64 s.a, .int .u64 s.b, .int .u64 s.c, .int .u64 s.d] 33)).heap.size = w.heap.size + 1 by simp] at this)
  have HO0 : Hid (SR w0 (w.heap.size + 2) .zero) := Lib.hid (by
    rw [hw0]
    have := SR.new ((w.alloc (.cells #[.int .u64 s.a, .int .u64 s.b, .int .u64 s.c, .int .u64 s.d] 33)).alloc (.cells #[.int .u64 0, .int .u64 0, .int .u64 0, .int .u64 0] 33))
    rwa [show ((w.alloc (.cells #[.int .u64 s.a, .int .u64 s.b, .int .u64 s.c, .int .u64 s.d] 33)).alloc (.cells #[.int .u64 0, .int .u64 0, .int .u64 0, .int .u64 0] 33)).heap.size = w.heap.size + 2 by simp] at this)
  have HB0 := Lib.hid hb0
  have HW0 := Lib.hid hw0
  clear hb0 hw0
  obtain ⟨R, hR⟩ : ∃ R, R = S4.alpha.without s := ⟨_, rfl⟩
  have HR : Hid (R = restL s 95 .zero 32) := Lib.hid (by rw [hR, ← rest_eq hs]; rfl)
  rw [← hR]
  clear hR
  unfold S4.val
  go_enter Tryd.func90, Tryd.ntmps90
  go_wp2_with fail
  rw [← HW0.out]
  go_loopw [4] (fun v wr => ∃ (b n : Nat) (o : S4), v = .int .i64 (b : Int) ∧ b + n = 127 ∧ Hid o.Ok ∧ Hid (R = restL s n o b) ∧ Hid (SR wr w.heap.size s) ∧ Hid (SR wr (w.heap.size + 1) .zero) ∧ Hid (SR wr (w.heap.size + 2) o) ∧ Hid (Below w.heap.size w wr) ∧ w.heap.size + 3 ≤ wr.heap.size) (fun v _ => 127 - (intOf v).toNat)
  case atStart => exact ⟨32, 95, .zero, rfl, rfl, Lib.hid S4.zero_ok, HR, HS0, HZ0, HO0, HB0, by omega⟩
  case round =>
    obtain ⟨b, n, o, rfl, hbn, HOk, HE, HS, HZ, HO, HB, hsz⟩ := hrel
    obtain ⟨c0, c1, c2, c3⟩ := HS.out.cells
    rcases n with _ | n
    · obtain rfl : b = 127 := by omega
      have hRe : R = o := by rw [HE.out, restL]
      subst hRe
      obtain ⟨o0, o1, o2, o3⟩ := HO.out.cells
      obtain ⟨z0, z1, z2, z3⟩ := HZ.out.cells
      have hf := HZ.out.free
      have f0 := hf 0
      have f1 := hf 1
      have f2 := hf 2
      have f3 := hf 3
      clear hf HE HR
      go_wp2_with fail
      refine bodyPost_ret (v := .agg #[.int .u64 R.a, .int .u64 R.b, .int .u64 R.c, .int .u64 R.d]) (by simp [results, Tryd.results90, go_sem, *]) rfl ⟨rfl, ?_⟩
      exact below4 HB.out (by omega) _ _ _ _
    · have hbI : (b : Int) ≤ 126 := by omega
      have hb8 : b < 256 := by omega
      have hwb : IntKind.i64.wrap ((b : Int) + 1) = ((b + 1 : Nat) : Int) := by rw [IntWalk.i64_in _ (by omega)]; omega
      have HH := Lib.hid (rHas_any s hs b hb8 wr)
      clear HS0 HZ0 HB0 HR HO0
      unfold S4.val at HH
      go_wp2_with fail
      refine HH.out.mono ?_
      rintro e w5 ⟨rfl, hb5⟩
      have HS5 : Hid (SR w5 w.heap.size s) := Lib.hid (HS.out.later hb5 HS.out.lt)
      have HZ5 : Hid (SR w5 (w.heap.size + 1) .zero) := Lib.hid (HZ.out.later hb5 HZ.out.lt)
      have HO5 : Hid (SR w5 (w.heap.size + 2) o) := Lib.hid (HO.out.later hb5 HO.out.lt)
      have HB5 := Lib.hid (HB.out.trans (hb5.mono (by omega)))
      have hs5 : w.heap.size + 3 ≤ w5.heap.size := Nat.le_trans hsz hb5.size
      clear hb5 HH c0 c1 c2 c3
      cases hhas : s.has b
      · have HE1 : Hid (R = restL s n (o.add b) (b + 1)) := Lib.hid (by rw [HE.out, restL, if_neg (by rw [hhas]; decide)])
        have hone : addsL (b + 1 - b) o b = o.add b := by rw [show b + 1 - b = 1 by omega]; rfl
        have HC := rWith_any o HOk.out b b (by omega) hb8 w5
        rw [hone] at HC
        have HC := Lib.hid HC
        have HA1 := Lib.hid (S4.add_ok HOk.out b)
        obtain ⟨o0, o1, o2, o3⟩ := HO5.out.cells
        clear hone
        generalize o.add b = o' at *
        unfold S4.val at HC
        go_wp2_with fail
        refine HC.out.mono ?_
        rintro e w6 ⟨rfl, hb6⟩
        have HS6 : Hid (SR w6 w.heap.size s) := Lib.hid (HS5.out.later hb6 HS5.out.lt)
        have HZ6 : Hid (SR w6 (w.heap.size + 1) .zero) := Lib.hid (HZ5.out.later hb6 HZ5.out.lt)
        have HO6 : Hid (SR w6 (w.heap.size + 2) o) := Lib.hid (HO5.out.later hb6 HO5.out.lt)
        have HB6 := Lib.hid (HB5.out.trans (hb6.mono (by omega)))
        have hs6 : w.heap.size + 3 ≤ w6.heap.size := Nat.le_trans hs5 hb6.size
        clear hb6 HC o0 o1 o2 o3
        obtain ⟨o0, o1, o2, o3⟩ := HO6.out.cells
        have hf := HO6.out.free
        have f0 := hf 0
        have f1 := hf 1
        have f2 := hf 2
        have f3 := hf 3
        clear hf
        go_wp2_with fail
        go_roundw
        case rel =>
          refine ⟨b + 1, n, o', by first | rfl | go_num, by omega, HA1, HE1, ?_, ?_, ?_, ?_, ?_⟩
          · exact Lib.hid ((far4 (by omega) _ _ _ _).trans HS6.out)
          · exact Lib.hid ((far4 (by omega) _ _ _ _).trans HZ6.out)
          · exact Lib.hid (HO6.out.all o')
          · exact Lib.hid (below4 HB6.out (by omega) _ _ _ _)
          · rw [size4]; exact hs6
        case measure => simp [intOf]; omega
      · have HE1 : Hid (R = restL s n o (b + 1)) := Lib.hid (by rw [HE.out, restL, if_pos hhas])
        go_wp2_with fail
        go_roundw
        case rel => exact ⟨b + 1, n, o, by first | rfl | go_num, by omega, HOk, HE1, HS5, HZ5, HO5, HB5, hs5⟩
        case measure => simp [intOf]; omega

set_option maxRecDepth 100000 in
theorem rClass_any (s : S4) (w : World) :
    Calls Tryd.prog 89 #[s.val] w fun e w' => e = .returned ((classT s).val (.slice none 0 0)) ∧ Below w.heap.size w w' := by
  have hzq := zQ_isZ s
  unfold S4.val at *
  unfold classT
  cases hz : s.isZ
  · rw [hz] at hzq
    go_enter Tryd.func89, Tryd.ntmps89
    go_wp2_with fail
    refine bodyPost_ret (v := .agg #[.int .i64 3, .int .u64 s.a, .int .u64 s.b, .int .u64 s.c, .int .u64 s.d, .slice none 0 0]) (by simp [results, Tryd.results89, go_sem, *]) rfl ⟨rfl, ?_⟩
    exact below2 _ _ _
  · rw [hz] at hzq
    go_enter Tryd.func89, Tryd.ntmps89
    go_wp2_with fail
    refine bodyPost_ret (v := .agg #[.int .i64 1, .int .u64 0, .int .u64 0, .int .u64 0, .int .u64 0, .slice none 0 0]) (by simp [results, Tryd.results89, go_sem, *]) rfl ⟨rfl, ?_⟩
    exact below2 _ _ _
end

end Go.Proofs.YtaipaddfehpmgaaDoor
