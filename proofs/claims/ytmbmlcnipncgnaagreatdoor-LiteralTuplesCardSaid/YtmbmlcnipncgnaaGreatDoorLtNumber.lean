/-
  number of the package. Nothing is assumed.
-/
import Derived.Test.YtmbmlcnipncgnaaGreatDoorLtHex
import Derived.Deep.LoopGhost
namespace Go.Proofs.YtmbmlcnipncgnaaGreatDoor
open Go.RowKit

/-- peek in every later count of draws. -/
def PeekAt (w : World) (b : Nat) (s : ByteArray) (i : Nat) : Prop := ∀ n, Calls Tryz.prog 51 #[.pointer (some ⟨b, 0, none⟩)] (w.drewN n) fun e w' => e = .returned (.int .u8 (pk s.data.toList i : Int)) ∧ ∃ m, w' = (w.drewN n).drewN m
theorem peekAt (w : World) (b : Nat) (s : ByteArray) (i : Nat) (h : RD w b s i) (hi : i ≤ s.size) : PeekAt w b s i := fun n => peek_any (w.drewN n) b s i h hi
theorem bad_fin {α : Type} (i : Nat) : (PR.bad i : PR α).fin = i := rfl
theorem ok_fin {α : Type} (v : α) (i : Nat) : (PR.ok v i).fin = i := rfl
theorem val_int {k : IntKind} {a b : Int} (h : a = b) : Value.int k a = Value.int k b := by rw [h]
theorem ret_pair {a b c d : Value} (h : a = c) (k : b = d) : Ending.returned (.tuple #[a, b]) = .returned (.tuple #[c, d]) := by rw [h, k]
theorem intL_neg (L : List UInt8) (i : Nat) (h : pk L i = 45) (h1 : isD (pk L (i + 1)) = true) (h2 : pk L (i + 1) ≠ 48) : intL L i = .ok (.mk 2 (-((natL L (i + 1)).1 : Int)) ⟨#[]⟩ []) (natL L (i + 1)).2 := by
  unfold intL
  rw [if_pos h, if_neg (by rw [h1]; simp; exact h2)]
theorem intL_negbad (L : List UInt8) (i : Nat) (h : pk L i = 45) (h1 : isD (pk L (i + 1)) = false ∨ pk L (i + 1) = 48) : intL L i = .bad (i + 1) := by
  unfold intL
  rw [if_pos h, if_pos h1]
theorem intL_pos (L : List UInt8) (i : Nat) (h1 : isD (pk L i) = true) : intL L i = .ok (.mk 2 ((natL L i).1 : Int) ⟨#[]⟩ []) (natL L i).2 := by
  unfold intL
  have := isD_lt h1
  rw [if_neg (by omega), if_neg (by rw [h1]; simp)]
theorem intL_bad (L : List UInt8) (i : Nat) (h : pk L i ≠ 45) (h1 : isD (pk L i) = false) : intL L i = .bad i := by
  unfold intL
  rw [if_neg h, if_pos h1]
theorem isDigit_yes (c : Nat) (h : isD c = true) (w : World) : Calls Tryz.prog 78 #[.int .u8 (c : Int)] w fun e w' => e = .returned (.bool true) ∧ w' = w := by
  have := isDigit_any c w
  rwa [h] at this
theorem isDigit_no (c : Nat) (h : isD c = false) (w : World) : Calls Tryz.prog 78 #[.int .u8 (c : Int)] w fun e w' => e = .returned (.bool false) ∧ w' = w := by
  have := isDigit_any c w
  rwa [h] at this
/-- The zero value in the box of a result. -/
def Zero4 (w : World) (n : Nat) : Prop := Box4 w n (.int .i64 0) (.int .i64 0) (.string ⟨#[]⟩) (.slice none 0 0)
theorem Zero4.kpd {N m b : Nat} {w w1 : World} {n : Nat} (h : Zero4 w n) (hk : Kp N (Is b) (w.drewN m) w1) (hn : n < N) (hX : ¬ Is b n) : Zero4 w1 n := Box4.of_block h (hk.block n hn hX)


theorem RD.far {w : World} {b n : Nat} {s : ByteArray} {i : Nat} {k : Nat} (h : RD w b s i) (hn : b ≠ n) (v : Value) : RD (w.setCell ⟨n, k, none⟩ v) b s i := (Below.heap_setCell w ⟨n, k, none⟩ v b hn).trans h
theorem Kp.own {N n k : Nat} {X : Nat → Prop} {a b : World} (h : Kp N X a b) (hn : N ≤ n) (v : Value) : Kp N X a (b.setCell ⟨n, k, none⟩ v) :=
  h.trans ⟨rfl, rfl, rfl, by simp [World.setCell], fun k' hk _ => Below.heap_setCell _ _ _ _ (by simp; omega)⟩

set_option maxRecDepth 100000 in
set_option maxHeartbeats 1600000 in
theorem number_any (w : World) (b : Nat) (s : ByteArray) (i : Nat) (h : RD w b s i) (hi : i ≤ s.size) (hs : s.size ≤ 1000000) :
    Calls Tryz.prog 56 #[.pointer (some ⟨b, 0, none⟩)] w (OutV (Is b) b s w (intL s.data.toList i)) := by
  have hblt : b < w.heap.size := h.lt
  have hR0 : RD (w.alloc (.cells #[.int .i64 0, .int .i64 0, .string ⟨#[]⟩, .slice none 0 0] 34)) b s i := h.alloc _
  have HP := Lib.hid (peekAt _ b s i hR0 hi)
  have hZ0 : Zero4 (w.alloc (.cells #[.int .i64 0, .int .i64 0, .string ⟨#[]⟩, .slice none 0 0] 34)) w.heap.size := Box4.new _ _ _ _ _ rfl
  have hK0 : Kp w.heap.size (Is b) w (w.alloc (.cells #[.int .i64 0, .int .i64 0, .string ⟨#[]⟩, .slice none 0 0] 34)) := (Kp.refl _ _ w).alloc (Nat.le_refl _) _
  have hw0 : w.heap.size < (w.alloc (.cells #[.int .i64 0, .int .i64 0, .string ⟨#[]⟩, .slice none 0 0] 34)).heap.size := by simp
  have HR := Lib.hid hR0
  have HZ := Lib.hid hZ0
  have HK := Lib.hid hK0
  clear h hR0 hZ0 hK0
  by_cases h45 : pk s.data.toList i = 45
  · have h45' : ((pk s.data.toList i : Int) == 45) = true := by rw [h45]; rfl
    have hil := pos_of_pk h45 (by decide)
    rw [lt_len] at hil
    have HV0 := Lib.hid (intL_neg s.data.toList i h45)
    have HV1 := Lib.hid (intL_negbad s.data.toList i h45)
    have h1 := HR.out.at
    have h2 := HR.out.free 1
    clear h45
    by_cases hd : isD (pk s.data.toList (i + 1)) = true
    · obtain ⟨hd1, hd2⟩ := isD_lt hd
      have hil1 := pk_isD hd
      rw [lt_len] at hil1
      have HY := Lib.hid (isDigit_yes _ hd)
      by_cases hz : pk s.data.toList (i + 1) = 48
      · have HV := Lib.hid (HV1.out (.inr hz))
        have h48 : ((pk s.data.toList (i + 1) : Int) == 48) = true := by rw [hz]; rfl
        clear hd hz HV0 HV1
        go_enter Tryz.func56, Tryz.ntmps56
        go_wp2_with fail
        refine (HP.out 0).mono ?_
        rintro e w3 ⟨rfl, m1, rfl⟩
        have hR1 : RD (((w.alloc (.cells #[.int .i64 0, .int .i64 0, .string ⟨#[]⟩, .slice none 0 0] 34)).drewN m1).setCell ⟨b, 1, none⟩ (.int .i64 ((i : Int) + 1))) b s (i + 1) := by
          have := RD.move (w := (w.alloc (.cells #[.int .i64 0, .int .i64 0, .string ⟨#[]⟩, .slice none 0 0] 34)).drewN m1) HR.out (i + 1)
          simpa using this
        have HP1 := Lib.hid (peekAt _ b s (i + 1) hR1 hil)
        have HR1 := Lib.hid hR1
        have HK1 : Hid (Kp w.heap.size (Is b) w (((w.alloc (.cells #[.int .i64 0, .int .i64 0, .string ⟨#[]⟩, .slice none 0 0] 34)).drewN m1).setCell ⟨b, 1, none⟩ (.int .i64 ((i : Int) + 1)))) := Lib.hid ((HK.out.drewN m1).set ⟨b, 1, none⟩ (Is.self b) _)
        have HZ1 : Hid (Zero4 (((w.alloc (.cells #[.int .i64 0, .int .i64 0, .string ⟨#[]⟩, .slice none 0 0] 34)).drewN m1).setCell ⟨b, 1, none⟩ (.int .i64 ((i : Int) + 1))) w.heap.size) := Lib.hid (Box4.of_block HZ.out (Below.heap_setCell _ _ _ _ (by simp; omega)))
        have hw1 : w.heap.size < (((w.alloc (.cells #[.int .i64 0, .int .i64 0, .string ⟨#[]⟩, .slice none 0 0] 34)).drewN m1).setCell ⟨b, 1, none⟩ (.int .i64 ((i : Int) + 1))).heap.size := by simp [World.setCell]
        clear hR1 HP HR HK HZ hw0
        go_wp2_with fail
        refine (HP1.out 0).mono ?_
        rintro e w3 ⟨rfl, m2, rfl⟩
        go_wp2_with fail
        refine (HY.out _).mono ?_
        rintro e w' ⟨rfl, hw'⟩; obtain rfl := hw'.symm
        go_wp2_with fail
        refine (HP1.out _).mono ?_
        rintro e w3 ⟨rfl, m3, rfl⟩
        go_wp2_with fail
        refine bodyPost_ret (v := .tuple #[.agg #[.int .i64 0, .int .i64 0, .string ⟨#[]⟩, .slice none 0 0], .bool false]) (by simp [results, Tryz.results56, go_sem, *]) rfl ?_
        rw [HV.out]
        refine ⟨.none _ _ _ _ _ _, ?_, ?_⟩
        · exact RD.far (RD.far (RD.far (RD.far (show RD _ b s _ from HR1.out) (by omega) _) (by omega) _) (by omega) _) (by omega) _
        · exact Kp.own (Kp.own (Kp.own (Kp.own (HK1.out.drewN _) (Nat.le_refl _) _) (Nat.le_refl _) _) (Nat.le_refl _) _) (Nat.le_refl _) _
      · have HV := Lib.hid (HV0.out hd hz)
        have h48 : ((pk s.data.toList (i + 1) : Int) == 48) = false := by rw [beq_eq_false_iff_ne]; omega
        have HDN := Lib.hid hd
        clear hd hz HV0 HV1
        go_enter Tryz.func56, Tryz.ntmps56
        go_wp2_with fail
        refine (HP.out 0).mono ?_
        rintro e w3 ⟨rfl, m1, rfl⟩
        have hR1 : RD (((w.alloc (.cells #[.int .i64 0, .int .i64 0, .string ⟨#[]⟩, .slice none 0 0] 34)).drewN m1).setCell ⟨b, 1, none⟩ (.int .i64 ((i : Int) + 1))) b s (i + 1) := by
          have := RD.move (w := (w.alloc (.cells #[.int .i64 0, .int .i64 0, .string ⟨#[]⟩, .slice none 0 0] 34)).drewN m1) HR.out (i + 1)
          simpa using this
        have HP1 := Lib.hid (peekAt _ b s (i + 1) hR1 hil)
        have HR1 := Lib.hid hR1
        have HK1 : Hid (Kp w.heap.size (Is b) w (((w.alloc (.cells #[.int .i64 0, .int .i64 0, .string ⟨#[]⟩, .slice none 0 0] 34)).drewN m1).setCell ⟨b, 1, none⟩ (.int .i64 ((i : Int) + 1)))) := Lib.hid ((HK.out.drewN m1).set ⟨b, 1, none⟩ (Is.self b) _)
        have HZ1 : Hid (Zero4 (((w.alloc (.cells #[.int .i64 0, .int .i64 0, .string ⟨#[]⟩, .slice none 0 0] 34)).drewN m1).setCell ⟨b, 1, none⟩ (.int .i64 ((i : Int) + 1))) w.heap.size) := Lib.hid (Box4.of_block HZ.out (Below.heap_setCell _ _ _ _ (by simp; omega)))
        have hw1 : w.heap.size < (((w.alloc (.cells #[.int .i64 0, .int .i64 0, .string ⟨#[]⟩, .slice none 0 0] 34)).drewN m1).setCell ⟨b, 1, none⟩ (.int .i64 ((i : Int) + 1))).heap.size := by simp [World.setCell]
        clear hR1 HP HR HK HZ hw0
        have HD : Hid (∀ m, Calls Tryz.prog 79 #[.pointer (some ⟨b, 0, none⟩)] ((((w.alloc (.cells #[.int .i64 0, .int .i64 0, .string ⟨#[]⟩, .slice none 0 0] 34)).drewN m1).setCell ⟨b, 1, none⟩ (.int .i64 ((i : Int) + 1))).drewN m) fun e w' => e = .returned (.int .i64 ((pk s.data.toList (i + 1) : Int) - 48)) ∧ RD w' b s (i + 1 + 1) ∧ Kp (((w.alloc (.cells #[.int .i64 0, .int .i64 0, .string ⟨#[]⟩, .slice none 0 0] 34)).drewN m1).setCell ⟨b, 1, none⟩ (.int .i64 ((i : Int) + 1))).heap.size (Is b) ((((w.alloc (.cells #[.int .i64 0, .int .i64 0, .string ⟨#[]⟩, .slice none 0 0] 34)).drewN m1).setCell ⟨b, 1, none⟩ (.int .i64 ((i : Int) + 1))).drewN m) w') := Lib.hid (fun m => digit_any ((((w.alloc (.cells #[.int .i64 0, .int .i64 0, .string ⟨#[]⟩, .slice none 0 0] 34)).drewN m1).setCell ⟨b, 1, none⟩ (.int .i64 ((i : Int) + 1))).drewN m) b s (i + 1) HR1.out hil1 hs HDN.out)
        go_wp2_with fail
        refine (HP1.out 0).mono ?_
        rintro e w3 ⟨rfl, m2, rfl⟩
        go_wp2_with fail
        refine (HY.out _).mono ?_
        rintro e w' ⟨rfl, hw'⟩; obtain rfl := hw'.symm
        go_wp2_with fail
        refine (HP1.out _).mono ?_
        rintro e w3 ⟨rfl, m3, rfl⟩
        go_wp2_with fail
        refine (HD.out _).mono ?_
        rintro e w2 ⟨rfl, hR2, hk2⟩
        have HR2 := Lib.hid hR2
        have HK2 : Hid (Kp w.heap.size (Is b) w w2) := Lib.hid ((HK1.out.drewN _).trans (hk2.less (by simp [World.setCell])))
        have HZ2 : Hid (Zero4 w2 w.heap.size) := Lib.hid (Zero4.kpd HZ1.out hk2 hw1 (by unfold Is; omega))
        have hw2 : w.heap.size < w2.heap.size := Nat.lt_of_lt_of_le hw1 hk2.size
        clear hR2 hk2 HP1 HY HD HR1 HK1 HZ1 hw1
        go_wp2_with fail
        go_loopg [5] (s.size - ((i + 1) + 1)) (fun g v wr => ∃ (k n : Nat), k + g = s.size ∧ v = .int .i64 (n : Int) ∧ n ≤ 1000000 ∧ Hid (RD wr b s k) ∧ Hid (Kp w.heap.size (Is b) w wr) ∧ Hid (Zero4 wr w.heap.size) ∧ w.heap.size < wr.heap.size ∧ Hid (numL (s.data.toList.drop k) n k = natL s.data.toList (i + 1)))
        case atStart => exact ⟨(i + 1) + 1, pk s.data.toList (i + 1) - 48, by omega, val_int (by omega), by omega, HR2, HK2, HZ2, hw2, Lib.hid rfl⟩
        case round =>
          obtain ⟨k, n, hkg, rfl, hn, HR, HK, HZ, hwr, HN⟩ := hrel
          have hk : k ≤ s.size := by omega
          have hni : (n : Int) ≤ 1000000 := by omega
          have hni0 : (0 : Int) ≤ (n : Int) := by omega
          have HG := Lib.hid hkg
          clear hkg
          have HP := Lib.hid (peekAt wr b s k HR.out hk)
          by_cases hn0 : 0 < n
          · have hn0' : (0 : Int) < (n : Int) := by omega
            by_cases hd : isD (pk s.data.toList k) = true
            · obtain ⟨hd1, hd2⟩ := isD_lt hd
              have hkl := pk_isD hd
              rw [lt_len] at hkl
              have hd1' : (48 : Int) ≤ (pk s.data.toList k : Int) := by omega
              have hd2' : (pk s.data.toList k : Int) ≤ 57 := by omega
              have HY := Lib.hid (isDigit_yes _ hd)
              by_cases hle : 10 * n + (pk s.data.toList k - 48) ≤ 1000000
              · have hle' : 10 * (n : Int) + ((pk s.data.toList k : Int) - 48) ≤ 1000000 := by omega
                have HN2 : Hid (numL (s.data.toList.drop (k + 1)) (10 * n + (pk s.data.toList k - 48)) (k + 1) = natL s.data.toList (i + 1)) := Lib.hid (by rw [← HN.out, numL_go _ _ _ ⟨hn0, hd, hle⟩])
                have HD : Hid (∀ m, Calls Tryz.prog 79 #[.pointer (some ⟨b, 0, none⟩)] (wr.drewN m) fun e w' => e = .returned (.int .i64 ((pk s.data.toList k : Int) - 48)) ∧ RD w' b s (k + 1) ∧ Kp wr.heap.size (Is b) (wr.drewN m) w') := Lib.hid (fun m => digit_any (wr.drewN m) b s k HR.out hkl hs hd)
                have HEQ : Hid (((10 * n + (pk s.data.toList k - 48) : Nat) : Int) = 10 * (n : Int) + ((pk s.data.toList k : Int) - 48)) := Lib.hid (by omega)
                clear HN hd hle hn0
                go_wp2_with fail
                refine (HP.out 0).mono ?_
                rintro e w3 ⟨rfl, m1, rfl⟩
                go_wp2_with fail
                refine (HY.out _).mono ?_
                rintro e w' ⟨rfl, hw'⟩; obtain rfl := hw'.symm
                go_wp2_with fail
                refine (HP.out _).mono ?_
                rintro e w3 ⟨rfl, m2, rfl⟩
                go_wp2_with fail
                refine (HD.out _).mono ?_
                rintro e w3 ⟨rfl, hR3, hK3⟩
                have HR3 := Lib.hid hR3
                have HK3 : Hid (Kp w.heap.size (Is b) w w3) := Lib.hid ((HK.out.drewN _).trans (hK3.less (by omega)))
                have HZ3 : Hid (Zero4 w3 w.heap.size) := Lib.hid (Zero4.kpd HZ.out hK3 hwr (by unfold Is; omega))
                have hw3 : w.heap.size < w3.heap.size := Nat.lt_of_lt_of_le hwr hK3.size
                clear hR3 hK3 HP HY HD HR HK HZ
                go_wp2_with fail
                go_roundg (s.size - (k + 1))
                case measure => have := HG.out; omega
                case rel => exact ⟨k + 1, _, by omega, val_int HEQ.out.symm, by have := HEQ.out; omega, HR3, HK3, HZ3, hw3, HN2⟩
              · have hle' : ¬ 10 * (n : Int) + ((pk s.data.toList k : Int) - 48) ≤ 1000000 := by omega
                have HN2 : Hid ((n, k) = natL s.data.toList (i + 1)) := Lib.hid (by rw [← HN.out, numL_stop _ _ _ (fun h => hle h.2.2)])
                clear HN hd hle hn0
                go_wp2_with fail
                refine (HP.out 0).mono ?_
                rintro e w3 ⟨rfl, m1, rfl⟩
                go_wp2_with fail
                refine (HY.out _).mono ?_
                rintro e w' ⟨rfl, hw'⟩; obtain rfl := hw'.symm
                go_wp2_with fail
                refine (HP.out _).mono ?_
                rintro e w3 ⟨rfl, m2, rfl⟩
                go_wp2_with fail
                have HF : Hid (intL s.data.toList i = .ok (.mk 2 (-(n : Int)) ⟨#[]⟩ []) k) := Lib.hid (by rw [HV.out, ← HN2.out])
                refine (ofInt_any _ _).mono ?_
                rintro e w3 ⟨rfl, hb3⟩
                have HR3 : Hid (RD w3 b s k) := Lib.hid ((hb3.block b HR.out.lt).trans HR.out)
                have HZ3 : Hid (Zero4 w3 w.heap.size) := Lib.hid (Box4.of_block (w := wr) HZ.out (hb3.block _ hwr))
                obtain ⟨c0, c1, c2, c3, cz⟩ := HZ3.out
                have f0 := cz 0
                have f1 := cz 1
                have f2 := cz 2
                have f3 := cz 3
                have HK3 : Hid (Kp w.heap.size (Is b) w w3) := Lib.hid ((HK.out.drewN _).trans (.of hb3 (Nat.le_of_lt hwr)))
                clear hb3 cz
                go_wp2_with fail
                refine bodyPost_ret (v := .tuple #[.agg #[.int .i64 2, .int .i64 (-(n : Int)), .string ⟨#[]⟩, .slice none 0 0], .bool true]) (by simp [results, Tryz.results56, go_sem, *]) rfl ?_
                rw [HF.out]
                refine ⟨.plain _ _ _ _ _ _, ?_, ?_⟩
                · exact (((HR3.out.far (by omega) _).far (by omega) _).far (by omega) _).far (by omega) _
                · exact (((HK3.out.own (by omega) _).own (by omega) _).own (by omega) _).own (by omega) _
            · have hd' : isD (pk s.data.toList k) = false := by simpa using hd
              have HY := Lib.hid (isDigit_no _ hd')
              have HN2 : Hid ((n, k) = natL s.data.toList (i + 1)) := Lib.hid (by rw [← HN.out, numL_stop _ _ _ (fun h => hd h.2.1)])
              clear HN hd hd' hn0
              go_wp2_with fail
              refine (HP.out 0).mono ?_
              rintro e w3 ⟨rfl, m1, rfl⟩
              go_wp2_with fail
              refine (HY.out _).mono ?_
              rintro e w' ⟨rfl, hw'⟩; obtain rfl := hw'.symm
              go_wp2_with fail
              have HF : Hid (intL s.data.toList i = .ok (.mk 2 (-(n : Int)) ⟨#[]⟩ []) k) := Lib.hid (by rw [HV.out, ← HN2.out])
              refine (ofInt_any _ _).mono ?_
              rintro e w3 ⟨rfl, hb3⟩
              have HR3 : Hid (RD w3 b s k) := Lib.hid ((hb3.block b HR.out.lt).trans HR.out)
              have HZ3 : Hid (Zero4 w3 w.heap.size) := Lib.hid (Box4.of_block (w := wr) HZ.out (hb3.block _ hwr))
              obtain ⟨c0, c1, c2, c3, cz⟩ := HZ3.out
              have f0 := cz 0
              have f1 := cz 1
              have f2 := cz 2
              have f3 := cz 3
              have HK3 : Hid (Kp w.heap.size (Is b) w w3) := Lib.hid ((HK.out.drewN _).trans (.of hb3 (Nat.le_of_lt hwr)))
              clear hb3 cz
              go_wp2_with fail
              refine bodyPost_ret (v := .tuple #[.agg #[.int .i64 2, .int .i64 (-(n : Int)), .string ⟨#[]⟩, .slice none 0 0], .bool true]) (by simp [results, Tryz.results56, go_sem, *]) rfl ?_
              rw [HF.out]
              refine ⟨.plain _ _ _ _ _ _, ?_, ?_⟩
              · exact (((HR3.out.far (by omega) _).far (by omega) _).far (by omega) _).far (by omega) _
              · exact (((HK3.out.own (by omega) _).own (by omega) _).own (by omega) _).own (by omega) _
          · obtain rfl : n = 0 := by omega
            have HN2 : Hid ((0, k) = natL s.data.toList (i + 1)) := Lib.hid (by rw [← HN.out, numL_stop _ _ _ (fun h => hn0 h.1)])
            clear HN hn0 HP hni hni0
            go_wp2_with fail
            have HF : Hid (intL s.data.toList i = .ok (.mk 2 0 ⟨#[]⟩ []) k) := Lib.hid (by rw [HV.out, ← HN2.out]; rfl)
            refine (ofInt_any _ _).mono ?_
            rintro e w3 ⟨rfl, hb3⟩
            have HR3 : Hid (RD w3 b s k) := Lib.hid ((hb3.block b HR.out.lt).trans HR.out)
            have HZ3 : Hid (Zero4 w3 w.heap.size) := Lib.hid (Box4.of_block (w := wr) HZ.out (hb3.block _ hwr))
            obtain ⟨c0, c1, c2, c3, cz⟩ := HZ3.out
            have f0 := cz 0
            have f1 := cz 1
            have f2 := cz 2
            have f3 := cz 3
            have HK3 : Hid (Kp w.heap.size (Is b) w w3) := Lib.hid (HK.out.trans (.of hb3 (Nat.le_of_lt hwr)))
            clear hb3 cz
            go_wp2_with fail
            refine bodyPost_ret (v := .tuple #[.agg #[.int .i64 2, .int .i64 0, .string ⟨#[]⟩, .slice none 0 0], .bool true]) (by simp [results, Tryz.results56, go_sem, *]) rfl ?_
            rw [HF.out]
            refine ⟨.plain _ _ _ _ _ _, ?_, ?_⟩
            · exact (((HR3.out.far (by omega) _).far (by omega) _).far (by omega) _).far (by omega) _
            · exact (((HK3.out.own (by omega) _).own (by omega) _).own (by omega) _).own (by omega) _
    · have hd' : isD (pk s.data.toList (i + 1)) = false := by simpa using hd
      have HV := Lib.hid (HV1.out (.inl hd'))
      have HY := Lib.hid (isDigit_no _ hd')
      clear hd hd' HV0 HV1
      go_enter Tryz.func56, Tryz.ntmps56
      go_wp2_with fail
      refine (HP.out 0).mono ?_
      rintro e w3 ⟨rfl, m1, rfl⟩
      have hR1 : RD (((w.alloc (.cells #[.int .i64 0, .int .i64 0, .string ⟨#[]⟩, .slice none 0 0] 34)).drewN m1).setCell ⟨b, 1, none⟩ (.int .i64 ((i : Int) + 1))) b s (i + 1) := by
        have := RD.move (w := (w.alloc (.cells #[.int .i64 0, .int .i64 0, .string ⟨#[]⟩, .slice none 0 0] 34)).drewN m1) HR.out (i + 1)
        simpa using this
      have HP1 := Lib.hid (peekAt _ b s (i + 1) hR1 hil)
      have HR1 := Lib.hid hR1
      have HK1 : Hid (Kp w.heap.size (Is b) w (((w.alloc (.cells #[.int .i64 0, .int .i64 0, .string ⟨#[]⟩, .slice none 0 0] 34)).drewN m1).setCell ⟨b, 1, none⟩ (.int .i64 ((i : Int) + 1)))) := Lib.hid ((HK.out.drewN m1).set ⟨b, 1, none⟩ (Is.self b) _)
      have HZ1 : Hid (Zero4 (((w.alloc (.cells #[.int .i64 0, .int .i64 0, .string ⟨#[]⟩, .slice none 0 0] 34)).drewN m1).setCell ⟨b, 1, none⟩ (.int .i64 ((i : Int) + 1))) w.heap.size) := Lib.hid (Box4.of_block HZ.out (Below.heap_setCell _ _ _ _ (by simp; omega)))
      have hw1 : w.heap.size < (((w.alloc (.cells #[.int .i64 0, .int .i64 0, .string ⟨#[]⟩, .slice none 0 0] 34)).drewN m1).setCell ⟨b, 1, none⟩ (.int .i64 ((i : Int) + 1))).heap.size := by simp [World.setCell]
      clear hR1 HP HR HK HZ hw0
      go_wp2_with fail
      refine (HP1.out 0).mono ?_
      rintro e w3 ⟨rfl, m2, rfl⟩
      go_wp2_with fail
      refine (HY.out _).mono ?_
      rintro e w' ⟨rfl, hw'⟩; obtain rfl := hw'.symm
      go_wp2_with fail
      refine bodyPost_ret (v := .tuple #[.agg #[.int .i64 0, .int .i64 0, .string ⟨#[]⟩, .slice none 0 0], .bool false]) (by simp [results, Tryz.results56, go_sem, *]) rfl ?_
      rw [HV.out]
      refine ⟨.none _ _ _ _ _ _, ?_, ?_⟩
      · exact RD.far (RD.far (RD.far (RD.far (show RD _ b s _ from HR1.out) (by omega) _) (by omega) _) (by omega) _) (by omega) _
      · exact Kp.own (Kp.own (Kp.own (Kp.own (HK1.out.drewN _) (Nat.le_refl _) _) (Nat.le_refl _) _) (Nat.le_refl _) _) (Nat.le_refl _) _
  · have h45' : ((pk s.data.toList i : Int) == 45) = false := by rw [beq_eq_false_iff_ne]; omega
    by_cases hd : isD (pk s.data.toList i) = true
    · obtain ⟨hd1, hd2⟩ := isD_lt hd
      have hil := pk_isD hd
      rw [lt_len] at hil
      have HY := Lib.hid (isDigit_yes _ hd)
      have HV := Lib.hid (intL_pos s.data.toList i hd)
      have HD : Hid (∀ m, Calls Tryz.prog 79 #[.pointer (some ⟨b, 0, none⟩)] ((w.alloc (.cells #[.int .i64 0, .int .i64 0, .string ⟨#[]⟩, .slice none 0 0] 34)).drewN m) fun e w' => e = .returned (.int .i64 ((pk s.data.toList i : Int) - 48)) ∧ RD w' b s (i + 1) ∧ Kp (w.alloc (.cells #[.int .i64 0, .int .i64 0, .string ⟨#[]⟩, .slice none 0 0] 34)).heap.size (Is b) ((w.alloc (.cells #[.int .i64 0, .int .i64 0, .string ⟨#[]⟩, .slice none 0 0] 34)).drewN m) w') := Lib.hid (fun m => digit_any ((w.alloc (.cells #[.int .i64 0, .int .i64 0, .string ⟨#[]⟩, .slice none 0 0] 34)).drewN m) b s i HR.out hil hs hd)
      clear h45 hd
      cases h48 : ((pk s.data.toList i : Int) == 48)
      · go_enter Tryz.func56, Tryz.ntmps56
        go_wp2_with fail
        refine (HP.out 0).mono ?_
        rintro e w3 ⟨rfl, m1, rfl⟩
        go_wp2_with fail
        refine (HP.out _).mono ?_
        rintro e w3 ⟨rfl, m2, rfl⟩
        go_wp2_with fail
        refine (HY.out _).mono ?_
        rintro e w' ⟨rfl, hw'⟩; obtain rfl := hw'.symm
        go_wp2_with fail
        refine (HP.out _).mono ?_
        rintro e w3 ⟨rfl, m3, rfl⟩
        go_wp2_with fail
        refine (HD.out _).mono ?_
        rintro e w2 ⟨rfl, hR2, hk2⟩
        have HR2 := Lib.hid hR2
        have HK2 : Hid (Kp w.heap.size (Is b) w w2) := Lib.hid ((HK.out.drewN _).trans (hk2.less (by simp)))
        have HZ2 : Hid (Zero4 w2 w.heap.size) := Lib.hid (Zero4.kpd HZ.out hk2 hw0 (by unfold Is; omega))
        have hw2 : w.heap.size < w2.heap.size := Nat.lt_of_lt_of_le hw0 hk2.size
        clear hR2 hk2 HP HY HD HR HK HZ hw0
        go_wp2_with fail
        go_loopg [5] (s.size - (i + 1)) (fun g v wr => ∃ (k n : Nat), k + g = s.size ∧ v = .int .i64 (n : Int) ∧ n ≤ 1000000 ∧ Hid (RD wr b s k) ∧ Hid (Kp w.heap.size (Is b) w wr) ∧ Hid (Zero4 wr w.heap.size) ∧ w.heap.size < wr.heap.size ∧ Hid (numL (s.data.toList.drop k) n k = natL s.data.toList i))
        case atStart => exact ⟨i + 1, pk s.data.toList i - 48, by omega, val_int (by omega), by omega, HR2, HK2, HZ2, hw2, Lib.hid rfl⟩
        case round =>
          obtain ⟨k, n, hkg, rfl, hn, HR, HK, HZ, hwr, HN⟩ := hrel
          have hk : k ≤ s.size := by omega
          have hni : (n : Int) ≤ 1000000 := by omega
          have hni0 : (0 : Int) ≤ (n : Int) := by omega
          have HG := Lib.hid hkg
          clear hkg
          have HP := Lib.hid (peekAt wr b s k HR.out hk)
          by_cases hn0 : 0 < n
          · have hn0' : (0 : Int) < (n : Int) := by omega
            by_cases hd : isD (pk s.data.toList k) = true
            · obtain ⟨hd1, hd2⟩ := isD_lt hd
              have hkl := pk_isD hd
              rw [lt_len] at hkl
              have hd1' : (48 : Int) ≤ (pk s.data.toList k : Int) := by omega
              have hd2' : (pk s.data.toList k : Int) ≤ 57 := by omega
              have HY := Lib.hid (isDigit_yes _ hd)
              by_cases hle : 10 * n + (pk s.data.toList k - 48) ≤ 1000000
              · have hle' : 10 * (n : Int) + ((pk s.data.toList k : Int) - 48) ≤ 1000000 := by omega
                have HN2 : Hid (numL (s.data.toList.drop (k + 1)) (10 * n + (pk s.data.toList k - 48)) (k + 1) = natL s.data.toList i) := Lib.hid (by rw [← HN.out, numL_go _ _ _ ⟨hn0, hd, hle⟩])
                have HD : Hid (∀ m, Calls Tryz.prog 79 #[.pointer (some ⟨b, 0, none⟩)] (wr.drewN m) fun e w' => e = .returned (.int .i64 ((pk s.data.toList k : Int) - 48)) ∧ RD w' b s (k + 1) ∧ Kp wr.heap.size (Is b) (wr.drewN m) w') := Lib.hid (fun m => digit_any (wr.drewN m) b s k HR.out hkl hs hd)
                have HEQ : Hid (((10 * n + (pk s.data.toList k - 48) : Nat) : Int) = 10 * (n : Int) + ((pk s.data.toList k : Int) - 48)) := Lib.hid (by omega)
                clear HN hd hle hn0
                go_wp2_with fail
                refine (HP.out 0).mono ?_
                rintro e w3 ⟨rfl, m1, rfl⟩
                go_wp2_with fail
                refine (HY.out _).mono ?_
                rintro e w' ⟨rfl, hw'⟩; obtain rfl := hw'.symm
                go_wp2_with fail
                refine (HP.out _).mono ?_
                rintro e w3 ⟨rfl, m2, rfl⟩
                go_wp2_with fail
                refine (HD.out _).mono ?_
                rintro e w3 ⟨rfl, hR3, hK3⟩
                have HR3 := Lib.hid hR3
                have HK3 : Hid (Kp w.heap.size (Is b) w w3) := Lib.hid ((HK.out.drewN _).trans (hK3.less (by omega)))
                have HZ3 : Hid (Zero4 w3 w.heap.size) := Lib.hid (Zero4.kpd HZ.out hK3 hwr (by unfold Is; omega))
                have hw3 : w.heap.size < w3.heap.size := Nat.lt_of_lt_of_le hwr hK3.size
                clear hR3 hK3 HP HY HD HR HK HZ
                go_wp2_with fail
                go_roundg (s.size - (k + 1))
                case measure => have := HG.out; omega
                case rel => exact ⟨k + 1, _, by omega, val_int HEQ.out.symm, by have := HEQ.out; omega, HR3, HK3, HZ3, hw3, HN2⟩
              · have hle' : ¬ 10 * (n : Int) + ((pk s.data.toList k : Int) - 48) ≤ 1000000 := by omega
                have HN2 : Hid ((n, k) = natL s.data.toList i) := Lib.hid (by rw [← HN.out, numL_stop _ _ _ (fun h => hle h.2.2)])
                clear HN hd hle hn0
                go_wp2_with fail
                refine (HP.out 0).mono ?_
                rintro e w3 ⟨rfl, m1, rfl⟩
                go_wp2_with fail
                refine (HY.out _).mono ?_
                rintro e w' ⟨rfl, hw'⟩; obtain rfl := hw'.symm
                go_wp2_with fail
                refine (HP.out _).mono ?_
                rintro e w3 ⟨rfl, m2, rfl⟩
                go_wp2_with fail
                have HF : Hid (intL s.data.toList i = .ok (.mk 2 (n : Int) ⟨#[]⟩ []) k) := Lib.hid (by rw [HV.out, ← HN2.out])
                refine (ofInt_any _ _).mono ?_
                rintro e w3 ⟨rfl, hb3⟩
                have HR3 : Hid (RD w3 b s k) := Lib.hid ((hb3.block b HR.out.lt).trans HR.out)
                have HZ3 : Hid (Zero4 w3 w.heap.size) := Lib.hid (Box4.of_block (w := wr) HZ.out (hb3.block _ hwr))
                obtain ⟨c0, c1, c2, c3, cz⟩ := HZ3.out
                have f0 := cz 0
                have f1 := cz 1
                have f2 := cz 2
                have f3 := cz 3
                have HK3 : Hid (Kp w.heap.size (Is b) w w3) := Lib.hid ((HK.out.drewN _).trans (.of hb3 (Nat.le_of_lt hwr)))
                clear hb3 cz
                go_wp2_with fail
                refine bodyPost_ret (v := .tuple #[.agg #[.int .i64 2, .int .i64 (n : Int), .string ⟨#[]⟩, .slice none 0 0], .bool true]) (by simp [results, Tryz.results56, go_sem, *]) rfl ?_
                rw [HF.out]
                refine ⟨.plain _ _ _ _ _ _, ?_, ?_⟩
                · exact (((HR3.out.far (by omega) _).far (by omega) _).far (by omega) _).far (by omega) _
                · exact (((HK3.out.own (by omega) _).own (by omega) _).own (by omega) _).own (by omega) _
            · have hd' : isD (pk s.data.toList k) = false := by simpa using hd
              have HY := Lib.hid (isDigit_no _ hd')
              have HN2 : Hid ((n, k) = natL s.data.toList i) := Lib.hid (by rw [← HN.out, numL_stop _ _ _ (fun h => hd h.2.1)])
              clear HN hd hd' hn0
              go_wp2_with fail
              refine (HP.out 0).mono ?_
              rintro e w3 ⟨rfl, m1, rfl⟩
              go_wp2_with fail
              refine (HY.out _).mono ?_
              rintro e w' ⟨rfl, hw'⟩; obtain rfl := hw'.symm
              go_wp2_with fail
              have HF : Hid (intL s.data.toList i = .ok (.mk 2 (n : Int) ⟨#[]⟩ []) k) := Lib.hid (by rw [HV.out, ← HN2.out])
              refine (ofInt_any _ _).mono ?_
              rintro e w3 ⟨rfl, hb3⟩
              have HR3 : Hid (RD w3 b s k) := Lib.hid ((hb3.block b HR.out.lt).trans HR.out)
              have HZ3 : Hid (Zero4 w3 w.heap.size) := Lib.hid (Box4.of_block (w := wr) HZ.out (hb3.block _ hwr))
              obtain ⟨c0, c1, c2, c3, cz⟩ := HZ3.out
              have f0 := cz 0
              have f1 := cz 1
              have f2 := cz 2
              have f3 := cz 3
              have HK3 : Hid (Kp w.heap.size (Is b) w w3) := Lib.hid ((HK.out.drewN _).trans (.of hb3 (Nat.le_of_lt hwr)))
              clear hb3 cz
              go_wp2_with fail
              refine bodyPost_ret (v := .tuple #[.agg #[.int .i64 2, .int .i64 (n : Int), .string ⟨#[]⟩, .slice none 0 0], .bool true]) (by simp [results, Tryz.results56, go_sem, *]) rfl ?_
              rw [HF.out]
              refine ⟨.plain _ _ _ _ _ _, ?_, ?_⟩
              · exact (((HR3.out.far (by omega) _).far (by omega) _).far (by omega) _).far (by omega) _
              · exact (((HK3.out.own (by omega) _).own (by omega) _).own (by omega) _).own (by omega) _
          · obtain rfl : n = 0 := by omega
            have HN2 : Hid ((0, k) = natL s.data.toList i) := Lib.hid (by rw [← HN.out, numL_stop _ _ _ (fun h => hn0 h.1)])
            clear HN hn0 HP hni hni0
            go_wp2_with fail
            have HF : Hid (intL s.data.toList i = .ok (.mk 2 (0 : Int) ⟨#[]⟩ []) k) := Lib.hid (by rw [HV.out, ← HN2.out]; rfl)
            refine (ofInt_any _ _).mono ?_
            rintro e w3 ⟨rfl, hb3⟩
            have HR3 : Hid (RD w3 b s k) := Lib.hid ((hb3.block b HR.out.lt).trans HR.out)
            have HZ3 : Hid (Zero4 w3 w.heap.size) := Lib.hid (Box4.of_block (w := wr) HZ.out (hb3.block _ hwr))
            obtain ⟨c0, c1, c2, c3, cz⟩ := HZ3.out
            have f0 := cz 0
            have f1 := cz 1
            have f2 := cz 2
            have f3 := cz 3
            have HK3 : Hid (Kp w.heap.size (Is b) w w3) := Lib.hid (HK.out.trans (.of hb3 (Nat.le_of_lt hwr)))
            clear hb3 cz
            go_wp2_with fail
            refine bodyPost_ret (v := .tuple #[.agg #[.int .i64 2, .int .i64 (0 : Int), .string ⟨#[]⟩, .slice none 0 0], .bool true]) (by simp [results, Tryz.results56, go_sem, *]) rfl ?_
            rw [HF.out]
            refine ⟨.plain _ _ _ _ _ _, ?_, ?_⟩
            · exact (((HR3.out.far (by omega) _).far (by omega) _).far (by omega) _).far (by omega) _
            · exact (((HK3.out.own (by omega) _).own (by omega) _).own (by omega) _).own (by omega) _
      · go_enter Tryz.func56, Tryz.ntmps56
        go_wp2_with fail
        refine (HP.out 0).mono ?_
        rintro e w3 ⟨rfl, m1, rfl⟩
        go_wp2_with fail
        refine (HP.out _).mono ?_
        rintro e w3 ⟨rfl, m2, rfl⟩
        go_wp2_with fail
        refine (HY.out _).mono ?_
        rintro e w' ⟨rfl, hw'⟩; obtain rfl := hw'.symm
        go_wp2_with fail
        refine (HP.out _).mono ?_
        rintro e w3 ⟨rfl, m3, rfl⟩
        go_wp2_with fail
        refine (HD.out _).mono ?_
        rintro e w2 ⟨rfl, hR2, hk2⟩
        have HR2 := Lib.hid hR2
        have HK2 : Hid (Kp w.heap.size (Is b) w w2) := Lib.hid ((HK.out.drewN _).trans (hk2.less (by simp)))
        have HZ2 : Hid (Zero4 w2 w.heap.size) := Lib.hid (Zero4.kpd HZ.out hk2 hw0 (by unfold Is; omega))
        have hw2 : w.heap.size < w2.heap.size := Nat.lt_of_lt_of_le hw0 hk2.size
        clear hR2 hk2 HP HY HD HR HK HZ hw0
        go_wp2_with fail
        go_loopg [5] (s.size - (i + 1)) (fun g v wr => ∃ (k n : Nat), k + g = s.size ∧ v = .int .i64 (n : Int) ∧ n ≤ 1000000 ∧ Hid (RD wr b s k) ∧ Hid (Kp w.heap.size (Is b) w wr) ∧ Hid (Zero4 wr w.heap.size) ∧ w.heap.size < wr.heap.size ∧ Hid (numL (s.data.toList.drop k) n k = natL s.data.toList i))
        case atStart => exact ⟨i + 1, pk s.data.toList i - 48, by omega, val_int (by omega), by omega, HR2, HK2, HZ2, hw2, Lib.hid rfl⟩
        case round =>
          obtain ⟨k, n, hkg, rfl, hn, HR, HK, HZ, hwr, HN⟩ := hrel
          have hk : k ≤ s.size := by omega
          have hni : (n : Int) ≤ 1000000 := by omega
          have hni0 : (0 : Int) ≤ (n : Int) := by omega
          have HG := Lib.hid hkg
          clear hkg
          have HP := Lib.hid (peekAt wr b s k HR.out hk)
          by_cases hn0 : 0 < n
          · have hn0' : (0 : Int) < (n : Int) := by omega
            by_cases hd : isD (pk s.data.toList k) = true
            · obtain ⟨hd1, hd2⟩ := isD_lt hd
              have hkl := pk_isD hd
              rw [lt_len] at hkl
              have hd1' : (48 : Int) ≤ (pk s.data.toList k : Int) := by omega
              have hd2' : (pk s.data.toList k : Int) ≤ 57 := by omega
              have HY := Lib.hid (isDigit_yes _ hd)
              by_cases hle : 10 * n + (pk s.data.toList k - 48) ≤ 1000000
              · have hle' : 10 * (n : Int) + ((pk s.data.toList k : Int) - 48) ≤ 1000000 := by omega
                have HN2 : Hid (numL (s.data.toList.drop (k + 1)) (10 * n + (pk s.data.toList k - 48)) (k + 1) = natL s.data.toList i) := Lib.hid (by rw [← HN.out, numL_go _ _ _ ⟨hn0, hd, hle⟩])
                have HD : Hid (∀ m, Calls Tryz.prog 79 #[.pointer (some ⟨b, 0, none⟩)] (wr.drewN m) fun e w' => e = .returned (.int .i64 ((pk s.data.toList k : Int) - 48)) ∧ RD w' b s (k + 1) ∧ Kp wr.heap.size (Is b) (wr.drewN m) w') := Lib.hid (fun m => digit_any (wr.drewN m) b s k HR.out hkl hs hd)
                have HEQ : Hid (((10 * n + (pk s.data.toList k - 48) : Nat) : Int) = 10 * (n : Int) + ((pk s.data.toList k : Int) - 48)) := Lib.hid (by omega)
                clear HN hd hle hn0
                go_wp2_with fail
                refine (HP.out 0).mono ?_
                rintro e w3 ⟨rfl, m1, rfl⟩
                go_wp2_with fail
                refine (HY.out _).mono ?_
                rintro e w' ⟨rfl, hw'⟩; obtain rfl := hw'.symm
                go_wp2_with fail
                refine (HP.out _).mono ?_
                rintro e w3 ⟨rfl, m2, rfl⟩
                go_wp2_with fail
                refine (HD.out _).mono ?_
                rintro e w3 ⟨rfl, hR3, hK3⟩
                have HR3 := Lib.hid hR3
                have HK3 : Hid (Kp w.heap.size (Is b) w w3) := Lib.hid ((HK.out.drewN _).trans (hK3.less (by omega)))
                have HZ3 : Hid (Zero4 w3 w.heap.size) := Lib.hid (Zero4.kpd HZ.out hK3 hwr (by unfold Is; omega))
                have hw3 : w.heap.size < w3.heap.size := Nat.lt_of_lt_of_le hwr hK3.size
                clear hR3 hK3 HP HY HD HR HK HZ
                go_wp2_with fail
                go_roundg (s.size - (k + 1))
                case measure => have := HG.out; omega
                case rel => exact ⟨k + 1, _, by omega, val_int HEQ.out.symm, by have := HEQ.out; omega, HR3, HK3, HZ3, hw3, HN2⟩
              · have hle' : ¬ 10 * (n : Int) + ((pk s.data.toList k : Int) - 48) ≤ 1000000 := by omega
                have HN2 : Hid ((n, k) = natL s.data.toList i) := Lib.hid (by rw [← HN.out, numL_stop _ _ _ (fun h => hle h.2.2)])
                clear HN hd hle hn0
                go_wp2_with fail
                refine (HP.out 0).mono ?_
                rintro e w3 ⟨rfl, m1, rfl⟩
                go_wp2_with fail
                refine (HY.out _).mono ?_
                rintro e w' ⟨rfl, hw'⟩; obtain rfl := hw'.symm
                go_wp2_with fail
                refine (HP.out _).mono ?_
                rintro e w3 ⟨rfl, m2, rfl⟩
                go_wp2_with fail
                have HF : Hid (intL s.data.toList i = .ok (.mk 2 (n : Int) ⟨#[]⟩ []) k) := Lib.hid (by rw [HV.out, ← HN2.out])
                refine (ofInt_any _ _).mono ?_
                rintro e w3 ⟨rfl, hb3⟩
                have HR3 : Hid (RD w3 b s k) := Lib.hid ((hb3.block b HR.out.lt).trans HR.out)
                have HZ3 : Hid (Zero4 w3 w.heap.size) := Lib.hid (Box4.of_block (w := wr) HZ.out (hb3.block _ hwr))
                obtain ⟨c0, c1, c2, c3, cz⟩ := HZ3.out
                have f0 := cz 0
                have f1 := cz 1
                have f2 := cz 2
                have f3 := cz 3
                have HK3 : Hid (Kp w.heap.size (Is b) w w3) := Lib.hid ((HK.out.drewN _).trans (.of hb3 (Nat.le_of_lt hwr)))
                clear hb3 cz
                go_wp2_with fail
                refine bodyPost_ret (v := .tuple #[.agg #[.int .i64 2, .int .i64 (n : Int), .string ⟨#[]⟩, .slice none 0 0], .bool true]) (by simp [results, Tryz.results56, go_sem, *]) rfl ?_
                rw [HF.out]
                refine ⟨.plain _ _ _ _ _ _, ?_, ?_⟩
                · exact (((HR3.out.far (by omega) _).far (by omega) _).far (by omega) _).far (by omega) _
                · exact (((HK3.out.own (by omega) _).own (by omega) _).own (by omega) _).own (by omega) _
            · have hd' : isD (pk s.data.toList k) = false := by simpa using hd
              have HY := Lib.hid (isDigit_no _ hd')
              have HN2 : Hid ((n, k) = natL s.data.toList i) := Lib.hid (by rw [← HN.out, numL_stop _ _ _ (fun h => hd h.2.1)])
              clear HN hd hd' hn0
              go_wp2_with fail
              refine (HP.out 0).mono ?_
              rintro e w3 ⟨rfl, m1, rfl⟩
              go_wp2_with fail
              refine (HY.out _).mono ?_
              rintro e w' ⟨rfl, hw'⟩; obtain rfl := hw'.symm
              go_wp2_with fail
              have HF : Hid (intL s.data.toList i = .ok (.mk 2 (n : Int) ⟨#[]⟩ []) k) := Lib.hid (by rw [HV.out, ← HN2.out])
              refine (ofInt_any _ _).mono ?_
              rintro e w3 ⟨rfl, hb3⟩
              have HR3 : Hid (RD w3 b s k) := Lib.hid ((hb3.block b HR.out.lt).trans HR.out)
              have HZ3 : Hid (Zero4 w3 w.heap.size) := Lib.hid (Box4.of_block (w := wr) HZ.out (hb3.block _ hwr))
              obtain ⟨c0, c1, c2, c3, cz⟩ := HZ3.out
              have f0 := cz 0
              have f1 := cz 1
              have f2 := cz 2
              have f3 := cz 3
              have HK3 : Hid (Kp w.heap.size (Is b) w w3) := Lib.hid ((HK.out.drewN _).trans (.of hb3 (Nat.le_of_lt hwr)))
              clear hb3 cz
              go_wp2_with fail
              refine bodyPost_ret (v := .tuple #[.agg #[.int .i64 2, .int .i64 (n : Int), .string ⟨#[]⟩, .slice none 0 0], .bool true]) (by simp [results, Tryz.results56, go_sem, *]) rfl ?_
              rw [HF.out]
              refine ⟨.plain _ _ _ _ _ _, ?_, ?_⟩
              · exact (((HR3.out.far (by omega) _).far (by omega) _).far (by omega) _).far (by omega) _
              · exact (((HK3.out.own (by omega) _).own (by omega) _).own (by omega) _).own (by omega) _
          · obtain rfl : n = 0 := by omega
            have HN2 : Hid ((0, k) = natL s.data.toList i) := Lib.hid (by rw [← HN.out, numL_stop _ _ _ (fun h => hn0 h.1)])
            clear HN hn0 HP hni hni0
            go_wp2_with fail
            have HF : Hid (intL s.data.toList i = .ok (.mk 2 (0 : Int) ⟨#[]⟩ []) k) := Lib.hid (by rw [HV.out, ← HN2.out]; rfl)
            refine (ofInt_any _ _).mono ?_
            rintro e w3 ⟨rfl, hb3⟩
            have HR3 : Hid (RD w3 b s k) := Lib.hid ((hb3.block b HR.out.lt).trans HR.out)
            have HZ3 : Hid (Zero4 w3 w.heap.size) := Lib.hid (Box4.of_block (w := wr) HZ.out (hb3.block _ hwr))
            obtain ⟨c0, c1, c2, c3, cz⟩ := HZ3.out
            have f0 := cz 0
            have f1 := cz 1
            have f2 := cz 2
            have f3 := cz 3
            have HK3 : Hid (Kp w.heap.size (Is b) w w3) := Lib.hid (HK.out.trans (.of hb3 (Nat.le_of_lt hwr)))
            clear hb3 cz
            go_wp2_with fail
            refine bodyPost_ret (v := .tuple #[.agg #[.int .i64 2, .int .i64 (0 : Int), .string ⟨#[]⟩, .slice none 0 0], .bool true]) (by simp [results, Tryz.results56, go_sem, *]) rfl ?_
            rw [HF.out]
            refine ⟨.plain _ _ _ _ _ _, ?_, ?_⟩
            · exact (((HR3.out.far (by omega) _).far (by omega) _).far (by omega) _).far (by omega) _
            · exact (((HK3.out.own (by omega) _).own (by omega) _).own (by omega) _).own (by omega) _
    · have hd' : isD (pk s.data.toList i) = false := by simpa using hd
      have HV := Lib.hid (intL_bad s.data.toList i h45 hd')
      have HY := Lib.hid (isDigit_no _ hd')
      clear hd hd' h45
      go_enter Tryz.func56, Tryz.ntmps56
      go_wp2_with fail
      refine (HP.out 0).mono ?_
      rintro e w3 ⟨rfl, m1, rfl⟩
      go_wp2_with fail
      refine (HP.out _).mono ?_
      rintro e w3 ⟨rfl, m2, rfl⟩
      go_wp2_with fail
      refine (HY.out _).mono ?_
      rintro e w' ⟨rfl, hw'⟩; obtain rfl := hw'.symm
      go_wp2_with fail
      refine bodyPost_ret (v := .tuple #[.agg #[.int .i64 0, .int .i64 0, .string ⟨#[]⟩, .slice none 0 0], .bool false]) (by simp [results, Tryz.results56, go_sem, *]) rfl ?_
      rw [HV.out]
      refine ⟨.none _ _ _ _ _ _, ?_, ?_⟩
      · exact RD.far (RD.far (RD.far (RD.far (show RD _ b s _ from HR.out) (by omega) _) (by omega) _) (by omega) _) (by omega) _
      · exact Kp.own (Kp.own (Kp.own (Kp.own (HK.out.drewN _) (Nat.le_refl _) _) (Nat.le_refl _) _) (Nat.le_refl _) _) (Nat.le_refl _) _

end Go.Proofs.YtmbmlcnipncgnaaGreatDoor
