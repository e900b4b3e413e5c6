/-
  bits of the package. Nothing is assumed.
-/
import Derived.Test.YtmbmlcnipncgnaaGreatDoorLtNumber
import Derived.Test.YtmbmlcnipncgnaaGreatDoorLtAccept
import Derived.Test.YtmbmlcnipncgnaaGreatDoorLtLists
import Derived.Deep.LoopGhost
namespace Go.Proofs.YtmbmlcnipncgnaaGreatDoor
open Go.RowKit

/-- What is left of a bit vector behind k digits that read N. -/
def bitsR (L : List UInt8) (i N : Nat) : Nat → PR V
  | 0 => bitsL L i
  | 1 => match hexv (pk L (i + 3)) with
    | none => .bad (i + 3)
    | some l => .ok (.mk 4 ((16 * N + l : Nat) : Int) ⟨#[]⟩ []) (i + 4)
  | _ => .ok (.mk 4 (N : Int) ⟨#[]⟩ []) (i + 4)
theorem bitsR_bad (L : List UInt8) (i N k : Nat) (hk : k < 2) (h : hexv (pk L (i + 2 + k)) = none) : bitsR L i N k = .bad (i + 2 + k) := by
  have hc : k = 0 ∨ k = 1 := by omega
  rcases hc with rfl | rfl
  · simp only [Nat.add_zero] at h
    simp only [bitsR, bitsL, h, Nat.add_zero]
  · rw [Nat.add_assoc] at h
    simp only [bitsR, h]
theorem bitsR_ok (L : List UInt8) (i N k d : Nat) (hk : k < 2) (hN : k = 0 → N = 0) (h : hexv (pk L (i + 2 + k)) = some d) : bitsR L i N k = bitsR L i (16 * N + d) (k + 1) := by
  have hc : k = 0 ∨ k = 1 := by omega
  rcases hc with rfl | rfl
  · simp only [Nat.add_zero] at h
    obtain rfl := hN rfl
    simp only [bitsR, bitsL, h, Nat.mul_zero, Nat.zero_add]
    rfl
  · rw [Nat.add_assoc] at h
    simp only [bitsR, h]

set_option maxRecDepth 100000 in
set_option maxHeartbeats 1600000 in
theorem bits_any (w : World) (b : Nat) (s : ByteArray) (i : Nat) (h : RD w b s i) (hi : i + 1 < s.size) (hs : s.size ≤ 1000000) :
    Calls Tryz.prog 60 #[.pointer (some ⟨b, 0, none⟩)] w (OutV (Is b) b s w (bitsL s.data.toList i)) := by
  have hblt : b < w.heap.size := h.lt
  have h1 := h.at
  have f1 := h.free 1
  have HR1 : Hid (RD ((w.setCell ⟨b, 1, none⟩ (.int .i64 ((i : Int) + 2))).alloc (.cells #[.int .i64 0, .int .i64 0, .string ⟨#[]⟩, .slice none 0 0] 34)) b s (i + 2 + 0)) := Lib.hid (RD.alloc (h.move (i + 2)) _)
  have HZ1 : Hid (Zero4 ((w.setCell ⟨b, 1, none⟩ (.int .i64 ((i : Int) + 2))).alloc (.cells #[.int .i64 0, .int .i64 0, .string ⟨#[]⟩, .slice none 0 0] 34)) w.heap.size) := Lib.hid (by
    have := zero4_new (w.setCell ⟨b, 1, none⟩ (.int .i64 ((i : Int) + 2)))
    rwa [size_set'] at this)
  have HK1 : Hid (Kp w.heap.size (Is b) w ((w.setCell ⟨b, 1, none⟩ (.int .i64 ((i : Int) + 2))).alloc (.cells #[.int .i64 0, .int .i64 0, .string ⟨#[]⟩, .slice none 0 0] 34))) := Lib.hid (((Kp.refl _ _ w).set ⟨b, 1, none⟩ (Is.self b) _).alloc (by rw [size_set']; exact Nat.le_refl _) _)
  have hw1 : w.heap.size < ((w.setCell ⟨b, 1, none⟩ (.int .i64 ((i : Int) + 2))).alloc (.cells #[.int .i64 0, .int .i64 0, .string ⟨#[]⟩, .slice none 0 0] 34)).heap.size := by simp [World.setCell]
  clear h
  generalize hR : bitsL s.data.toList i = R at *
  have HE0 : Hid (bitsR s.data.toList i 0 0 = R) := Lib.hid hR
  clear hR
  go_enter Tryz.func60, Tryz.ntmps60
  go_wp2_with fail
  go_loopg [4, 14] 2 (fun g nv iv wr => ∃ (k N : Nat), k + g = 2 ∧ iv = .int .i64 (k : Int) ∧ nv = .int .i64 (N : Int) ∧ N ≤ 255 ∧ (k = 1 → N ≤ 15) ∧ (k = 0 → N = 0) ∧ i + 2 + k ≤ s.size ∧ Hid (RD wr b s (i + 2 + k)) ∧ Hid (Zero4 wr w.heap.size) ∧ Hid (Kp w.heap.size (Is b) w wr) ∧ w.heap.size < wr.heap.size ∧ Hid (bitsR s.data.toList i N k = R))
  case atStart => exact ⟨0, 0, rfl, rfl, rfl, by omega, by omega, fun _ => rfl, by omega, HR1, HZ1, HK1, hw1, HE0⟩
  case round =>
    obtain ⟨k, N, hkg, rfl, rfl, hN, hN1, hN0, hik, HR, HZ, HK, hwr, HE⟩ := hrel
    have HG := Lib.hid hkg
    have hk2 : k ≤ 2 := by omega
    have H0 := Lib.hid hN0
    have H1 := Lib.hid hN1
    have hNi : (N : Int) ≤ 255 := by omega
    clear hkg hN0 hN1 HR1 HZ1 HK1 hw1 HE0 h1 f1
    by_cases hlt : k < 2
    · have hki : (k : Int) < 2 := by omega
      have HP := Lib.hid (peekAt wr b s (i + 2 + k) HR.out hik)
      have h2 := HR.out.at
      have f2 := HR.out.free 1
      have hpk := pk_lt s.data.toList (i + 2 + k)
      have hpk' : (pk s.data.toList (i + 2 + k) : Int) ≤ 255 := by omega
      clear hpk
      cases hx : hexv (pk s.data.toList (i + 2 + k)) with
      | none =>
        have HX := Lib.hid (hexDigit_none _ hx)
        have HV : Hid (R = .bad (i + 2 + k)) := Lib.hid (HE.out.symm.trans (bitsR_bad _ _ _ _ hlt hx))
        obtain ⟨c0, c1, c2, c3, cz⟩ := HZ.out
        have g0 := cz 0
        have g1 := cz 1
        have g2 := cz 2
        have g3 := cz 3
        clear hx HE cz
        go_wp2_with fail
        refine (HP.out 0).mono ?_
        rintro e w3 ⟨rfl, m1, rfl⟩
        go_wp2_with fail
        refine (HX.out _).mono ?_
        rintro e w' ⟨rfl, hw'⟩; obtain rfl := hw'.symm
        go_wp2_with fail
        refine bodyPost_ret (v := .tuple #[.agg #[.int .i64 0, .int .i64 0, .string ⟨#[]⟩, .slice none 0 0], .bool false]) (by simp [results, Tryz.results60, go_sem, *]) rfl ?_
        rw [HV.out]
        exact ⟨.none _ _ _ _ _ _, RD.far4 (w := wr.drewN m1) HR.out (by omega) _ _ _ _, (HK.out.drewN m1).own4 (Nat.le_refl _) _ _ _ _⟩
      | some d =>
        have HX := Lib.hid (hexDigit_some _ d hx)
        have hd := hexv_lt hx
        have hil := hexv_pk hx
        rw [lt_len] at hil
        have HV : Hid (bitsR s.data.toList i (16 * N + d) (k + 1) = R) := Lib.hid ((bitsR_ok _ _ _ _ _ hlt H0.out hx).symm.trans HE.out)
        have hdi : (d : Int) ≤ 15 := by omega
        have hN15 : N ≤ 15 := by
          have hc : k = 0 ∨ k = 1 := by omega
          rcases hc with h | h
          · have := H0.out h; omega
          · exact H1.out h
        clear hx HE
        go_wp2_with fail
        refine (HP.out 0).mono ?_
        rintro e w3 ⟨rfl, m1, rfl⟩
        go_wp2_with fail
        refine (HX.out _).mono ?_
        rintro e w' ⟨rfl, hw'⟩; obtain rfl := hw'.symm
        go_wp2_with fail
        go_roundg (2 - (k + 1))
        case measure => have := HG.out; omega
        case rel =>
          refine ⟨k + 1, 16 * N + d, by omega, by go_num, val_int (by omega), by omega, fun h => ?_, fun h => by omega, by omega, Lib.hid ?_, Lib.hid ?_, Lib.hid ?_, ?_, HV⟩
          · have : N = 0 := H0.out (by omega)
            omega
          · have := RD.move (w := wr.drewN m1) HR.out (i + 2 + k + 1)
            simp at this
            rw [Nat.add_assoc (i + 2)] at this
            exact this
          · exact Box4.of_block HZ.out (Below.heap_setCell (wr.drewN m1) ⟨b, 1, none⟩ _ _ (by simp; omega))
          · exact (HK.out.drewN m1).set ⟨b, 1, none⟩ (Is.self b) _
          · rw [size_set']; exact hwr
    · obtain rfl : k = 2 := by omega
      have HV : Hid (R = .ok (.mk 4 (N : Int) ⟨#[]⟩ []) (i + 2 + 2)) := Lib.hid HE.out.symm
      clear HE
      go_wp2_with fail
      refine (ofBits_any _ wr).mono ?_
      rintro e w3 ⟨rfl, hb3⟩
      have HR3 : Hid (RD w3 b s (i + 2 + 2)) := Lib.hid ((hb3.block b HR.out.lt).trans HR.out)
      have HZ3 : Hid (Zero4 w3 w.heap.size) := Lib.hid (Box4.of_block HZ.out (hb3.block _ hwr))
      obtain ⟨c0, c1, c2, c3, cz⟩ := HZ3.out
      have g0 := cz 0
      have g1 := cz 1
      have g2 := cz 2
      have g3 := cz 3
      have HK3 : Hid (Kp w.heap.size (Is b) w w3) := Lib.hid (HK.out.trans (.of hb3 (Nat.le_of_lt hwr)))
      clear hb3 cz
      go_wp2_with fail
      refine bodyPost_ret (v := .tuple #[.agg #[.int .i64 4, .int .i64 (N : Int), .string ⟨#[]⟩, .slice none 0 0], .bool true]) (by simp [results, Tryz.results60, go_sem, *]) rfl ?_
      rw [HV.out]
      exact ⟨.plain _ _ _ _ _ _, HR3.out.far4 (by omega) _ _ _ _, HK3.out.own4 (Nat.le_refl _) _ _ _ _⟩

end Go.Proofs.YtmbmlcnipncgnaaGreatDoor
