/-
  member, item, single and brackets of the reader of patterns. Nothing is assumed.
-/
import Derived.Test.YtaipaddfehpmgaaDoorPtRead
namespace Go.Proofs.YtaipaddfehpmgaaDoor
open Go.RowKit

/-- The result of member. -/
def MemE (r : PR Nat) (e : Ending) : Prop := match r with
  | .bad _ => e = .returned (.tuple #[.int .u8 0, .bool false])
  | .ok c _ => e = .returned (.tuple #[.int .u8 (c : Int), .bool true])
/-- The world behind one byte that is passed. -/
theorem RD.step {w : World} {b : Nat} {s : ByteArray} {i : Nat} (h : RD w b s i) : RD (w.setCell ⟨b, 1, none⟩ (.int .i64 ((i : Int) + 1))) b s (i + 1) := by
  have := h.move (i + 1)
  simpa using this
theorem AL.set {w : World} {b : Nat} {s : ByteArray} {i : Nat} (h : AL w) (k : RD w b s i) (x : Value) : AL (w.setCell ⟨b, 1, none⟩ x) :=
  h.kp (X := Is b) ((Kp.refl _ _ w).set ⟨b, 1, none⟩ (Is.self b) x) (Nat.le_refl _) (h.rd k)
theorem AL.drewN {w : World} (h : AL w) (m : Nat) : AL (w.drewN m) := h
theorem Kp.bel {N b : Nat} {a w w1 : World} (h : Kp N (Is b) a w) (hb : Below w.heap.size w w1) (hN : N ≤ w.heap.size) : Kp N (Is b) a w1 := h.trans (.of hb hN)
theorem RD.bel {w w1 : World} {b : Nat} {s : ByteArray} {i : Nat} (h : RD w b s i) (hb : Below w.heap.size w w1) : RD w1 b s i := (hb.block b h.lt).trans h
set_option maxRecDepth 100000 in
set_option maxHeartbeats 800000 in
theorem member_any (w : World) (b : Nat) (s : ByteArray) (i least : Nat) (h : RD w b s i) (hA : AL w) (hi : i ≤ s.size) (hs : s.size ≤ 1000000) :
    Calls Tryd.prog 103 #[.pointer (some ⟨b, 0, none⟩), .int .u8 (least : Int)] w fun e w' => MemE (memL s.data.toList least i) e ∧ RD w' b s (memL s.data.toList least i).fin ∧ Kp w.heap.size (Is b) w w' := by
  have HP := Lib.hid (peek_any w b s i h hi)
  have HR := Lib.hid h
  have HA := Lib.hid hA
  have h1 := h.at
  have h2 := h.free 1
  have hc := pk_lt s.data.toList i
  by_cases h92 : pk s.data.toList i = 92
  · have hlt := pk_is h92 (by decide)
    rw [lt_len] at hlt
    rw [h92] at HP
    by_cases hle : 94 < least
    · rw [show memL s.data.toList least i = .bad i by unfold memL; rw [if_pos h92, if_pos hle]]
      have hleI : (94 : Int) < (least : Int) := by omega
      clear h hA h92
      go_enter Tryd.func103, Tryd.ntmps103
      go_wp2_with fail
      refine HP.out.mono ?_
      rintro e w1 ⟨rfl, m, rfl⟩
      clear HP
      go_wp2_with fail
      go_ret2
      exact ⟨rfl, HR.out, (Kp.refl _ _ w).drewN m⟩
    have hleI : ¬ (94 : Int) < (least : Int) := by omega
    have hc2 := pk_lt s.data.toList (i + 1)
    have HP2 : Hid (∀ m, Calls Tryd.prog 70 #[.pointer (some ⟨b, 0, none⟩)] ((w.drewN m).setCell ⟨b, 1, none⟩ (.int .i64 ((i : Int) + 1))) fun e w' => e = .returned (.int .u8 (pk s.data.toList (i + 1) : Int)) ∧ ∃ k, w' = ((w.drewN m).setCell ⟨b, 1, none⟩ (.int .i64 ((i : Int) + 1))).drewN k) :=
      Lib.hid (fun m => peek_any _ b s (i + 1) ((HR.out.drewN m).step) (by omega))
    have HK2 : Hid (∀ m k, Kp w.heap.size (Is b) w (((w.drewN m).setCell ⟨b, 1, none⟩ (.int .i64 ((i : Int) + 1))).drewN k)) := Lib.hid (fun m k => (((Kp.refl _ _ w).drewN m).set ⟨b, 1, none⟩ (Is.self b) _).drewN k)
    have HR2 : Hid (∀ m k, RD (((w.drewN m).setCell ⟨b, 1, none⟩ (.int .i64 ((i : Int) + 1))).drewN k) b s (i + 1)) := Lib.hid (fun m k => ((HR.out.drewN m).step).drewN k)
    have HS := Lib.hid (isSpecialMember_any (pk s.data.toList (i + 1)) hc2)
    by_cases hsm : isSpM (pk s.data.toList (i + 1)) = false
    · rw [show memL s.data.toList least i = .bad (i + 1) by unfold memL; rw [if_pos h92, if_neg hle, if_pos hsm]]
      rw [hsm] at HS
      clear h hA h92 hsm
      generalize pk s.data.toList (i + 1) = p2 at *
      go_enter Tryd.func103, Tryd.ntmps103
      go_wp2_with fail
      refine HP.out.mono ?_
      rintro e w1 ⟨rfl, m, rfl⟩
      clear HP
      go_wp2_with fail
      refine (HP2.out m).mono ?_
      rintro e w2 ⟨rfl, k, rfl⟩
      clear HP2
      go_wp2_with fail
      refine (HS.out _).mono ?_
      rintro e w3 ⟨rfl, hw3⟩
      obtain rfl := hw3.symm
      clear HS
      go_wp2_with fail
      go_ret2
      exact ⟨rfl, HR2.out m k, HK2.out m k⟩
    have hsm' : isSpM (pk s.data.toList (i + 1)) = true := by simpa using hsm
    have hin : inA (pk s.data.toList (i + 1)) = true := by
      have := isSpM_lt hsm'
      unfold inA
      simp
      omega
    have hlt2 := pk_ne s.data.toList (i + 1) (by have := isSpM_lt hsm'; omega)
    rw [lt_len] at hlt2
    rw [hsm'] at HS
    by_cases hlow : pk s.data.toList (i + 1) < least
    · rw [show memL s.data.toList least i = .bad (i + 1) by unfold memL; rw [if_pos h92, if_neg hle, if_neg hsm, if_pos (.inl hlow)]]
      have hlI : (pk s.data.toList (i + 1) : Int) < (least : Int) := by omega
      clear h hA h92 hsm hsm' hin
      generalize pk s.data.toList (i + 1) = p2 at *
      go_enter Tryd.func103, Tryd.ntmps103
      go_wp2_with fail
      refine HP.out.mono ?_
      rintro e w1 ⟨rfl, m, rfl⟩
      clear HP
      go_wp2_with fail
      refine (HP2.out m).mono ?_
      rintro e w2 ⟨rfl, k, rfl⟩
      clear HP2
      go_wp2_with fail
      refine (HS.out _).mono ?_
      rintro e w3 ⟨rfl, hw3⟩
      obtain rfl := hw3.symm
      clear HS
      go_wp2_with fail
      go_ret2
      exact ⟨rfl, HR2.out m k, HK2.out m k⟩
    · rw [show memL s.data.toList least i = .ok (pk s.data.toList (i + 1)) (i + 2) by unfold memL; rw [if_pos h92, if_neg hle, if_neg hsm, if_neg (by rw [hin]; simp; omega)]]
      have hlI : ¬ (pk s.data.toList (i + 1) : Int) < (least : Int) := by omega
      have HI : Hid (∀ m k, Calls Tryd.prog 42 #[.int .u8 (pk s.data.toList (i + 1) : Int)] (((w.drewN m).setCell ⟨b, 1, none⟩ (.int .i64 ((i : Int) + 1))).drewN k) fun e w' => e = .returned (.bool true) ∧ Below (((w.drewN m).setCell ⟨b, 1, none⟩ (.int .i64 ((i : Int) + 1))).drewN k).heap.size (((w.drewN m).setCell ⟨b, 1, none⟩ (.int .i64 ((i : Int) + 1))).drewN k) w') := Lib.hid (fun m k => by
        have := inAlphabet_any _ hc2 (((w.drewN m).setCell ⟨b, 1, none⟩ (.int .i64 ((i : Int) + 1))).drewN k) (HA.out.set HR.out _)
        rwa [hin] at this)
      clear h hA h92 hsm hsm' hin
      generalize pk s.data.toList (i + 1) = p2 at *
      go_enter Tryd.func103, Tryd.ntmps103
      go_wp2_with fail
      refine HP.out.mono ?_
      rintro e w1 ⟨rfl, m, rfl⟩
      clear HP
      go_wp2_with fail
      refine (HP2.out m).mono ?_
      rintro e w2 ⟨rfl, k, rfl⟩
      clear HP2
      go_wp2_with fail
      refine (HS.out _).mono ?_
      rintro e w3 ⟨rfl, hw3⟩
      obtain rfl := hw3.symm
      clear HS
      go_wp2_with fail
      refine (HI.out m k).mono ?_
      rintro e w4 ⟨rfl, hb4⟩
      clear HI
      have HR4 := Lib.hid ((HR2.out m k).bel hb4)
      have HK4 := Lib.hid ((HK2.out m k).bel hb4 (HK2.out m k).size)
      have q1 := HR4.out.at
      have q2 := HR4.out.free 1
      clear hb4
      go_wp2_with fail
      go_ret2
      refine ⟨rfl, ?_, HK4.out.set ⟨b, 1, none⟩ (Is.self b) _⟩
      have := HR4.out.step
      rw [show ((i + 1 : Nat) : Int) + 1 = (i : Int) + 1 + 1 by omega] at this
      exact this
  · have hne : ¬ ((pk s.data.toList i : Int) = 92) := by omega
    have HS := Lib.hid (isSpecialMember_any (pk s.data.toList i) hc)
    by_cases hsm : isSpM (pk s.data.toList i) = true
    · rw [show memL s.data.toList least i = .bad i by unfold memL; rw [if_neg h92, if_pos hsm]]
      rw [hsm] at HS
      clear h hA h92 hsm
      generalize pk s.data.toList i = p2 at *
      go_enter Tryd.func103, Tryd.ntmps103
      go_wp2_with fail
      refine HP.out.mono ?_
      rintro e w1 ⟨rfl, m, rfl⟩
      clear HP
      go_wp2_with fail
      refine (HS.out _).mono ?_
      rintro e w3 ⟨rfl, hw3⟩
      obtain rfl := hw3.symm
      clear HS
      go_wp2_with fail
      go_ret2
      exact ⟨rfl, HR.out, (Kp.refl _ _ w).drewN m⟩
    have hsm' : isSpM (pk s.data.toList i) = false := by simpa using hsm
    rw [hsm'] at HS
    by_cases hlow : pk s.data.toList i < least
    · rw [show memL s.data.toList least i = .bad i by unfold memL; rw [if_neg h92, if_neg hsm, if_pos (.inl hlow)]]
      have hlI : (pk s.data.toList i : Int) < (least : Int) := by omega
      clear h hA h92 hsm hsm'
      generalize pk s.data.toList i = p2 at *
      go_enter Tryd.func103, Tryd.ntmps103
      go_wp2_with fail
      refine HP.out.mono ?_
      rintro e w1 ⟨rfl, m, rfl⟩
      clear HP
      go_wp2_with fail
      refine (HS.out _).mono ?_
      rintro e w3 ⟨rfl, hw3⟩
      obtain rfl := hw3.symm
      clear HS
      go_wp2_with fail
      go_ret2
      exact ⟨rfl, HR.out, (Kp.refl _ _ w).drewN m⟩
    have hlI : ¬ (pk s.data.toList i : Int) < (least : Int) := by omega
    have HI := Lib.hid (fun m => inAlphabet_any _ hc (w.drewN m) (HA.out.drewN m))
    cases hin : inA (pk s.data.toList i)
    · rw [show memL s.data.toList least i = .bad i by unfold memL; rw [if_neg h92, if_neg hsm, if_pos (.inr hin)]]
      rw [hin] at HI
      clear h hA h92 hsm hsm' hin
      generalize pk s.data.toList i = p2 at *
      go_enter Tryd.func103, Tryd.ntmps103
      go_wp2_with fail
      refine HP.out.mono ?_
      rintro e w1 ⟨rfl, m, rfl⟩
      clear HP
      go_wp2_with fail
      refine (HS.out _).mono ?_
      rintro e w3 ⟨rfl, hw3⟩
      obtain rfl := hw3.symm
      clear HS
      go_wp2_with fail
      refine (HI.out m).mono ?_
      rintro e w4 ⟨rfl, hb4⟩
      clear HI
      have HR4 := Lib.hid ((HR.out.drewN m).bel hb4)
      have HK4 := Lib.hid (((Kp.refl _ (Is b) w).drewN m).bel hb4 (Nat.le_refl _))
      clear hb4
      go_wp2_with fail
      go_ret2
      exact ⟨rfl, HR4.out, HK4.out⟩
    · rw [show memL s.data.toList least i = .ok (pk s.data.toList i) (i + 1) by unfold memL; rw [if_neg h92, if_neg hsm, if_neg (by rw [hin]; simp; omega)]]
      have hlt := pk_ne s.data.toList i (by have := inA_lt hin; omega)
      rw [lt_len] at hlt
      rw [hin] at HI
      clear h hA h92 hsm hsm' hin
      generalize pk s.data.toList i = p2 at *
      go_enter Tryd.func103, Tryd.ntmps103
      go_wp2_with fail
      refine HP.out.mono ?_
      rintro e w1 ⟨rfl, m, rfl⟩
      clear HP
      go_wp2_with fail
      refine (HS.out _).mono ?_
      rintro e w3 ⟨rfl, hw3⟩
      obtain rfl := hw3.symm
      clear HS
      go_wp2_with fail
      refine (HI.out m).mono ?_
      rintro e w4 ⟨rfl, hb4⟩
      clear HI
      have HR4 := Lib.hid ((HR.out.drewN m).bel hb4)
      have HK4 := Lib.hid (((Kp.refl _ (Is b) w).drewN m).bel hb4 (Nat.le_refl _))
      have q1 := HR4.out.at
      have q2 := HR4.out.free 1
      clear hb4
      go_wp2_with fail
      go_ret2
      exact ⟨rfl, HR4.out.step, HK4.out.set ⟨b, 1, none⟩ (Is.self b) _⟩
end Go.Proofs.YtaipaddfehpmgaaDoor
