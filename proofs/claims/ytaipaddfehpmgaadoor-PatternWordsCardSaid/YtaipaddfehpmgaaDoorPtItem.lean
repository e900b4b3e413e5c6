/-
  item and single of the reader of patterns. Nothing is assumed.
-/
import Derived.Test.YtaipaddfehpmgaaDoorPtMem
namespace Go.Proofs.YtaipaddfehpmgaaDoor
open Go.RowKit

/-- The blocks of a reader and of a set. -/
def Or (b g k : Nat) : Prop := k = b ∨ k = g
theorem addsL_snoc (n : Nat) : ∀ (s : S4) (c : Nat), addsL (n + 1) s c = (addsL n s c).add (c + n) := by
  induction n with
  | zero => intro s c; rfl
  | succ n ih => intro s c; rw [addsL, ih, addsL, Nat.add_assoc, Nat.add_comm 1 n]
/-- The result of item. -/
def ItemE (g : Nat) (r : PR S4) (e : Ending) (w' : World) : Prop := match r with
  | .bad _ => e = .returned (.bool false)
  | .ok s' _ => e = .returned (.bool true) ∧ SB w' g s'
theorem sb_ne {w : World} {b g : Nat} {s : ByteArray} {i : Nat} {t : S4} (h : RD w b s i) (k : SB w g t) : g ≠ b := fun e => by
  subst e
  have h0 := h.text
  have k0 := k.cells.1
  rw [h0] at k0
  cases k0
set_option maxRecDepth 100000 in
set_option maxHeartbeats 1600000 in
theorem item_any (w : World) (b g : Nat) (s : ByteArray) (i : Nat) (t : S4) (h : RD w b s i) (hA : AL w) (hG : SB w g t) (hi : i ≤ s.size) (hs : s.size ≤ 1000000) :
    Calls Tryd.prog 100 #[.pointer (some ⟨b, 0, none⟩), .pointer (some ⟨g, 0, none⟩)] w fun e w' => ItemE g (itemL s.data.toList t i) e w' ∧ RD w' b s (itemL s.data.toList t i).fin ∧ Kp w.heap.size (Or b g) w w' := by
  have HR := Lib.hid h
  have HA := Lib.hid hA
  have HG := Lib.hid hG
  have hgb := sb_ne h hG
  have hm := memL_fwd s.data.toList 32 i (by rw [lt_len]; exact hi)
  have HM := Lib.hid (member_any w b s i 32 h hA hi hs)
  have HE : Hid (itemL s.data.toList t i = (memL s.data.toList 32 i).bind fun f m => if pk s.data.toList m = 45 then (memL s.data.toList f (m + 1)).bind fun l q => .ok (addsL (l + 1 - f) t f) q else .ok (addsL 1 t f) m) := Lib.hid rfl
  generalize itemL s.data.toList t i = RES at *
  have hblt := h.lt
  have hglt := hG.lt
  clear h hA hG
  cases hq : memL s.data.toList 32 i with
  | bad m =>
    rw [hq] at HM HE
    have HN : Hid (RES = .bad m) := Lib.hid HE.out
    clear HE hm hq
    go_enter Tryd.func100, Tryd.ntmps100
    go_wp2_with fail
    refine HM.out.mono ?_
    rintro e w1 ⟨rfl, hR1, hK1⟩
    have HR1 : Hid (RD w1 b s m) := Lib.hid hR1
    have HK1 := Lib.hid hK1
    clear hR1 hK1 HM
    go_wp2_with fail
    go_ret
    rw [HN.out]
    exact ⟨rfl, HR1.out, HK1.out.mono (Nat.le_refl _) (fun k _ hk => .inl hk)⟩
  | ok f m =>
    rw [hq] at HM HE hm
    obtain ⟨hf1, hf2, hf3⟩ := hm.2 f m rfl
    have hmm : i < m ∧ m ≤ s.data.toList.length := hm.1
    rw [lt_len] at hmm
    have HE2 : Hid (RES = if pk s.data.toList m = 45 then (memL s.data.toList f (m + 1)).bind fun l q => .ok (addsL (l + 1 - f) t f) q else .ok (addsL 1 t f) m) := Lib.hid HE.out
    clear HE hm hq hf1
    by_cases h45 : pk s.data.toList m = 45
    · have hm2 := pk_is h45 (by decide)
      rw [lt_len] at hm2
      have HE3 : Hid (RES = (memL s.data.toList f (m + 1)).bind fun l q => .ok (addsL (l + 1 - f) t f) q) := Lib.hid (by rw [HE2.out, if_pos h45])
      have hn := memL_fwd s.data.toList f (m + 1) (by rw [lt_len]; omega)
      clear HE2
      go_enter Tryd.func100, Tryd.ntmps100
      go_wp2_with fail
      refine HM.out.mono ?_
      rintro e w1 ⟨rfl, hR1, hK1⟩
      have HT : Hid (Calls Tryd.prog 53 #[.pointer (some ⟨b, 0, none⟩), .int .u8 45] w1 fun e w' => e = .returned (.bool true) ∧ RD w' b s (m + 1) ∧ Kp w1.heap.size (Is b) w1 w') := Lib.hid (by
        have := take_any w1 b s m 45 hR1 (by omega) hs (by decide)
        rw [decide_eq_true h45, if_pos h45] at this
        exact this)
      have HA1 := Lib.hid (HA.out.kp hK1 (Nat.le_refl _) (HA.out.rd HR.out))
      have HG1 := Lib.hid (HG.out.kp hK1 hglt (show ¬ Is b g from hgb))
      have HK1 := Lib.hid hK1
      have HRX := Lib.hid hR1
      clear hR1 hK1 HM
      go_wp2_with fail
      refine HT.out.mono ?_
      rintro e w2 ⟨rfl, hR2, hK2⟩
      have HM2 := Lib.hid (member_any w2 b s (m + 1) f hR2 (HA1.out.kp hK2 (Nat.le_refl _) (HA1.out.rd HRX.out)) (by omega) hs)
      have HG2 := Lib.hid (HG1.out.kp hK2 (HG1.out.lt) (show ¬ Is b g from hgb))
      have HK2 := Lib.hid (HK1.out.trans (hK2.less HK1.out.size))
      clear hR2 hK2 HT HRX
      cases hq2 : memL s.data.toList f (m + 1) with
      | bad q =>
        rw [hq2] at HM2 HE3
        have HN : Hid (RES = .bad q) := Lib.hid HE3.out
        have hfi : ¬ (f : Int) ≤ 0 := by omega
        clear HE3 hn hq2 h45
        go_wp2_with fail
        refine HM2.out.mono ?_
        rintro e w3 ⟨rfl, hR3, hK3⟩
        have HR3 : Hid (RD w3 b s q) := Lib.hid hR3
        have HK3 := Lib.hid (HK2.out.trans (hK3.less HK2.out.size))
        clear hR3 hK3 HM2
        go_wp2_with fail
        go_loopw [8] (fun v wr => v = .int .u8 (f : Int) ∧ wr = w3) (fun v _ => 0)
        case atStart => exact ⟨rfl, rfl⟩
        case round =>
          obtain ⟨rfl, rfl⟩ := hrel
          go_wp2_with fail
          go_ret
          rw [HN.out]
          exact ⟨rfl, HR3.out, HK3.out.mono (Nat.le_refl _) (fun k _ hk => .inl hk)⟩
      | ok l q =>
        rw [hq2] at HM2 HE3 hn
        obtain ⟨hl1, hl2, hl3⟩ := hn.2 l q rfl
        have HN : Hid (RES = .ok (addsL (l + 1 - f) t f) q) := Lib.hid HE3.out
        clear HE3 hn hq2 h45
        go_wp2_with fail
        refine HM2.out.mono ?_
        rintro e w3 ⟨rfl, hR3, hK3⟩
        have HR3 : Hid (RD w3 b s q) := Lib.hid hR3
        have HG3 := Lib.hid (HG2.out.kp hK3 (HG2.out.lt) (show ¬ Is b g from hgb))
        have HK3 := Lib.hid ((HK2.out.trans (hK3.less HK2.out.size)).mono (X := Or b g) (Nat.le_refl _) (fun k _ hk => .inl hk))
        clear hR3 hK3 HM2
        go_wp2_with fail
        go_loopw [8] (fun v wr => ∃ k : Nat, k ≤ l + 1 - f ∧ v = .int .u8 ((f + k : Nat) : Int) ∧ Hid (RD wr b s q) ∧ Hid (SB wr g (addsL k t f)) ∧ Hid (Kp w.heap.size (Or b g) w wr)) (fun v _ => l + 1 - (intOf v).toNat)
        case atStart => exact ⟨0, Nat.zero_le _, rfl, HR3, HG3, HK3⟩
        case round =>
          obtain ⟨k, hk, rfl, HRr, HGr, HKr⟩ := hrel
          by_cases hlt : f + k ≤ l
          · have hlI : ((f + k : Nat) : Int) ≤ (l : Int) := by omega
            have HAd := Lib.hid (add_any (addsL k t f) g (f + k) (by omega) wr HGr.out)
            have hbr := HRr.out.lt
            go_wp2_with fail
            refine HAd.out.mono ?_
            rintro e w4 ⟨rfl, hG4, hK4⟩
            have HR4 := Lib.hid (HRr.out.later hK4 hbr (show ¬ Is g b from fun e => hgb e.symm))
            have HG4 : Hid (SB w4 g (addsL (k + 1) t f)) := Lib.hid (by rw [addsL_snoc]; exact hG4)
            have HK4 := Lib.hid (HKr.out.trans (hK4.mono (X := Or b g) HKr.out.size (fun k _ hk => .inr hk)))
            clear hG4 hK4 HAd
            go_wp2_with fail
            go_roundw
            case rel => exact ⟨k + 1, by omega, by go_num, HR4, HG4, HK4⟩
            case measure => simp [intOf]; omega
          · have hlI : ¬ ((f + k : Nat) : Int) ≤ (l : Int) := by omega
            obtain rfl : k = l + 1 - f := by omega
            go_wp2_with fail
            go_ret
            rw [HN.out]
            exact ⟨⟨rfl, HGr.out⟩, HRr.out, HKr.out⟩
    · have HN : Hid (RES = .ok (addsL 1 t f) m) := Lib.hid (by rw [HE2.out, if_neg h45])
      clear HE2
      go_enter Tryd.func100, Tryd.ntmps100
      go_wp2_with fail
      refine HM.out.mono ?_
      rintro e w1 ⟨rfl, hR1, hK1⟩
      have HT : Hid (Calls Tryd.prog 53 #[.pointer (some ⟨b, 0, none⟩), .int .u8 45] w1 fun e w' => e = .returned (.bool false) ∧ RD w' b s m ∧ Kp w1.heap.size (Is b) w1 w') := Lib.hid (by
        have := take_any w1 b s m 45 hR1 (by omega) hs (by decide)
        rw [decide_eq_false h45, if_neg h45] at this
        exact this)
      have HG1 := Lib.hid (HG.out.kp hK1 hglt (show ¬ Is b g from hgb))
      have HK1 := Lib.hid hK1
      clear hR1 hK1 HM h45
      go_wp2_with fail
      refine HT.out.mono ?_
      rintro e w2 ⟨rfl, hR2, hK2⟩
      have HR3 : Hid (RD w2 b s m) := Lib.hid hR2
      have HG3 := Lib.hid (HG1.out.kp hK2 (HG1.out.lt) (show ¬ Is b g from hgb))
      have HK3 := Lib.hid ((HK1.out.trans (hK2.less HK1.out.size)).mono (X := Or b g) (Nat.le_refl _) (fun k _ hk => .inl hk))
      clear hR2 hK2 HT
      go_wp2_with fail
      go_loopw [8] (fun v wr => ∃ k : Nat, k ≤ 1 ∧ v = .int .u8 ((f + k : Nat) : Int) ∧ Hid (RD wr b s m) ∧ Hid (SB wr g (addsL k t f)) ∧ Hid (Kp w.heap.size (Or b g) w wr)) (fun v _ => f + 1 - (intOf v).toNat)
      case atStart => exact ⟨0, Nat.zero_le _, rfl, HR3, HG3, HK3⟩
      case round =>
        obtain ⟨k, hk, rfl, HRr, HGr, HKr⟩ := hrel
        by_cases hlt : k = 0
        · subst hlt
          have hlI : ((f + 0 : Nat) : Int) ≤ (f : Int) := by omega
          have HAd := Lib.hid (add_any (addsL 0 t f) g (f + 0) (by omega) wr HGr.out)
          have hbr := HRr.out.lt
          go_wp2_with fail
          refine HAd.out.mono ?_
          rintro e w4 ⟨rfl, hG4, hK4⟩
          have HR4 := Lib.hid (HRr.out.later hK4 hbr (show ¬ Is g b from fun e => hgb e.symm))
          have HG4 : Hid (SB w4 g (addsL (0 + 1) t f)) := Lib.hid (by rw [addsL_snoc]; exact hG4)
          have HK4 := Lib.hid (HKr.out.trans (hK4.mono (X := Or b g) HKr.out.size (fun k _ hk => .inr hk)))
          clear hG4 hK4 HAd
          go_wp2_with fail
          go_roundw
          case rel => exact ⟨1, by omega, by go_num, HR4, HG4, HK4⟩
          case measure => simp [intOf]
        · obtain rfl : k = 1 := by omega
          have hlI : ¬ ((f + 1 : Nat) : Int) ≤ (f : Int) := by omega
          go_wp2_with fail
          go_ret
          rw [HN.out]
          exact ⟨⟨rfl, HGr.out⟩, HRr.out, HKr.out⟩
end Go.Proofs.YtaipaddfehpmgaaDoor
