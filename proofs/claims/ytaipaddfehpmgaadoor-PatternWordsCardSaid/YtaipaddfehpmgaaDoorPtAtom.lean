/-
  atom and rep of the reader of patterns. Nothing is assumed.
-/
import Derived.Test.YtaipaddfehpmgaaDoorPtGroup
namespace Go.Proofs.YtaipaddfehpmgaaDoor
open Go.RowKit

theorem HT.one {w : World} {S : Nat → Prop} {g : Nat} {t : PT} {sl : Value} (hS : S g) (hc : ∀ (j : Nat) u, (t.cs sl)[j]? = some u → w.cell? ⟨g, j, none⟩ = some u) (hr : HT w S sl t.l) : HT w S (.slice (some ⟨g, 0, none⟩) 1 1) [t] := by
  refine .arr g 0 1 [t] (fun _ => sl) hS (Nat.le_refl _) (by simp) (fun i v hv j u hu => ?_) (fun i v hv => ?_)
  · match i, hv with
    | 0, hv => simp at hv; subst hv; simpa using hc j u hu
    | i + 1, hv => simp at hv
  · match i, hv with
    | 0, hv => simp at hv; subst hv; exact hr
    | i + 1, hv => simp at hv
theorem Z6.drewN {w : World} {n : Nat} (h : Z6 w n) (m : Nat) : Z6 (w.drewN m) n := h
theorem oneT_l (c : Nat) : (oneT c).l = [] := classT_l _
set_option maxRecDepth 100000 in
set_option maxHeartbeats 3200000 in
theorem atom_any (n : Nat) (w : World) (b : Nat) (s : ByteArray) (i : Nat) (HP : Pat s n) (h : RD w b s i) (hA : AL w) (hi : i ≤ s.size) (hn : s.size < i + (n + 1)) (hs : s.size ≤ 1000000) :
    Calls Tryd.prog 84 #[.pointer (some ⟨b, 0, none⟩)] w (OutT b s w (atomL (patL s.data.toList n) s.data.toList i)) := by
  have hblt := h.lt
  obtain ⟨w1, hw1⟩ : ∃ w1, w1 = w.alloc (.cells #[.int .i64 0, .int .u64 0, .int .u64 0, .int .u64 0, .int .u64 0, .slice none 0 0] 36) := ⟨_, rfl⟩
  have HW1 := Lib.hid hw1
  have hs1 : w1.heap.size = w.heap.size + 1 := by rw [hw1]; simp
  have hb1 : Below w.heap.size w w1 := by rw [hw1]; exact below1 _ _
  have HA1 := Lib.hid (hA.later hb1)
  have HGB := Lib.hid (hA.rd h)
  have HR1 := Lib.hid (h.bel hb1)
  have HZ1 : Hid (Z6 w1 w.heap.size) := Lib.hid (by rw [hw1]; exact Z6.new _)
  have HK1 : Hid (Kp w.heap.size (Is b) w w1) := Lib.hid (.of hb1 (Nat.le_refl _))
  have HPp := Lib.hid HP
  have HPk := Lib.hid (peek_any w1 b s i HR1.out hi)
  have hc := pk_lt s.data.toList i
  have HE : Hid (atomL (patL s.data.toList n) s.data.toList i = if pk s.data.toList i = 40 then groupL (patL s.data.toList n) s.data.toList i else if pk s.data.toList i = 91 then brackL s.data.toList i else if pk s.data.toList i = 46 then .ok (classT .alpha) (i + 1)
    else if pk s.data.toList i = 92 then (if isSp (pk s.data.toList (i + 1)) = true then .ok (oneT (pk s.data.toList (i + 1))) (i + 2) else .bad (i + 1)) else if isPl (pk s.data.toList i) = true then .ok (oneT (pk s.data.toList i)) (i + 1) else .bad i) := Lib.hid rfl
  generalize atomL (patL s.data.toList n) s.data.toList i = RES at *
  clear hw1 h hA HP hb1
  by_cases h40 : pk s.data.toList i = 40
  · have hlt := pk_is h40 (by decide)
    rw [lt_len] at hlt
    have HC : Hid (∀ m, Calls Tryd.prog 93 #[.pointer (some ⟨b, 0, none⟩)] (w1.drewN m) (OutT b s (w1.drewN m) RES)) := Lib.hid (fun m => by
      rw [HE.out, if_pos h40]
      exact group_any n (w1.drewN m) b s i HPp.out (HR1.out.drewN m) (HA1.out.drewN m) hlt (by omega) hs)
    rw [h40] at HPk
    clear HE h40 HPp
    go_enter Tryd.func84, Tryd.ntmps84
    go_wp2_with fail
    rw [← HW1.out]
    refine HPk.out.mono ?_
    rintro e w2 ⟨rfl, m, rfl⟩
    clear HPk
    go_wp2_with fail
    cases hq : RES with
    | bad q =>
      rw [hq] at HC
      refine (HC.out m).mono ?_
      rintro e w3 ⟨⟨t, oe, nn, ce, rfl⟩, hR3, hK3⟩
      have HR3 : Hid (RD w3 b s q) := Lib.hid hR3
      have hz3 : Z6 w3 w.heap.size := (HZ1.out.drewN m).kp hK3 HZ1.out.lt (show ¬ Is b w.heap.size by unfold Is; omega)
      obtain ⟨z0, z1, z2, z3, z4, z5, zf⟩ := hz3
      have HK3 := Lib.hid ((HK1.out.drewN m).trans (hK3.less (by show w.heap.size ≤ w1.heap.size; omega)))
      clear hR3 hK3 HC
      unfold PT.val
      go_wp2_with fail
      refine bodyPost_ret (v := .tuple #[.agg #[.int .i64 t.k, .int .u64 t.s.a, .int .u64 t.s.b, .int .u64 t.s.c, .int .u64 t.s.d, (.slice oe nn ce)], .bool false]) (by simp [results, Tryd.results84, go_sem, *]) rfl ?_
      rw [hq]
      exact ⟨OutE.bad _ _ _ t _ _ _, (at6 (by omega) _ _ _ _ _ _).trans HR3.out, kp6 HK3.out (Nat.le_refl _) _ _ _ _ _ _⟩
    | ok t q =>
      rw [hq] at HC
      refine (HC.out m).mono ?_
      rintro e w3 ⟨⟨oe, ce, rfl, hT3⟩, hR3, hK3⟩
      have HR3 : Hid (RD w3 b s q) := Lib.hid hR3
      have hz3 : Z6 w3 w.heap.size := (HZ1.out.drewN m).kp hK3 HZ1.out.lt (show ¬ Is b w.heap.size by unfold Is; omega)
      obtain ⟨z0, z1, z2, z3, z4, z5, zf⟩ := hz3
      have HK3 := Lib.hid ((HK1.out.drewN m).trans (hK3.less (by show w.heap.size ≤ w1.heap.size; omega)))
      have HH3 : Hid (HT w3 (Btw w1.heap.size w3.heap.size) (.slice oe t.l.length ce) t.l) := Lib.hid hT3
      clear hR3 hK3 HC hT3
      unfold PT.val
      go_wp2_with fail
      refine bodyPost_ret (v := .tuple #[.agg #[.int .i64 t.k, .int .u64 t.s.a, .int .u64 t.s.b, .int .u64 t.s.c, .int .u64 t.s.d, (.slice oe t.l.length ce)], .bool true]) (by simp [results, Tryd.results84, go_sem, *]) rfl ?_
      rw [hq]
      refine ⟨⟨oe, ce, rfl, ?_⟩, (at6 (by omega) _ _ _ _ _ _).trans HR3.out, kp6 HK3.out (Nat.le_refl _) _ _ _ _ _ _⟩
      exact (kpset6 (Kp.refl w3.heap.size (Is w.heap.size) w3) rfl _ _ _ _ _ _).rep HH3.out (Nat.le_refl _) (fun k h1 h2 h => by unfold Is at h; omega) (by omega) (by rw [size6]; omega)
  have n40 : ¬ (pk s.data.toList i : Int) = 40 := by omega
  rw [if_neg h40] at HE
  by_cases h91 : pk s.data.toList i = 91
  · have hlt := pk_is h91 (by decide)
    rw [lt_len] at hlt
    have HC : Hid (∀ m, Calls Tryd.prog 94 #[.pointer (some ⟨b, 0, none⟩)] (w1.drewN m) (OutT b s (w1.drewN m) RES)) := Lib.hid (fun m => by
      rw [HE.out, if_pos h91]
      exact brackets_any (w1.drewN m) b s i (HR1.out.drewN m) (HA1.out.drewN m) hlt hs)
    rw [h91] at HPk
    clear HE h91 HPp
    go_enter Tryd.func84, Tryd.ntmps84
    go_wp2_with fail
    rw [← HW1.out]
    refine HPk.out.mono ?_
    rintro e w2 ⟨rfl, m, rfl⟩
    clear HPk
    go_wp2_with fail
    cases hq : RES with
    | bad q =>
      rw [hq] at HC
      refine (HC.out m).mono ?_
      rintro e w3 ⟨⟨t, oe, nn, ce, rfl⟩, hR3, hK3⟩
      have HR3 : Hid (RD w3 b s q) := Lib.hid hR3
      have hz3 : Z6 w3 w.heap.size := (HZ1.out.drewN m).kp hK3 HZ1.out.lt (show ¬ Is b w.heap.size by unfold Is; omega)
      obtain ⟨z0, z1, z2, z3, z4, z5, zf⟩ := hz3
      have HK3 := Lib.hid ((HK1.out.drewN m).trans (hK3.less (by show w.heap.size ≤ w1.heap.size; omega)))
      clear hR3 hK3 HC
      unfold PT.val
      go_wp2_with fail
      refine bodyPost_ret (v := .tuple #[.agg #[.int .i64 t.k, .int .u64 t.s.a, .int .u64 t.s.b, .int .u64 t.s.c, .int .u64 t.s.d, (.slice oe nn ce)], .bool false]) (by simp [results, Tryd.results84, go_sem, *]) rfl ?_
      rw [hq]
      exact ⟨OutE.bad _ _ _ t _ _ _, (at6 (by omega) _ _ _ _ _ _).trans HR3.out, kp6 HK3.out (Nat.le_refl _) _ _ _ _ _ _⟩
    | ok t q =>
      rw [hq] at HC
      refine (HC.out m).mono ?_
      rintro e w3 ⟨⟨oe, ce, rfl, hT3⟩, hR3, hK3⟩
      have HR3 : Hid (RD w3 b s q) := Lib.hid hR3
      have hz3 : Z6 w3 w.heap.size := (HZ1.out.drewN m).kp hK3 HZ1.out.lt (show ¬ Is b w.heap.size by unfold Is; omega)
      obtain ⟨z0, z1, z2, z3, z4, z5, zf⟩ := hz3
      have HK3 := Lib.hid ((HK1.out.drewN m).trans (hK3.less (by show w.heap.size ≤ w1.heap.size; omega)))
      have HH3 : Hid (HT w3 (Btw w1.heap.size w3.heap.size) (.slice oe t.l.length ce) t.l) := Lib.hid hT3
      clear hR3 hK3 HC hT3
      unfold PT.val
      go_wp2_with fail
      refine bodyPost_ret (v := .tuple #[.agg #[.int .i64 t.k, .int .u64 t.s.a, .int .u64 t.s.b, .int .u64 t.s.c, .int .u64 t.s.d, (.slice oe t.l.length ce)], .bool true]) (by simp [results, Tryd.results84, go_sem, *]) rfl ?_
      rw [hq]
      refine ⟨⟨oe, ce, rfl, ?_⟩, (at6 (by omega) _ _ _ _ _ _).trans HR3.out, kp6 HK3.out (Nat.le_refl _) _ _ _ _ _ _⟩
      exact (kpset6 (Kp.refl w3.heap.size (Is w.heap.size) w3) rfl _ _ _ _ _ _).rep HH3.out (Nat.le_refl _) (fun k h1 h2 h => by unfold Is at h; omega) (by omega) (by rw [size6]; omega)
  have n91 : ¬ (pk s.data.toList i : Int) = 91 := by omega
  rw [if_neg h91] at HE
  by_cases h46 : pk s.data.toList i = 46
  · have hlt := pk_is h46 (by decide)
    rw [lt_len] at hlt
    have HN : Hid (RES = .ok (classT .alpha) (i + 1)) := Lib.hid (by rw [HE.out, if_pos h46])
    have HC := Lib.hid (classOf_any .alpha)
    have q1 := HR1.out.at
    have q2 := HR1.out.free 1
    obtain ⟨a0, a1, a2, a3⟩ := HA1.out
    have hne : (0 : Nat) ≠ b := HGB.out
    unfold S4.val PT.val at HC
    generalize S4.alpha.a = xa at *
    generalize S4.alpha.b = xb at *
    generalize S4.alpha.c = xc at *
    generalize S4.alpha.d = xd at *
    rw [h46] at HPk
    clear HE h46 HPp HA1
    go_enter Tryd.func84, Tryd.ntmps84
    go_wp2_with fail
    rw [← HW1.out]
    refine HPk.out.mono ?_
    rintro e w2 ⟨rfl, m, rfl⟩
    clear HPk
    go_wp2_with fail
    have HR2 : Hid (RD ((w1.drewN m).setCell ⟨b, 1, none⟩ (.int .i64 ((i : Int) + 1))) b s (i + 1)) := Lib.hid ((HR1.out.drewN m).step)
    have HZ2 : Hid (Z6 ((w1.drewN m).setCell ⟨b, 1, none⟩ (.int .i64 ((i : Int) + 1))) w.heap.size) := Lib.hid (Box6.of_block HZ1.out (Below.heap_setCell (w1.drewN m) _ _ _ (by show w.heap.size ≠ b; omega)))
    have HK2 : Hid (Kp w.heap.size (Is b) w ((w1.drewN m).setCell ⟨b, 1, none⟩ (.int .i64 ((i : Int) + 1)))) := Lib.hid ((HK1.out.drewN m).set ⟨b, 1, none⟩ (Is.self b) _)
    refine (HC.out _).mono ?_
    rintro e w5 ⟨rfl, hb5⟩
    obtain ⟨z0, z1, z2, z3, z4, z5, zf⟩ := HZ2.out.later hb5 HZ2.out.lt
    have HR5 := Lib.hid (HR2.out.bel hb5)
    have HK5 := Lib.hid (HK2.out.bel hb5 HK2.out.size)
    clear hb5 HC
    go_wp2_with fail
    refine bodyPost_ret (v := .tuple #[.agg #[.int .i64 (classT .alpha).k, .int .u64 (classT .alpha).s.a, .int .u64 (classT .alpha).s.b, .int .u64 (classT .alpha).s.c, .int .u64 (classT .alpha).s.d, .slice none 0 0], .bool true]) (by simp [results, Tryd.results84, go_sem, *]) rfl ?_
    rw [HN.out]
    exact ⟨OutE.leaf _ _ _ _ (classT_l _), (at6 (by omega) _ _ _ _ _ _).trans HR5.out, kp6 HK5.out (Nat.le_refl _) _ _ _ _ _ _⟩
  have n46 : ¬ (pk s.data.toList i : Int) = 46 := by omega
  rw [if_neg h46] at HE
  by_cases h92 : pk s.data.toList i = 92
  · have hlt := pk_is h92 (by decide)
    rw [lt_len] at hlt
    rw [if_pos h92] at HE
    have q1 := HR1.out.at
    have q2 := HR1.out.free 1
    have HR2 : Hid (∀ m k, RD (((w1.drewN m).setCell ⟨b, 1, none⟩ (.int .i64 ((i : Int) + 1))).drewN k) b s (i + 1)) := Lib.hid (fun m k => ((HR1.out.drewN m).step).drewN k)
    have HZ2 : Hid (∀ m k, Z6 (((w1.drewN m).setCell ⟨b, 1, none⟩ (.int .i64 ((i : Int) + 1))).drewN k) w.heap.size) := Lib.hid (fun m k => (Box6.of_block HZ1.out (Below.heap_setCell (w1.drewN m) _ _ _ (by show w.heap.size ≠ b; omega))))
    have HK2 : Hid (∀ m k, Kp w.heap.size (Is b) w (((w1.drewN m).setCell ⟨b, 1, none⟩ (.int .i64 ((i : Int) + 1))).drewN k)) := Lib.hid (fun m k => ((HK1.out.drewN m).set ⟨b, 1, none⟩ (Is.self b) _).drewN k)
    have HP2 : Hid (∀ m, Calls Tryd.prog 70 #[.pointer (some ⟨b, 0, none⟩)] ((w1.drewN m).setCell ⟨b, 1, none⟩ (.int .i64 ((i : Int) + 1))) fun e w' => e = .returned (.int .u8 (pk s.data.toList (i + 1) : Int)) ∧ ∃ k, w' = ((w1.drewN m).setCell ⟨b, 1, none⟩ (.int .i64 ((i : Int) + 1))).drewN k) :=
      Lib.hid (fun m => peek_any _ b s (i + 1) (HR2.out m 0) (by omega))
    have hc2 := pk_lt s.data.toList (i + 1)
    have HS := Lib.hid (isSpecial_any (pk s.data.toList (i + 1)) hc2)
    rw [h92] at HPk
    cases hsp : isSp (pk s.data.toList (i + 1))
    · have HN : Hid (RES = .bad (i + 1)) := Lib.hid (by rw [HE.out, hsp]; rfl)
      rw [hsp] at HS
      generalize pk s.data.toList (i + 1) = p2 at *
      clear HE h92 HPp hsp
      go_enter Tryd.func84, Tryd.ntmps84
      go_wp2_with fail
      rw [← HW1.out]
      refine HPk.out.mono ?_
      rintro e w2 ⟨rfl, m, rfl⟩
      clear HPk
      go_wp2_with fail
      refine (HP2.out m).mono ?_
      rintro e w3 ⟨rfl, k, rfl⟩
      clear HP2
      go_wp2_with fail
      refine (HS.out _).mono ?_
      rintro e w4 ⟨rfl, hw4⟩
      obtain rfl := hw4.symm
      clear HS
      obtain ⟨W, hW⟩ : ∃ W, W = ((w1.drewN m).setCell ⟨b, 1, none⟩ (.int .i64 ((i : Int) + 1))).drewN k := ⟨_, rfl⟩
      rw [← hW]
      have HR5 : Hid (RD W b s (i + 1)) := Lib.hid (by rw [hW]; exact HR2.out m k)
      obtain ⟨z0, z1, z2, z3, z4, z5, zf⟩ : Z6 W w.heap.size := by rw [hW]; exact HZ2.out m k
      have HK5 : Hid (Kp w.heap.size (Is b) w W) := Lib.hid (by rw [hW]; exact HK2.out m k)
      clear hW HR2 HZ2 HK2
      go_wp2_with fail
      refine bodyPost_ret (v := .tuple #[.agg #[.int .i64 0, .int .u64 0, .int .u64 0, .int .u64 0, .int .u64 0, .slice none 0 0], .bool false]) (by simp [results, Tryd.results84, go_sem, *]) rfl ?_
      rw [HN.out]
      exact ⟨OutE.bad _ _ _ (.mk 0 .zero []) _ _ _, (at6 (by omega) _ _ _ _ _ _).trans HR5.out, kp6 HK5.out (Nat.le_refl _) _ _ _ _ _ _⟩
    · have HN : Hid (RES = .ok (oneT (pk s.data.toList (i + 1))) (i + 1 + 1)) := Lib.hid (by rw [HE.out, hsp]; rfl)
      have hlt2 := pk_ne s.data.toList (i + 1) (by have := isSp_lt hsp; omega)
      rw [lt_len] at hlt2
      have HC := Lib.hid (fun m k => single_any (((w1.drewN m).setCell ⟨b, 1, none⟩ (.int .i64 ((i : Int) + 1))).drewN k) b s (i + 1) (HR2.out m k) hlt2 hs)
      have HL := Lib.hid (oneT_l (pk s.data.toList (i + 1)))
      rw [hsp] at HS
      generalize oneT (pk s.data.toList (i + 1)) = t at *
      generalize pk s.data.toList (i + 1) = p2 at *
      clear HE h92 HPp hsp
      go_enter Tryd.func84, Tryd.ntmps84
      go_wp2_with fail
      rw [← HW1.out]
      refine HPk.out.mono ?_
      rintro e w2 ⟨rfl, m, rfl⟩
      clear HPk
      go_wp2_with fail
      refine (HP2.out m).mono ?_
      rintro e w3 ⟨rfl, k, rfl⟩
      clear HP2
      go_wp2_with fail
      refine (HS.out _).mono ?_
      rintro e w4 ⟨rfl, hw4⟩
      obtain rfl := hw4.symm
      clear HS
      go_wp2_with fail
      refine (HC.out m k).mono ?_
      rintro e w5 ⟨rfl, hR5, hK5⟩
      have HR5 := Lib.hid hR5
      have hz5 : Z6 w5 w.heap.size := (HZ2.out m k).kp hK5 (HZ2.out m k).lt (show ¬ Is b w.heap.size by unfold Is; omega)
      obtain ⟨z0, z1, z2, z3, z4, z5, zf⟩ := hz5
      have HK5 := Lib.hid ((HK2.out m k).trans (hK5.less (HK2.out m k).size))
      clear hR5 hK5 HC HR2 HZ2 HK2
      unfold PT.val
      go_wp2_with fail
      refine bodyPost_ret (v := .tuple #[.agg #[.int .i64 t.k, .int .u64 t.s.a, .int .u64 t.s.b, .int .u64 t.s.c, .int .u64 t.s.d, .slice none 0 0], .bool true]) (by simp [results, Tryd.results84, go_sem, *]) rfl ?_
      rw [HN.out]
      exact ⟨OutE.leaf _ _ _ _ HL.out, (at6 (by omega) _ _ _ _ _ _).trans HR5.out, kp6 HK5.out (Nat.le_refl _) _ _ _ _ _ _⟩
  have n92 : ¬ (pk s.data.toList i : Int) = 92 := by omega
  rw [if_neg h92] at HE
  have HPl := Lib.hid (fun m => isPlain_any (pk s.data.toList i) hc (w1.drewN m) (HA1.out.drewN m))
  cases hpl : isPl (pk s.data.toList i)
  · have HN : Hid (RES = .bad i) := Lib.hid (by rw [HE.out, hpl]; rfl)
    rw [hpl] at HPl
    generalize pk s.data.toList i = p at *
    clear HE h40 h91 h46 h92 HPp hpl
    go_enter Tryd.func84, Tryd.ntmps84
    go_wp2_with fail
    rw [← HW1.out]
    refine HPk.out.mono ?_
    rintro e w2 ⟨rfl, m, rfl⟩
    clear HPk
    go_wp2_with fail
    refine (HPl.out m).mono ?_
    rintro e w3 ⟨rfl, hb3⟩
    clear HPl
    have HR5 := Lib.hid ((HR1.out.drewN m).bel hb3)
    have hz5 : Z6 w3 w.heap.size := (HZ1.out.drewN m).later hb3 HZ1.out.lt
    obtain ⟨z0, z1, z2, z3, z4, z5, zf⟩ := hz5
    have HK5 := Lib.hid ((HK1.out.drewN m).bel hb3 (by show w.heap.size ≤ w1.heap.size; omega))
    clear hb3
    go_wp2_with fail
    refine bodyPost_ret (v := .tuple #[.agg #[.int .i64 0, .int .u64 0, .int .u64 0, .int .u64 0, .int .u64 0, .slice none 0 0], .bool false]) (by simp [results, Tryd.results84, go_sem, *]) rfl ?_
    rw [HN.out]
    exact ⟨OutE.bad _ _ _ (.mk 0 .zero []) _ _ _, (at6 (by omega) _ _ _ _ _ _).trans HR5.out, kp6 HK5.out (Nat.le_refl _) _ _ _ _ _ _⟩
  · have HN : Hid (RES = .ok (oneT (pk s.data.toList i)) (i + 1)) := Lib.hid (by rw [HE.out, hpl]; rfl)
    have hlt := pk_ne s.data.toList i (by have := isPl_lt hpl; omega)
    rw [lt_len] at hlt
    have HC := Lib.hid (fun W h => single_any W b s i h hlt hs)
    have HL := Lib.hid (oneT_l (pk s.data.toList i))
    rw [hpl] at HPl
    generalize oneT (pk s.data.toList i) = t at *
    generalize pk s.data.toList i = p at *
    clear HE h40 h91 h46 h92 HPp hpl
    go_enter Tryd.func84, Tryd.ntmps84
    go_wp2_with fail
    rw [← HW1.out]
    refine HPk.out.mono ?_
    rintro e w2 ⟨rfl, m, rfl⟩
    clear HPk
    go_wp2_with fail
    refine (HPl.out m).mono ?_
    rintro e w3 ⟨rfl, hb3⟩
    clear HPl
    have HC3 := Lib.hid (HC.out w3 ((HR1.out.drewN m).bel hb3))
    have hz3 : Z6 w3 w.heap.size := (HZ1.out.drewN m).later hb3 HZ1.out.lt
    have HZ3 := Lib.hid hz3
    have HK3 := Lib.hid ((HK1.out.drewN m).bel hb3 (by show w.heap.size ≤ w1.heap.size; omega))
    clear hb3 HC hz3
    go_wp2_with fail
    refine HC3.out.mono ?_
    rintro e w5 ⟨rfl, hR5, hK5⟩
    have HR5 := Lib.hid hR5
    obtain ⟨z0, z1, z2, z3, z4, z5, zf⟩ := HZ3.out.kp hK5 HZ3.out.lt (show ¬ Is b w.heap.size by unfold Is; omega)
    have HK5 := Lib.hid (HK3.out.trans (hK5.less HK3.out.size))
    clear hR5 hK5 HC3
    unfold PT.val
    go_wp2_with fail
    refine bodyPost_ret (v := .tuple #[.agg #[.int .i64 t.k, .int .u64 t.s.a, .int .u64 t.s.b, .int .u64 t.s.c, .int .u64 t.s.d, .slice none 0 0], .bool true]) (by simp [results, Tryd.results84, go_sem, *]) rfl ?_
    rw [HN.out]
    exact ⟨OutE.leaf _ _ _ _ HL.out, (at6 (by omega) _ _ _ _ _ _).trans HR5.out, kp6 HK5.out (Nat.le_refl _) _ _ _ _ _ _⟩
end Go.Proofs.YtaipaddfehpmgaaDoor
