/-
  The reader's atEnd, peek, word, digit and number. Nothing is assumed.
-/
import Derived.Test.YtmbmlcnipncgnaaGreatDoorLtPure
import Derived.Test.YtmbmlcnipncgnaaGreatDoorShelf
import Derived.Test.YtmbmlcnipncgnaaGreatDoorLtRep
import Derived.BigQuiet
namespace Go.Proofs.YtmbmlcnipncgnaaGreatDoor
open Go.RowKit

/-- All blocks below N but those in X are as they were. -/
structure Kp (N : Nat) (X : Nat → Prop) (w w' : World) : Prop where
  os : w'.os = w.os
  tape : w'.tape = w.tape
  output : w'.output = w.output
  size : w.heap.size ≤ w'.heap.size
  block : ∀ k, k < N → ¬ X k → w'.heap[k]? = w.heap[k]?
theorem Kp.refl (N : Nat) (X : Nat → Prop) (w : World) : Kp N X w w := ⟨rfl, rfl, rfl, Nat.le_refl _, fun _ _ _ => rfl⟩
theorem Kp.trans {N : Nat} {X : Nat → Prop} {a b c : World} (h : Kp N X a b) (k : Kp N X b c) : Kp N X a c :=
  ⟨k.os.trans h.os, k.tape.trans h.tape, k.output.trans h.output, Nat.le_trans h.size k.size, fun i hi hx => (k.block i hi hx).trans (h.block i hi hx)⟩
theorem Kp.mono {N M : Nat} {X Y : Nat → Prop} {a b : World} (h : Kp M Y a b) (hN : N ≤ M) (hX : ∀ k, k < N → Y k → X k) : Kp N X a b :=
  ⟨h.os, h.tape, h.output, h.size, fun i hi hx => h.block i (Nat.lt_of_lt_of_le hi hN) fun hy => hx (hX i hi hy)⟩
theorem Kp.less {N M : Nat} {X : Nat → Prop} {a b : World} (h : Kp M X a b) (hN : N ≤ M) : Kp N X a b := h.mono hN fun _ _ h => h
theorem Kp.of {N M : Nat} {X : Nat → Prop} {a b : World} (h : Below M a b) (hN : N ≤ M) : Kp N X a b := ⟨h.os, h.tape, h.output, h.size, fun i hi _ => h.block i (Nat.lt_of_lt_of_le hi hN)⟩
theorem Kp.below {N M : Nat} {X : Nat → Prop} {a b : World} (h : Kp N X a b) (hM : M ≤ N) (hX : ∀ k, k < M → ¬ X k) : Below M a b := ⟨h.os, h.tape, h.output, h.size, fun i hi => h.block i (Nat.lt_of_lt_of_le hi hM) (hX i hi)⟩
theorem Kp.drewN {N : Nat} {X : Nat → Prop} {a b : World} (h : Kp N X a b) (n : Nat) : Kp N X a (b.drewN n) := ⟨h.os, h.tape, h.output, h.size, h.block⟩
theorem Kp.drew {N : Nat} {X : Nat → Prop} {a b : World} (h : Kp N X a b) : Kp N X a b.drew := ⟨h.os, h.tape, h.output, h.size, h.block⟩
theorem Kp.alloc {N : Nat} {X : Nat → Prop} {a b : World} (h : Kp N X a b) (hN : N ≤ b.heap.size) (o : Obj) : Kp N X a (b.alloc o) := h.trans (.of ((Below.refl N b).alloc hN o) (Nat.le_refl _))
theorem Kp.set {N : Nat} {X : Nat → Prop} {a b : World} (h : Kp N X a b) (p : Addr) (hp : X p.block) (u : Value) : Kp N X a (b.setCell p u) :=
  h.trans ⟨rfl, rfl, rfl, by simp [World.setCell], fun k hk hx => Below.heap_setCell _ _ _ _ (fun e => hx (e ▸ hp))⟩
theorem Kp.cell {N : Nat} {X : Nat → Prop} {w w' : World} (h : Kp N X w w') {p : Addr} (hp : p.block < N) (hx : ¬ X p.block) : w'.cell? p = w.cell? p := World.cell?_of_block (w := w) (h.block p.block hp hx)
theorem Kp.rep {N lo hi : Nat} {X : Nat → Prop} {w w' : World} (h : Kp N X w w') {x : Value} {l : List V} (hr : RepS w (Btw lo hi) x l) (hN : hi ≤ N) (hX : ∀ k, lo ≤ k → k < hi → ¬ X k) {lo' hi' : Nat} (h1 : lo' ≤ lo) (h2 : hi ≤ hi') : RepS w' (Btw lo' hi') x l :=
  hr.later (fun _ hb => ⟨Nat.le_trans h1 hb.1, Nat.lt_of_lt_of_le hb.2 h2⟩) fun b hb o => h.cell (p := ⟨b, o, none⟩) (Nat.lt_of_lt_of_le hb.2 hN) (hX b hb.1 hb.2)

/-- A reader of s in block b, at offset i. -/
def RD (w : World) (b : Nat) (s : ByteArray) (i : Nat) : Prop := w.heap[b]? = some (.cells #[.string s, .int .i64 (i : Int)] 50 (0, 0))
theorem RD.text {w : World} {b : Nat} {s : ByteArray} {i : Nat} (h : RD w b s i) : w.cell? ⟨b, 0, none⟩ = some (.string s) := by unfold World.cell?; rw [h]; rfl
theorem RD.at {w : World} {b : Nat} {s : ByteArray} {i : Nat} (h : RD w b s i) : w.cell? ⟨b, 1, none⟩ = some (.int .i64 (i : Int)) := by unfold World.cell?; rw [h]; rfl
theorem RD.free {w : World} {b : Nat} {s : ByteArray} {i : Nat} (h : RD w b s i) (k : Nat) : w.frozen? ⟨b, k, none⟩ = false := by unfold World.frozen?; rw [h]; simp
theorem RD.lt {w : World} {b : Nat} {s : ByteArray} {i : Nat} (h : RD w b s i) : b < w.heap.size := (Array.getElem?_eq_some_iff.1 h).1
theorem RD.move {w : World} {b : Nat} {s : ByteArray} {i : Nat} (h : RD w b s i) (j : Nat) : RD (w.setCell ⟨b, 1, none⟩ (.int .i64 (j : Int))) b s j := by
  unfold RD at *
  simp [World.setCell, Array.getElem?_modify, h]
theorem RD.later {w w' : World} {b N : Nat} {s : ByteArray} {i : Nat} {X : Nat → Prop} (h : RD w b s i) (hk : Kp N X w w') (hb : b < N) (hX : ¬ X b) : RD w' b s i := (hk.block b hb hX).trans h
theorem RD.new (w : World) (s : ByteArray) (i : Int) (j : Nat) (hj : i = (j : Int)) : RD (w.alloc (.cells #[.string s, .int .i64 i] 50)) w.heap.size s j := by
  subst hj
  show (w.heap.push _)[w.heap.size]? = some _
  rw [Array.getElem?_push, if_pos rfl]

/-- Block b alone. -/
def Is (b k : Nat) : Prop := k = b
theorem Is.self (b : Nat) : Is b b := rfl
set_option maxRecDepth 100000 in
theorem atEnd_any (w : World) (b : Nat) (s : ByteArray) (i : Nat) (h : RD w b s i) :
    Calls Tryz.prog 27 #[.pointer (some ⟨b, 0, none⟩)] w fun e w' => e = .returned (.bool (decide (i = s.size))) ∧ ∃ m, w' = w.drewN m := by
  have h0 := h.text
  have h1 := h.at
  have hd : (((i : Nat) : Int) == ((s.size : Nat) : Int)) = decide (i = s.size) := by
    rw [Bool.eq_iff_iff]
    simp
    omega
  go_enter Tryz.func27, Tryz.ntmps27
  go_wp2_with fail
  go_quiet (fail)
  go_wp2_with fail
  go_ret
  exact ⟨rfl, _, rfl⟩
set_option maxRecDepth 100000 in
theorem peek_any (w : World) (b : Nat) (s : ByteArray) (i : Nat) (h : RD w b s i) (hi : i ≤ s.size) :
    Calls Tryz.prog 51 #[.pointer (some ⟨b, 0, none⟩)] w fun e w' => e = .returned (.int .u8 (pk s.data.toList i : Int)) ∧ ∃ m, w' = w.drewN m := by
  have HA := atEnd_any w b s i h
  by_cases hlt : i < s.size
  · have hpk := pk_in s i hlt
    have h0 := h.text
    have h1 := h.at
    rw [decide_eq_false (show ¬ i = s.size by omega)] at HA
    rw [hpk]
    clear h hpk
    go_enter Tryz.func51, Tryz.ntmps51
    go_wp2_with fail
    refine HA.mono ?_
    rintro e w1 ⟨rfl, m, rfl⟩
    go_wp2_with fail
    go_quiet (fail)
    go_wp2_with fail
    go_ret
    exact ⟨rfl, _, World.drewN_drewN _ _ _⟩
  · rw [pk_out s.data.toList i (by rw [lt_len]; omega)]
    rw [decide_eq_true (show i = s.size by omega)] at HA
    clear h
    go_enter Tryz.func51, Tryz.ntmps51
    go_wp2_with fail
    refine HA.mono ?_
    rintro e w1 ⟨rfl, m, rfl⟩
    go_wp2_with fail
    go_ret
    exact ⟨rfl, _, rfl⟩

theorem wordL_go (W L : List UInt8) (k i : Nat) (hk : k < W.length) (h : pk L i = (W[k]'hk).toNat) : wordL (W.drop k) L i = wordL (W.drop (k + 1)) L (i + 1) := by
  rw [List.drop_eq_getElem_cons hk, wordL, if_pos h]
theorem wordL_no (W L : List UInt8) (k i : Nat) (hk : k < W.length) (h : pk L i ≠ (W[k]'hk).toNat) : wordL (W.drop k) L i = .bad i := by
  rw [List.drop_eq_getElem_cons hk, wordL, if_neg h]
theorem wordL_end (W L : List UInt8) (i : Nat) : wordL (W.drop W.length) L i = .ok () i := by rw [List.drop_length, wordL]
set_option maxRecDepth 100000 in
set_option maxHeartbeats 800000 in
theorem word_any (W : ByteArray) (w : World) (b : Nat) (s : ByteArray) (i : Nat) (h : RD w b s i) (hi : i ≤ s.size) (hs : s.size ≤ 1000000) (hW : W.size ≤ 100) (hz : ∀ k (hk : k < W.size), (W[k]'hk).toNat ≠ 0) :
    Calls Tryz.prog 43 #[.pointer (some ⟨b, 0, none⟩), .string W] w fun e w' => e = .returned (.bool (wordL W.data.toList s.data.toList i).good) ∧ RD w' b s (wordL W.data.toList s.data.toList i).fin ∧ Kp w.heap.size (Is b) w w' := by
  have HZ := Lib.hid hz
  have HR := Lib.hid h
  clear h hz
  go_enter Tryz.func43, Tryz.ntmps43
  go_wp2_with fail
  go_loopw [8] (fun v wr => ∃ k : Nat, k ≤ W.size ∧ v = .int .i64 k ∧ Hid (RD wr b s (i + k)) ∧ i + k ≤ s.size ∧ Hid (wordL W.data.toList s.data.toList i = wordL (W.data.toList.drop k) s.data.toList (i + k)) ∧ Hid (Kp w.heap.size (Is b) w wr)) (fun v _ => W.size - (intOf v).toNat)
  case atStart => exact ⟨0, Nat.zero_le _, rfl, HR, hi, Lib.hid rfl, Lib.hid (.refl _ _ _)⟩
  case round =>
    obtain ⟨k, hk, rfl, HR, hik, HE, HK⟩ := hrel
    by_cases hlt : k < W.size
    · have HP : Hid (∀ n, Calls Tryz.prog 51 #[.pointer (some ⟨b, 0, none⟩)] (wr.drewN n) fun e w' => e = .returned (.int .u8 (pk s.data.toList (i + k) : Int)) ∧ ∃ m, w' = (wr.drewN n).drewN m) := Lib.hid (fun n => peek_any (wr.drewN n) b s (i + k) HR.out hik)
      have hkl : k < W.data.toList.length := by rw [lt_len]; exact hlt
      have hsz := HK.out.size
      by_cases hpk : pk s.data.toList (i + k) = (W[k]'hlt).toNat
      · have hlt2 : i + k < s.size := by
          have := pk_ne s.data.toList (i + k) (by rw [hpk]; exact HZ.out k hlt)
          rwa [lt_len] at this
        have HE2 : Hid (wordL W.data.toList s.data.toList i = wordL (W.data.toList.drop (k + 1)) s.data.toList (i + (k + 1))) := Lib.hid (HE.out.trans (wordL_go _ _ _ _ hkl hpk))
        have hbq : ((pk s.data.toList (i + k) : Int) != ((W[k]'hlt).toNat : Int)) = false := by rw [hpk]; simp
        have h1 := HR.out.at
        have h2 := HR.out.free 1
        clear HE hpk
        go_wp2_with fail
        go_quiet (first | (go_at_call 51; exact Calls.quiet_of (HP.out _)))
        clear HP
        go_wp2_with fail
        go_roundw
        case rel =>
          refine ⟨k + 1, hlt, by go_num, Lib.hid ?_, by omega, HE2, Lib.hid ?_⟩
          · have := RD.move (w := wr.drewN nq) HR.out (i + k + 1)
            simp at this
            rw [Nat.add_assoc] at this
            exact this
          · exact (HK.out.drewN nq).set ⟨b, 1, none⟩ (Is.self b) _
        case measure => simp [intOf]; omega
      · have HE2 : Hid (wordL W.data.toList s.data.toList i = .bad (i + k)) := Lib.hid (HE.out.trans (wordL_no _ _ _ _ hkl hpk))
        have hbq : ((pk s.data.toList (i + k) : Int) != ((W[k]'hlt).toNat : Int)) = true := by rw [bne_iff_ne]; omega
        clear HE hpk
        go_wp2_with fail
        go_quiet (first | (go_at_call 51; exact Calls.quiet_of (HP.out _)))
        clear HP
        go_wp2_with fail
        go_ret
        rw [HE2.out]
        exact ⟨rfl, HR.out, HK.out.drewN nq⟩
    · obtain rfl : k = W.size := by omega
      have HE2 : Hid (wordL W.data.toList s.data.toList i = .ok () (i + W.size)) := Lib.hid (by
        have h := HE.out
        rw [← lt_len W, wordL_end] at h
        rwa [lt_len] at h)
      clear HE
      go_wp2_with fail
      go_ret
      rw [HE2.out]
      exact ⟨rfl, HR.out, HK.out⟩

theorem isDigit_any (c : Nat) (w : World) :
    Calls Tryz.prog 78 #[.int .u8 (c : Int)] w fun e w' => e = .returned (.bool (isD c)) ∧ w' = w := by
  by_cases h : 48 ≤ c
  · have h' : (48 : Int) ≤ (c : Int) := by omega
    have e1 : isD c = decide ((c : Int) ≤ 57) := by
      unfold isD
      rw [decide_eq_true h, Bool.true_and, Bool.eq_iff_iff]
      simp
      omega
    rw [e1]
    go_enter Tryz.func78, Tryz.ntmps78
    go_wp2_with fail
    go_ret
    exact ⟨rfl, rfl⟩
  · have h' : ¬ (48 : Int) ≤ (c : Int) := by omega
    have e1 : isD c = false := by
      unfold isD
      rw [decide_eq_false h, Bool.false_and]
    rw [e1]
    go_enter Tryz.func78, Tryz.ntmps78
    go_wp2_with fail
    go_ret
    exact ⟨rfl, rfl⟩
set_option maxRecDepth 100000 in
theorem digit_any (w : World) (b : Nat) (s : ByteArray) (i : Nat) (h : RD w b s i) (hi : i < s.size) (hs : s.size ≤ 1000000) (hd : isD (pk s.data.toList i) = true) :
    Calls Tryz.prog 79 #[.pointer (some ⟨b, 0, none⟩)] w fun e w' => e = .returned (.int .i64 ((pk s.data.toList i : Int) - 48)) ∧ RD w' b s (i + 1) ∧ Kp w.heap.size (Is b) w w' := by
  have HP := Lib.hid (peek_any w b s i h (by omega))
  obtain ⟨hd1, hd2⟩ := isD_lt hd
  have HR := Lib.hid h
  have h1 := h.at
  have h2 := h.free 1
  clear h hd
  go_enter Tryz.func79, Tryz.ntmps79
  go_wp2_with fail
  refine HP.out.mono ?_
  rintro e w1 ⟨rfl, m, rfl⟩
  clear HP
  go_wp2_with fail
  go_ret
  refine ⟨ret_int ?_, ?_, ?_⟩
  · omega
  · have := RD.move (w := w.drewN m) HR.out (i + 1)
    simpa using this
  · exact ((Kp.refl _ _ w).drewN m).set ⟨b, 1, none⟩ (Is.self b) _
theorem RD.alloc {w : World} {b : Nat} {s : ByteArray} {i : Nat} (h : RD w b s i) (o : Obj) : RD (w.alloc o) b s i := by
  unfold RD
  rw [Below.heap_alloc _ _ _ h.lt]
  exact h
theorem Box4.kp {N : Nat} {X : Nat → Prop} {w w1 : World} {n : Nat} {a b c d : Value} (h : Box4 w n a b c d) (hk : Kp N X w w1) (hn : n < N) (hX : ¬ X n) : Box4 w1 n a b c d := h.of_block (hk.block n hn hX)

/-- A value as the program hands it on. -/
def V.val (v : V) (sl : Value) : Value := .agg #[.int .i64 v.t, .int .i64 v.n, .string v.s, sl]
/-- The two results of a reading. -/
def OutE (w w' : World) (r : PR V) (e : Ending) : Prop := match r with
  | .bad _ => ∃ (t n : Int) (S : ByteArray), e = .returned (.tuple #[.agg #[.int .i64 t, .int .i64 n, .string S, .slice none 0 0], .bool false])
  | .ok v _ => ∃ oe ce, e = .returned (.tuple #[.agg #[.int .i64 v.t, .int .i64 v.n, .string v.s, .slice oe v.l.length ce], .bool true]) ∧ RepS w' (Btw w.heap.size w'.heap.size) (.slice oe v.l.length ce) v.l
/-- What a reading leaves. -/
def OutV (X : Nat → Prop) (b : Nat) (s : ByteArray) (w : World) (r : PR V) (e : Ending) (w' : World) : Prop := OutE w w' r e ∧ RD w' b s r.fin ∧ Kp w.heap.size X w w'
theorem OutE.plain (w w' : World) (t n : Int) (S : ByteArray) (i : Nat) : OutE w w' (.ok (.mk t n S []) i) (.returned (.tuple #[.agg #[.int .i64 t, .int .i64 n, .string S, .slice none 0 0], .bool true])) := ⟨none, 0, rfl, RepS.nil⟩
theorem OutE.none (w w' : World) (i : Nat) (t n : Int) (S : ByteArray) : OutE w w' (.bad i) (.returned (.tuple #[.agg #[.int .i64 t, .int .i64 n, .string S, .slice none 0 0], .bool false])) := ⟨t, n, S, rfl⟩
end Go.Proofs.YtmbmlcnipncgnaaGreatDoor
