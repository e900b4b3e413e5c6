/-
  writeQuoted of the package, under a contract of utf8.DecodeRuneInString. Nothing is assumed.
-/
import Derived.Test.YtmbmlcnipncgnaaGreatDoorLtQuote
import Derived.Lib.DecodeN
import Derived.Lib.OthersKept
import Derived.Laws.IdiomStrings
import Derived.Laws.RangeAny
import Derived.OwnWalk
import Derived.Shelf.Strings.MapAny
import Derived.Deep.LoopGhost
namespace Go.Proofs.YtmbmlcnipncgnaaGreatDoor
open Go.RowKit

theorem rune_conts (s : ByteArray) (pos : Nat) (h : pos < s.size) :
    1 ≤ (Utf8.decode s pos).2 ∧ pos + (Utf8.decode s pos).2 ≤ s.size ∧ ∀ j, pos < j → j < pos + (Utf8.decode s pos).2 → ∀ hj : j < s.size, 128 ≤ (s[j]'hj).toNat := by
  have key : ∀ n b0 b1 b2 b3 : Nat, 1 ≤ n → 1 ≤ (Lib.decodeN n b0 b1 b2 b3).2 ∧ (Lib.decodeN n b0 b1 b2 b3).2 ≤ n ∧
      (2 ≤ (Lib.decodeN n b0 b1 b2 b3).2 → 128 ≤ b1) ∧ (3 ≤ (Lib.decodeN n b0 b1 b2 b3).2 → 128 ≤ b2) ∧ (4 ≤ (Lib.decodeN n b0 b1 b2 b3).2 → 128 ≤ b3) ∧ (Lib.decodeN n b0 b1 b2 b3).2 ≤ 4 := by
    intro n b0 b1 b2 b3 hn
    unfold Lib.decodeN
    repeat' split
    all_goals (simp only; omega)
  rw [Lib.decode_at]
  obtain ⟨k0, k1, k2, k3, k4, k5⟩ := key (s.size - pos) (s.get! pos).toNat (s.get! (pos + 1)).toNat (s.get! (pos + 2)).toNat (s.get! (pos + 3)).toNat (by omega)
  refine ⟨k0, by omega, fun j h1 h2 hj => ?_⟩
  have hc : j = pos + 1 ∨ j = pos + 2 ∨ j = pos + 3 := by omega
  rcases hc with rfl | rfl | rfl
  · have := k2 (by omega); rwa [get_at _ _ hj] at this
  · have := k3 (by omega); rwa [get_at _ _ hj] at this
  · have := k4 (by omega); rwa [get_at _ _ hj] at this

theorem grown_none {w w' : World} (h : Below w.heap.size w w') : w.grownBy w' none := ⟨h.os, h.tape, h.output, h.size, fun k hk _ => h.block k hk⟩
theorem atB_later {p : Value} {B : Nat} {l : List Value} {w w' : World} (h : Lib.BuilderAtF 45 5 B B p l w) (hb : Below w.heap.size w w') : Lib.BuilderAtF 45 5 B B p l w' := by
  have hlt := h.lt
  obtain ⟨hB, v, h1, h2, h3⟩ := h
  exact ⟨hB, v, (hb.block B hlt).trans h1, h2.kept (grown_none hb) (Decidable.em (v.ownBlock = none)), h3⟩
theorem isB_later {B : Nat} {l : List UInt8} {w w' : World} (h : IsB B l w) (hb : Below w.heap.size w w') : IsB B l w' := h.elim (fun x => .inl (atB_later x hb)) (fun x => .inr (atB_later x hb))
theorem isB_lt {B : Nat} {l : List UInt8} {w : World} (h : IsB B l w) : B < w.heap.size := h.elim (fun x => x.lt) (fun x => x.lt)
theorem esc_take (s : ByteArray) (i : Nat) (h : i < s.size) : escL (s.data.toList.take (i + 1)) = escL (s.data.toList.take i) ++ escB (s[i]'h) := by
  rw [List.take_add_one, lt_at s i h, ← escL_snoc]
  rfl
/-- What stands so far. -/
def wq (l : List UInt8) (s : ByteArray) (p : Nat) : List UInt8 := l ++ 34 :: escL (s.data.toList.take p)
theorem wq_len (l : List UInt8) (s : ByteArray) (p : Nat) : (wq l s p).length ≤ l.length + 1 + 4 * s.size := by
  unfold wq
  rw [List.length_append, List.length_cons]
  have := escL_len (s.data.toList.take p)
  rw [List.length_take, lt_len] at this
  omega
theorem wq_step (l : List UInt8) (s : ByteArray) (p : Nat) (h : p < s.size) : wq l s p ++ escB (s[p]'h) = wq l s (p + 1) := by
  unfold wq
  rw [esc_take s p h, List.append_assoc, List.cons_append]
theorem wq_zero (l : List UInt8) (s : ByteArray) : l ++ [34] = wq l s 0 := rfl
theorem wq_all (l : List UInt8) (s : ByteArray) : wq l s s.size ++ [34] = l ++ quoteL s.data.toList := by
  unfold wq quoteL
  rw [List.take_of_length_le (by rw [lt_len]; exact Nat.le_refl _), List.append_assoc, List.cons_append]

set_option maxRecDepth 100000 in
set_option maxHeartbeats 1600000 in
theorem wquoted_any (B : Nat) (l : List UInt8) (s : ByteArray) (w : World) (h : IsB B l w) (hlen : l.length ≤ 100000000) (hs : s.size ≤ 100000) (hBw : B ≤ w.heap.size)
    (HD : ∀ (pos : Nat) (wr : World), pos < s.size → Below B w wr → Calls Tryz.prog 65 #[.string (s.extract pos s.size)] wr fun e w' => (∃ r : Int, e = .returned (.tuple #[.int .i32 r, .int .i64 ((Utf8.decode s pos).2 : Int)])) ∧ Below wr.heap.size wr w') :
    Calls Tryz.prog 29 #[.pointer (some ⟨B, 0, none⟩), .string s] w fun e w' => e = .returned (.tuple #[]) ∧ IsB B (l ++ quoteL s.data.toList) w' ∧ Below B w w' := by
  have H1 := Lib.hid (byte_any B l 34 w h (by omega) hBw)
  clear h
  go_enter Tryz.func29, Tryz.ntmps29
  go_wp2_with fail
  refine H1.out.mono ?_
  rintro e w1 ⟨rfl, hB1, hb1, -⟩
  clear H1
  rw [wq_zero l s] at hB1
  have hB1' : IsB B (wq l s 0) (w1.iter s 0) := hB1.alloc _
  have hw1 : B ≤ w1.heap.size := Nat.le_trans hBw hb1.size
  have HB0 := Lib.hid hB1'
  have HI0 := Lib.hid (World.iter_heap w1 s 0)
  have hb0 : Below B w (w1.iter s 0) := hb1.trans ((Below.refl B w1).alloc hw1 _)
  have hBlt := isB_lt hB1
  clear hB1 hB1'
  have hBI : B < w1.heap.size := hBlt
  clear hBlt
  go_wp2_with fail
  go_loopg [4, 5] s.size (fun g _ _ wr => ∃ p : Nat, p + g = s.size ∧ Hid (IsB B (wq l s p) wr) ∧ wr.heap[w1.heap.size]? = some (.stringIter s p) ∧ Below B w wr)
  case atStart => exact ⟨0, by omega, HB0, HI0.out, hb0⟩
  case round =>
    obtain ⟨p, hpg, HB, hit, hbel⟩ := hrel
    have HPG := Lib.hid hpg
    have hp : p ≤ s.size := by omega
    clear hpg
    have hIlt : w1.heap.size < wr.heap.size := (Array.getElem?_eq_some_iff.1 hit).1
    by_cases hlt : p < s.size
    · have hnext := fun ty => Lib.run_next_any_at (P := Tryz.prog) wr w1.heap.size s p ty hit hlt
      have hit2 := Lib.iterAt_heap wr w1.heap.size s p (p + (Utf8.decode s p).2) hit
      have HB2 : Hid (IsB B (wq l s p) (wr.iterAt w1.heap.size s (p + (Utf8.decode s p).2))) := Lib.hid (HB.out.iterAt hit _)
      have hbel2 := Lib.below_iterAt hbel hw1 s (p + (Utf8.decode s p).2)
      have hsz2 : B ≤ (wr.iterAt w1.heap.size s (p + (Utf8.decode s p).2)).heap.size := by rw [Lib.iterAt_size]; omega
      have HL := wq_len l s p
      by_cases hlow : (s[p]'hlt).toNat < 128
      · obtain ⟨e1, e2⟩ : (Utf8.decode s p).1 = (s[p]'hlt).toNat ∧ (Utf8.decode s p).2 = 1 := by rw [decode_ascii s p hlt hlow]; exact ⟨rfl, rfl⟩
        rw [e1, e2] at hnext
        rw [e2] at hit2 HB2 hbel2 hsz2
        have HW := Lib.hid (wesc_any B (wq l s p) (s[p]'hlt) _ HB2.out (by omega) hsz2)
        have hq : ((s[p]'hlt).toNat : Int) < 128 := by omega
        clear e1 e2 HB HB2 hit HL hIlt
        go_wp2_with fail
        refine HW.out.mono ?_
        rintro e w2 ⟨rfl, hB3, hb3, hk3⟩
        clear HW
        rw [wq_step l s p hlt] at hB3
        have HB3 := Lib.hid hB3
        have hit3 := hk3 _ _ hit2 (by simp; omega) (by simp)
        have hbel3 := hbel2.trans hb3
        clear hB3 hb3 hk3 hit2 hbel2 hbel
        go_wp2_with fail
        go_roundg (s.size - (p + 1))
        case measure => have := HPG.out; omega
        case rel => exact ⟨p + 1, by omega, HB3, hit3, hbel3⟩
      · obtain ⟨r1, r2, _⟩ := rune_conts s p hlt
        have hr128 := (decode_high s p hlt (by omega)).1
        have HDp := Lib.hid (HD p _ hlt hbel2)
        generalize (Utf8.decode s p).1 = r at *
        generalize (Utf8.decode s p).2 = n at *
        have hr : ¬ ((r : Int) < 128) := by omega
        have hpi : (p : Int) ≤ (s.size : Int) := by omega
        clear HB hit hlow hr128
        go_wp2_with fail
        refine HDp.out.mono ?_
        rintro e w2 ⟨⟨r', rfl⟩, hb3⟩
        clear HDp
        have hI2 : w1.heap.size < (wr.iterAt w1.heap.size s (p + n)).heap.size := by rw [Lib.iterAt_size]; exact hIlt
        have hit3 := (hb3.block _ hI2).trans hit2
        have HB3 := Lib.hid (isB_later HB2.out hb3)
        have hbel3 := hbel2.trans (hb3.mono hsz2)
        have hB2 : B ≤ w2.heap.size := Nat.le_trans hsz2 hb3.size
        clear hb3 HB2 hit2 hbel2 hbel hI2 hIlt hsz2
        go_wp2_with fail
        go_loopg [31, 8] n (fun g k _ wy => ∃ q : Nat, q + g = n ∧ k = .int .i64 q ∧ Hid (IsB B (wq l s (p + q)) wy) ∧ wy.heap[w1.heap.size]? = some (.stringIter s (p + n)) ∧ Below B w wy)
        case atStart => exact ⟨0, by omega, rfl, HB3, hit3, hbel3⟩
        case round =>
          obtain ⟨q, hqg, rfl, HBq, hitq, hbelq⟩ := hrel
          have HQG := Lib.hid hqg
          have hq : q ≤ n := by omega
          clear hqg HB3 hit3 hbel3 hB2
          by_cases hql : q < n
          · obtain ⟨j, hj⟩ : ∃ j, p + q = j := ⟨_, rfl⟩
            have hji : (p : Int) + (q : Int) = (j : Int) := by omega
            have hjl : j < s.size := by omega
            have hjl' : (j : Int) < (s.size : Int) := by omega
            have hqn : (q : Int) < (n : Int) := by omega
            rw [hj] at HBq
            have hszq : B ≤ wr.heap.size := Nat.le_of_lt (isB_lt HBq.out)
            have hLj := wq_len l s j
            have HW := Lib.hid (wesc_any B (wq l s j) (s[j]'hjl) _ HBq.out (by omega) hszq)
            clear HBq hLj HL
            go_wp2_with fail
            refine HW.out.mono ?_
            rintro e w3 ⟨rfl, hB4, hb4, hk4⟩
            clear HW
            rw [wq_step l s j hjl, show j + 1 = p + (q + 1) by omega] at hB4
            have HB4 := Lib.hid hB4
            have hit4 := hk4 _ _ hitq (by simp; omega) (by simp)
            have hbel4 := hbelq.trans hb4
            clear hB4 hb4 hk4 hitq hbelq
            go_wp2_with fail
            go_roundg (n - (q + 1))
            case measure => have := HQG.out; omega
            case rel => exact ⟨q + 1, by omega, by go_num, HB4, hit4, hbel4⟩
          · obtain rfl : q = n := by omega
            go_wp2_with fail
            go_roundg (s.size - (p + q))
            case measure => have := HPG.out; omega
            case rel => exact ⟨p + q, by omega, HBq, hitq, hbelq⟩
    · obtain rfl : p = s.size := by omega
      have hnext := fun ty => Lib.run_next_end_at (P := Tryz.prog) wr w1.heap.size s s.size ty hit (Nat.lt_irrefl _)
      have HL := wq_len l s s.size
      have HW := Lib.hid (byte_any B (wq l s s.size) 34 wr HB.out (by omega) (by omega))
      clear HB HL
      go_wp2_with fail
      refine HW.out.mono ?_
      rintro e w2 ⟨rfl, hB3, hb3, -⟩
      rw [wq_all] at hB3
      go_wp2_with fail
      go_end0
      exact ⟨rfl, hB3, hbel.trans hb3⟩

theorem decode_go (s : ByteArray) (pos : Nat) (wr : World) (h : pos < s.size) (hT : Lib.Utf8Tabs 0 1 wr) :
    Calls Tryz.prog 65 #[.string (s.extract pos s.size)] wr fun e w' => (∃ r : Int, e = .returned (.tuple #[.int .i32 r, .int .i64 ((Utf8.decode s pos).2 : Int)])) ∧ Below wr.heap.size wr w' := by
  have := Tryz.utf8_DecodeRuneInString (s.extract pos s.size) wr hT
  rw [Lib.decodeGo_extract s pos h] at this
  exact this.mono fun _ _ ⟨h1, h2⟩ => ⟨⟨_, h1⟩, h2⟩

set_option maxRecDepth 100000 in
theorem quote_any (s : ByteArray) (w : World) (hs : s.size ≤ 100000) (HU : ∀ wr, Below w.heap.size w wr → Lib.Utf8Tabs 0 1 wr) :
    Calls Tryz.prog 15 #[.string s] w fun e w' => e = .returned (.string (str (quoteL s.data.toList))) ∧ Below w.heap.size w w' := by
  have hb0 : Below w.heap.size w (w.alloc (.cells #[.pointer none, .slice none 0 0] 45)) := (Below.refl w.heap.size w).alloc (Nat.le_refl _) _
  have HW := Lib.hid (wquoted_any w.heap.size [] s _ (isB_fresh w) (by decide) hs hb0.size (fun pos wr hp hb => decode_go s pos wr hp (HU wr (hb0.trans hb))))
  clear HU
  go_enter Tryz.func15, Tryz.ntmps15
  go_wp2_with fail
  refine HW.out.mono ?_
  rintro e w1 ⟨rfl, hB1, hb1⟩
  have hb2 := hb0.trans hb1
  have HT := Lib.hid (text_any w.heap.size _ w1 hB1 hb2.size)
  clear HW hB1
  go_wp2_with fail
  refine HT.out.mono ?_
  rintro e w2 ⟨rfl, hb3⟩
  go_wp2_with fail
  go_ret
  exact ⟨rfl, hb2.trans hb3⟩

end Go.Proofs.YtmbmlcnipncgnaaGreatDoor
