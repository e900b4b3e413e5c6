/-
  quoted of the package. Nothing is assumed.
-/
import Derived.Test.YtmbmlcnipncgnaaGreatDoorLtAccept
import Derived.Test.YtmbmlcnipncgnaaGreatDoorLtLoc
import Derived.Lib.DecodeN
import Derived.Lib.OthersKept
import Derived.Laws.IdiomStrings
import Derived.Laws.RangeAny
import Derived.Deep.LoopGhost
namespace Go.Proofs.YtmbmlcnipncgnaaGreatDoor
open Go.RowKit

theorem qstep_high (most : Nat) (any : Bool) (C : List UInt8) (c : Nat) (st : QSt) (h : 128 ≤ c) : qstep most any C c st = none := by
  have hx : hexv c = none := by unfold hexv; rw [if_neg (by omega), if_neg (by omega)]
  cases st
  · simp only [qstep]
    rw [if_neg (by omega), if_neg (by omega)]
  · simp only [qstep]
    rw [if_neg (by omega), if_neg (by omega)]
  · exact qstep_hex1n most any C c hx
  · exact qstep_hex2n most any C c _ hx
theorem qstep_len {most : Nat} {any : Bool} {C C' : List UInt8} {c : Nat} {st st' : QSt} (h : qstep most any C c st = some (st', C')) : C'.length ≤ C.length + 1 := by
  cases st <;> simp only [qstep] at h
  · split at h
    · split at h <;> simp at h
      rw [← h.2]; omega
    · split at h <;> simp at h
      rw [← h.2]; simp
  · split at h
    · simp at h
      rw [← h.2]; simp
    · split at h <;> simp at h
      rw [← h.2]; omega
  · split at h
    · cases h
    · split at h <;> simp at h
      rw [← h.2]; omega
  · split at h
    · cases h
    · split at h <;> simp at h
      rw [← h.2]; simp
theorem QD.kp {w w' : World} {base q least most N : Nat} {any : Bool} {C : List UInt8} {st : QSt} {X : Nat → Prop} (h : QD w base q least most any C st) (hk : Kp N X w w') (hN : w.heap.size ≤ N) (hq : ¬ X q) (hX : ∀ k, base ≤ k → ¬ X k) : QD w' base q least most any C st := by
  obtain ⟨ao, cap, hh, h6, ho, hqb, h1, h2⟩ := h
  refine ⟨ao, cap, hh, (hk.block q (Nat.lt_of_lt_of_le h6.lt hN) hq).trans h6, ⟨ho.1, ?_⟩, hqb, h1, h2⟩
  rcases ho.2 with h | ⟨g, cp, cur, hv, hg, hh, r⟩
  · exact .inl h
  · exact .inr ⟨g, cp, cur, hv, hg, (hk.block g (Nat.lt_of_lt_of_le (Array.getElem?_eq_some_iff.1 hh).1 hN) (hX g hg)).trans hh, r⟩
/-- What quoted returns. -/
def QuE (r : PR (List UInt8)) (e : Ending) : Prop := match r with
  | .bad _ => e = .returned (.tuple #[.string ⟨#[]⟩, .bool false])
  | .ok C _ => e = .returned (.tuple #[.string (str C), .bool true])
theorem RD.iterAt {w : World} {b : Nat} {s : ByteArray} {k : Nat} (h : RD w b s k) {I : Nat} (hne : b ≠ I) (X : ByteArray) (p : Nat) : RD (w.iterAt I X p) b s k := by
  unfold RD at *
  exact (Lib.iterAt_other w I b X p hne).trans h
theorem kp_iterAt (w : World) (I : Nat) (X : ByteArray) (p : Nat) : Kp w.heap.size (Is I) w (w.iterAt I X p) :=
  ⟨rfl, rfl, rfl, by rw [Lib.iterAt_size]; exact Nat.le_refl _, fun k _ hk => Lib.iterAt_other w I k X p hk⟩
theorem heap_new (w : World) (X : Obj) : (w.alloc X).heap[w.heap.size]? = some X := by
  show (w.heap.push X)[w.heap.size]? = some X
  rw [Array.getElem?_push, if_pos rfl]


set_option maxRecDepth 100000 in
set_option maxHeartbeats 3200000 in
theorem quoted_any (w : World) (b least most : Nat) (any : Bool) (s : ByteArray) (i : Nat) (h : RD w b s i) (hi : i ≤ s.size) (hs : s.size ≤ 1000000) (hm : most ≤ 9223372036854775807) (hl : least ≤ 100) (_hlm : 0 ≤ most) :
    Calls Tryz.prog 28 #[.pointer (some ⟨b, 0, none⟩), (.agg #[.int .i64 (least : Int), .int .i64 (most : Int), .bool any, .slice none 0 0, .int .i64 0, .int .u8 0])] w fun e w' => QuE (qL least most any s.data.toList i) e ∧ RD w' b s (qL least most any s.data.toList i).fin ∧ Kp w.heap.size (Is b) w w' := by
  have hblt : b < w.heap.size := h.lt
  have HWD := Lib.hid (word_any ⟨#[34]⟩ (w.alloc (.cells #[.int .i64 (least : Int), .int .i64 (most : Int), .bool any, .slice none 0 0, .int .i64 0, .int .u8 0] 64)) b s i (h.alloc _) hi hs (by decide) (by decide))
  have HQ0 : Hid (∀ base, w.heap.size < base → QD (w.alloc (.cells #[.int .i64 (least : Int), .int .i64 (most : Int), .bool any, .slice none 0 0, .int .i64 0, .int .u8 0] 64)) base w.heap.size least most any [] .whole) := Lib.hid (fun base hb => ⟨none, 0, 0, heap_new w _, OwnB.none _ _, hb, trivial, by simp [QSt.more]⟩)
  rw [qL_at]
  have hK0 : Kp w.heap.size (Is b) w (w.alloc (.cells #[.int .i64 (least : Int), .int .i64 (most : Int), .bool any, .slice none 0 0, .int .i64 0, .int .u8 0] 64)) := (Kp.refl _ _ w).alloc (Nat.le_refl _) _
  have HK0 := Lib.hid hK0
  clear h hK0
  by_cases h34 : pk s.data.toList i = 34
  · rw [if_pos h34]
    have hw1 : wordL (⟨#[34]⟩ : ByteArray).data.toList s.data.toList i = .ok () (i + 1) := by
      show wordL [34] s.data.toList i = _
      rw [wordL, if_pos (show pk s.data.toList i = UInt8.toNat 34 from h34), wordL]
    rw [hw1] at HWD
    have hil := pos_of_pk h34 (by decide)
    rw [lt_len] at hil
    obtain ⟨j, hj⟩ : ∃ j, i + 1 = j := ⟨_, rfl⟩
    rw [hj] at HWD ⊢
    have hjs : j ≤ s.size := by omega
    obtain ⟨X, hX⟩ : ∃ X, s.extract j s.size = X := ⟨_, rfl⟩
    have hXl : X.data.toList = s.data.toList.drop j := by
      rw [← hX, ByteArray.data_extract, Array.toList_extract, List.extract_eq_take_drop, List.take_of_length_le (by rw [List.length_drop, lt_len]; omega)]
    have hXs : X.size + j = s.size := by
      have := congrArg List.length hXl
      rw [lt_len, List.length_drop, lt_len] at this
      omega
    have HR0 : Hid (qrun least most any .whole [] (s.data.toList.drop j) j = qrun least most any .whole [] (X.data.toList.drop 0) (j + 0)) := Lib.hid (by rw [hXl]; rfl)
    generalize hRR : qrun least most any .whole [] (s.data.toList.drop j) j = R at *
    have hji : (j : Int) ≤ (s.size : Int) := by omega
    have hj0 : (0 : Int) ≤ (j : Int) := by omega
    clear hw1 hXl h34 hj hRR
    go_enter Tryz.func28, Tryz.ntmps28
    go_wp2_with fail
    refine HWD.out.mono ?_
    rintro e w1 ⟨rfl, hR1, hk1⟩
    clear HWD
    have hR1 : RD w1 b s j := hR1
    have h0 := hR1.text
    have h1 := hR1.at
    have hW1 : w.heap.size < w1.heap.size := by have := hk1.size; simp at this; omega
    have HQ1 : Hid (QD w1 (w1.heap.size + 1) w.heap.size least most any [] .whole) := Lib.hid ((HQ0.out _ (by omega)).kp hk1 (Nat.le_refl _) (by unfold Is; omega) (by unfold Is; omega))
    have HK1 : Hid (Kp w.heap.size (Is b) w w1) := Lib.hid (HK0.out.trans (hk1.less (by simp)))
    have HR1 := Lib.hid hR1
    have HI1 := Lib.hid (World.iter_heap w1 X 0)
    clear hR1 hk1 HQ0 HK0
    go_wp2_with fail
    go_loopg [7] X.size (fun g _ wr => ∃ (p k : Nat) (C : List UInt8) (st : QSt), p + g = X.size ∧ Hid (RD wr b s k) ∧ Hid (QD wr (w1.heap.size + 1) w.heap.size least most any C st) ∧ wr.heap[w1.heap.size]? = some (.stringIter X p) ∧ Hid (Kp w.heap.size (Is b) w wr) ∧ Hid (R = qrun least most any st C (X.data.toList.drop p) (j + p)) ∧ C.length ≤ p)
    case atStart =>
      refine ⟨0, j, [], .whole, by omega, Lib.hid (HR1.out.alloc _), Lib.hid ?_, HI1.out, Lib.hid (HK1.out.alloc (by omega) _), HR0, by simp⟩
      exact HQ1.out.kp (X := fun _ => False) (.of (below1 w1 _) (Nat.le_refl _)) (Nat.le_refl _) (fun h => h) (fun _ _ h => h)
    case round =>
      obtain ⟨p, k, C, st, hpg, HR, HQ, hit, HK, HE, hCp⟩ := hrel
      have HPG := Lib.hid hpg
      have hp : p ≤ X.size := by omega
      clear hpg HR0 HQ1 HI1 HK1 HR1 h0 h1
      have hIlt : w1.heap.size < wr.heap.size := (Array.getElem?_eq_some_iff.1 hit).1
      have hbI : b ≠ w1.heap.size := by omega
      have hC : C.length ≤ 10000000 := by omega
      by_cases hlt : p < X.size
      · have hnext := fun ty => Lib.run_next_any_at (P := Tryz.prog) wr w1.heap.size X p ty hit hlt
        have hit2 := Lib.iterAt_heap wr w1.heap.size X p (p + (Utf8.decode X p).2) hit
        have HR2 : Hid (RD (wr.iterAt w1.heap.size X (p + (Utf8.decode X p).2)) b s k) := Lib.hid (HR.out.iterAt hbI X _)
        have HK2 : Hid (Kp wr.heap.size (Is w1.heap.size) wr (wr.iterAt w1.heap.size X (p + (Utf8.decode X p).2))) := Lib.hid (kp_iterAt wr w1.heap.size X _)
        have hsz2 : (wr.iterAt w1.heap.size X (p + (Utf8.decode X p).2)).heap.size = wr.heap.size := Lib.iterAt_size _ _ _ _
        obtain ⟨c, hc⟩ : ∃ c, (Utf8.decode X p).1 = c := ⟨_, rfl⟩
        obtain ⟨n, hn⟩ : ∃ n, (Utf8.decode X p).2 = n := ⟨_, rfl⟩
        have HD : Hid ((c < 128 ∧ n = 1 ∧ (X[p]'hlt).toNat = c) ∨ (128 ≤ c ∧ 128 ≤ (X[p]'hlt).toNat)) := Lib.hid (by
          by_cases hlow : (X[p]'hlt).toNat < 128
          · rw [decode_ascii X p hlt hlow] at hc hn
            simp only at hc hn
            omega
          · have := decode_high X p hlt (by omega)
            rw [hc] at this
            exact .inr ⟨this.1, by omega⟩)
        rw [hc, hn] at hnext
        rw [hn] at hit2 HR2 HK2 hsz2
        clear hc hn hit
        generalize wr.iterAt w1.heap.size X (p + n) = W2 at *
        obtain ⟨jp, hjp⟩ : ∃ jp, j + p = jp := ⟨_, rfl⟩
        have hjpi : (j : Int) + (p : Int) = (jp : Int) := by omega
        have hjps : jp < s.size := by omega
        have hjps' : (jp : Int) < (s.size : Int) := by omega
        have g1 := HR2.out.at
        have f1 := HR2.out.free 1
        have HR3 : Hid (RD (W2.setCell ⟨b, 1, none⟩ (.int .i64 (jp : Int))) b s jp) := Lib.hid (HR2.out.move jp)
        have hkb : Kp W2.heap.size (Is b) W2 (W2.setCell ⟨b, 1, none⟩ (.int .i64 (jp : Int))) := (Kp.refl _ _ W2).set ⟨b, 1, none⟩ (Is.self b) _
        have hq2 := HQ.out.kp HK2.out (Nat.le_refl _) (by unfold Is; omega) (fun k hk h => by unfold Is at h; omega)
        have HQ3 : Hid (QD (W2.setCell ⟨b, 1, none⟩ (.int .i64 (jp : Int))) (w1.heap.size + 1) w.heap.size least most any C st) := Lib.hid (hq2.kp hkb (Nat.le_refl _) (by unfold Is; omega) (fun k hk h => by unfold Is at h; omega))
        have HK3 : Hid (Kp w.heap.size (Is b) w (W2.setCell ⟨b, 1, none⟩ (.int .i64 (jp : Int)))) := Lib.hid ((HK.out.trans (HK2.out.mono (by omega) (fun k hk h => by unfold Is at h; omega))).set ⟨b, 1, none⟩ (Is.self b) _)
        have hit3 : (W2.setCell ⟨b, 1, none⟩ (.int .i64 (jp : Int))).heap[w1.heap.size]? = some (.stringIter X (p + n)) := (Below.heap_setCell W2 ⟨b, 1, none⟩ _ _ (Ne.symm hbI)).trans hit2
        have hsz3 : (W2.setCell ⟨b, 1, none⟩ (.int .i64 (jp : Int))).heap.size = W2.heap.size := by simp [World.setCell]
        have HM : Hid (∀ m, Calls Tryz.prog 61 #[.pointer (some ⟨w.heap.size, 0, none⟩)] ((W2.setCell ⟨b, 1, none⟩ (.int .i64 (jp : Int))).drewN m) fun e w' => e = .returned (.bool (st.isWhole && decide (least ≤ C.length))) ∧ ∃ m', w' = ((W2.setCell ⟨b, 1, none⟩ (.int .i64 (jp : Int))).drewN m).drewN m') :=
          Lib.hid (fun m => mayEnd_any ((W2.setCell ⟨b, 1, none⟩ (.int .i64 (jp : Int))).drewN m) (w1.heap.size + 1) w.heap.size least most any C st HQ3.out hm hl)
        clear hq2 hkb HR HQ HK2 HK hit2 HR2 
        have HX := Lib.hid (lt_drop X p hlt)
        by_cases hend : st.isWhole = true ∧ c = 34 ∧ least ≤ C.length
        · obtain ⟨he1, he2, he3⟩ := hend
          have hn1 : n = 1 := by rcases HD.out with h | h <;> omega
          have hcX : (X[p]'hlt).toNat = 34 := by rcases HD.out with h | h <;> omega
          have HN : Hid (R = .ok C (jp + 1)) := Lib.hid (by rw [HE.out, HX.out, qrun, if_pos ⟨he1, hcX, he3⟩, hjp])
          have hb1 : (st.isWhole && decide (least ≤ C.length)) = true := by rw [he1, decide_eq_true he3]; rfl
          rw [hb1] at HM
          have hc34 : ((c : Int) == 34) = true := by rw [he2]; rfl
          have d1 := HR3.out.at
          have g2 := HR3.out.free 1
          have HR5 : Hid (∀ m, RD (((W2.setCell ⟨b, 1, none⟩ (.int .i64 (jp : Int))).drewN m).setCell ⟨b, 1, none⟩ (.int .i64 ((jp : Int) + 1))) b s (jp + 1)) := Lib.hid (fun m => RD.move (w := (W2.setCell ⟨b, 1, none⟩ (.int .i64 (jp : Int))).drewN m) HR3.out (jp + 1))
          obtain ⟨ao, cap, hh, h6, ho, -, -, -⟩ := HQ3.out
          have h3 := h6.cells.2.2.2.1
          have HO := Lib.hid ho
          have hcv : ∀ m, (convert 43 9 (.slice ao C.length cap)).run Tryz.prog (((W2.setCell ⟨b, 1, none⟩ (.int .i64 (jp : Int))).drewN m).setCell ⟨b, 1, none⟩ (.int .i64 ((jp : Int) + 1))) = .ok (.string (str C)) (((W2.setCell ⟨b, 1, none⟩ (.int .i64 (jp : Int))).drewN m).setCell ⟨b, 1, none⟩ (.int .i64 ((jp : Int) + 1))) :=
            fun m => OwnB.string (base := w1.heap.size + 1) (ownsRow_setCell_below (w := (W2.setCell ⟨b, 1, none⟩ (.int .i64 (jp : Int))).drewN m) (a := ⟨b, 1, none⟩) HO.out (by simp; omega) _)
          clear h6 ho HE HD he1 he2 hb1 hcX
          go_wp2_with fail
          refine (HM.out 0).mono ?_
          rintro e w4 ⟨rfl, m1, rfl⟩
          clear HM
          go_wp2_with fail
          go_ret2
          rw [HN.out]
          exact ⟨rfl, HR5.out _, (HK3.out.drewN _).set ⟨b, 1, none⟩ (Is.self b) _⟩
        · have HA : Hid (∀ m, Calls Tryz.prog 62 #[.pointer (some ⟨w.heap.size, 0, none⟩), .int .i32 (c : Int)] ((W2.setCell ⟨b, 1, none⟩ (.int .i64 (jp : Int))).drewN m) (QOut (w1.heap.size + 1) w.heap.size least most any ((W2.setCell ⟨b, 1, none⟩ (.int .i64 (jp : Int))).drewN m) (qstep most any C c st))) :=
            Lib.hid (fun m => accept_any ((W2.setCell ⟨b, 1, none⟩ (.int .i64 (jp : Int))).drewN m) (w1.heap.size + 1) w.heap.size least most any C st c HQ3.out hm (by show _ ≤ (W2.setCell _ _).heap.size; omega) hC)
          have HE2 : Hid (match qstep most any C c st with
              | none => R = .bad jp
              | some r => n = 1 ∧ R = qrun least most any r.1 r.2 (X.data.toList.drop (p + 1)) (j + (p + 1))) := Lib.hid (by
            rcases HD.out with ⟨h1, h2, h3⟩ | ⟨h1, h2⟩
            · rw [HE.out, HX.out, qrun_go _ _ _ _ _ _ _ _ (by rw [h3]; exact hend), h3, hjp]
              split
              · rename_i hq; rw [hq]
              · rename_i r hq; rw [hq]; exact ⟨h2, by rw [← hjp]; rfl⟩
            · rw [qstep_high most any C c st h1]
              show R = .bad jp
              rw [HE.out, HX.out, qrun_go _ _ _ _ _ _ _ _ (by rintro ⟨_, h, _⟩; omega), qstep_high most any C _ st h2, hjp])
          have hend' : (st.isWhole && decide (least ≤ C.length)) = true → ((c : Int) == 34) = false := fun h => by
            rw [Bool.and_eq_true, decide_eq_true_eq] at h
            rw [beq_eq_false_iff_ne]
            intro h2
            exact hend ⟨h.1, by omega, h.2⟩
          have hlen : ∀ st' C', qstep most any C c st = some (st', C') → C'.length ≤ C.length + 1 := fun _ _ h => qstep_len h
          clear hend HE HD HX
          generalize qstep most any C c st = q at *
          generalize (st.isWhole && decide (least ≤ C.length)) = bq at *
          cases q with
          | none =>
            have HN : Hid (R = .bad jp) := Lib.hid HE2.out
            clear HE2 hlen
            have HA : Hid (∀ m, Calls Tryz.prog 62 #[.pointer (some ⟨w.heap.size, 0, none⟩), .int .i32 (c : Int)] ((W2.setCell ⟨b, 1, none⟩ (.int .i64 (jp : Int))).drewN m) fun e w' => Kp (w1.heap.size + 1) (Is w.heap.size) ((W2.setCell ⟨b, 1, none⟩ (.int .i64 (jp : Int))).drewN m) w' ∧ e = .returned (.bool false)) := Lib.hid HA.out
            cases bq
            · clear hend'
              go_wp2_with fail
              refine (HM.out 0).mono ?_
              rintro e w4 ⟨rfl, m1, rfl⟩
              clear HM
              go_wp2_with fail
              refine (HA.out _).mono ?_
              rintro e w4 ⟨hk4, rfl⟩
              have HR4 : Hid (RD w4 b s jp) := Lib.hid ((hk4.block b (by omega) (by unfold Is; omega)).trans HR3.out)
              have HK4 : Hid (Kp w.heap.size (Is b) w w4) := Lib.hid ((HK3.out.drewN _).trans (hk4.mono (by omega) (fun k hk h => by unfold Is at h; omega)))
              clear hk4 HA HR3 HQ3 HK3 hit3
              go_wp2_with fail
              go_ret2
              rw [HN.out]
              exact ⟨rfl, HR4.out, HK4.out⟩
            · have hc34 := hend' rfl
              clear hend'
              go_wp2_with fail
              refine (HM.out 0).mono ?_
              rintro e w4 ⟨rfl, m1, rfl⟩
              clear HM
              go_wp2_with fail
              refine (HA.out _).mono ?_
              rintro e w4 ⟨hk4, rfl⟩
              have HR4 : Hid (RD w4 b s jp) := Lib.hid ((hk4.block b (by omega) (by unfold Is; omega)).trans HR3.out)
              have HK4 : Hid (Kp w.heap.size (Is b) w w4) := Lib.hid ((HK3.out.drewN _).trans (hk4.mono (by omega) (fun k hk h => by unfold Is at h; omega)))
              clear hk4 HA HR3 HQ3 HK3 hit3
              go_wp2_with fail
              go_ret2
              rw [HN.out]
              exact ⟨rfl, HR4.out, HK4.out⟩
          | some r =>
            obtain ⟨st', C'⟩ := r
            obtain ⟨rfl, hR⟩ := HE2.out
            have HN := Lib.hid hR
            have hC' := hlen _ _ rfl
            clear HE2 hlen hR
            have HA : Hid (∀ m, Calls Tryz.prog 62 #[.pointer (some ⟨w.heap.size, 0, none⟩), .int .i32 (c : Int)] ((W2.setCell ⟨b, 1, none⟩ (.int .i64 (jp : Int))).drewN m) fun e w' => Kp (w1.heap.size + 1) (Is w.heap.size) ((W2.setCell ⟨b, 1, none⟩ (.int .i64 (jp : Int))).drewN m) w' ∧ e = .returned (.bool true) ∧ QD w' (w1.heap.size + 1) w.heap.size least most any C' st') := Lib.hid HA.out
            cases bq
            · clear hend'
              go_wp2_with fail
              refine (HM.out 0).mono ?_
              rintro e w4 ⟨rfl, m1, rfl⟩
              clear HM
              go_wp2_with fail
              refine (HA.out _).mono ?_
              rintro e w4 ⟨hk4, rfl, hq4⟩
              have HR4 : Hid (RD w4 b s jp) := Lib.hid ((hk4.block b (by omega) (by unfold Is; omega)).trans HR3.out)
              have HK4 : Hid (Kp w.heap.size (Is b) w w4) := Lib.hid ((HK3.out.drewN _).trans (hk4.mono (by omega) (fun k hk h => by unfold Is at h; omega)))
              have hit4 : w4.heap[w1.heap.size]? = some (.stringIter X (p + 1)) := (hk4.block w1.heap.size (Nat.lt_succ_self _) (by unfold Is; omega)).trans hit3
              have HQ4 := Lib.hid hq4
              clear hk4 hq4 HA HR3 HQ3 HK3 hit3
              go_wp2_with fail
              go_roundg (X.size - (p + 1))
              case measure => have := HPG.out; omega
              case rel => exact ⟨p + 1, _, _, _, by omega, HR4, HQ4, hit4, HK4, HN, by omega⟩
            · have hc34 := hend' rfl
              clear hend'
              go_wp2_with fail
              refine (HM.out 0).mono ?_
              rintro e w4 ⟨rfl, m1, rfl⟩
              clear HM
              go_wp2_with fail
              refine (HA.out _).mono ?_
              rintro e w4 ⟨hk4, rfl, hq4⟩
              have HR4 : Hid (RD w4 b s jp) := Lib.hid ((hk4.block b (by omega) (by unfold Is; omega)).trans HR3.out)
              have HK4 : Hid (Kp w.heap.size (Is b) w w4) := Lib.hid ((HK3.out.drewN _).trans (hk4.mono (by omega) (fun k hk h => by unfold Is at h; omega)))
              have hit4 : w4.heap[w1.heap.size]? = some (.stringIter X (p + 1)) := (hk4.block w1.heap.size (Nat.lt_succ_self _) (by unfold Is; omega)).trans hit3
              have HQ4 := Lib.hid hq4
              clear hk4 hq4 HA HR3 HQ3 HK3 hit3
              go_wp2_with fail
              go_roundg (X.size - (p + 1))
              case measure => have := HPG.out; omega
              case rel => exact ⟨p + 1, _, _, _, by omega, HR4, HQ4, hit4, HK4, HN, by omega⟩
      · obtain rfl : p = X.size := by omega
        have hnext := fun ty => Lib.run_next_end_at (P := Tryz.prog) wr w1.heap.size X X.size ty hit (Nat.lt_irrefl _)
        have HE2 : Hid (R = .bad s.size) := Lib.hid (by
          rw [HE.out, List.drop_eq_nil_of_le (by rw [lt_len]; exact Nat.le_refl _), qrun_nil]
          congr 1
          omega)
        have h0 := HR.out.text
        have h1 := HR.out.at
        have f1 := HR.out.free 1
        clear HE
        go_wp2_with fail
        go_ret2
        rw [HE2.out]
        exact ⟨rfl, HR.out.move s.size, HK.out.set ⟨b, 1, none⟩ (Is.self b) _⟩
  · rw [if_neg h34]
    have hw1 : wordL (⟨#[34]⟩ : ByteArray).data.toList s.data.toList i = .bad i := by
      show wordL [34] s.data.toList i = _
      rw [wordL, if_neg (show ¬ pk s.data.toList i = UInt8.toNat 34 from h34)]
    rw [hw1] at HWD
    clear hw1 h34
    go_enter Tryz.func28, Tryz.ntmps28
    go_wp2_with fail
    refine HWD.out.mono ?_
    rintro e w1 ⟨rfl, hR1, hk1⟩
    have HR1 := Lib.hid hR1
    have HK1 : Hid (Kp w.heap.size (Is b) w w1) := Lib.hid (HK0.out.trans (hk1.less (by simp)))
    clear HWD hR1 hk1
    go_wp2_with fail
    go_ret2
    exact ⟨rfl, HR1.out, HK1.out⟩

end Go.Proofs.YtmbmlcnipncgnaaGreatDoor
