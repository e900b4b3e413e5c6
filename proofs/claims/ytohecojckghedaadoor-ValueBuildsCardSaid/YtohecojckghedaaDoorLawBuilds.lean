/-
  The walk of ValueBuilds (under way: up to the first comparison).
-/
import Derived.Test.YtohecojckghedaaDoorLawCompares
import Derived.Test.YtohecojckghedaaDoorRefLists
import Derived.Test.YtohecojckghedaaDoorDefault
import Derived.Deep.RegionHeld3
namespace Go.Proofs.YtohecojckghedaaDoor
open Go.RowKit
open Go.Sort (grow)

/-- Six cells of one block. -/
def Box6 (w : World) (g : Nat) (a b c d e f : Value) : Prop :=
  w.cell? ⟨g, 0, none⟩ = some a ∧ w.cell? ⟨g, 1, none⟩ = some b ∧ w.cell? ⟨g, 2, none⟩ = some c ∧ w.cell? ⟨g, 3, none⟩ = some d ∧ w.cell? ⟨g, 4, none⟩ = some e ∧ w.cell? ⟨g, 5, none⟩ = some f
theorem Box6.later {w w1 : World} {g B : Nat} {a b c d e f : Value} (h : Box6 w g a b c d e f) (hb : Below B w w1) (hg : g < B) : Box6 w1 g a b c d e f := by
  obtain ⟨h0, h1, h2, h3, h4, h5⟩ := h
  exact ⟨(hb.cell (p := ⟨g, _, none⟩) hg).trans h0, (hb.cell (p := ⟨g, _, none⟩) hg).trans h1, (hb.cell (p := ⟨g, _, none⟩) hg).trans h2, (hb.cell (p := ⟨g, _, none⟩) hg).trans h3, (hb.cell (p := ⟨g, _, none⟩) hg).trans h4, (hb.cell (p := ⟨g, _, none⟩) hg).trans h5⟩
theorem Box6.new {w : World} {g : Nat} (a b c d e f : Value) (t : Nat) (hn : w.heap.size = g) : Box6 (w.alloc (.cells #[a, b, c, d, e, f] t)) g a b c d e f := by
  subst hn
  exact ⟨cell_at _ _ _ _ _ rfl, cell_at _ _ _ _ _ rfl, cell_at _ _ _ _ _ rfl, cell_at _ _ _ _ _ rfl, cell_at _ _ _ _ _ rfl, cell_at _ _ _ _ _ rfl⟩

set_option maxRecDepth 100000 in
set_option maxHeartbeats 6400000 in
theorem lawBuilds_long (b : Bool) (n : Int) (s : ByteArray) (si st sr : Value) (zs : List Int) (ts : List ByteArray) (rs : List (List ByteArray)) (w : World) (B : Nat) (hi : LInts w B si zs) (ht : LStrs w B st ts) (hr : LRows w B sr rs) (hN : Names w)
    (h : 40 < zs.length ∨ 40 < ts.length ∨ 40 < rs.length) :
    Calls Tryd.prog 8 #[.agg #[.bool b, .int .i64 n, .string s, si, st, sr]] w fun e w' => e = .returned (.bool true) ∧ Below w.heap.size w w' := by
  obtain ⟨oi, ci, rfl, hmi, _⟩ := id hi
  obtain ⟨ot, ct, rfl, hmt, _⟩ := id ht
  obtain ⟨or, cr, rfl, hmr, _⟩ := id hr
  have kk : Below w.heap.size w (w.alloc (.cells #[.bool b, .int .i64 n, .string s, .slice oi zs.length ci, .slice ot ts.length ct, .slice or rs.length cr] 43)) := below1 _ _
  have hal := alive_any _ (hN.later kk)
  by_cases h1 : (40 : Int) < (zs.length : Int)
  · go_enter Tryd.func8, Tryd.ntmps8
    go_wp2_with fail
    refine hal.mono ?_
    rintro e w9 ⟨rfl, hb9⟩
    go_wp2_with fail
    go_ret
    exact ⟨rfl, kk.trans (hb9.mono (by simp))⟩
  by_cases h2 : (40 : Int) < (ts.length : Int)
  · go_enter Tryd.func8, Tryd.ntmps8
    go_wp2_with fail
    refine hal.mono ?_
    rintro e w9 ⟨rfl, hb9⟩
    go_wp2_with fail
    go_ret
    exact ⟨rfl, kk.trans (hb9.mono (by simp))⟩
  have h3 : (40 : Int) < (rs.length : Int) := by omega
  go_enter Tryd.func8, Tryd.ntmps8
  go_wp2_with fail
  refine hal.mono ?_
  rintro e w9 ⟨rfl, hb9⟩
  go_wp2_with fail
  go_ret
  exact ⟨rfl, kk.trans (hb9.mono (by simp))⟩

theorem merge1 {α : Type} {C G : α → Prop} {Goal : Prop} (h : ∀ x, C x → G x) (k : (∀ x, C x → G x) → Goal) : Goal := k h
theorem refOfInt_bel (n : Int) (w : World) :
    Calls Tryd.prog 37 #[.int .i64 n] w fun e w' => e = .returned (.agg #[.int .i64 2, .int .i64 n, .string ⟨#[]⟩, .slice none 0 0]) ∧ Below w.heap.size w w' :=
  (refOfInt_any n w).mono fun _ _ ⟨h1, h2⟩ => ⟨h1, h2 ▸ below1 _ _⟩
theorem refOfPattern_bel (s : ByteArray) (w : World) :
    Calls Tryd.prog 43 #[.string s] w fun e w' => e = .returned (.agg #[.int .i64 8, .int .i64 0, .string s, .slice none 0 0]) ∧ Below w.heap.size w w' :=
  (refOfPattern_any s w).mono fun _ _ ⟨h1, h2⟩ => ⟨h1, h2 ▸ below1 _ _⟩
theorem refEqual_plain (t n : Int) (s : ByteArray) (w : World) :
    Calls Tryd.prog 33 #[.agg #[.int .i64 t, .int .i64 n, .string s, .slice none 0 0], .agg #[.int .i64 t, .int .i64 n, .string s, .slice none 0 0]] w fun e w' => e = .returned (.bool true) ∧ Below w.heap.size w w' := by
  refine (refEqual_any (.mk t n s []) (.mk t n s []) (.slice none 0 0) (.slice none 0 0) w 0 Rep.nil Rep.nil (Nat.zero_le _)).mono ?_
  rintro e w' ⟨rfl, h⟩
  exact ⟨by rw [V.eqb_self], h⟩

set_option maxRecDepth 100000 in
set_option maxHeartbeats 12800000 in
theorem lawBuilds_short (b : Bool) (n : Int) (s : ByteArray) (si st sr : Value) (zs : List Int) (ts : List ByteArray) (rs : List (List ByteArray)) (w : World) (B : Nat) (hi : LInts w B si zs) (ht : LStrs w B st ts) (hr : LRows w B sr rs) (hB : B ≤ w.heap.size) (hN : Names w)
    (n1 : zs.length ≤ 40) (n2 : ts.length ≤ 40) (n3 : rs.length ≤ 40) :
    Calls Tryd.prog 8 #[.agg #[.bool b, .int .i64 n, .string s, si, st, sr]] w fun e w' => e = .returned (.bool true) ∧ Below w.heap.size w w' := by
  obtain ⟨oi, ci, rfl, hmi, _⟩ := id hi
  obtain ⟨ot, ct, rfl, hmt, _⟩ := id ht
  obtain ⟨or, cr, rfl, hmr, hel⟩ := id hr
  have h1 : ¬ (40 : Int) < (zs.length : Int) := by omega
  have h2 : ¬ (40 : Int) < (ts.length : Int) := by omega
  have h3 : ¬ (40 : Int) < (rs.length : Int) := by omega
  go_enter Tryd.func8, Tryd.ntmps8
  go_wp2_with fail
  have kk : Below w.heap.size w (w.alloc (.cells #[.bool b, .int .i64 n, .string s, .slice oi zs.length ci, .slice ot ts.length ct, .slice or rs.length cr] 43)) := below1 _ _
  have x0 : Hid (Box6 (w.alloc (.cells #[.bool b, .int .i64 n, .string s, .slice oi zs.length ci, .slice ot ts.length ct, .slice or rs.length cr] 43)) w.heap.size (.bool b) (.int .i64 n) (.string s) (.slice oi zs.length ci) (.slice ot ts.length ct) (.slice or rs.length cr)) := Box6.new _ _ _ _ _ _ _ rfl
  have hzz : w.heap.size + 1 ≤ (w.alloc (.cells #[.bool b, .int .i64 n, .string s, .slice oi zs.length ci, .slice ot ts.length ct, .slice or rs.length cr] 43)).heap.size := by simp
  have HI0 := Lib.hid (hi.later (kk.mono hB))
  have HT0 := Lib.hid (ht.later (kk.mono hB))
  have HR0 := Lib.hid (hr.later (kk.mono hB))
  have hN0 := Lib.hid hN
  clear hi ht hr hN
  generalize w.alloc (.cells #[.bool b, .int .i64 n, .string s, .slice oi zs.length ci, .slice ot ts.length ct, .slice or rs.length cr] 43) = W at *
  have FIN : Hid (∀ w', Below (w.heap.size + 1) W w' → Below w.heap.size w w') := fun w' h => kk.trans (h.mono (by omega))
  clear h1 h2 h3
  go_loopw [3] (fun i wr => ∃ k : Nat, k ≤ rs.length ∧ i = .int .i64 k ∧ Hid (∀ r, r ∈ rs.take k → r.length ≤ 40) ∧ Below (w.heap.size + 1) W wr) (fun i _ => rs.length - (intOf i).toNat)
  case atStart => exact ⟨0, Nat.zero_le _, rfl, fun r h => by simp at h, Below.refl _ _⟩
  case round =>
    obtain ⟨k, hk, rfl, HK, hbel⟩ := hrel
    have x1 := Lib.hid (x0.out.later hbel (Nat.lt_succ_self _))
    obtain ⟨c0, c1, c2, c3, c4, c5⟩ := x1.out
    have hbw := Lib.hid (FIN.out _ hbel)
    by_cases hlt : k < rs.length
    · obtain ⟨g, off, c, rfl, hg, hc, hcv⟩ := hel k _ (List.getElem?_eq_getElem hlt)
      obtain ⟨oe, ce, rfl, _, _⟩ := id hcv
      have hc1 : wr.cell? ⟨g, off + k, none⟩ = some (.slice oe rs[k].length ce) := (hbw.out.cell (p := ⟨g, _, none⟩) (Nat.lt_of_lt_of_le hg hB)).trans hc
      have hki : (k : Int) < (rs.length : Int) := by omega
      by_cases h4 : (40 : Int) < (rs[k].length : Int)
      · go_wp2_with fail
        refine (alive_any wr (hN0.out.later hbw.out)).mono ?_
        rintro e w9 ⟨rfl, hb9⟩
        go_wp2_with fail
        go_ret
        exact ⟨rfl, hbw.out.trans (hb9.mono hbw.out.size)⟩
      · go_wp2_with fail
        go_roundw
        case rel => exact ⟨k + 1, hlt, by go_num, fun r hr => by
          rw [List.take_succ_eq_append_getElem hlt] at hr
          rcases List.mem_append.1 hr with hr | hr
          · exact HK.out r hr
          · obtain rfl := List.mem_singleton.1 hr
            omega, hbel⟩
        case measure => simp [intOf]; omega
    · obtain rfl : k = rs.length := by omega
      rw [List.take_length] at HK
      go_wp2_with fail
      have hs8 := hbel.size
      have krg : ∀ d os, Below (w.heap.size + 1) W (grow (redrawn wr d) os) := fun d os => hbel.trans ((below_regrown wr d os).mono (by omega))
      have KRG := Lib.hid krg; clear krg
      have q0 := fun d os => cell_regrown c0 d os
      have q1 := fun d os => cell_regrown c1 d os
      obtain ⟨m, hm⟩ : ∃ m : Int, (if b = true then 1 else 0) = m := ⟨_, rfl⟩
      have rb1 := fun d os => Calls.regrown_of (ofBool_any b (grow (redrawn wr d) os))
      have rb2 := fun d os => Calls.regrown_of (refOfBool_any b (grow (redrawn wr d) os))
      have ri1 := fun d os => Calls.regrown_of (ofInt_any n (grow (redrawn wr d) os))
      have ri2 := fun d os => Calls.regrown_of (refOfInt_bel n (grow (redrawn wr d) os))
      have rt1 := fun d os => Calls.regrown_of (ofBits_any n (grow (redrawn wr d) os))
      have rt2 := fun d os => Calls.regrown_of (refOfBits_any n (grow (redrawn wr d) os))
      rw [hm] at rb1 rb2
      clear hm
      have re1 := fun d os => Calls.regrown_of (refEqual_plain 1 m ⟨#[]⟩ (grow (redrawn wr d) os))
      have re2 := fun d os => Calls.regrown_of (refEqual_plain 2 n ⟨#[]⟩ (grow (redrawn wr d) os))
      have re3 := fun d os => Calls.regrown_of (refEqual_plain 4 n ⟨#[]⟩ (grow (redrawn wr d) os))
      refine wp_region_quiet_below (by kernel_rfl) (by kernel_rfl) ?_
      repeat (quiet_step (first | with_reducible exact rb1 _ _ | with_reducible exact rb2 _ _ | with_reducible exact ri1 _ _ | with_reducible exact ri2 _ _ | with_reducible exact rt1 _ _ | with_reducible exact rt2 _ _ | with_reducible exact re1 _ _ | with_reducible exact re2 _ _ | with_reducible exact re3 _ _))
      refine wpQuiet_nil ?_
      intro w' hw'
      obtain ⟨p, rfl⟩ := hw'
      have k2 := KRG.out p.d p.os
      have x2 := Lib.hid (x0.out.later k2 (Nat.lt_succ_self _))
      clear rb1 rb2 ri1 ri2 rt1 rt2 re1 re2 re3 q0 q1 c0 c1 c2 c3 c4 c5 hel
      generalize grow (redrawn wr p.d) p.os = w2 at *
      obtain ⟨c0, c1, c2, c3, c4, c5⟩ := x2.out
      go_wp2_with fail
      -- region 10
      refine wp_region_held_drew (S := (fun w' => w'.cell? ⟨w.heap.size, 0, none⟩ = some (.bool b) ∧ w'.cell? ⟨w.heap.size, 1, none⟩ = some (.int .i64 n) ∧ w'.cell? ⟨w.heap.size, 2, none⟩ = some (.string s) ∧ w'.cell? ⟨w.heap.size, 3, none⟩ = some (.slice oi zs.length ci) ∧ w'.cell? ⟨w.heap.size, 4, none⟩ = some (.slice ot ts.length ct) ∧ w'.cell? ⟨w.heap.size, 5, none⟩ = some (.slice or rs.length cr))) (by kernel_rfl) ?keepR (fun hHeld => ?_)
      case keepR => exact x2.out
      have k3 : Below (w.heap.size + 1) W w2.drew := k2.drew
      clear c0 c1 c2 c3 c4 c5
      refine wpAnyH_take (i := 0) (v := ?vR0) rfl (by kernel_rfl) (by kernel_rfl) (by kernel_rfl) (fun _ _ _ h => h) (Or.inl ⟨by rfl, ?hyR0⟩) (by assumption) ?restR0
      case hyR0 => (intro w0 hSw; (try dsimp only at hSw); first | (go_simp; done) | (go_simp; with_reducible rfl))
      (try simp only [Act.put, List.setIfInBounds_toArray, List.set_cons_zero, List.set_cons_succ, List.getElem_toArray, List.getElem_cons_zero])
      refine wpAnyH_take (i := 1) (v := ?vR1) rfl (by kernel_rfl) (by kernel_rfl) (by kernel_rfl) (fun _ _ _ h => h) (Or.inl ⟨by rfl, ?hyR1⟩) (by assumption) ?restR1
      case hyR1 => (intro w0 hSw; (try dsimp only at hSw); first | (go_simp; done) | (go_simp; with_reducible rfl))
      (try simp only [Act.put, List.setIfInBounds_toArray, List.set_cons_zero, List.set_cons_succ, List.getElem_toArray, List.getElem_cons_zero, List.getElem_cons_succ])
      refine wpAnyH_take (i := 3) (v := ?vR3) rfl (by kernel_rfl) (by kernel_rfl) (by kernel_rfl) (fun _ _ _ h => h) (Or.inl ⟨by rfl, ?hyR3⟩) (by assumption) ?restR3
      case hyR3 => (intro w0 hSw; (try dsimp only at hSw); first | (go_simp; done) | (go_simp; with_reducible rfl))
      (try simp only [Act.put, List.setIfInBounds_toArray, List.set_cons_zero, List.set_cons_succ, List.getElem_toArray, List.getElem_cons_zero, List.getElem_cons_succ])
      refine wpAnyH_take (i := 4) (v := ?vR4) rfl (by kernel_rfl) (by kernel_rfl) (by kernel_rfl) (fun _ _ _ h => h) (Or.inl ⟨by rfl, ?hyR4⟩) (by assumption) ?restR4
      case hyR4 => (intro w0 hSw; (try dsimp only at hSw); first | (go_simp; done) | (go_simp; with_reducible rfl))
      (try simp only [Act.put, List.setIfInBounds_toArray, List.set_cons_zero, List.set_cons_succ, List.getElem_toArray, List.getElem_cons_zero, List.getElem_cons_succ])
      refine wpAnyH_ready (rs := [2]) (by kernel_rfl) (by simp) ?_
      refine AllReadyH.cons rfl (fun K hK => ?_) AllReadyH.nil
      go_simp
      go_at_call 40
      refine (ofText_any s _).mono ?_
      rintro e y1 ⟨rfl, hb⟩
      have l1 : Below (w.heap.size + 1) W y1 := k3.trans (hb.mono (by have := k3.size; omega))
      clear hb
      (try go_simp)
      refine hK.out _ _ ?keepR2 (fun hHeld => ?_)
      case keepR2 => exact (x0.out.later l1 (Nat.lt_succ_self _))
      clear hK K
      (try simp only [Act.put, List.setIfInBounds_toArray, List.set_cons_zero, List.set_cons_succ, List.getElem_toArray, List.getElem_cons_zero, List.getElem_cons_succ])
      refine wpAnyH_ready (rs := [5]) (by kernel_rfl) (by simp) ?_
      refine AllReadyH.cons rfl (fun K hK => ?_) AllReadyH.nil
      go_simp
      go_at_call 41
      refine (refOfText_any s _).mono ?_
      rintro e y2 ⟨rfl, hb⟩
      have l2 : Below (w.heap.size + 1) W y2 := l1.trans (hb.mono (by have := l1.size; omega))
      clear hb
      (try go_simp)
      refine hK.out _ _ ?keepR5 (fun hHeld => ?_)
      case keepR5 => exact (x0.out.later l2 (Nat.lt_succ_self _))
      clear hK K
      (try simp only [Act.put, List.setIfInBounds_toArray, List.set_cons_zero, List.set_cons_succ, List.getElem_toArray, List.getElem_cons_zero, List.getElem_cons_succ])
      refine wpAnyH_ready (rs := [6]) (by kernel_rfl) (by simp) ?_
      refine AllReadyH.cons rfl (fun K hK => ?_) AllReadyH.nil
      go_simp
      go_at_call 33
      refine (refEqual_plain 3 0 s _).mono ?_
      rintro e y3 ⟨rfl, hb⟩
      have l3 : Below (w.heap.size + 1) W y3 := l2.trans (hb.mono (by have := l2.size; omega))
      clear hb
      (try go_simp)
      refine hK.out _ _ ?keepR6 (fun hHeld => ?_)
      case keepR6 => exact (x0.out.later l3 (Nat.lt_succ_self _))
      clear hK K
      (try simp only [Act.put, List.setIfInBounds_toArray, List.set_cons_zero, List.set_cons_succ, List.getElem_toArray, List.getElem_cons_zero, List.getElem_cons_succ])
      refine wpAnyH_take (i := 7) (v := ?vR7) rfl (by kernel_rfl) (by kernel_rfl) (by kernel_rfl) (fun _ _ _ h => h) (Or.inl ⟨by rfl, ?hyR7⟩) (by assumption) ?restR7
      case hyR7 => (intro w0 hSw; (try dsimp only at hSw); first | (go_simp; done) | (go_simp; with_reducible rfl))
      (try simp only [Act.put, List.setIfInBounds_toArray, List.set_cons_zero, List.set_cons_succ, List.getElem_toArray, List.getElem_cons_zero, List.getElem_cons_succ])
      refine wpAnyH_take (i := 8) (v := ?vR8) rfl (by kernel_rfl) (by kernel_rfl) (by kernel_rfl) (fun _ _ _ h => h) (Or.inl ⟨by rfl, ?hyR8⟩) (by assumption) ?restR8
      case hyR8 => (intro w0 hSw; (try dsimp only at hSw); first | (go_simp; done) | (go_simp; with_reducible rfl))
      (try simp only [Act.put, List.setIfInBounds_toArray, List.set_cons_zero, List.set_cons_succ, List.getElem_toArray, List.getElem_cons_zero, List.getElem_cons_succ])
      refine wpAnyH_take (i := 9) (v := ?vR9) rfl (by kernel_rfl) (by kernel_rfl) (by kernel_rfl) (fun _ _ _ h => h) (Or.inl ⟨by rfl, ?hyR9⟩) (by assumption) ?restR9
      case hyR9 => (intro w0 hSw; (try dsimp only at hSw); first | (go_simp; done) | (go_simp; with_reducible rfl))
      (try simp only [Act.put, List.setIfInBounds_toArray, List.set_cons_zero, List.set_cons_succ, List.getElem_toArray, List.getElem_cons_zero, List.getElem_cons_succ])
      refine wpAnyH_take (i := 10) (v := ?vR10) rfl (by kernel_rfl) (by kernel_rfl) (by kernel_rfl) (fun _ _ _ h => h) (Or.inl ⟨by rfl, ?hyR10⟩) (by assumption) ?restR10
      case hyR10 => (intro w0 hSw; (try dsimp only at hSw); first | (go_simp; done) | (go_simp; with_reducible rfl))
      (try simp only [Act.put, List.setIfInBounds_toArray, List.set_cons_zero, List.set_cons_succ, List.getElem_toArray, List.getElem_cons_zero, List.getElem_cons_succ])
      refine wpAnyH_take (i := 12) (v := ?vR12) rfl (by kernel_rfl) (by kernel_rfl) (by kernel_rfl) (fun _ _ _ h => h) (Or.inl ⟨by rfl, ?hyR12⟩) (by assumption) ?restR12
      case hyR12 => (intro w0 hSw; (try dsimp only at hSw); first | (go_simp; done) | (go_simp; with_reducible rfl))
      (try simp only [Act.put, List.setIfInBounds_toArray, List.set_cons_zero, List.set_cons_succ, List.getElem_toArray, List.getElem_cons_zero, List.getElem_cons_succ])
      refine wpAnyH_take (i := 13) (v := ?vR13) rfl (by kernel_rfl) (by kernel_rfl) (by kernel_rfl) (fun _ _ _ h => h) (Or.inl ⟨by rfl, ?hyR13⟩) (by assumption) ?restR13
      case hyR13 => (intro w0 hSw; (try dsimp only at hSw); first | (go_simp; done) | (go_simp; with_reducible rfl))
      (try simp only [Act.put, List.setIfInBounds_toArray, List.set_cons_zero, List.set_cons_succ, List.getElem_toArray, List.getElem_cons_zero, List.getElem_cons_succ])
      refine wpAnyH_ready (rs := [11]) (by kernel_rfl) (by simp) ?_
      refine AllReadyH.cons rfl (fun K hK => ?_) AllReadyH.nil
      go_simp
      go_at_call 42
      refine (ofPattern_any s _).mono ?_
      rintro e y4 ⟨rfl, hb⟩
      have l4 : Below (w.heap.size + 1) W y4 := l3.trans (hb.mono (by have := l3.size; omega))
      clear hb
      (try go_simp)
      refine hK.out _ _ ?keepR11 (fun hHeld => ?_)
      case keepR11 => exact (x0.out.later l4 (Nat.lt_succ_self _))
      clear hK K
      (try simp only [Act.put, List.setIfInBounds_toArray, List.set_cons_zero, List.set_cons_succ, List.getElem_toArray, List.getElem_cons_zero, List.getElem_cons_succ])
      refine wpAnyH_ready (rs := [14]) (by kernel_rfl) (by simp) ?_
      refine AllReadyH.cons rfl (fun K hK => ?_) AllReadyH.nil
      go_simp
      go_at_call 43
      refine (refOfPattern_bel s _).mono ?_
      rintro e y5 ⟨rfl, hb⟩
      have l5 : Below (w.heap.size + 1) W y5 := l4.trans (hb.mono (by have := l4.size; omega))
      clear hb
      (try go_simp)
      refine hK.out _ _ ?keepR14 (fun hHeld => ?_)
      case keepR14 => exact (x0.out.later l5 (Nat.lt_succ_self _))
      clear hK K
      (try simp only [Act.put, List.setIfInBounds_toArray, List.set_cons_zero, List.set_cons_succ, List.getElem_toArray, List.getElem_cons_zero, List.getElem_cons_succ])
      refine wpAnyH_ready (rs := [15]) (by kernel_rfl) (by simp) ?_
      refine AllReadyH.cons rfl (fun K hK => ?_) AllReadyH.nil
      go_simp
      go_at_call 33
      refine (refEqual_plain 8 0 s _).mono ?_
      rintro e y6 ⟨rfl, hb⟩
      have l6 : Below (w.heap.size + 1) W y6 := l5.trans (hb.mono (by have := l5.size; omega))
      clear hb
      (try go_simp)
      refine hK.out _ _ ?keepR15 (fun hHeld => ?_)
      case keepR15 => exact (x0.out.later l6 (Nat.lt_succ_self _))
      clear hK K
      (try simp only [Act.put, List.setIfInBounds_toArray, List.set_cons_zero, List.set_cons_succ, List.getElem_toArray, List.getElem_cons_zero, List.getElem_cons_succ])
      refine wpAnyH_take (i := 16) (v := ?vR16) rfl (by kernel_rfl) (by kernel_rfl) (by kernel_rfl) (fun _ _ _ h => h) (Or.inl ⟨by rfl, ?hyR16⟩) (by assumption) ?restR16
      case hyR16 => (intro w0 hSw; (try dsimp only at hSw); first | (go_simp; done) | (go_simp; with_reducible rfl))
      (try simp only [Act.put, List.setIfInBounds_toArray, List.set_cons_zero, List.set_cons_succ, List.getElem_toArray, List.getElem_cons_zero, List.getElem_cons_succ])
      refine wpAnyH_take (i := 17) (v := ?vR17) rfl (by kernel_rfl) (by kernel_rfl) (by kernel_rfl) (fun _ _ _ h => h) (Or.inl ⟨by rfl, ?hyR17⟩) (by assumption) ?restR17
      case hyR17 => (intro w0 hSw; (try dsimp only at hSw); first | (go_simp; done) | (go_simp; with_reducible rfl))
      (try simp only [Act.put, List.setIfInBounds_toArray, List.set_cons_zero, List.set_cons_succ, List.getElem_toArray, List.getElem_cons_zero, List.getElem_cons_succ])
      refine wpAnyH_take (i := 18) (v := ?vR18) rfl (by kernel_rfl) (by kernel_rfl) (by kernel_rfl) (fun _ _ _ h => h) (Or.inl ⟨by rfl, ?hyR18⟩) (by assumption) ?restR18
      case hyR18 => (intro w0 hSw; (try dsimp only at hSw); first | (go_simp; done) | (go_simp; with_reducible rfl))
      (try simp only [Act.put, List.setIfInBounds_toArray, List.set_cons_zero, List.set_cons_succ, List.getElem_toArray, List.getElem_cons_zero, List.getElem_cons_succ])
      refine wpAnyH_take (i := 19) (v := ?vR19) rfl (by kernel_rfl) (by kernel_rfl) (by kernel_rfl) (fun _ _ _ h => h) (Or.inl ⟨by rfl, ?hyR19⟩) (by assumption) ?restR19
      case hyR19 => (intro w0 hSw; (try dsimp only at hSw); first | (go_simp; done) | (go_simp; with_reducible rfl))
      (try simp only [Act.put, List.setIfInBounds_toArray, List.set_cons_zero, List.set_cons_succ, List.getElem_toArray, List.getElem_cons_zero, List.getElem_cons_succ])
      refine wpAnyH_take (i := 20) (v := ?vR20) rfl (by kernel_rfl) (by kernel_rfl) (by kernel_rfl) (fun _ _ _ h => h) (Or.inl ⟨by rfl, ?hyR20⟩) (by assumption) ?restR20
      case hyR20 => (intro w0 hSw; (try dsimp only at hSw); first | (go_simp; done) | (go_simp; with_reducible rfl))
      (try simp only [Act.put, List.setIfInBounds_toArray, List.set_cons_zero, List.set_cons_succ, List.getElem_toArray, List.getElem_cons_zero, List.getElem_cons_succ])
      refine wpAnyH_take (i := 22) (v := ?vR22) rfl (by kernel_rfl) (by kernel_rfl) (by kernel_rfl) (fun _ _ _ h => h) (Or.inl ⟨by rfl, ?hyR22⟩) (by assumption) ?restR22
      case hyR22 => (intro w0 hSw; (try dsimp only at hSw); first | (go_simp; done) | (go_simp; with_reducible rfl))
      (try simp only [Act.put, List.setIfInBounds_toArray, List.set_cons_zero, List.set_cons_succ, List.getElem_toArray, List.getElem_cons_zero, List.getElem_cons_succ])
      refine wpAnyH_take (i := 23) (v := ?vR23) rfl (by kernel_rfl) (by kernel_rfl) (by kernel_rfl) (fun _ _ _ h => h) (Or.inl ⟨by rfl, ?hyR23⟩) (by assumption) ?restR23
      case hyR23 => (intro w0 hSw; (try dsimp only at hSw); first | (go_simp; done) | (go_simp; with_reducible rfl))
      (try simp only [Act.put, List.setIfInBounds_toArray, List.set_cons_zero, List.set_cons_succ, List.getElem_toArray, List.getElem_cons_zero, List.getElem_cons_succ])
      refine wpAnyH_ready (rs := [21]) (by kernel_rfl) (by simp) ?_
      refine AllReadyH.cons rfl (fun K hK => ?_) AllReadyH.nil
      go_simp
      go_at_call 44
      refine (ofInts_any zs _ _ B (LInts.later HI0.out (l6.mono (by omega))) (by have := l6.size; omega) (by omega)).mono ?_
      rintro e y7 ⟨⟨o7, c7, he, hR⟩, hb⟩
      have l7 : Below (w.heap.size + 1) W y7 := l6.trans (hb.mono (by have := l6.size; omega))
      rw [show (V.l (V.mk 5 0 ⟨#[]⟩ (zs.map fun z => .mk 2 z ⟨#[]⟩ []))).length = zs.length from by simp [V.l]] at he hR
      obtain rfl := he
      have R7 : Hid (Rep y7 y7.heap.size (.slice o7 zs.length c7) (V.l (V.mk 5 0 ⟨#[]⟩ (zs.map fun z => .mk 2 z ⟨#[]⟩ [])))) := hR.rep (fun q hq => hq.2)
      clear hR
      have m7 : y7.heap.size ≤ y7.heap.size := Nat.le_refl _
      clear hb
      (try go_simp)
      refine hK.out _ _ ?keepR21 (fun hHeld => ?_)
      case keepR21 => exact (x0.out.later l7 (Nat.lt_succ_self _))
      clear hK K
      (try simp only [Act.put, List.setIfInBounds_toArray, List.set_cons_zero, List.set_cons_succ, List.getElem_toArray, List.getElem_cons_zero, List.getElem_cons_succ])
      refine wpAnyH_ready (rs := [24]) (by kernel_rfl) (by simp) ?_
      refine AllReadyH.cons rfl (fun K hK => ?_) AllReadyH.nil
      go_simp
      go_at_call 45
      refine (refOfInts_any zs _ _ B (LInts.later HI0.out (l7.mono (by omega))) (by have := l7.size; omega) (by omega)).mono ?_
      rintro e y8 ⟨⟨o8, c8, he, hR⟩, hb⟩
      have l8 : Below (w.heap.size + 1) W y8 := l7.trans (hb.mono (by have := l7.size; omega))
      rw [show (V.l (V.mk 5 0 ⟨#[]⟩ (zs.map fun z => .mk 2 z ⟨#[]⟩ []))).length = zs.length from by simp [V.l]] at he hR
      obtain rfl := he
      have R8 : Hid (Rep y8 y8.heap.size (.slice o8 zs.length c8) (V.l (V.mk 5 0 ⟨#[]⟩ (zs.map fun z => .mk 2 z ⟨#[]⟩ [])))) := hR.rep (fun q hq => hq.2)
      clear hR
      have m8 : y8.heap.size ≤ y8.heap.size := Nat.le_refl _
      have R7' : Hid (Rep y8 y8.heap.size (.slice o7 zs.length c7) (V.l (V.mk 5 0 ⟨#[]⟩ (zs.map fun z => .mk 2 z ⟨#[]⟩ [])))) := (R7.out.later hb).mono hb.size
      clear hb
      (try go_simp)
      refine hK.out _ _ ?keepR24 (fun hHeld => ?_)
      case keepR24 => exact (x0.out.later l8 (Nat.lt_succ_self _))
      clear hK K
      (try simp only [Act.put, List.setIfInBounds_toArray, List.set_cons_zero, List.set_cons_succ, List.getElem_toArray, List.getElem_cons_zero, List.getElem_cons_succ])
      refine wpAnyH_ready (rs := [25]) (by kernel_rfl) (by simp) ?_
      refine AllReadyH.cons rfl (fun K hK => ?_) AllReadyH.nil
      go_simp
      go_at_call 33
      refine (refEqual_any (V.mk 5 0 ⟨#[]⟩ (zs.map fun z => .mk 2 z ⟨#[]⟩ [])) (V.mk 5 0 ⟨#[]⟩ (zs.map fun z => .mk 2 z ⟨#[]⟩ [])) (.slice o7 zs.length c7) (.slice o8 zs.length c8) y8 y8.heap.size R7'.out R8.out (Nat.le_refl _)).mono ?_
      rintro e y9 ⟨he, hb⟩
      have l9 : Below (w.heap.size + 1) W y9 := l8.trans (hb.mono (by have := l8.size; omega))
      rw [V.eqb_self] at he
      obtain rfl := he
      clear hb
      (try go_simp)
      refine hK.out _ _ ?keepR25 (fun hHeld => ?_)
      case keepR25 => exact (x0.out.later l9 (Nat.lt_succ_self _))
      clear hK K
      (try simp only [Act.put, List.setIfInBounds_toArray, List.set_cons_zero, List.set_cons_succ, List.getElem_toArray, List.getElem_cons_zero, List.getElem_cons_succ])
      refine wpAnyH_take (i := 26) (v := ?vR26) rfl (by kernel_rfl) (by kernel_rfl) (by kernel_rfl) (fun _ _ _ h => h) (Or.inl ⟨by rfl, ?hyR26⟩) (by assumption) ?restR26
      case hyR26 => (intro w0 hSw; (try dsimp only at hSw); first | (go_simp; done) | (go_simp; with_reducible rfl))
      (try simp only [Act.put, List.setIfInBounds_toArray, List.set_cons_zero, List.set_cons_succ, List.getElem_toArray, List.getElem_cons_zero, List.getElem_cons_succ])
      refine wpAnyH_take (i := 27) (v := ?vR27) rfl (by kernel_rfl) (by kernel_rfl) (by kernel_rfl) (fun _ _ _ h => h) (Or.inl ⟨by rfl, ?hyR27⟩) (by assumption) ?restR27
      case hyR27 => (intro w0 hSw; (try dsimp only at hSw); first | (go_simp; done) | (go_simp; with_reducible rfl))
      (try simp only [Act.put, List.setIfInBounds_toArray, List.set_cons_zero, List.set_cons_succ, List.getElem_toArray, List.getElem_cons_zero, List.getElem_cons_succ])
      refine wpAnyH_done (by kernel_rfl) ?_ _
      go_wp2_with fail
      -- region 12
      have x4 := Lib.hid (x0.out.later l9 (Nat.lt_succ_self _))
      obtain ⟨c0, c1, c2, c3, c4, c5⟩ := x4.out
      (try go_wp2_with fail)
      refine wp_region_held_drew (S := (fun w' => w'.cell? ⟨w.heap.size, 0, none⟩ = some (.bool b) ∧ w'.cell? ⟨w.heap.size, 1, none⟩ = some (.int .i64 n) ∧ w'.cell? ⟨w.heap.size, 2, none⟩ = some (.string s) ∧ w'.cell? ⟨w.heap.size, 3, none⟩ = some (.slice oi zs.length ci) ∧ w'.cell? ⟨w.heap.size, 4, none⟩ = some (.slice ot ts.length ct) ∧ w'.cell? ⟨w.heap.size, 5, none⟩ = some (.slice or rs.length cr))) (by kernel_rfl) ?keepT (fun hHeld => ?_)
      case keepT => exact x4.out
      have k5 : Below (w.heap.size + 1) W y9.drew := l9.drew
      clear c0 c1 c2 c3 c4 c5
      refine wpAnyH_take (i := 0) (v := ?vT0) rfl (by kernel_rfl) (by kernel_rfl) (by kernel_rfl) (fun _ _ _ h => h) (Or.inl ⟨by rfl, ?hyT0⟩) (by assumption) ?restT0
      case hyT0 => (intro w0 hSw; (try dsimp only at hSw); first | (go_simp; done) | (go_simp; with_reducible rfl))
      (try simp only [Act.put, List.setIfInBounds_toArray, List.set_cons_zero, List.set_cons_succ, List.getElem_toArray, List.getElem_cons_zero])
      refine wpAnyH_take (i := 1) (v := ?vT1) rfl (by kernel_rfl) (by kernel_rfl) (by kernel_rfl) (fun _ _ _ h => h) (Or.inl ⟨by rfl, ?hyT1⟩) (by assumption) ?restT1
      case hyT1 => (intro w0 hSw; (try dsimp only at hSw); first | (go_simp; done) | (go_simp; with_reducible rfl))
      (try simp only [Act.put, List.setIfInBounds_toArray, List.set_cons_zero, List.set_cons_succ, List.getElem_toArray, List.getElem_cons_zero, List.getElem_cons_succ])
      refine wpAnyH_take (i := 3) (v := ?vT3) rfl (by kernel_rfl) (by kernel_rfl) (by kernel_rfl) (fun _ _ _ h => h) (Or.inl ⟨by rfl, ?hyT3⟩) (by assumption) ?restT3
      case hyT3 => (intro w0 hSw; (try dsimp only at hSw); first | (go_simp; done) | (go_simp; with_reducible rfl))
      (try simp only [Act.put, List.setIfInBounds_toArray, List.set_cons_zero, List.set_cons_succ, List.getElem_toArray, List.getElem_cons_zero, List.getElem_cons_succ])
      refine wpAnyH_take (i := 4) (v := ?vT4) rfl (by kernel_rfl) (by kernel_rfl) (by kernel_rfl) (fun _ _ _ h => h) (Or.inl ⟨by rfl, ?hyT4⟩) (by assumption) ?restT4
      case hyT4 => (intro w0 hSw; (try dsimp only at hSw); first | (go_simp; done) | (go_simp; with_reducible rfl))
      (try simp only [Act.put, List.setIfInBounds_toArray, List.set_cons_zero, List.set_cons_succ, List.getElem_toArray, List.getElem_cons_zero, List.getElem_cons_succ])
      refine wpAnyH_ready (rs := [2]) (by kernel_rfl) (by simp) ?_
      refine AllReadyH.cons rfl (fun K hK => ?_) AllReadyH.nil
      go_simp
      go_at_call 46
      refine (ofTexts_any ts _ _ B (LStrs.later HT0.out (k5.mono (by omega))) (by have := k5.size; omega) (by omega)).mono ?_
      rintro e y10 ⟨⟨o10, c10, he, hR⟩, hb⟩
      have l10 : Below (w.heap.size + 1) W y10 := k5.trans (hb.mono (by have := k5.size; omega))
      rw [show (V.l (V.mk 6 0 ⟨#[]⟩ (ts.map fun z => .mk 3 0 z []))).length = ts.length from by simp [V.l]] at he hR
      obtain rfl := he
      have R10 : Hid (Rep y10 y10.heap.size (.slice o10 ts.length c10) (V.l (V.mk 6 0 ⟨#[]⟩ (ts.map fun z => .mk 3 0 z [])))) := hR.rep (fun q hq => hq.2)
      clear hR
      have m10 : y10.heap.size ≤ y10.heap.size := Nat.le_refl _
      clear hb
      (try go_simp)
      refine hK.out _ _ ?keepT2 (fun hHeld => ?_)
      case keepT2 => exact (x0.out.later l10 (Nat.lt_succ_self _))
      clear hK K
      (try simp only [Act.put, List.setIfInBounds_toArray, List.set_cons_zero, List.set_cons_succ, List.getElem_toArray, List.getElem_cons_zero, List.getElem_cons_succ])
      refine wpAnyH_ready (rs := [5]) (by kernel_rfl) (by simp) ?_
      refine AllReadyH.cons rfl (fun K hK => ?_) AllReadyH.nil
      go_simp
      go_at_call 47
      refine (refOfTexts_any ts _ _ B (LStrs.later HT0.out (l10.mono (by omega))) (by have := l10.size; omega) (by omega)).mono ?_
      rintro e y11 ⟨⟨o11, c11, he, hR⟩, hb⟩
      have l11 : Below (w.heap.size + 1) W y11 := l10.trans (hb.mono (by have := l10.size; omega))
      rw [show (V.l (V.mk 6 0 ⟨#[]⟩ (ts.map fun z => .mk 3 0 z []))).length = ts.length from by simp [V.l]] at he hR
      obtain rfl := he
      have R11 : Hid (Rep y11 y11.heap.size (.slice o11 ts.length c11) (V.l (V.mk 6 0 ⟨#[]⟩ (ts.map fun z => .mk 3 0 z [])))) := hR.rep (fun q hq => hq.2)
      clear hR
      have m11 : y11.heap.size ≤ y11.heap.size := Nat.le_refl _
      have R10' : Hid (Rep y11 y11.heap.size (.slice o10 ts.length c10) (V.l (V.mk 6 0 ⟨#[]⟩ (ts.map fun z => .mk 3 0 z [])))) := (R10.out.later hb).mono hb.size
      clear hb
      (try go_simp)
      refine hK.out _ _ ?keepT5 (fun hHeld => ?_)
      case keepT5 => exact (x0.out.later l11 (Nat.lt_succ_self _))
      clear hK K
      (try simp only [Act.put, List.setIfInBounds_toArray, List.set_cons_zero, List.set_cons_succ, List.getElem_toArray, List.getElem_cons_zero, List.getElem_cons_succ])
      refine wpAnyH_ready (rs := [6]) (by kernel_rfl) (by simp) ?_
      refine AllReadyH.cons rfl (fun K hK => ?_) AllReadyH.nil
      go_simp
      go_at_call 33
      refine (refEqual_any (V.mk 6 0 ⟨#[]⟩ (ts.map fun z => .mk 3 0 z [])) (V.mk 6 0 ⟨#[]⟩ (ts.map fun z => .mk 3 0 z [])) (.slice o10 ts.length c10) (.slice o11 ts.length c11) y11 y11.heap.size R10'.out R11.out (Nat.le_refl _)).mono ?_
      rintro e y12 ⟨he, hb⟩
      have l12 : Below (w.heap.size + 1) W y12 := l11.trans (hb.mono (by have := l11.size; omega))
      rw [V.eqb_self] at he
      obtain rfl := he
      clear hb
      (try go_simp)
      refine hK.out _ _ ?keepT6 (fun hHeld => ?_)
      case keepT6 => exact (x0.out.later l12 (Nat.lt_succ_self _))
      clear hK K
      (try simp only [Act.put, List.setIfInBounds_toArray, List.set_cons_zero, List.set_cons_succ, List.getElem_toArray, List.getElem_cons_zero, List.getElem_cons_succ])
      refine wpAnyH_take (i := 7) (v := ?vT7) rfl (by kernel_rfl) (by kernel_rfl) (by kernel_rfl) (fun _ _ _ h => h) (Or.inl ⟨by rfl, ?hyT7⟩) (by assumption) ?restT7
      case hyT7 => (intro w0 hSw; (try dsimp only at hSw); first | (go_simp; done) | (go_simp; with_reducible rfl))
      (try simp only [Act.put, List.setIfInBounds_toArray, List.set_cons_zero, List.set_cons_succ, List.getElem_toArray, List.getElem_cons_zero, List.getElem_cons_succ])
      refine wpAnyH_take (i := 8) (v := ?vT8) rfl (by kernel_rfl) (by kernel_rfl) (by kernel_rfl) (fun _ _ _ h => h) (Or.inl ⟨by rfl, ?hyT8⟩) (by assumption) ?restT8
      case hyT8 => (intro w0 hSw; (try dsimp only at hSw); first | (go_simp; done) | (go_simp; with_reducible rfl))
      (try simp only [Act.put, List.setIfInBounds_toArray, List.set_cons_zero, List.set_cons_succ, List.getElem_toArray, List.getElem_cons_zero, List.getElem_cons_succ])
      refine wpAnyH_take (i := 9) (v := ?vT9) rfl (by kernel_rfl) (by kernel_rfl) (by kernel_rfl) (fun _ _ _ h => h) (Or.inl ⟨by rfl, ?hyT9⟩) (by assumption) ?restT9
      case hyT9 => (intro w0 hSw; (try dsimp only at hSw); first | (go_simp; done) | (go_simp; with_reducible rfl))
      (try simp only [Act.put, List.setIfInBounds_toArray, List.set_cons_zero, List.set_cons_succ, List.getElem_toArray, List.getElem_cons_zero, List.getElem_cons_succ])
      refine wpAnyH_take (i := 11) (v := ?vT11) rfl (by kernel_rfl) (by kernel_rfl) (by kernel_rfl) (fun _ _ _ h => h) (Or.inl ⟨by rfl, ?hyT11⟩) (by assumption) ?restT11
      case hyT11 => (intro w0 hSw; (try dsimp only at hSw); first | (go_simp; done) | (go_simp; with_reducible rfl))
      (try simp only [Act.put, List.setIfInBounds_toArray, List.set_cons_zero, List.set_cons_succ, List.getElem_toArray, List.getElem_cons_zero, List.getElem_cons_succ])
      refine wpAnyH_take (i := 12) (v := ?vT12) rfl (by kernel_rfl) (by kernel_rfl) (by kernel_rfl) (fun _ _ _ h => h) (Or.inl ⟨by rfl, ?hyT12⟩) (by assumption) ?restT12
      case hyT12 => (intro w0 hSw; (try dsimp only at hSw); first | (go_simp; done) | (go_simp; with_reducible rfl))
      (try simp only [Act.put, List.setIfInBounds_toArray, List.set_cons_zero, List.set_cons_succ, List.getElem_toArray, List.getElem_cons_zero, List.getElem_cons_succ])
      refine wpAnyH_ready (rs := [10]) (by kernel_rfl) (by simp) ?_
      refine AllReadyH.cons rfl (fun K hK => ?_) AllReadyH.nil
      go_simp
      go_at_call 48
      refine (ofTable_any rs _ _ B (LRows.later HR0.out (l12.mono (by omega))) (by have := l12.size; omega) (by omega) (fun r hr => by have := HK.out r hr; omega)).mono ?_
      rintro e y13 ⟨⟨o13, c13, he, hR⟩, hb⟩
      have l13 : Below (w.heap.size + 1) W y13 := l12.trans (hb.mono (by have := l12.size; omega))
      rw [show (V.l (V.mk 7 0 ⟨#[]⟩ (rs.map rowV))).length = rs.length from by simp [V.l]] at he hR
      obtain rfl := he
      have R13 : Hid (Rep y13 y13.heap.size (.slice o13 rs.length c13) (V.l (V.mk 7 0 ⟨#[]⟩ (rs.map rowV)))) := hR.rep (fun q hq => hq.2)
      clear hR
      have m13 : y13.heap.size ≤ y13.heap.size := Nat.le_refl _
      clear hb
      (try go_simp)
      refine hK.out _ _ ?keepT10 (fun hHeld => ?_)
      case keepT10 => exact (x0.out.later l13 (Nat.lt_succ_self _))
      clear hK K
      (try simp only [Act.put, List.setIfInBounds_toArray, List.set_cons_zero, List.set_cons_succ, List.getElem_toArray, List.getElem_cons_zero, List.getElem_cons_succ])
      refine wpAnyH_ready (rs := [13]) (by kernel_rfl) (by simp) ?_
      refine AllReadyH.cons rfl (fun K hK => ?_) AllReadyH.nil
      go_simp
      go_at_call 49
      refine (refOfTable_any rs _ _ B (LRows.later HR0.out (l13.mono (by omega))) (by have := l13.size; omega) (by omega) (fun r hr => by have := HK.out r hr; omega)).mono ?_
      rintro e y14 ⟨⟨o14, c14, he, hR⟩, hb⟩
      have l14 : Below (w.heap.size + 1) W y14 := l13.trans (hb.mono (by have := l13.size; omega))
      rw [show (V.l (V.mk 7 0 ⟨#[]⟩ (rs.map rowV))).length = rs.length from by simp [V.l]] at he hR
      obtain rfl := he
      have R14 : Hid (Rep y14 y14.heap.size (.slice o14 rs.length c14) (V.l (V.mk 7 0 ⟨#[]⟩ (rs.map rowV)))) := hR.rep (fun q hq => hq.2)
      clear hR
      have m14 : y14.heap.size ≤ y14.heap.size := Nat.le_refl _
      have R13' : Hid (Rep y14 y14.heap.size (.slice o13 rs.length c13) (V.l (V.mk 7 0 ⟨#[]⟩ (rs.map rowV)))) := (R13.out.later hb).mono hb.size
      clear hb
      (try go_simp)
      refine hK.out _ _ ?keepT13 (fun hHeld => ?_)
      case keepT13 => exact (x0.out.later l14 (Nat.lt_succ_self _))
      clear hK K
      (try simp only [Act.put, List.setIfInBounds_toArray, List.set_cons_zero, List.set_cons_succ, List.getElem_toArray, List.getElem_cons_zero, List.getElem_cons_succ])
      refine wpAnyH_ready (rs := [14]) (by kernel_rfl) (by simp) ?_
      refine AllReadyH.cons rfl (fun K hK => ?_) AllReadyH.nil
      go_simp
      go_at_call 33
      refine (refEqual_any (V.mk 7 0 ⟨#[]⟩ (rs.map rowV)) (V.mk 7 0 ⟨#[]⟩ (rs.map rowV)) (.slice o13 rs.length c13) (.slice o14 rs.length c14) y14 y14.heap.size R13'.out R14.out (Nat.le_refl _)).mono ?_
      rintro e y15 ⟨he, hb⟩
      have l15 : Below (w.heap.size + 1) W y15 := l14.trans (hb.mono (by have := l14.size; omega))
      rw [V.eqb_self] at he
      obtain rfl := he
      clear hb
      (try go_simp)
      refine hK.out _ _ ?keepT14 (fun hHeld => ?_)
      case keepT14 => exact (x0.out.later l15 (Nat.lt_succ_self _))
      clear hK K
      (try simp only [Act.put, List.setIfInBounds_toArray, List.set_cons_zero, List.set_cons_succ, List.getElem_toArray, List.getElem_cons_zero, List.getElem_cons_succ])
      refine wpAnyH_take (i := 15) (v := ?vT15) rfl (by kernel_rfl) (by kernel_rfl) (by kernel_rfl) (fun _ _ _ h => h) (Or.inl ⟨by rfl, ?hyT15⟩) (by assumption) ?restT15
      case hyT15 => (intro w0 hSw; (try dsimp only at hSw); first | (go_simp; done) | (go_simp; with_reducible rfl))
      (try simp only [Act.put, List.setIfInBounds_toArray, List.set_cons_zero, List.set_cons_succ, List.getElem_toArray, List.getElem_cons_zero, List.getElem_cons_succ])
      refine wpAnyH_take (i := 16) (v := ?vT16) rfl (by kernel_rfl) (by kernel_rfl) (by kernel_rfl) (fun _ _ _ h => h) (Or.inl ⟨by rfl, ?hyT16⟩) (by assumption) ?restT16
      case hyT16 => (intro w0 hSw; (try dsimp only at hSw); first | (go_simp; done) | (go_simp; with_reducible rfl))
      (try simp only [Act.put, List.setIfInBounds_toArray, List.set_cons_zero, List.set_cons_succ, List.getElem_toArray, List.getElem_cons_zero, List.getElem_cons_succ])
      refine wpAnyH_ready (rs := [17]) (by kernel_rfl) (by simp) ?_
      refine AllReadyH.cons rfl (fun K hK => ?_) AllReadyH.nil
      go_simp
      go_at_call 21
      refine (alive_any _ (hN0.out.later (FIN.out _ l15))).mono ?_
      rintro e y16 ⟨rfl, hb⟩
      have l16 : Below (w.heap.size + 1) W y16 := l15.trans (hb.mono (by have := l15.size; omega))
      clear hb
      (try go_simp)
      refine hK.out _ _ ?keepT17 (fun hHeld => ?_)
      case keepT17 => exact (x0.out.later l16 (Nat.lt_succ_self _))
      clear hK K
      (try simp only [Act.put, List.setIfInBounds_toArray, List.set_cons_zero, List.set_cons_succ, List.getElem_toArray, List.getElem_cons_zero, List.getElem_cons_succ])
      refine wpAnyH_take (i := 18) (v := ?vT18) rfl (by kernel_rfl) (by kernel_rfl) (by kernel_rfl) (fun _ _ _ h => h) (Or.inl ⟨by rfl, ?hyT18⟩) (by assumption) ?restT18
      case hyT18 => (intro w0 hSw; (try dsimp only at hSw); first | (go_simp; done) | (go_simp; with_reducible rfl))
      (try simp only [Act.put, List.setIfInBounds_toArray, List.set_cons_zero, List.set_cons_succ, List.getElem_toArray, List.getElem_cons_zero, List.getElem_cons_succ])
      refine wpAnyH_take (i := 19) (v := ?vT19) rfl (by kernel_rfl) (by kernel_rfl) (by kernel_rfl) (fun _ _ _ h => h) (Or.inl ⟨by rfl, ?hyT19⟩) (by assumption) ?restT19
      case hyT19 => (intro w0 hSw; (try dsimp only at hSw); first | (go_simp; done) | (go_simp; with_reducible rfl))
      (try simp only [Act.put, List.setIfInBounds_toArray, List.set_cons_zero, List.set_cons_succ, List.getElem_toArray, List.getElem_cons_zero, List.getElem_cons_succ])
      refine wpAnyH_done (by kernel_rfl) ?_ _
      go_wp2_with fail
      go_ret
      exact ⟨rfl, FIN.out _ l16⟩

end Go.Proofs.YtohecojckghedaaDoor
