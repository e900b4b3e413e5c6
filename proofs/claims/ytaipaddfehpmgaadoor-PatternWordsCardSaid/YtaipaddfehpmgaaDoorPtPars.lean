/-
  cat, pattern and Parse. Nothing is assumed.
-/
import Derived.Test.YtaipaddfehpmgaaDoorPtSev
namespace Go.Proofs.YtaipaddfehpmgaaDoor
open Go.RowKit

theorem sepP_some (L : List UInt8) (j : Nat) : (sepP L j).isSome = decide (pk L j = 124) ∧ (sepP L j).getD j = if pk L j = 124 then j + 1 else j := by
  unfold sepP
  split
  · rename_i h; rw [decide_eq_true h]; exact ⟨rfl, rfl⟩
  · rename_i h; rw [decide_eq_false h]; exact ⟨rfl, rfl⟩
theorem sepC_some (L : List UInt8) (j : Nat) : (sepC L j).isSome = begA (pk L j) ∧ (sepC L j).getD j = j := by
  unfold sepC
  split
  · rename_i h; rw [h]; exact ⟨rfl, rfl⟩
  · rename_i h; exact ⟨by simpa using h, rfl⟩
set_option maxRecDepth 100000 in
theorem pattern1_any (b bx : Nat) (s : ByteArray) (hs : s.size ≤ 1000) (w : World) (j : Nat) (h : RD w b s j) (_hA : AL w) (hbx : w.cell? ⟨bx, 0, none⟩ = some (.pointer (some ⟨b, 0, none⟩))) (hj : j ≤ s.size) :
    Calls Tryd.prog 52 #[.pointer (some ⟨bx, 0, none⟩)] w fun e w' => e = .returned (.bool (sepP s.data.toList j).isSome) ∧ RD w' b s ((sepP s.data.toList j).getD j) ∧ Kp w.heap.size (Is b) w w' := by
  have HT := Lib.hid (take_any w b s j 124 h hj (by omega) (by decide))
  rw [(sepP_some s.data.toList j).1, (sepP_some s.data.toList j).2]
  generalize decide (pk s.data.toList j = 124) = r at *
  generalize (if pk s.data.toList j = 124 then j + 1 else j) = j2 at *
  clear h
  go_enter Tryd.func52, Tryd.ntmps52
  go_wp2_with fail
  refine HT.out.mono ?_
  rintro e w1 ⟨rfl, hR1, hK1⟩
  have HR1 := Lib.hid hR1
  have HK1 := Lib.hid hK1
  clear hR1 hK1 HT
  go_wp2_with fail
  go_ret
  exact ⟨rfl, HR1.out, HK1.out⟩
set_option maxRecDepth 100000 in
theorem cat1_any (b bx : Nat) (s : ByteArray) (_hs : s.size ≤ 1000) (w : World) (j : Nat) (h : RD w b s j) (hA : AL w) (hbx : w.cell? ⟨bx, 0, none⟩ = some (.pointer (some ⟨b, 0, none⟩))) (hj : j ≤ s.size) :
    Calls Tryd.prog 71 #[.pointer (some ⟨bx, 0, none⟩)] w fun e w' => e = .returned (.bool (sepC s.data.toList j).isSome) ∧ RD w' b s ((sepC s.data.toList j).getD j) ∧ Kp w.heap.size (Is b) w w' := by
  have HP := Lib.hid (peek_any w b s j h hj)
  have HB := Lib.hid (fun m => beginsAtom_any (pk s.data.toList j) (pk_lt _ _) (w.drewN m) (hA.drewN m))
  rw [(sepC_some s.data.toList j).1, (sepC_some s.data.toList j).2]
  have HR := Lib.hid h
  generalize begA (pk s.data.toList j) = r at *
  generalize pk s.data.toList j = c at *
  clear h hA
  go_enter Tryd.func71, Tryd.ntmps71
  go_wp2_with fail
  refine HP.out.mono ?_
  rintro e w1 ⟨rfl, m, rfl⟩
  clear HP
  go_wp2_with fail
  refine (HB.out m).mono ?_
  rintro e w2 ⟨rfl, hb2⟩
  have HR2 := Lib.hid ((HR.out.drewN m).bel hb2)
  have HK2 := Lib.hid (((Kp.refl _ (Is b) w).drewN m).bel hb2 (Nat.le_refl _))
  clear hb2 HB
  go_wp2_with fail
  go_ret
  exact ⟨rfl, HR2.out, HK2.out⟩

set_option maxRecDepth 100000 in
set_option maxHeartbeats 800000 in
theorem cat_any (n : Nat) (w : World) (b : Nat) (s : ByteArray) (i : Nat) (HP : Pat s n) (h : RD w b s i) (hA : AL w) (hi : i ≤ s.size) (hn : s.size < i + (n + 1)) (hs : s.size ≤ 1000) :
    Calls Tryd.prog 55 #[(.pointer (some ⟨b, 0, none⟩))] w (OutT b s w (catL (patL s.data.toList n) s.data.toList i)) := by
  have hblt := h.lt
  obtain ⟨w1, hw1⟩ : ∃ w1, w1 = (w.alloc (.cells #[(.pointer (some ⟨b, 0, none⟩))] 119)).alloc (.cells #[.int .i64 0, .int .u64 0, .int .u64 0, .int .u64 0, .int .u64 0, .slice none 0 0] 36) := ⟨_, rfl⟩
  have HW1 := Lib.hid hw1
  have hs1 : w1.heap.size = w.heap.size + 2 := by rw [hw1]; simp
  have hb1 : Below w.heap.size w w1 := by rw [hw1]; exact below2 _ _ _
  have HZ1 : Hid (Z6 w1 (w.heap.size + 1)) := Lib.hid (by
    have := Z6.new (w.alloc (.cells #[(.pointer (some ⟨b, 0, none⟩))] 119))
    rw [show (w.alloc (.cells #[(.pointer (some ⟨b, 0, none⟩))] 119)).heap.size = w.heap.size + 1 by simp] at this
    rw [hw1]; exact this)
  have hbx : w1.cell? ⟨w.heap.size, 0, none⟩ = some (.pointer (some ⟨b, 0, none⟩)) := by
    rw [hw1, (below1 _ _).cell (p := ⟨w.heap.size, 0, none⟩) (by simp)]
    exact cell_at _ _ _ _ _ rfl
  have HK1 : Hid (Kp w.heap.size (Is b) w w1) := Lib.hid (.of hb1 (Nat.le_refl _))
  have HC := Lib.hid (several_cat n w1 b w.heap.size s i (repL (patL s.data.toList n) s.data.toList) (sepC s.data.toList) (fun w' j h hA hj hn => rep_any n w' b s j HP h hA hj hn (by omega)) (cat1_any b w.heap.size s hs) (rep_good (pat_good _ n)) (sepC_ok s.data.toList) (h.bel hb1) (hA.later hb1) hbx hi hn hs)
  replace HC : Hid (Calls Tryd.prog 54 #[(.pointer (some ⟨b, 0, none⟩)), .int .i64 4, .func (.func 73) #[(.pointer (some ⟨b, 0, none⟩))] #[], .func (.func 71) #[] #[.pointer (some ⟨w.heap.size, 0, none⟩)]] w1 (OutT b s w1 (catL (patL s.data.toList n) s.data.toList i))) := HC
  generalize catL (patL s.data.toList n) s.data.toList i = RES at *
  clear hw1 h hA HP hb1
  cases hq : RES with
  | bad m =>
    rw [hq] at HC
    go_enter Tryd.func55, Tryd.ntmps55
    go_wp2_with fail
    rw [← HW1.out]
    refine HC.out.mono ?_
    rintro e w3 ⟨⟨t, oe, nn, ce, rfl⟩, hR3, hK3⟩
    have HR3 : Hid (RD w3 b s m) := Lib.hid hR3
    obtain ⟨z0, z1, z2, z3, z4, z5, zf⟩ := HZ1.out.kp hK3 (by omega) (show ¬ Is b (w.heap.size + 1) by unfold Is; omega)
    have HK3 : Hid (Kp w.heap.size (Is b) w w3) := Lib.hid (HK1.out.trans (hK3.less HK1.out.size))
    clear hR3 hK3 HC
    unfold PT.val
    go_wp2_with fail
    refine bodyPost_ret (v := .tuple #[.agg #[.int .i64 t.k, .int .u64 t.s.a, .int .u64 t.s.b, .int .u64 t.s.c, .int .u64 t.s.d, (.slice oe nn ce)], .bool false]) (by simp [results, Tryd.results55, go_sem, *]) rfl ?_
    exact ⟨OutE.bad _ _ _ t _ _ _, (at6 (by omega) _ _ _ _ _ _).trans HR3.out, kp6 HK3.out (by omega) _ _ _ _ _ _⟩
  | ok t m =>
    rw [hq] at HC
    go_enter Tryd.func55, Tryd.ntmps55
    go_wp2_with fail
    rw [← HW1.out]
    refine HC.out.mono ?_
    rintro e w3 ⟨⟨oe, ce, rfl, hT3⟩, hR3, hK3⟩
    have HR3 : Hid (RD w3 b s m) := Lib.hid hR3
    have HT3 := Lib.hid hT3
    obtain ⟨z0, z1, z2, z3, z4, z5, zf⟩ := HZ1.out.kp hK3 (by omega) (show ¬ Is b (w.heap.size + 1) by unfold Is; omega)
    have HK3 : Hid (Kp w.heap.size (Is b) w w3) := Lib.hid (HK1.out.trans (hK3.less HK1.out.size))
    clear hR3 hK3 HC hT3
    unfold PT.val
    go_wp2_with fail
    refine bodyPost_ret (v := .tuple #[.agg #[.int .i64 t.k, .int .u64 t.s.a, .int .u64 t.s.b, .int .u64 t.s.c, .int .u64 t.s.d, (.slice oe t.l.length ce)], .bool true]) (by simp [results, Tryd.results55, go_sem, *]) rfl ?_
    refine ⟨⟨oe, ce, rfl, ?_⟩, (at6 (by omega) _ _ _ _ _ _).trans HR3.out, kp6 HK3.out (by omega) _ _ _ _ _ _⟩
    exact (kpset6 (Kp.refl w3.heap.size (Is (w.heap.size + 1)) w3) rfl _ _ _ _ _ _).rep HT3.out (Nat.le_refl _) (fun k h1 h2 h => by unfold Is at h; omega) (by omega) (by rw [size6]; omega)

set_option maxRecDepth 100000 in
set_option maxHeartbeats 800000 in
theorem pattern_any (n : Nat) (w : World) (b : Nat) (s : ByteArray) (i : Nat) (HP : Pat s n) (h : RD w b s i) (hA : AL w) (hi : i ≤ s.size) (hn : s.size < i + (n + 1)) (hs : s.size ≤ 1000) :
    Calls Tryd.prog 36 #[(.pointer (some ⟨b, 0, none⟩))] w (OutT b s w (patL s.data.toList (n + 1) i)) := by
  have hblt := h.lt
  obtain ⟨w1, hw1⟩ : ∃ w1, w1 = (w.alloc (.cells #[(.pointer (some ⟨b, 0, none⟩))] 119)).alloc (.cells #[.int .i64 0, .int .u64 0, .int .u64 0, .int .u64 0, .int .u64 0, .slice none 0 0] 36) := ⟨_, rfl⟩
  have HW1 := Lib.hid hw1
  have hs1 : w1.heap.size = w.heap.size + 2 := by rw [hw1]; simp
  have hb1 : Below w.heap.size w w1 := by rw [hw1]; exact below2 _ _ _
  have HZ1 : Hid (Z6 w1 (w.heap.size + 1)) := Lib.hid (by
    have := Z6.new (w.alloc (.cells #[(.pointer (some ⟨b, 0, none⟩))] 119))
    rw [show (w.alloc (.cells #[(.pointer (some ⟨b, 0, none⟩))] 119)).heap.size = w.heap.size + 1 by simp] at this
    rw [hw1]; exact this)
  have hbx : w1.cell? ⟨w.heap.size, 0, none⟩ = some (.pointer (some ⟨b, 0, none⟩)) := by
    rw [hw1, (below1 _ _).cell (p := ⟨w.heap.size, 0, none⟩) (by simp)]
    exact cell_at _ _ _ _ _ rfl
  have HK1 : Hid (Kp w.heap.size (Is b) w w1) := Lib.hid (.of hb1 (Nat.le_refl _))
  have HC := Lib.hid (several_pattern n w1 b w.heap.size s i (catL (patL s.data.toList n) s.data.toList) (sepP s.data.toList) (fun w' j h hA hj hn => cat_any n w' b s j HP h hA hj hn hs) (pattern1_any b w.heap.size s hs) (cat_good (pat_good _ n)) (sepP_ok s.data.toList) (h.bel hb1) (hA.later hb1) hbx hi hn hs)
  replace HC : Hid (Calls Tryd.prog 54 #[(.pointer (some ⟨b, 0, none⟩)), .int .i64 5, .func (.func 55) #[(.pointer (some ⟨b, 0, none⟩))] #[], .func (.func 52) #[] #[.pointer (some ⟨w.heap.size, 0, none⟩)]] w1 (OutT b s w1 (patL s.data.toList (n + 1) i))) := HC
  generalize patL s.data.toList (n + 1) i = RES at *
  clear hw1 h hA HP hb1
  cases hq : RES with
  | bad m =>
    rw [hq] at HC
    go_enter Tryd.func36, Tryd.ntmps36
    go_wp2_with fail
    rw [← HW1.out]
    refine HC.out.mono ?_
    rintro e w3 ⟨⟨t, oe, nn, ce, rfl⟩, hR3, hK3⟩
    have HR3 : Hid (RD w3 b s m) := Lib.hid hR3
    obtain ⟨z0, z1, z2, z3, z4, z5, zf⟩ := HZ1.out.kp hK3 (by omega) (show ¬ Is b (w.heap.size + 1) by unfold Is; omega)
    have HK3 : Hid (Kp w.heap.size (Is b) w w3) := Lib.hid (HK1.out.trans (hK3.less HK1.out.size))
    clear hR3 hK3 HC
    unfold PT.val
    go_wp2_with fail
    refine bodyPost_ret (v := .tuple #[.agg #[.int .i64 t.k, .int .u64 t.s.a, .int .u64 t.s.b, .int .u64 t.s.c, .int .u64 t.s.d, (.slice oe nn ce)], .bool false]) (by simp [results, Tryd.results36, go_sem, *]) rfl ?_
    exact ⟨OutE.bad _ _ _ t _ _ _, (at6 (by omega) _ _ _ _ _ _).trans HR3.out, kp6 HK3.out (by omega) _ _ _ _ _ _⟩
  | ok t m =>
    rw [hq] at HC
    go_enter Tryd.func36, Tryd.ntmps36
    go_wp2_with fail
    rw [← HW1.out]
    refine HC.out.mono ?_
    rintro e w3 ⟨⟨oe, ce, rfl, hT3⟩, hR3, hK3⟩
    have HR3 : Hid (RD w3 b s m) := Lib.hid hR3
    have HT3 := Lib.hid hT3
    obtain ⟨z0, z1, z2, z3, z4, z5, zf⟩ := HZ1.out.kp hK3 (by omega) (show ¬ Is b (w.heap.size + 1) by unfold Is; omega)
    have HK3 : Hid (Kp w.heap.size (Is b) w w3) := Lib.hid (HK1.out.trans (hK3.less HK1.out.size))
    clear hR3 hK3 HC hT3
    unfold PT.val
    go_wp2_with fail
    refine bodyPost_ret (v := .tuple #[.agg #[.int .i64 t.k, .int .u64 t.s.a, .int .u64 t.s.b, .int .u64 t.s.c, .int .u64 t.s.d, (.slice oe t.l.length ce)], .bool true]) (by simp [results, Tryd.results36, go_sem, *]) rfl ?_
    refine ⟨⟨oe, ce, rfl, ?_⟩, (at6 (by omega) _ _ _ _ _ _).trans HR3.out, kp6 HK3.out (by omega) _ _ _ _ _ _⟩
    exact (kpset6 (Kp.refl w3.heap.size (Is (w.heap.size + 1)) w3) rfl _ _ _ _ _ _).rep HT3.out (Nat.le_refl _) (fun k h1 h2 h => by unfold Is at h; omega) (by omega) (by rw [size6]; omega)

theorem pat_all (s : ByteArray) (hs : s.size ≤ 1000) : ∀ n, Pat s n := by
  intro n
  induction n with
  | zero => intro w b j _ _ h1 h2; omega
  | succ n ih => intro w b j h hA h1 h2; exact pattern_any n w b s j ih h hA h1 h2 hs

def zeroT : Value := .agg #[.int .i64 0, .int .u64 0, .int .u64 0, .int .u64 0, .int .u64 0, .slice none 0 0]
/-- What Parse returns. -/
def ParE (p : ByteArray) (w w' : World) (e : Ending) : Prop := if p.size < 1 ∨ 40 < p.size then e = .returned (.tuple #[zeroT, .int .i64 0, .int .i64 2]) else match parseT p.data.toList with
  | .bad m => e = .returned (.tuple #[zeroT, .int .i64 (m : Int), .int .i64 8])
  | .ok t _ => ∃ oe ce, e = .returned (.tuple #[t.val (.slice oe t.l.length ce), .int .i64 0, .int .i64 0]) ∧ HT w' (Btw w.heap.size w'.heap.size) (.slice oe t.l.length ce) t.l
set_option maxRecDepth 100000 in
set_option maxHeartbeats 1600000 in
theorem parse_any (p : ByteArray) (w : World) (hA : AL w) :
    Calls Tryd.prog 12 #[.string p] w fun e w' => ParE p w w' e ∧ Below w.heap.size w w' := by
  by_cases hlo : p.size < 1
  · have hI : (p.size : Int) < 1 := by omega
    have HN : Hid (∀ w' e, e = .returned (.tuple #[zeroT, .int .i64 0, .int .i64 2]) → ParE p w w' e) := Lib.hid (fun w' e h => by unfold ParE; rw [if_pos (Or.inl hlo)]; exact h)
    go_enter Tryd.func12, Tryd.ntmps12
    go_wp2_with fail
    exact bodyPost_ret (v := .tuple #[zeroT, .int .i64 0, .int .i64 2]) (by simp [results, Tryd.results12, go_sem, zeroT]) rfl ⟨HN.out _ _ rfl, below1 _ _⟩
  have hloI : ¬ (p.size : Int) < 1 := by omega
  by_cases hhi : 40 < p.size
  · have hI : (40 : Int) < (p.size : Int) := by omega
    have HN : Hid (∀ w' e, e = .returned (.tuple #[zeroT, .int .i64 0, .int .i64 2]) → ParE p w w' e) := Lib.hid (fun w' e h => by unfold ParE; rw [if_pos (Or.inr hhi)]; exact h)
    go_enter Tryd.func12, Tryd.ntmps12
    go_wp2_with fail
    exact bodyPost_ret (v := .tuple #[zeroT, .int .i64 0, .int .i64 2]) (by simp [results, Tryd.results12, go_sem, zeroT]) rfl ⟨HN.out _ _ rfl, below1 _ _⟩
  have hhiI : ¬ (40 : Int) < (p.size : Int) := by omega
  have HNB : Hid (∀ m, parseT p.data.toList = .bad m → ∀ w' e, e = .returned (.tuple #[zeroT, .int .i64 (m : Int), .int .i64 8]) → ParE p w w' e) := Lib.hid (fun m hm w' e h => by unfold ParE; rw [if_neg (by omega), hm]; exact h)
  have HNO : Hid (∀ t m, parseT p.data.toList = .ok t m → ∀ w' e, (∃ oe ce, e = .returned (.tuple #[t.val (.slice oe t.l.length ce), .int .i64 0, .int .i64 0]) ∧ HT w' (Btw w.heap.size w'.heap.size) (.slice oe t.l.length ce) t.l) → ParE p w w' e) := Lib.hid (fun t m hm w' e h => by unfold ParE; rw [if_neg (by omega), hm]; exact h)
  obtain ⟨w1, hw1⟩ : ∃ w1, w1 = (w.alloc (.cells #[.int .i64 0, .int .u64 0, .int .u64 0, .int .u64 0, .int .u64 0, .slice none 0 0] 36)).alloc (.cells #[.string p, .int .i64 0] 95) := ⟨_, rfl⟩
  have HW1 := Lib.hid hw1
  have hs1 : w1.heap.size = w.heap.size + 2 := by rw [hw1]; simp
  have hb1 : Below w.heap.size w w1 := by rw [hw1]; exact below2 _ _ _
  have HZ1 : Hid (Z6 w1 w.heap.size) := Lib.hid (by rw [hw1]; exact (Z6.new w).later (below1 _ _) (by simp))
  have HR1 : Hid (RD w1 (w.heap.size + 1) p 0) := Lib.hid (by
    have := RD.new (w.alloc (.cells #[.int .i64 0, .int .u64 0, .int .u64 0, .int .u64 0, .int .u64 0, .slice none 0 0] 36)) p 0 0 rfl
    rw [show (w.alloc (.cells #[.int .i64 0, .int .u64 0, .int .u64 0, .int .u64 0, .int .u64 0, .slice none 0 0] 36)).heap.size = w.heap.size + 1 by simp] at this
    rw [hw1]; exact this)
  have HB1 := Lib.hid hb1
  have hgood := pat_good p.data.toList (p.size + 1) 0 (Nat.zero_le _)
  have HC := Lib.hid (pat_all p (by omega) (p.size + 1) w1 (w.heap.size + 1) 0 HR1.out (hA.later hb1) (Nat.zero_le _) (by omega))
  have HE : Hid (parseT p.data.toList = (patL p.data.toList (p.size + 1) 0).bind fun t m => if m = p.size then .ok t m else .bad m) := Lib.hid (by unfold parseT; rw [lt_len])
  clear hw1 hA hb1
  cases hq : patL p.data.toList (p.size + 1) 0 with
  | bad m =>
    rw [hq] at HC HE
    have HN := Lib.hid (HNB.out m HE.out)
    clear HE hgood hq HNB HNO
    go_enter Tryd.func12, Tryd.ntmps12
    go_wp2_with fail
    rw [← HW1.out]
    refine HC.out.mono ?_
    rintro e w3 ⟨⟨t, oe, nn, ce, rfl⟩, hR3, hK3⟩
    have hR3' : RD w3 (w.heap.size + 1) p m := hR3
    have h1 := (hR3'.alloc (.cells #[.int .i64 t.k, .int .u64 t.s.a, .int .u64 t.s.b, .int .u64 t.s.c, .int .u64 t.s.d, (.slice oe nn ce)] 36)).at
    have hz3 := HZ1.out.kp hK3 HZ1.out.lt (show ¬ Is (w.heap.size + 1) w.heap.size by unfold Is; omega)
    obtain ⟨z0, z1, z2, z3, z4, z5, zf⟩ := hz3.later (below1 _ (.cells #[.int .i64 t.k, .int .u64 t.s.a, .int .u64 t.s.b, .int .u64 t.s.c, .int .u64 t.s.d, (.slice oe nn ce)] 36)) hz3.lt
    have HB3 : Hid (Below w.heap.size w (w3.alloc (.cells #[.int .i64 t.k, .int .u64 t.s.a, .int .u64 t.s.b, .int .u64 t.s.c, .int .u64 t.s.d, (.slice oe nn ce)] 36))) := Lib.hid (((HB1.out.trans (hK3.below (by omega) (fun k hk e => by unfold Is at e; omega))).trans ((below1 _ _).mono (by have := hK3.size; omega))))
    have q0 := zf 0; have q1 := zf 1; have q2 := zf 2; have q3 := zf 3; have q4 := zf 4; have q5 := zf 5
    clear hR3 hK3 HC hR3' hz3
    unfold PT.val
    go_wp2_with fail
    go_region
    go_wp2_with fail
    refine bodyPost_ret (v := .tuple #[zeroT, .int .i64 (m : Int), .int .i64 8]) (by simp [results, Tryd.results12, go_sem, zeroT, *]) rfl ⟨HN.out _ _ rfl, ?_⟩
    exact (below6 HB3.out (Nat.le_refl _) _ _ _ _ _ _).drew
  | ok t m =>
    rw [hq] at HC HE hgood
    have hmm : 0 < m ∧ m ≤ p.data.toList.length := hgood.1
    rw [lt_len] at hmm
    by_cases hend : m = p.size
    · have HN := Lib.hid (HNO.out t m (by rw [HE.out]; show (if m = p.size then PR.ok t m else .bad m) = _; rw [if_pos hend]))
      clear HE hgood hq HNB HNO
      go_enter Tryd.func12, Tryd.ntmps12
      go_wp2_with fail
      rw [← HW1.out]
      refine HC.out.mono ?_
      rintro e w3 ⟨⟨oe, ce, rfl, hT3⟩, hR3, hK3⟩
      have hs3 := hK3.size
      obtain ⟨w4, hw4⟩ : ∃ w4, w4 = w3.alloc (.cells #[.int .i64 t.k, .int .u64 t.s.a, .int .u64 t.s.b, .int .u64 t.s.c, .int .u64 t.s.d, (.slice oe t.l.length ce)] 36) := ⟨_, rfl⟩
      have HW4 := Lib.hid hw4
      have hb4 : Below w3.heap.size w3 w4 := by rw [hw4]; exact below1 _ _
      have hs4 : w4.heap.size = w3.heap.size + 1 := by rw [hw4]; simp
      have hR3' : RD w3 (w.heap.size + 1) p m := hR3
      have HR4 := Lib.hid (hR3'.bel hb4)
      have hz3 := HZ1.out.kp hK3 HZ1.out.lt (show ¬ Is (w.heap.size + 1) w.heap.size by unfold Is; omega)
      have hz4 := hz3.later hb4 hz3.lt
      have HZ4 := Lib.hid hz4
      have HB4 : Hid (TB w4 w3.heap.size t (.slice oe t.l.length ce)) := Lib.hid (by rw [hw4]; exact TB.new _ _ _)
      have HT3 := Lib.hid hT3
      have HX4 : Hid (Kp w3.heap.size (Is w.heap.size) w3 w4) := Lib.hid (.of hb4 (Nat.le_refl _))
      have HBl : Hid (Below w.heap.size w w4) := Lib.hid ((HB1.out.trans (hK3.below (by omega) (fun k hk e => by unfold Is at e; omega))).trans (hb4.mono (by omega)))
      have HAt := Lib.hid (atEnd_any w4 (w.heap.size + 1) p m HR4.out)
      rw [decide_eq_true hend] at HAt
      clear hR3 hK3 HC hR3' hz3 hz4 hT3 hw4 hb4
      unfold PT.val
      go_wp2_with fail
      rw [← HW4.out]
      refine HAt.out.mono ?_
      rintro e w5 ⟨rfl, k, rfl⟩
      obtain ⟨z0, z1, z2, z3, z4, z5, zf⟩ := HZ4.out
      obtain ⟨c0, c1, c2, c3, c4, c5, -⟩ := HB4.out
      clear HAt
      go_wp2_with fail
      refine bodyPost_ret (v := .tuple #[.agg #[.int .i64 t.k, .int .u64 t.s.a, .int .u64 t.s.b, .int .u64 t.s.c, .int .u64 t.s.d, (.slice oe t.l.length ce)], .int .i64 0, .int .i64 0]) (by simp [results, Tryd.results12, go_sem, *]) rfl ⟨HN.out _ _ ⟨oe, ce, rfl, ?_⟩, below6 (HBl.out.trans (below_drewN _ _ _)) (Nat.le_refl _) _ _ _ _ _ _⟩
      exact (kpset6 (HX4.out.drewN k) rfl _ _ _ _ _ _).rep HT3.out (Nat.le_refl _) (fun k h1 h2 h => by unfold Is at h; omega) (by omega) (by rw [size6]; show w3.heap.size ≤ w4.heap.size; omega)
    · have HN := Lib.hid (HNB.out m (by rw [HE.out]; show (if m = p.size then PR.ok t m else .bad m) = _; rw [if_neg hend]))
      clear HE hgood hq HNB HNO
      go_enter Tryd.func12, Tryd.ntmps12
      go_wp2_with fail
      rw [← HW1.out]
      refine HC.out.mono ?_
      rintro e w3 ⟨⟨oe, ce, rfl, hT3⟩, hR3, hK3⟩
      have hs3 := hK3.size
      obtain ⟨w4, hw4⟩ : ∃ w4, w4 = w3.alloc (.cells #[.int .i64 t.k, .int .u64 t.s.a, .int .u64 t.s.b, .int .u64 t.s.c, .int .u64 t.s.d, (.slice oe t.l.length ce)] 36) := ⟨_, rfl⟩
      have HW4 := Lib.hid hw4
      have hb4 : Below w3.heap.size w3 w4 := by rw [hw4]; exact below1 _ _
      have hR3' : RD w3 (w.heap.size + 1) p m := hR3
      have HR4 := Lib.hid (hR3'.bel hb4)
      have hz3 := HZ1.out.kp hK3 HZ1.out.lt (show ¬ Is (w.heap.size + 1) w.heap.size by unfold Is; omega)
      have hz4 := hz3.later hb4 hz3.lt
      have HZ4 := Lib.hid hz4
      have HB3 : Hid (Below w.heap.size w w4) := Lib.hid ((HB1.out.trans (hK3.below (by omega) (fun k hk e => by unfold Is at e; omega))).trans (hb4.mono (by omega)))
      have HAt := Lib.hid (atEnd_any w4 (w.heap.size + 1) p m HR4.out)
      rw [decide_eq_false hend] at HAt
      clear hR3 hK3 HC hR3' hz3 hz4 hT3 hw4 hb4
      unfold PT.val
      go_wp2_with fail
      rw [← HW4.out]
      refine HAt.out.mono ?_
      rintro e w5 ⟨rfl, k, rfl⟩
      have h1 := HR4.out.at
      obtain ⟨z0, z1, z2, z3, z4, z5, zf⟩ := HZ4.out
      have q0 := zf 0; have q1 := zf 1; have q2 := zf 2; have q3 := zf 3; have q4 := zf 4; have q5 := zf 5
      clear HAt
      go_wp2_with fail
      go_region
      go_wp2_with fail
      refine bodyPost_ret (v := .tuple #[zeroT, .int .i64 (m : Int), .int .i64 8]) (by simp [results, Tryd.results12, go_sem, zeroT, *]) rfl ⟨HN.out _ _ rfl, ?_⟩
      exact below6 (HB3.out.trans (below_drewN _ _ _)) (Nat.le_refl _) _ _ _ _ _ _
end Go.Proofs.YtaipaddfehpmgaaDoor
