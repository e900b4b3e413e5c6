/-
  several of the reader of patterns. Nothing is assumed.
-/
import Derived.Test.YtaipaddfehpmgaaDoorPtRepd
namespace Go.Proofs.YtaipaddfehpmgaaDoor
open Go.RowKit

theorem two_new' (w : World) (X Y : Obj) : ((w.alloc X).alloc Y).heap[w.heap.size + 1]? = some Y := by
  show ((w.heap.push X).push Y)[w.heap.size + 1]? = some Y
  rw [Array.getElem?_push, if_pos (by simp)]

set_option maxRecDepth 100000 in
set_option maxHeartbeats 4000000 in
theorem several_cat (n : Nat) (w : World) (b bx : Nat) (s : ByteArray) (i : Nat) (one : Nat → PR PT) (sep : Nat → Option Nat)
    (hone : ∀ (w' : World) (j : Nat), RD w' b s j → AL w' → j ≤ s.size → s.size < j + (n + 1) → Calls Tryd.prog 73 #[(.pointer (some ⟨b, 0, none⟩))] w' (OutT b s w' (one j)))
    (hsep : ∀ (w' : World) (j : Nat), RD w' b s j → AL w' → w'.cell? ⟨bx, 0, none⟩ = some (.pointer (some ⟨b, 0, none⟩)) → j ≤ s.size → Calls Tryd.prog 71 #[.pointer (some ⟨bx, 0, none⟩)] w' fun e w'' => e = .returned (.bool (sep j).isSome) ∧ RD w'' b s ((sep j).getD j) ∧ Kp w'.heap.size (Is b) w' w'')
    (hgd : Good s.data.toList one) (hso : SepOk s.data.toList sep) (h : RD w b s i) (hA : AL w) (hbx : w.cell? ⟨bx, 0, none⟩ = some (.pointer (some ⟨b, 0, none⟩))) (hi : i ≤ s.size) (hn : s.size < i + (n + 1)) (hs : s.size ≤ 1000) :
    Calls Tryd.prog 54 #[(.pointer (some ⟨b, 0, none⟩)), .int .i64 4, .func (.func 73) #[(.pointer (some ⟨b, 0, none⟩))] #[], .func (.func 71) #[] #[.pointer (some ⟨bx, 0, none⟩)]] w (OutT b s w ((sevL one sep (s.data.toList.length + 1) [] i).map (joinT 4))) := by
  obtain ⟨i0, hi0, hz0, hz1, hz2⟩ := info_parts infoTree
  have hblt := h.lt
  have hbxlt : bx < w.heap.size := World.block_lt_of_cell? _ _ hbx
  have hbxne : ¬ Is b bx := fun e => by
    unfold Is at e
    subst e
    rw [h.text] at hbx
    cases hbx
  have HBX := Lib.hid hbx
  have HONE := Lib.hid hone
  have HSEP := Lib.hid hsep
  have HGD := Lib.hid hgd
  have HSO := Lib.hid hso
  have HA := Lib.hid hA
  have HGB := Lib.hid (hA.rd h)
  obtain ⟨w1, hw1⟩ : ∃ w1, w1 = w.alloc (.cells #[.int .i64 0, .int .u64 0, .int .u64 0, .int .u64 0, .int .u64 0, .slice none 0 0] 36) := ⟨_, rfl⟩
  have HW1 := Lib.hid hw1
  have hs1 : w1.heap.size = w.heap.size + 1 := by rw [hw1]; simp
  have hb1 : Below w.heap.size w w1 := by rw [hw1]; exact below1 _ _
  have HR1 := Lib.hid (h.bel hb1)
  have HZ1 : Hid (Z6 w1 w.heap.size) := Lib.hid (by rw [hw1]; exact Z6.new _)
  have HK1 : Hid (Kp w.heap.size (Is b) w w1) := Lib.hid (.of hb1 (Nat.le_refl _))
  generalize hRES : (sevL one sep (s.data.toList.length + 1) [] i).map (joinT 4) = RES at *
  have HE0 : Hid (RES = (sevL one sep (s.size + 1) [] i).map (joinT 4)) := Lib.hid (by rw [← hRES, lt_len])
  clear hRES hw1 hb1 h hA hbx hone hsep hgd hso
  go_enter Tryd.func54, Tryd.ntmps54
  go_wp2_with fail
  rw [← HW1.out]
  go_loopg [10] (s.size + 1) (fun g v wr => ∃ (acc : List PT) (oc : Option Addr) (cc ii : Nat), v = .slice oc acc.length cc ∧ ii ≤ s.size ∧ i ≤ ii ∧ s.size < ii + g ∧ acc.length + i ≤ ii ∧ Hid (Acc wr (w.heap.size + 1) (.slice oc acc.length cc) acc) ∧ Hid (RD wr b s ii) ∧ Hid (Z6 wr w.heap.size) ∧ Hid (Kp w.heap.size (Is b) w wr) ∧ w.heap.size + 1 ≤ wr.heap.size ∧ Hid (RES = (sevL one sep g acc ii).map (joinT 4)))
  case atStart => exact ⟨[], none, 0, i, rfl, hi, Nat.le_refl _, by omega, by simp, Lib.hid (Acc.nil _ _), HR1, HZ1, HK1, by omega, HE0⟩
  case round =>
    obtain ⟨acc, oc, cc, ii, rfl, hii, hi0i, hfu, hai, HAc, HR, HZ, HK, hwr, HE⟩ := hrel
    obtain ⟨gf, rfl⟩ : ∃ gf, gk = gf + 1 := ⟨gk - 1, by omega⟩
    clear HR1 HZ1 HK1 HE0
    have HAr : Hid (AL wr) := Lib.hid (HA.out.kp HK.out (Nat.le_refl _) HGB.out)
    by_cases hl0 : acc.length = 0
    · have hl0b : ((acc.length : Int) == 0) = true := by rw [beq_iff_eq]; omega
      have HEj : Hid (RES = ((one ii).bind fun t m => sevL one sep gf (acc ++ [t]) m).map (joinT 4)) := Lib.hid (by rw [HE.out, sevL, if_pos hl0])
      obtain ⟨W3, hW3⟩ : ∃ W3 : World, W3 = wr := ⟨_, rfl⟩
      obtain ⟨jj, hjj0⟩ : ∃ jj, jj = ii := ⟨_, rfl⟩
      subst hW3
      subst hjj0
      have hjj := hii
      have HR3 := HR; have HZ3 := HZ; have HK3 := HK; have HAc3 := HAc; have HA3 := HAr
      have hw3 := hwr
      clear HR HZ HK HAc HAr HE hwr

      have HC := Lib.hid (HONE.out W3 jj HR3.out HA3.out hjj (by omega))
      have hg4 := HGD.out jj (by rw [lt_len]; exact hjj)
      cases hq : one jj with
      | bad m =>
        rw [hq] at HC HEj
        have HN : Hid (RES = .bad m) := Lib.hid HEj.out
        clear HEj hg4 hq HAc3 HA3
        go_wp2_with fail
        refine HC.out.mono ?_
        rintro e w4 ⟨⟨t, oe, nn, ce, rfl⟩, hR4, hK4⟩
        have HR4 : Hid (RD (w4.alloc (.cells #[.int .i64 t.k, .int .u64 t.s.a, .int .u64 t.s.b, .int .u64 t.s.c, .int .u64 t.s.d, (.slice oe nn ce)] 36)) b s m) := Lib.hid (RD.alloc hR4 _)
        have hz4 := HZ3.out.kp hK4 HZ3.out.lt (show ¬ Is b w.heap.size by unfold Is; omega)
        obtain ⟨z0, z1, z2, z3, z4, z5, zf⟩ := hz4.later (below1 _ (.cells #[.int .i64 t.k, .int .u64 t.s.a, .int .u64 t.s.b, .int .u64 t.s.c, .int .u64 t.s.d, (.slice oe nn ce)] 36)) hz4.lt
        have HK4 : Hid (Kp w.heap.size (Is b) w (w4.alloc (.cells #[.int .i64 t.k, .int .u64 t.s.a, .int .u64 t.s.b, .int .u64 t.s.c, .int .u64 t.s.d, (.slice oe nn ce)] 36))) := Lib.hid ((HK3.out.trans (hK4.less HK3.out.size)).bel (below1 _ _) (by have := hK4.size; omega))
        clear hR4 hK4 HC hz4 HR3 HZ3 HK3
        unfold PT.val
        go_wp2_with fail
        refine bodyPost_ret (v := .tuple #[.agg #[.int .i64 0, .int .u64 0, .int .u64 0, .int .u64 0, .int .u64 0, .slice none 0 0], .bool false]) (by simp [results, Tryd.results54, go_sem, *]) rfl ?_
        rw [HN.out]
        exact ⟨OutE.bad _ _ _ (.mk 0 .zero []) _ _ _, (at6 (by omega) _ _ _ _ _ _).trans HR4.out, kp6 HK4.out (Nat.le_refl _) _ _ _ _ _ _⟩
      | ok t m =>
        rw [hq] at HC HEj hg4
        have him : jj < m ∧ m ≤ s.data.toList.length := hg4.1
        rw [lt_len] at him
        have HEn : Hid (RES = (sevL one sep gf (acc ++ [t]) m).map (joinT 4)) := Lib.hid HEj.out
        clear HEj hg4 hq HA3
        go_wp2_with fail
        refine HC.out.mono ?_
        rintro e w4 ⟨⟨oe, ce, rfl, hrep⟩, hR4, hK4⟩
        have hs4 : W3.heap.size ≤ w4.heap.size := hK4.size
        have hz4 := HZ3.out.kp hK4 HZ3.out.lt (show ¬ Is b w.heap.size by unfold Is; omega)
        have HK4 : Hid (Kp w.heap.size (Is b) w w4) := Lib.hid (HK3.out.trans (hK4.less HK3.out.size))
        obtain ⟨ps, hps, ho4, hr4⟩ := HAc3.out.kp hK4 (Nat.le_refl _) (fun k hk h => by unfold Is at h; omega)
        have hpl : ps.length = acc.length := by rw [← hps, List.length_map]
        have hol : ∀ q, (Value.slice oc acc.length cc).ownBlock = some q → q < W3.heap.size := fun q hq => by
          obtain ⟨ps', hps', ho', -⟩ := HAc3.out
          exact (own_lt ho' q hq).2
        have hn1 : ps.length + 1 ≤ maxLen := by unfold maxLen; omega
        have hby : (ps.length + 1) * 64 ≤ 140737488355328 := by omega
        rw [← hpl] at ho4 hr4
        rw [← hpl] at *
        have HOL := Lib.hid hol
        have hsz2 : ((w4.alloc (.cells #[.int .i64 t.k, .int .u64 t.s.a, .int .u64 t.s.b, .int .u64 t.s.c, .int .u64 t.s.d, (.slice oe t.l.length ce)] 36)).alloc (.cells #[.int .i64 t.k, .int .u64 t.s.a, .int .u64 t.s.b, .int .u64 t.s.c, .int .u64 t.s.d, (.slice oe t.l.length ce)] 36)).heap.size = w4.heap.size + 2 := by simp
        have hnw : ((w4.alloc (.cells #[.int .i64 t.k, .int .u64 t.s.a, .int .u64 t.s.b, .int .u64 t.s.c, .int .u64 t.s.d, (.slice oe t.l.length ce)] 36)).alloc (.cells #[.int .i64 t.k, .int .u64 t.s.a, .int .u64 t.s.b, .int .u64 t.s.c, .int .u64 t.s.d, (.slice oe t.l.length ce)] 36)).heap[w4.heap.size + 1]? = some (.cells #[.int .i64 t.k, .int .u64 t.s.a, .int .u64 t.s.b, .int .u64 t.s.c, .int .u64 t.s.d, (.slice oe t.l.length ce)] 36 (0, 0)) := two_new' _ _ _
        have HO5 := Lib.hid ((show w4.ownsRow (w.heap.size + 1) 36 6 (.slice oc ps.length cc) ps.length (flatP ps) from ho4).alloc (.cells #[.int .i64 t.k, .int .u64 t.s.a, .int .u64 t.s.b, .int .u64 t.s.c, .int .u64 t.s.d, (.slice oe t.l.length ce)] 36) |>.alloc (.cells #[.int .i64 t.k, .int .u64 t.s.a, .int .u64 t.s.b, .int .u64 t.s.c, .int .u64 t.s.d, (.slice oe t.l.length ce)] 36))
        have HR5 : Hid (RD ((w4.alloc (.cells #[.int .i64 t.k, .int .u64 t.s.a, .int .u64 t.s.b, .int .u64 t.s.c, .int .u64 t.s.d, (.slice oe t.l.length ce)] 36)).alloc (.cells #[.int .i64 t.k, .int .u64 t.s.a, .int .u64 t.s.b, .int .u64 t.s.c, .int .u64 t.s.d, (.slice oe t.l.length ce)] 36)) b s m) := Lib.hid (RD.alloc (RD.alloc hR4 _) _)
        have HK5 : Hid (Kp w.heap.size (Is b) w ((w4.alloc (.cells #[.int .i64 t.k, .int .u64 t.s.a, .int .u64 t.s.b, .int .u64 t.s.c, .int .u64 t.s.d, (.slice oe t.l.length ce)] 36)).alloc (.cells #[.int .i64 t.k, .int .u64 t.s.a, .int .u64 t.s.b, .int .u64 t.s.c, .int .u64 t.s.d, (.slice oe t.l.length ce)] 36))) := Lib.hid (HK4.out.bel (below2 _ _ _) HK4.out.size)
        have HZ5 : Hid (Z6 ((w4.alloc (.cells #[.int .i64 t.k, .int .u64 t.s.a, .int .u64 t.s.b, .int .u64 t.s.c, .int .u64 t.s.d, (.slice oe t.l.length ce)] 36)).alloc (.cells #[.int .i64 t.k, .int .u64 t.s.a, .int .u64 t.s.b, .int .u64 t.s.c, .int .u64 t.s.d, (.slice oe t.l.length ce)] 36)) w.heap.size) := Lib.hid (hz4.later (below2 _ _ _) hz4.lt)
        have HRs5 : Hid (∀ p, p ∈ ps → HT ((w4.alloc (.cells #[.int .i64 t.k, .int .u64 t.s.a, .int .u64 t.s.b, .int .u64 t.s.c, .int .u64 t.s.d, (.slice oe t.l.length ce)] 36)).alloc (.cells #[.int .i64 t.k, .int .u64 t.s.a, .int .u64 t.s.b, .int .u64 t.s.c, .int .u64 t.s.d, (.slice oe t.l.length ce)] 36)) (Off (w.heap.size + 1) ((w4.alloc (.cells #[.int .i64 t.k, .int .u64 t.s.a, .int .u64 t.s.b, .int .u64 t.s.c, .int .u64 t.s.d, (.slice oe t.l.length ce)] 36)).alloc (.cells #[.int .i64 t.k, .int .u64 t.s.a, .int .u64 t.s.b, .int .u64 t.s.c, .int .u64 t.s.d, (.slice oe t.l.length ce)] 36)).heap.size (Value.slice oc ps.length cc).ownBlock) p.2 p.1.l) := Lib.hid (fun p hp => (hr4 p hp).later (fun q hq => ⟨⟨hq.1.1, by have := hq.1.2; rw [hsz2]; omega⟩, hq.2⟩) (fun q hq o => (below2 w4 _ _).cell (p := ⟨q, o, none⟩) hq.1.2))
        have HRp5 : Hid (HT ((w4.alloc (.cells #[.int .i64 t.k, .int .u64 t.s.a, .int .u64 t.s.b, .int .u64 t.s.c, .int .u64 t.s.d, (.slice oe t.l.length ce)] 36)).alloc (.cells #[.int .i64 t.k, .int .u64 t.s.a, .int .u64 t.s.b, .int .u64 t.s.c, .int .u64 t.s.d, (.slice oe t.l.length ce)] 36)) (Btw W3.heap.size ((w4.alloc (.cells #[.int .i64 t.k, .int .u64 t.s.a, .int .u64 t.s.b, .int .u64 t.s.c, .int .u64 t.s.d, (.slice oe t.l.length ce)] 36)).alloc (.cells #[.int .i64 t.k, .int .u64 t.s.a, .int .u64 t.s.b, .int .u64 t.s.c, .int .u64 t.s.d, (.slice oe t.l.length ce)] 36)).heap.size) (.slice oe t.l.length ce) t.l) := Lib.hid (hrep.later (fun q hq => ⟨hq.1, by have := hq.2; rw [hsz2]; omega⟩) (fun q hq o => (below2 w4 _ _).cell (p := ⟨q, o, none⟩) hq.2))
        have hps2 : ps.map (·.1) = acc := hps
        clear ho4 hR4 hK4 HK4 hr4 hrep HC HR3 HZ3 HK3 HAc3 hol hz4
        unfold PT.val
        go_wp2_with (at_builtin; refine wpList_append_lies _ rfl _ _ _ rfl (w.heap.size + 1) 36 i0 _ 6 64 Tryd.underlying34 hi0 hz0 hz1 hz2 rfl (by omega) (.slice oc ps.length cc) ps.length (flatP ps) rfl HO5.out ⟨w4.heap.size + 1, 0, none⟩ 1 1 [.int .i64 t.k, .int .u64 t.s.a, .int .u64 t.s.b, .int .u64 t.s.c, .int .u64 t.s.d, (.slice oe t.l.length ce)] rfl rfl (World.news_of_block (cs := #[.int .i64 t.k, .int .u64 t.s.a, .int .u64 t.s.b, .int .u64 t.s.c, .int .u64 t.s.d, (.slice oe t.l.length ce)]) (t := 36) (fr := (0, 0)) hnw) (by simp [Value.oneCell']) (by omega) hn1 hby (by simp; omega) (w4.heap.size + 2) hsz2 ?_)
        intro gg cap2 w5 hown5 hgrow hat hgl
        have HA6 : Hid (Acc w5 (w.heap.size + 1) (.slice (some ⟨gg, 0, none⟩) (ps.length + 1) cap2) (acc ++ [t])) := Lib.hid (by
          rw [← hps2]
          exact Acc.snoc HO5.out HRs5.out HRp5.out (by omega) HOL.out hown5 hgrow (by rw [hsz2]; exact hat) hgl)
        have hkk : Kp w.heap.size (Is b) ((w4.alloc (.cells #[.int .i64 t.k, .int .u64 t.s.a, .int .u64 t.s.b, .int .u64 t.s.c, .int .u64 t.s.d, (.slice oe t.l.length ce)] 36)).alloc (.cells #[.int .i64 t.k, .int .u64 t.s.a, .int .u64 t.s.b, .int .u64 t.s.c, .int .u64 t.s.d, (.slice oe t.l.length ce)] 36)) w5 := ⟨hgrow.os, hgrow.tape, hgrow.output, hgrow.size, fun q hq _ => hgrow.block q (by rw [hsz2]; omega) (fun e => by have := (own_lt HO5.out q e.symm).1; omega)⟩
        have HK6 : Hid (Kp w.heap.size (Is b) w w5) := Lib.hid (HK5.out.trans hkk)
        have HR6 : Hid (RD w5 b s m) := Lib.hid ((hgrow.block b (by rw [hsz2]; omega) (fun e => by have := (own_lt HO5.out b e.symm).1; omega)).trans HR5.out)
        have HZ6 : Hid (Z6 w5 w.heap.size) := Lib.hid (Box6.of_block HZ5.out (hgrow.block w.heap.size (by rw [hsz2]; omega) (fun e => by have := (own_lt HO5.out w.heap.size e.symm).1; omega)))
        have hw5 : w.heap.size + 1 ≤ w5.heap.size := by have := hgrow.size; rw [hsz2] at this; omega
        clear hown5 hgrow hat hgl HO5 HRs5 HRp5 HK5 HR5 HZ5 hkk
        have hpl2 : acc.length = ps.length := by rw [← hps2, List.length_map]
        have HPL2 := Lib.hid hpl2
        clear hpl2 hps2
        go_wp2_with fail
        have hpl2 := HPL2.out
        go_roundg gf
        case measure => omega
        case rel => exact ⟨acc ++ [t], some ⟨gg, 0, none⟩, cap2, m, by rw [List.length_append, hpl2]; rfl, by omega, by omega, by omega, by rw [List.length_append, hpl2]; show ps.length + 1 + i ≤ m; omega, by rw [List.length_append, hpl2]; exact HA6, HR6, HZ6, HK6, hw5, HEn⟩
    · have hl0b : ((acc.length : Int) == 0) = false := by rw [beq_eq_false_iff_ne]; omega
      have HS := Lib.hid (HSEP.out wr ii HR.out HAr.out ((HK.out.cell (p := ⟨bx, 0, none⟩) hbxlt hbxne).trans HBX.out) hii)
      cases hsep : sep ii with
      | none =>
        have HN : Hid (RES = .ok (joinT 4 acc) ii) := Lib.hid (by rw [HE.out, sevL, if_neg hl0, hsep]; rfl)
        rw [hsep] at HS
        have HR' : Hid (Calls Tryd.prog 71 #[.pointer (some ⟨bx, 0, none⟩)] wr fun e w'' => e = .returned (.bool false) ∧ RD w'' b s ii ∧ Kp wr.heap.size (Is b) wr w'') := HS
        clear HE HS hsep HAr
        by_cases hl1 : acc.length = 1
        · have hl1b : ((acc.length : Int) == 1) = true := by rw [beq_iff_eq]; omega
          obtain ⟨t, rfl⟩ : ∃ t, acc = [t] := by
            match acc, hl1 with
            | [t], _ => exact ⟨t, rfl⟩
          go_wp2_with fail
          refine HR'.out.mono ?_
          rintro e W3 ⟨rfl, hR3, hK3⟩
          have HR3 := Lib.hid hR3
          have hac := HAc.out.kp hK3 (Nat.le_refl _) (fun k hk h => by unfold Is at h; omega)
          have hht := hac.repS (by simp)
          obtain ⟨gb, off, oe, ce, rfl, hgb, hT3, c0, c1, c2, c3, c4, c5⟩ := hht.at_ (i := 0) rfl
          have HT3 := Lib.hid hT3
          obtain ⟨z0, z1, z2, z3, z4, z5, zf⟩ := HZ.out.kp hK3 HZ.out.lt (show ¬ Is b w.heap.size by unfold Is; omega)
          have HK3 := Lib.hid (HK.out.trans (hK3.less HK.out.size))
          have hgb1 : w.heap.size + 1 ≤ gb := hgb.1
          clear hR3 hK3 HR' hac hht hT3 HR HZ HK HAc
          simp only [Nat.zero_mul, Nat.add_zero] at c0 c1 c2 c3 c4 c5
          go_wp2_with fail
          refine bodyPost_ret (v := .tuple #[.agg #[.int .i64 t.k, .int .u64 t.s.a, .int .u64 t.s.b, .int .u64 t.s.c, .int .u64 t.s.d, (.slice oe t.l.length ce)], .bool true]) (by simp [results, Tryd.results54, go_sem, *]) rfl ?_
          rw [HN.out]
          refine ⟨⟨oe, ce, rfl, ?_⟩, (at6 (by omega) _ _ _ _ _ _).trans HR3.out, kp6 HK3.out (Nat.le_refl _) _ _ _ _ _ _⟩
          exact (kpset6 (Kp.refl W3.heap.size (Is w.heap.size) W3) rfl _ _ _ _ _ _).rep HT3.out (Nat.le_refl _) (fun k h1 h2 h => by unfold Is at h; omega) (by omega) (by rw [size6]; omega)
        · have hl1b : ((acc.length : Int) == 1) = false := by rw [beq_eq_false_iff_ne]; omega
          have hj : joinT 4 acc = .mk 4 .zero acc := by
            match acc, hl0, hl1 with
            | [], h, _ => exact absurd rfl h
            | [t], _, h => exact absurd rfl h
            | _ :: _ :: _, _, _ => rfl
          have HN2 : Hid (RES = .ok (.mk 4 .zero acc) ii) := Lib.hid (by rw [HN.out, hj])
          clear HN hj
          go_wp2_with fail
          refine HR'.out.mono ?_
          rintro e W3 ⟨rfl, hR3, hK3⟩
          have HR3 := Lib.hid hR3
          have hac := HAc.out.kp hK3 (Nat.le_refl _) (fun k hk h => by unfold Is at h; omega)
          have HT3 := Lib.hid (hac.repS (by omega))
          obtain ⟨z0, z1, z2, z3, z4, z5, zf⟩ := HZ.out.kp hK3 HZ.out.lt (show ¬ Is b w.heap.size by unfold Is; omega)
          have HK3 := Lib.hid (HK.out.trans (hK3.less HK.out.size))
          clear hR3 hK3 HR' hac HR HZ HK HAc
          go_wp2_with fail
          refine bodyPost_ret (v := .tuple #[.agg #[.int .i64 4, .int .u64 0, .int .u64 0, .int .u64 0, .int .u64 0, .slice oc acc.length cc], .bool true]) (by simp [results, Tryd.results54, go_sem, *]) rfl ?_
          rw [HN2.out]
          refine ⟨⟨oc, cc, rfl, ?_⟩, (at6 (by omega) _ _ _ _ _ _).trans HR3.out, kp6 HK3.out (Nat.le_refl _) _ _ _ _ _ _⟩
          exact (kpset6 (Kp.refl W3.heap.size (Is w.heap.size) W3) rfl _ _ _ _ _ _).rep HT3.out (Nat.le_refl _) (fun k h1 h2 h => by unfold Is at h; omega) (by omega) (by rw [size6]; omega)
      | some jj =>
        have HEj : Hid (RES = ((one jj).bind fun t m => sevL one sep gf (acc ++ [t]) m).map (joinT 4)) := Lib.hid (by rw [HE.out, sevL, if_neg hl0, hsep])
        obtain ⟨hj1, hjj⟩ := HSO.out ii jj hsep (by rw [lt_len]; exact hii)
        rw [lt_len] at hjj
        rw [hsep] at HS
        have HR' : Hid (Calls Tryd.prog 71 #[.pointer (some ⟨bx, 0, none⟩)] wr fun e w'' => e = .returned (.bool true) ∧ RD w'' b s jj ∧ Kp wr.heap.size (Is b) wr w'') := HS
        clear HE HS hsep HAr
        go_wp2_with fail
        refine HR'.out.mono ?_
        rintro e W3 ⟨rfl, hR3, hK3⟩
        have HR3 := Lib.hid hR3
        have HAc3 := Lib.hid (HAc.out.kp hK3 (Nat.le_refl _) (fun k hk h => by unfold Is at h; omega))
        have HZ3 := Lib.hid (HZ.out.kp hK3 HZ.out.lt (show ¬ Is b w.heap.size by unfold Is; omega))
        have HK3 := Lib.hid (HK.out.trans (hK3.less HK.out.size))
        have hw3 : w.heap.size + 1 ≤ W3.heap.size := by have := hK3.size; omega
        have HA3 : Hid (AL W3) := Lib.hid (HA.out.kp HK3.out (Nat.le_refl _) HGB.out)
        clear hR3 hK3 HR' HR HZ HK HAc

        have HC := Lib.hid (HONE.out W3 jj HR3.out HA3.out hjj (by omega))
        have hg4 := HGD.out jj (by rw [lt_len]; exact hjj)
        cases hq : one jj with
        | bad m =>
          rw [hq] at HC HEj
          have HN : Hid (RES = .bad m) := Lib.hid HEj.out
          clear HEj hg4 hq HAc3 HA3
          go_wp2_with fail
          refine HC.out.mono ?_
          rintro e w4 ⟨⟨t, oe, nn, ce, rfl⟩, hR4, hK4⟩
          have HR4 : Hid (RD (w4.alloc (.cells #[.int .i64 t.k, .int .u64 t.s.a, .int .u64 t.s.b, .int .u64 t.s.c, .int .u64 t.s.d, (.slice oe nn ce)] 36)) b s m) := Lib.hid (RD.alloc hR4 _)
          have hz4 := HZ3.out.kp hK4 HZ3.out.lt (show ¬ Is b w.heap.size by unfold Is; omega)
          obtain ⟨z0, z1, z2, z3, z4, z5, zf⟩ := hz4.later (below1 _ (.cells #[.int .i64 t.k, .int .u64 t.s.a, .int .u64 t.s.b, .int .u64 t.s.c, .int .u64 t.s.d, (.slice oe nn ce)] 36)) hz4.lt
          have HK4 : Hid (Kp w.heap.size (Is b) w (w4.alloc (.cells #[.int .i64 t.k, .int .u64 t.s.a, .int .u64 t.s.b, .int .u64 t.s.c, .int .u64 t.s.d, (.slice oe nn ce)] 36))) := Lib.hid ((HK3.out.trans (hK4.less HK3.out.size)).bel (below1 _ _) (by have := hK4.size; omega))
          clear hR4 hK4 HC hz4 HR3 HZ3 HK3
          unfold PT.val
          go_wp2_with fail
          refine bodyPost_ret (v := .tuple #[.agg #[.int .i64 0, .int .u64 0, .int .u64 0, .int .u64 0, .int .u64 0, .slice none 0 0], .bool false]) (by simp [results, Tryd.results54, go_sem, *]) rfl ?_
          rw [HN.out]
          exact ⟨OutE.bad _ _ _ (.mk 0 .zero []) _ _ _, (at6 (by omega) _ _ _ _ _ _).trans HR4.out, kp6 HK4.out (Nat.le_refl _) _ _ _ _ _ _⟩
        | ok t m =>
          rw [hq] at HC HEj hg4
          have him : jj < m ∧ m ≤ s.data.toList.length := hg4.1
          rw [lt_len] at him
          have HEn : Hid (RES = (sevL one sep gf (acc ++ [t]) m).map (joinT 4)) := Lib.hid HEj.out
          clear HEj hg4 hq HA3
          go_wp2_with fail
          refine HC.out.mono ?_
          rintro e w4 ⟨⟨oe, ce, rfl, hrep⟩, hR4, hK4⟩
          have hs4 : W3.heap.size ≤ w4.heap.size := hK4.size
          have hz4 := HZ3.out.kp hK4 HZ3.out.lt (show ¬ Is b w.heap.size by unfold Is; omega)
          have HK4 : Hid (Kp w.heap.size (Is b) w w4) := Lib.hid (HK3.out.trans (hK4.less HK3.out.size))
          obtain ⟨ps, hps, ho4, hr4⟩ := HAc3.out.kp hK4 (Nat.le_refl _) (fun k hk h => by unfold Is at h; omega)
          have hpl : ps.length = acc.length := by rw [← hps, List.length_map]
          have hol : ∀ q, (Value.slice oc acc.length cc).ownBlock = some q → q < W3.heap.size := fun q hq => by
            obtain ⟨ps', hps', ho', -⟩ := HAc3.out
            exact (own_lt ho' q hq).2
          have hn1 : ps.length + 1 ≤ maxLen := by unfold maxLen; omega
          have hby : (ps.length + 1) * 64 ≤ 140737488355328 := by omega
          rw [← hpl] at ho4 hr4
          rw [← hpl] at *
          have HOL := Lib.hid hol
          have hsz2 : ((w4.alloc (.cells #[.int .i64 t.k, .int .u64 t.s.a, .int .u64 t.s.b, .int .u64 t.s.c, .int .u64 t.s.d, (.slice oe t.l.length ce)] 36)).alloc (.cells #[.int .i64 t.k, .int .u64 t.s.a, .int .u64 t.s.b, .int .u64 t.s.c, .int .u64 t.s.d, (.slice oe t.l.length ce)] 36)).heap.size = w4.heap.size + 2 := by simp
          have hnw : ((w4.alloc (.cells #[.int .i64 t.k, .int .u64 t.s.a, .int .u64 t.s.b, .int .u64 t.s.c, .int .u64 t.s.d, (.slice oe t.l.length ce)] 36)).alloc (.cells #[.int .i64 t.k, .int .u64 t.s.a, .int .u64 t.s.b, .int .u64 t.s.c, .int .u64 t.s.d, (.slice oe t.l.length ce)] 36)).heap[w4.heap.size + 1]? = some (.cells #[.int .i64 t.k, .int .u64 t.s.a, .int .u64 t.s.b, .int .u64 t.s.c, .int .u64 t.s.d, (.slice oe t.l.length ce)] 36 (0, 0)) := two_new' _ _ _
          have HO5 := Lib.hid ((show w4.ownsRow (w.heap.size + 1) 36 6 (.slice oc ps.length cc) ps.length (flatP ps) from ho4).alloc (.cells #[.int .i64 t.k, .int .u64 t.s.a, .int .u64 t.s.b, .int .u64 t.s.c, .int .u64 t.s.d, (.slice oe t.l.length ce)] 36) |>.alloc (.cells #[.int .i64 t.k, .int .u64 t.s.a, .int .u64 t.s.b, .int .u64 t.s.c, .int .u64 t.s.d, (.slice oe t.l.length ce)] 36))
          have HR5 : Hid (RD ((w4.alloc (.cells #[.int .i64 t.k, .int .u64 t.s.a, .int .u64 t.s.b, .int .u64 t.s.c, .int .u64 t.s.d, (.slice oe t.l.length ce)] 36)).alloc (.cells #[.int .i64 t.k, .int .u64 t.s.a, .int .u64 t.s.b, .int .u64 t.s.c, .int .u64 t.s.d, (.slice oe t.l.length ce)] 36)) b s m) := Lib.hid (RD.alloc (RD.alloc hR4 _) _)
          have HK5 : Hid (Kp w.heap.size (Is b) w ((w4.alloc (.cells #[.int .i64 t.k, .int .u64 t.s.a, .int .u64 t.s.b, .int .u64 t.s.c, .int .u64 t.s.d, (.slice oe t.l.length ce)] 36)).alloc (.cells #[.int .i64 t.k, .int .u64 t.s.a, .int .u64 t.s.b, .int .u64 t.s.c, .int .u64 t.s.d, (.slice oe t.l.length ce)] 36))) := Lib.hid (HK4.out.bel (below2 _ _ _) HK4.out.size)
          have HZ5 : Hid (Z6 ((w4.alloc (.cells #[.int .i64 t.k, .int .u64 t.s.a, .int .u64 t.s.b, .int .u64 t.s.c, .int .u64 t.s.d, (.slice oe t.l.length ce)] 36)).alloc (.cells #[.int .i64 t.k, .int .u64 t.s.a, .int .u64 t.s.b, .int .u64 t.s.c, .int .u64 t.s.d, (.slice oe t.l.length ce)] 36)) w.heap.size) := Lib.hid (hz4.later (below2 _ _ _) hz4.lt)
          have HRs5 : Hid (∀ p, p ∈ ps → HT ((w4.alloc (.cells #[.int .i64 t.k, .int .u64 t.s.a, .int .u64 t.s.b, .int .u64 t.s.c, .int .u64 t.s.d, (.slice oe t.l.length ce)] 36)).alloc (.cells #[.int .i64 t.k, .int .u64 t.s.a, .int .u64 t.s.b, .int .u64 t.s.c, .int .u64 t.s.d, (.slice oe t.l.length ce)] 36)) (Off (w.heap.size + 1) ((w4.alloc (.cells #[.int .i64 t.k, .int .u64 t.s.a, .int .u64 t.s.b, .int .u64 t.s.c, .int .u64 t.s.d, (.slice oe t.l.length ce)] 36)).alloc (.cells #[.int .i64 t.k, .int .u64 t.s.a, .int .u64 t.s.b, .int .u64 t.s.c, .int .u64 t.s.d, (.slice oe t.l.length ce)] 36)).heap.size (Value.slice oc ps.length cc).ownBlock) p.2 p.1.l) := Lib.hid (fun p hp => (hr4 p hp).later (fun q hq => ⟨⟨hq.1.1, by have := hq.1.2; rw [hsz2]; omega⟩, hq.2⟩) (fun q hq o => (below2 w4 _ _).cell (p := ⟨q, o, none⟩) hq.1.2))
          have HRp5 : Hid (HT ((w4.alloc (.cells #[.int .i64 t.k, .int .u64 t.s.a, .int .u64 t.s.b, .int .u64 t.s.c, .int .u64 t.s.d, (.slice oe t.l.length ce)] 36)).alloc (.cells #[.int .i64 t.k, .int .u64 t.s.a, .int .u64 t.s.b, .int .u64 t.s.c, .int .u64 t.s.d, (.slice oe t.l.length ce)] 36)) (Btw W3.heap.size ((w4.alloc (.cells #[.int .i64 t.k, .int .u64 t.s.a, .int .u64 t.s.b, .int .u64 t.s.c, .int .u64 t.s.d, (.slice oe t.l.length ce)] 36)).alloc (.cells #[.int .i64 t.k, .int .u64 t.s.a, .int .u64 t.s.b, .int .u64 t.s.c, .int .u64 t.s.d, (.slice oe t.l.length ce)] 36)).heap.size) (.slice oe t.l.length ce) t.l) := Lib.hid (hrep.later (fun q hq => ⟨hq.1, by have := hq.2; rw [hsz2]; omega⟩) (fun q hq o => (below2 w4 _ _).cell (p := ⟨q, o, none⟩) hq.2))
          have hps2 : ps.map (·.1) = acc := hps
          clear ho4 hR4 hK4 HK4 hr4 hrep HC HR3 HZ3 HK3 HAc3 hol hz4
          unfold PT.val
          go_wp2_with (at_builtin; refine wpList_append_lies _ rfl _ _ _ rfl (w.heap.size + 1) 36 i0 _ 6 64 Tryd.underlying34 hi0 hz0 hz1 hz2 rfl (by omega) (.slice oc ps.length cc) ps.length (flatP ps) rfl HO5.out ⟨w4.heap.size + 1, 0, none⟩ 1 1 [.int .i64 t.k, .int .u64 t.s.a, .int .u64 t.s.b, .int .u64 t.s.c, .int .u64 t.s.d, (.slice oe t.l.length ce)] rfl rfl (World.news_of_block (cs := #[.int .i64 t.k, .int .u64 t.s.a, .int .u64 t.s.b, .int .u64 t.s.c, .int .u64 t.s.d, (.slice oe t.l.length ce)]) (t := 36) (fr := (0, 0)) hnw) (by simp [Value.oneCell']) (by omega) hn1 hby (by simp; omega) (w4.heap.size + 2) hsz2 ?_)
          intro gg cap2 w5 hown5 hgrow hat hgl
          have HA6 : Hid (Acc w5 (w.heap.size + 1) (.slice (some ⟨gg, 0, none⟩) (ps.length + 1) cap2) (acc ++ [t])) := Lib.hid (by
            rw [← hps2]
            exact Acc.snoc HO5.out HRs5.out HRp5.out (by omega) HOL.out hown5 hgrow (by rw [hsz2]; exact hat) hgl)
          have hkk : Kp w.heap.size (Is b) ((w4.alloc (.cells #[.int .i64 t.k, .int .u64 t.s.a, .int .u64 t.s.b, .int .u64 t.s.c, .int .u64 t.s.d, (.slice oe t.l.length ce)] 36)).alloc (.cells #[.int .i64 t.k, .int .u64 t.s.a, .int .u64 t.s.b, .int .u64 t.s.c, .int .u64 t.s.d, (.slice oe t.l.length ce)] 36)) w5 := ⟨hgrow.os, hgrow.tape, hgrow.output, hgrow.size, fun q hq _ => hgrow.block q (by rw [hsz2]; omega) (fun e => by have := (own_lt HO5.out q e.symm).1; omega)⟩
          have HK6 : Hid (Kp w.heap.size (Is b) w w5) := Lib.hid (HK5.out.trans hkk)
          have HR6 : Hid (RD w5 b s m) := Lib.hid ((hgrow.block b (by rw [hsz2]; omega) (fun e => by have := (own_lt HO5.out b e.symm).1; omega)).trans HR5.out)
          have HZ6 : Hid (Z6 w5 w.heap.size) := Lib.hid (Box6.of_block HZ5.out (hgrow.block w.heap.size (by rw [hsz2]; omega) (fun e => by have := (own_lt HO5.out w.heap.size e.symm).1; omega)))
          have hw5 : w.heap.size + 1 ≤ w5.heap.size := by have := hgrow.size; rw [hsz2] at this; omega
          clear hown5 hgrow hat hgl HO5 HRs5 HRp5 HK5 HR5 HZ5 hkk
          have hpl2 : acc.length = ps.length := by rw [← hps2, List.length_map]
          have HPL2 := Lib.hid hpl2
          clear hpl2 hps2
          go_wp2_with fail
          have hpl2 := HPL2.out
          go_roundg gf
          case measure => omega
          case rel => exact ⟨acc ++ [t], some ⟨gg, 0, none⟩, cap2, m, by rw [List.length_append, hpl2]; rfl, by omega, by omega, by omega, by rw [List.length_append, hpl2]; show ps.length + 1 + i ≤ m; omega, by rw [List.length_append, hpl2]; exact HA6, HR6, HZ6, HK6, hw5, HEn⟩

set_option maxRecDepth 100000 in
set_option maxHeartbeats 4000000 in
theorem several_pattern (n : Nat) (w : World) (b bx : Nat) (s : ByteArray) (i : Nat) (one : Nat → PR PT) (sep : Nat → Option Nat)
    (hone : ∀ (w' : World) (j : Nat), RD w' b s j → AL w' → j ≤ s.size → s.size < j + (n + 1) → Calls Tryd.prog 55 #[(.pointer (some ⟨b, 0, none⟩))] w' (OutT b s w' (one j)))
    (hsep : ∀ (w' : World) (j : Nat), RD w' b s j → AL w' → w'.cell? ⟨bx, 0, none⟩ = some (.pointer (some ⟨b, 0, none⟩)) → j ≤ s.size → Calls Tryd.prog 52 #[.pointer (some ⟨bx, 0, none⟩)] w' fun e w'' => e = .returned (.bool (sep j).isSome) ∧ RD w'' b s ((sep j).getD j) ∧ Kp w'.heap.size (Is b) w' w'')
    (hgd : Good s.data.toList one) (hso : SepOk s.data.toList sep) (h : RD w b s i) (hA : AL w) (hbx : w.cell? ⟨bx, 0, none⟩ = some (.pointer (some ⟨b, 0, none⟩))) (hi : i ≤ s.size) (hn : s.size < i + (n + 1)) (hs : s.size ≤ 1000) :
    Calls Tryd.prog 54 #[(.pointer (some ⟨b, 0, none⟩)), .int .i64 5, .func (.func 55) #[(.pointer (some ⟨b, 0, none⟩))] #[], .func (.func 52) #[] #[.pointer (some ⟨bx, 0, none⟩)]] w (OutT b s w ((sevL one sep (s.data.toList.length + 1) [] i).map (joinT 5))) := by
  obtain ⟨i0, hi0, hz0, hz1, hz2⟩ := info_parts infoTree
  have hblt := h.lt
  have hbxlt : bx < w.heap.size := World.block_lt_of_cell? _ _ hbx
  have hbxne : ¬ Is b bx := fun e => by
    unfold Is at e
    subst e
    rw [h.text] at hbx
    cases hbx
  have HBX := Lib.hid hbx
  have HONE := Lib.hid hone
  have HSEP := Lib.hid hsep
  have HGD := Lib.hid hgd
  have HSO := Lib.hid hso
  have HA := Lib.hid hA
  have HGB := Lib.hid (hA.rd h)
  obtain ⟨w1, hw1⟩ : ∃ w1, w1 = w.alloc (.cells #[.int .i64 0, .int .u64 0, .int .u64 0, .int .u64 0, .int .u64 0, .slice none 0 0] 36) := ⟨_, rfl⟩
  have HW1 := Lib.hid hw1
  have hs1 : w1.heap.size = w.heap.size + 1 := by rw [hw1]; simp
  have hb1 : Below w.heap.size w w1 := by rw [hw1]; exact below1 _ _
  have HR1 := Lib.hid (h.bel hb1)
  have HZ1 : Hid (Z6 w1 w.heap.size) := Lib.hid (by rw [hw1]; exact Z6.new _)
  have HK1 : Hid (Kp w.heap.size (Is b) w w1) := Lib.hid (.of hb1 (Nat.le_refl _))
  generalize hRES : (sevL one sep (s.data.toList.length + 1) [] i).map (joinT 5) = RES at *
  have HE0 : Hid (RES = (sevL one sep (s.size + 1) [] i).map (joinT 5)) := Lib.hid (by rw [← hRES, lt_len])
  clear hRES hw1 hb1 h hA hbx hone hsep hgd hso
  go_enter Tryd.func54, Tryd.ntmps54
  go_wp2_with fail
  rw [← HW1.out]
  go_loopg [10] (s.size + 1) (fun g v wr => ∃ (acc : List PT) (oc : Option Addr) (cc ii : Nat), v = .slice oc acc.length cc ∧ ii ≤ s.size ∧ i ≤ ii ∧ s.size < ii + g ∧ acc.length + i ≤ ii ∧ Hid (Acc wr (w.heap.size + 1) (.slice oc acc.length cc) acc) ∧ Hid (RD wr b s ii) ∧ Hid (Z6 wr w.heap.size) ∧ Hid (Kp w.heap.size (Is b) w wr) ∧ w.heap.size + 1 ≤ wr.heap.size ∧ Hid (RES = (sevL one sep g acc ii).map (joinT 5)))
  case atStart => exact ⟨[], none, 0, i, rfl, hi, Nat.le_refl _, by omega, by simp, Lib.hid (Acc.nil _ _), HR1, HZ1, HK1, by omega, HE0⟩
  case round =>
    obtain ⟨acc, oc, cc, ii, rfl, hii, hi0i, hfu, hai, HAc, HR, HZ, HK, hwr, HE⟩ := hrel
    obtain ⟨gf, rfl⟩ : ∃ gf, gk = gf + 1 := ⟨gk - 1, by omega⟩
    clear HR1 HZ1 HK1 HE0
    have HAr : Hid (AL wr) := Lib.hid (HA.out.kp HK.out (Nat.le_refl _) HGB.out)
    by_cases hl0 : acc.length = 0
    · have hl0b : ((acc.length : Int) == 0) = true := by rw [beq_iff_eq]; omega
      have HEj : Hid (RES = ((one ii).bind fun t m => sevL one sep gf (acc ++ [t]) m).map (joinT 5)) := Lib.hid (by rw [HE.out, sevL, if_pos hl0])
      obtain ⟨W3, hW3⟩ : ∃ W3 : World, W3 = wr := ⟨_, rfl⟩
      obtain ⟨jj, hjj0⟩ : ∃ jj, jj = ii := ⟨_, rfl⟩
      subst hW3
      subst hjj0
      have hjj := hii
      have HR3 := HR; have HZ3 := HZ; have HK3 := HK; have HAc3 := HAc; have HA3 := HAr
      have hw3 := hwr
      clear HR HZ HK HAc HAr HE hwr

      have HC := Lib.hid (HONE.out W3 jj HR3.out HA3.out hjj (by omega))
      have hg4 := HGD.out jj (by rw [lt_len]; exact hjj)
      cases hq : one jj with
      | bad m =>
        rw [hq] at HC HEj
        have HN : Hid (RES = .bad m) := Lib.hid HEj.out
        clear HEj hg4 hq HAc3 HA3
        go_wp2_with fail
        refine HC.out.mono ?_
        rintro e w4 ⟨⟨t, oe, nn, ce, rfl⟩, hR4, hK4⟩
        have HR4 : Hid (RD (w4.alloc (.cells #[.int .i64 t.k, .int .u64 t.s.a, .int .u64 t.s.b, .int .u64 t.s.c, .int .u64 t.s.d, (.slice oe nn ce)] 36)) b s m) := Lib.hid (RD.alloc hR4 _)
        have hz4 := HZ3.out.kp hK4 HZ3.out.lt (show ¬ Is b w.heap.size by unfold Is; omega)
        obtain ⟨z0, z1, z2, z3, z4, z5, zf⟩ := hz4.later (below1 _ (.cells #[.int .i64 t.k, .int .u64 t.s.a, .int .u64 t.s.b, .int .u64 t.s.c, .int .u64 t.s.d, (.slice oe nn ce)] 36)) hz4.lt
        have HK4 : Hid (Kp w.heap.size (Is b) w (w4.alloc (.cells #[.int .i64 t.k, .int .u64 t.s.a, .int .u64 t.s.b, .int .u64 t.s.c, .int .u64 t.s.d, (.slice oe nn ce)] 36))) := Lib.hid ((HK3.out.trans (hK4.less HK3.out.size)).bel (below1 _ _) (by have := hK4.size; omega))
        clear hR4 hK4 HC hz4 HR3 HZ3 HK3
        unfold PT.val
        go_wp2_with fail
        refine bodyPost_ret (v := .tuple #[.agg #[.int .i64 0, .int .u64 0, .int .u64 0, .int .u64 0, .int .u64 0, .slice none 0 0], .bool false]) (by simp [results, Tryd.results54, go_sem, *]) rfl ?_
        rw [HN.out]
        exact ⟨OutE.bad _ _ _ (.mk 0 .zero []) _ _ _, (at6 (by omega) _ _ _ _ _ _).trans HR4.out, kp6 HK4.out (Nat.le_refl _) _ _ _ _ _ _⟩
      | ok t m =>
        rw [hq] at HC HEj hg4
        have him : jj < m ∧ m ≤ s.data.toList.length := hg4.1
        rw [lt_len] at him
        have HEn : Hid (RES = (sevL one sep gf (acc ++ [t]) m).map (joinT 5)) := Lib.hid HEj.out
        clear HEj hg4 hq HA3
        go_wp2_with fail
        refine HC.out.mono ?_
        rintro e w4 ⟨⟨oe, ce, rfl, hrep⟩, hR4, hK4⟩
        have hs4 : W3.heap.size ≤ w4.heap.size := hK4.size
        have hz4 := HZ3.out.kp hK4 HZ3.out.lt (show ¬ Is b w.heap.size by unfold Is; omega)
        have HK4 : Hid (Kp w.heap.size (Is b) w w4) := Lib.hid (HK3.out.trans (hK4.less HK3.out.size))
        obtain ⟨ps, hps, ho4, hr4⟩ := HAc3.out.kp hK4 (Nat.le_refl _) (fun k hk h => by unfold Is at h; omega)
        have hpl : ps.length = acc.length := by rw [← hps, List.length_map]
        have hol : ∀ q, (Value.slice oc acc.length cc).ownBlock = some q → q < W3.heap.size := fun q hq => by
          obtain ⟨ps', hps', ho', -⟩ := HAc3.out
          exact (own_lt ho' q hq).2
        have hn1 : ps.length + 1 ≤ maxLen := by unfold maxLen; omega
        have hby : (ps.length + 1) * 64 ≤ 140737488355328 := by omega
        rw [← hpl] at ho4 hr4
        rw [← hpl] at *
        have HOL := Lib.hid hol
        have hsz2 : ((w4.alloc (.cells #[.int .i64 t.k, .int .u64 t.s.a, .int .u64 t.s.b, .int .u64 t.s.c, .int .u64 t.s.d, (.slice oe t.l.length ce)] 36)).alloc (.cells #[.int .i64 t.k, .int .u64 t.s.a, .int .u64 t.s.b, .int .u64 t.s.c, .int .u64 t.s.d, (.slice oe t.l.length ce)] 36)).heap.size = w4.heap.size + 2 := by simp
        have hnw : ((w4.alloc (.cells #[.int .i64 t.k, .int .u64 t.s.a, .int .u64 t.s.b, .int .u64 t.s.c, .int .u64 t.s.d, (.slice oe t.l.length ce)] 36)).alloc (.cells #[.int .i64 t.k, .int .u64 t.s.a, .int .u64 t.s.b, .int .u64 t.s.c, .int .u64 t.s.d, (.slice oe t.l.length ce)] 36)).heap[w4.heap.size + 1]? = some (.cells #[.int .i64 t.k, .int .u64 t.s.a, .int .u64 t.s.b, .int .u64 t.s.c, .int .u64 t.s.d, (.slice oe t.l.length ce)] 36 (0, 0)) := two_new' _ _ _
        have HO5 := Lib.hid ((show w4.ownsRow (w.heap.size + 1) 36 6 (.slice oc ps.length cc) ps.length (flatP ps) from ho4).alloc (.cells #[.int .i64 t.k, .int .u64 t.s.a, .int .u64 t.s.b, .int .u64 t.s.c, .int .u64 t.s.d, (.slice oe t.l.length ce)] 36) |>.alloc (.cells #[.int .i64 t.k, .int .u64 t.s.a, .int .u64 t.s.b, .int .u64 t.s.c, .int .u64 t.s.d, (.slice oe t.l.length ce)] 36))
        have HR5 : Hid (RD ((w4.alloc (.cells #[.int .i64 t.k, .int .u64 t.s.a, .int .u64 t.s.b, .int .u64 t.s.c, .int .u64 t.s.d, (.slice oe t.l.length ce)] 36)).alloc (.cells #[.int .i64 t.k, .int .u64 t.s.a, .int .u64 t.s.b, .int .u64 t.s.c, .int .u64 t.s.d, (.slice oe t.l.length ce)] 36)) b s m) := Lib.hid (RD.alloc (RD.alloc hR4 _) _)
        have HK5 : Hid (Kp w.heap.size (Is b) w ((w4.alloc (.cells #[.int .i64 t.k, .int .u64 t.s.a, .int .u64 t.s.b, .int .u64 t.s.c, .int .u64 t.s.d, (.slice oe t.l.length ce)] 36)).alloc (.cells #[.int .i64 t.k, .int .u64 t.s.a, .int .u64 t.s.b, .int .u64 t.s.c, .int .u64 t.s.d, (.slice oe t.l.length ce)] 36))) := Lib.hid (HK4.out.bel (below2 _ _ _) HK4.out.size)
        have HZ5 : Hid (Z6 ((w4.alloc (.cells #[.int .i64 t.k, .int .u64 t.s.a, .int .u64 t.s.b, .int .u64 t.s.c, .int .u64 t.s.d, (.slice oe t.l.length ce)] 36)).alloc (.cells #[.int .i64 t.k, .int .u64 t.s.a, .int .u64 t.s.b, .int .u64 t.s.c, .int .u64 t.s.d, (.slice oe t.l.length ce)] 36)) w.heap.size) := Lib.hid (hz4.later (below2 _ _ _) hz4.lt)
        have HRs5 : Hid (∀ p, p ∈ ps → HT ((w4.alloc (.cells #[.int .i64 t.k, .int .u64 t.s.a, .int .u64 t.s.b, .int .u64 t.s.c, .int .u64 t.s.d, (.slice oe t.l.length ce)] 36)).alloc (.cells #[.int .i64 t.k, .int .u64 t.s.a, .int .u64 t.s.b, .int .u64 t.s.c, .int .u64 t.s.d, (.slice oe t.l.length ce)] 36)) (Off (w.heap.size + 1) ((w4.alloc (.cells #[.int .i64 t.k, .int .u64 t.s.a, .int .u64 t.s.b, .int .u64 t.s.c, .int .u64 t.s.d, (.slice oe t.l.length ce)] 36)).alloc (.cells #[.int .i64 t.k, .int .u64 t.s.a, .int .u64 t.s.b, .int .u64 t.s.c, .int .u64 t.s.d, (.slice oe t.l.length ce)] 36)).heap.size (Value.slice oc ps.length cc).ownBlock) p.2 p.1.l) := Lib.hid (fun p hp => (hr4 p hp).later (fun q hq => ⟨⟨hq.1.1, by have := hq.1.2; rw [hsz2]; omega⟩, hq.2⟩) (fun q hq o => (below2 w4 _ _).cell (p := ⟨q, o, none⟩) hq.1.2))
        have HRp5 : Hid (HT ((w4.alloc (.cells #[.int .i64 t.k, .int .u64 t.s.a, .int .u64 t.s.b, .int .u64 t.s.c, .int .u64 t.s.d, (.slice oe t.l.length ce)] 36)).alloc (.cells #[.int .i64 t.k, .int .u64 t.s.a, .int .u64 t.s.b, .int .u64 t.s.c, .int .u64 t.s.d, (.slice oe t.l.length ce)] 36)) (Btw W3.heap.size ((w4.alloc (.cells #[.int .i64 t.k, .int .u64 t.s.a, .int .u64 t.s.b, .int .u64 t.s.c, .int .u64 t.s.d, (.slice oe t.l.length ce)] 36)).alloc (.cells #[.int .i64 t.k, .int .u64 t.s.a, .int .u64 t.s.b, .int .u64 t.s.c, .int .u64 t.s.d, (.slice oe t.l.length ce)] 36)).heap.size) (.slice oe t.l.length ce) t.l) := Lib.hid (hrep.later (fun q hq => ⟨hq.1, by have := hq.2; rw [hsz2]; omega⟩) (fun q hq o => (below2 w4 _ _).cell (p := ⟨q, o, none⟩) hq.2))
        have hps2 : ps.map (·.1) = acc := hps
        clear ho4 hR4 hK4 HK4 hr4 hrep HC HR3 HZ3 HK3 HAc3 hol hz4
        unfold PT.val
        go_wp2_with (at_builtin; refine wpList_append_lies _ rfl _ _ _ rfl (w.heap.size + 1) 36 i0 _ 6 64 Tryd.underlying34 hi0 hz0 hz1 hz2 rfl (by omega) (.slice oc ps.length cc) ps.length (flatP ps) rfl HO5.out ⟨w4.heap.size + 1, 0, none⟩ 1 1 [.int .i64 t.k, .int .u64 t.s.a, .int .u64 t.s.b, .int .u64 t.s.c, .int .u64 t.s.d, (.slice oe t.l.length ce)] rfl rfl (World.news_of_block (cs := #[.int .i64 t.k, .int .u64 t.s.a, .int .u64 t.s.b, .int .u64 t.s.c, .int .u64 t.s.d, (.slice oe t.l.length ce)]) (t := 36) (fr := (0, 0)) hnw) (by simp [Value.oneCell']) (by omega) hn1 hby (by simp; omega) (w4.heap.size + 2) hsz2 ?_)
        intro gg cap2 w5 hown5 hgrow hat hgl
        have HA6 : Hid (Acc w5 (w.heap.size + 1) (.slice (some ⟨gg, 0, none⟩) (ps.length + 1) cap2) (acc ++ [t])) := Lib.hid (by
          rw [← hps2]
          exact Acc.snoc HO5.out HRs5.out HRp5.out (by omega) HOL.out hown5 hgrow (by rw [hsz2]; exact hat) hgl)
        have hkk : Kp w.heap.size (Is b) ((w4.alloc (.cells #[.int .i64 t.k, .int .u64 t.s.a, .int .u64 t.s.b, .int .u64 t.s.c, .int .u64 t.s.d, (.slice oe t.l.length ce)] 36)).alloc (.cells #[.int .i64 t.k, .int .u64 t.s.a, .int .u64 t.s.b, .int .u64 t.s.c, .int .u64 t.s.d, (.slice oe t.l.length ce)] 36)) w5 := ⟨hgrow.os, hgrow.tape, hgrow.output, hgrow.size, fun q hq _ => hgrow.block q (by rw [hsz2]; omega) (fun e => by have := (own_lt HO5.out q e.symm).1; omega)⟩
        have HK6 : Hid (Kp w.heap.size (Is b) w w5) := Lib.hid (HK5.out.trans hkk)
        have HR6 : Hid (RD w5 b s m) := Lib.hid ((hgrow.block b (by rw [hsz2]; omega) (fun e => by have := (own_lt HO5.out b e.symm).1; omega)).trans HR5.out)
        have HZ6 : Hid (Z6 w5 w.heap.size) := Lib.hid (Box6.of_block HZ5.out (hgrow.block w.heap.size (by rw [hsz2]; omega) (fun e => by have := (own_lt HO5.out w.heap.size e.symm).1; omega)))
        have hw5 : w.heap.size + 1 ≤ w5.heap.size := by have := hgrow.size; rw [hsz2] at this; omega
        clear hown5 hgrow hat hgl HO5 HRs5 HRp5 HK5 HR5 HZ5 hkk
        have hpl2 : acc.length = ps.length := by rw [← hps2, List.length_map]
        have HPL2 := Lib.hid hpl2
        clear hpl2 hps2
        go_wp2_with fail
        have hpl2 := HPL2.out
        go_roundg gf
        case measure => omega
        case rel => exact ⟨acc ++ [t], some ⟨gg, 0, none⟩, cap2, m, by rw [List.length_append, hpl2]; rfl, by omega, by omega, by omega, by rw [List.length_append, hpl2]; show ps.length + 1 + i ≤ m; omega, by rw [List.length_append, hpl2]; exact HA6, HR6, HZ6, HK6, hw5, HEn⟩
    · have hl0b : ((acc.length : Int) == 0) = false := by rw [beq_eq_false_iff_ne]; omega
      have HS := Lib.hid (HSEP.out wr ii HR.out HAr.out ((HK.out.cell (p := ⟨bx, 0, none⟩) hbxlt hbxne).trans HBX.out) hii)
      cases hsep : sep ii with
      | none =>
        have HN : Hid (RES = .ok (joinT 5 acc) ii) := Lib.hid (by rw [HE.out, sevL, if_neg hl0, hsep]; rfl)
        rw [hsep] at HS
        have HR' : Hid (Calls Tryd.prog 52 #[.pointer (some ⟨bx, 0, none⟩)] wr fun e w'' => e = .returned (.bool false) ∧ RD w'' b s ii ∧ Kp wr.heap.size (Is b) wr w'') := HS
        clear HE HS hsep HAr
        by_cases hl1 : acc.length = 1
        · have hl1b : ((acc.length : Int) == 1) = true := by rw [beq_iff_eq]; omega
          obtain ⟨t, rfl⟩ : ∃ t, acc = [t] := by
            match acc, hl1 with
            | [t], _ => exact ⟨t, rfl⟩
          go_wp2_with fail
          refine HR'.out.mono ?_
          rintro e W3 ⟨rfl, hR3, hK3⟩
          have HR3 := Lib.hid hR3
          have hac := HAc.out.kp hK3 (Nat.le_refl _) (fun k hk h => by unfold Is at h; omega)
          have hht := hac.repS (by simp)
          obtain ⟨gb, off, oe, ce, rfl, hgb, hT3, c0, c1, c2, c3, c4, c5⟩ := hht.at_ (i := 0) rfl
          have HT3 := Lib.hid hT3
          obtain ⟨z0, z1, z2, z3, z4, z5, zf⟩ := HZ.out.kp hK3 HZ.out.lt (show ¬ Is b w.heap.size by unfold Is; omega)
          have HK3 := Lib.hid (HK.out.trans (hK3.less HK.out.size))
          have hgb1 : w.heap.size + 1 ≤ gb := hgb.1
          clear hR3 hK3 HR' hac hht hT3 HR HZ HK HAc
          simp only [Nat.zero_mul, Nat.add_zero] at c0 c1 c2 c3 c4 c5
          go_wp2_with fail
          refine bodyPost_ret (v := .tuple #[.agg #[.int .i64 t.k, .int .u64 t.s.a, .int .u64 t.s.b, .int .u64 t.s.c, .int .u64 t.s.d, (.slice oe t.l.length ce)], .bool true]) (by simp [results, Tryd.results54, go_sem, *]) rfl ?_
          rw [HN.out]
          refine ⟨⟨oe, ce, rfl, ?_⟩, (at6 (by omega) _ _ _ _ _ _).trans HR3.out, kp6 HK3.out (Nat.le_refl _) _ _ _ _ _ _⟩
          exact (kpset6 (Kp.refl W3.heap.size (Is w.heap.size) W3) rfl _ _ _ _ _ _).rep HT3.out (Nat.le_refl _) (fun k h1 h2 h => by unfold Is at h; omega) (by omega) (by rw [size6]; omega)
        · have hl1b : ((acc.length : Int) == 1) = false := by rw [beq_eq_false_iff_ne]; omega
          have hj : joinT 5 acc = .mk 5 .zero acc := by
            match acc, hl0, hl1 with
            | [], h, _ => exact absurd rfl h
            | [t], _, h => exact absurd rfl h
            | _ :: _ :: _, _, _ => rfl
          have HN2 : Hid (RES = .ok (.mk 5 .zero acc) ii) := Lib.hid (by rw [HN.out, hj])
          clear HN hj
          go_wp2_with fail
          refine HR'.out.mono ?_
          rintro e W3 ⟨rfl, hR3, hK3⟩
          have HR3 := Lib.hid hR3
          have hac := HAc.out.kp hK3 (Nat.le_refl _) (fun k hk h => by unfold Is at h; omega)
          have HT3 := Lib.hid (hac.repS (by omega))
          obtain ⟨z0, z1, z2, z3, z4, z5, zf⟩ := HZ.out.kp hK3 HZ.out.lt (show ¬ Is b w.heap.size by unfold Is; omega)
          have HK3 := Lib.hid (HK.out.trans (hK3.less HK.out.size))
          clear hR3 hK3 HR' hac HR HZ HK HAc
          go_wp2_with fail
          refine bodyPost_ret (v := .tuple #[.agg #[.int .i64 5, .int .u64 0, .int .u64 0, .int .u64 0, .int .u64 0, .slice oc acc.length cc], .bool true]) (by simp [results, Tryd.results54, go_sem, *]) rfl ?_
          rw [HN2.out]
          refine ⟨⟨oc, cc, rfl, ?_⟩, (at6 (by omega) _ _ _ _ _ _).trans HR3.out, kp6 HK3.out (Nat.le_refl _) _ _ _ _ _ _⟩
          exact (kpset6 (Kp.refl W3.heap.size (Is w.heap.size) W3) rfl _ _ _ _ _ _).rep HT3.out (Nat.le_refl _) (fun k h1 h2 h => by unfold Is at h; omega) (by omega) (by rw [size6]; omega)
      | some jj =>
        have HEj : Hid (RES = ((one jj).bind fun t m => sevL one sep gf (acc ++ [t]) m).map (joinT 5)) := Lib.hid (by rw [HE.out, sevL, if_neg hl0, hsep])
        obtain ⟨hj1, hjj⟩ := HSO.out ii jj hsep (by rw [lt_len]; exact hii)
        rw [lt_len] at hjj
        rw [hsep] at HS
        have HR' : Hid (Calls Tryd.prog 52 #[.pointer (some ⟨bx, 0, none⟩)] wr fun e w'' => e = .returned (.bool true) ∧ RD w'' b s jj ∧ Kp wr.heap.size (Is b) wr w'') := HS
        clear HE HS hsep HAr
        go_wp2_with fail
        refine HR'.out.mono ?_
        rintro e W3 ⟨rfl, hR3, hK3⟩
        have HR3 := Lib.hid hR3
        have HAc3 := Lib.hid (HAc.out.kp hK3 (Nat.le_refl _) (fun k hk h => by unfold Is at h; omega))
        have HZ3 := Lib.hid (HZ.out.kp hK3 HZ.out.lt (show ¬ Is b w.heap.size by unfold Is; omega))
        have HK3 := Lib.hid (HK.out.trans (hK3.less HK.out.size))
        have hw3 : w.heap.size + 1 ≤ W3.heap.size := by have := hK3.size; omega
        have HA3 : Hid (AL W3) := Lib.hid (HA.out.kp HK3.out (Nat.le_refl _) HGB.out)
        clear hR3 hK3 HR' HR HZ HK HAc

        have HC := Lib.hid (HONE.out W3 jj HR3.out HA3.out hjj (by omega))
        have hg4 := HGD.out jj (by rw [lt_len]; exact hjj)
        cases hq : one jj with
        | bad m =>
          rw [hq] at HC HEj
          have HN : Hid (RES = .bad m) := Lib.hid HEj.out
          clear HEj hg4 hq HAc3 HA3
          go_wp2_with fail
          refine HC.out.mono ?_
          rintro e w4 ⟨⟨t, oe, nn, ce, rfl⟩, hR4, hK4⟩
          have HR4 : Hid (RD (w4.alloc (.cells #[.int .i64 t.k, .int .u64 t.s.a, .int .u64 t.s.b, .int .u64 t.s.c, .int .u64 t.s.d, (.slice oe nn ce)] 36)) b s m) := Lib.hid (RD.alloc hR4 _)
          have hz4 := HZ3.out.kp hK4 HZ3.out.lt (show ¬ Is b w.heap.size by unfold Is; omega)
          obtain ⟨z0, z1, z2, z3, z4, z5, zf⟩ := hz4.later (below1 _ (.cells #[.int .i64 t.k, .int .u64 t.s.a, .int .u64 t.s.b, .int .u64 t.s.c, .int .u64 t.s.d, (.slice oe nn ce)] 36)) hz4.lt
          have HK4 : Hid (Kp w.heap.size (Is b) w (w4.alloc (.cells #[.int .i64 t.k, .int .u64 t.s.a, .int .u64 t.s.b, .int .u64 t.s.c, .int .u64 t.s.d, (.slice oe nn ce)] 36))) := Lib.hid ((HK3.out.trans (hK4.less HK3.out.size)).bel (below1 _ _) (by have := hK4.size; omega))
          clear hR4 hK4 HC hz4 HR3 HZ3 HK3
          unfold PT.val
          go_wp2_with fail
          refine bodyPost_ret (v := .tuple #[.agg #[.int .i64 0, .int .u64 0, .int .u64 0, .int .u64 0, .int .u64 0, .slice none 0 0], .bool false]) (by simp [results, Tryd.results54, go_sem, *]) rfl ?_
          rw [HN.out]
          exact ⟨OutE.bad _ _ _ (.mk 0 .zero []) _ _ _, (at6 (by omega) _ _ _ _ _ _).trans HR4.out, kp6 HK4.out (Nat.le_refl _) _ _ _ _ _ _⟩
        | ok t m =>
          rw [hq] at HC HEj hg4
          have him : jj < m ∧ m ≤ s.data.toList.length := hg4.1
          rw [lt_len] at him
          have HEn : Hid (RES = (sevL one sep gf (acc ++ [t]) m).map (joinT 5)) := Lib.hid HEj.out
          clear HEj hg4 hq HA3
          go_wp2_with fail
          refine HC.out.mono ?_
          rintro e w4 ⟨⟨oe, ce, rfl, hrep⟩, hR4, hK4⟩
          have hs4 : W3.heap.size ≤ w4.heap.size := hK4.size
          have hz4 := HZ3.out.kp hK4 HZ3.out.lt (show ¬ Is b w.heap.size by unfold Is; omega)
          have HK4 : Hid (Kp w.heap.size (Is b) w w4) := Lib.hid (HK3.out.trans (hK4.less HK3.out.size))
          obtain ⟨ps, hps, ho4, hr4⟩ := HAc3.out.kp hK4 (Nat.le_refl _) (fun k hk h => by unfold Is at h; omega)
          have hpl : ps.length = acc.length := by rw [← hps, List.length_map]
          have hol : ∀ q, (Value.slice oc acc.length cc).ownBlock = some q → q < W3.heap.size := fun q hq => by
            obtain ⟨ps', hps', ho', -⟩ := HAc3.out
            exact (own_lt ho' q hq).2
          have hn1 : ps.length + 1 ≤ maxLen := by unfold maxLen; omega
          have hby : (ps.length + 1) * 64 ≤ 140737488355328 := by omega
          rw [← hpl] at ho4 hr4
          rw [← hpl] at *
          have HOL := Lib.hid hol
          have hsz2 : ((w4.alloc (.cells #[.int .i64 t.k, .int .u64 t.s.a, .int .u64 t.s.b, .int .u64 t.s.c, .int .u64 t.s.d, (.slice oe t.l.length ce)] 36)).alloc (.cells #[.int .i64 t.k, .int .u64 t.s.a, .int .u64 t.s.b, .int .u64 t.s.c, .int .u64 t.s.d, (.slice oe t.l.length ce)] 36)).heap.size = w4.heap.size + 2 := by simp
          have hnw : ((w4.alloc (.cells #[.int .i64 t.k, .int .u64 t.s.a, .int .u64 t.s.b, .int .u64 t.s.c, .int .u64 t.s.d, (.slice oe t.l.length ce)] 36)).alloc (.cells #[.int .i64 t.k, .int .u64 t.s.a, .int .u64 t.s.b, .int .u64 t.s.c, .int .u64 t.s.d, (.slice oe t.l.length ce)] 36)).heap[w4.heap.size + 1]? = some (.cells #[.int .i64 t.k, .int .u64 t.s.a, .int .u64 t.s.b, .int .u64 t.s.c, .int .u64 t.s.d, (.slice oe t.l.length ce)] 36 (0, 0)) := two_new' _ _ _
          have HO5 := Lib.hid ((show w4.ownsRow (w.heap.size + 1) 36 6 (.slice oc ps.length cc) ps.length (flatP ps) from ho4).alloc (.cells #[.int .i64 t.k, .int .u64 t.s.a, .int .u64 t.s.b, .int .u64 t.s.c, .int .u64 t.s.d, (.slice oe t.l.length ce)] 36) |>.alloc (.cells #[.int .i64 t.k, .int .u64 t.s.a, .int .u64 t.s.b, .int .u64 t.s.c, .int .u64 t.s.d, (.slice oe t.l.length ce)] 36))
          have HR5 : Hid (RD ((w4.alloc (.cells #[.int .i64 t.k, .int .u64 t.s.a, .int .u64 t.s.b, .int .u64 t.s.c, .int .u64 t.s.d, (.slice oe t.l.length ce)] 36)).alloc (.cells #[.int .i64 t.k, .int .u64 t.s.a, .int .u64 t.s.b, .int .u64 t.s.c, .int .u64 t.s.d, (.slice oe t.l.length ce)] 36)) b s m) := Lib.hid (RD.alloc (RD.alloc hR4 _) _)
          have HK5 : Hid (Kp w.heap.size (Is b) w ((w4.alloc (.cells #[.int .i64 t.k, .int .u64 t.s.a, .int .u64 t.s.b, .int .u64 t.s.c, .int .u64 t.s.d, (.slice oe t.l.length ce)] 36)).alloc (.cells #[.int .i64 t.k, .int .u64 t.s.a, .int .u64 t.s.b, .int .u64 t.s.c, .int .u64 t.s.d, (.slice oe t.l.length ce)] 36))) := Lib.hid (HK4.out.bel (below2 _ _ _) HK4.out.size)
          have HZ5 : Hid (Z6 ((w4.alloc (.cells #[.int .i64 t.k, .int .u64 t.s.a, .int .u64 t.s.b, .int .u64 t.s.c, .int .u64 t.s.d, (.slice oe t.l.length ce)] 36)).alloc (.cells #[.int .i64 t.k, .int .u64 t.s.a, .int .u64 t.s.b, .int .u64 t.s.c, .int .u64 t.s.d, (.slice oe t.l.length ce)] 36)) w.heap.size) := Lib.hid (hz4.later (below2 _ _ _) hz4.lt)
          have HRs5 : Hid (∀ p, p ∈ ps → HT ((w4.alloc (.cells #[.int .i64 t.k, .int .u64 t.s.a, .int .u64 t.s.b, .int .u64 t.s.c, .int .u64 t.s.d, (.slice oe t.l.length ce)] 36)).alloc (.cells #[.int .i64 t.k, .int .u64 t.s.a, .int .u64 t.s.b, .int .u64 t.s.c, .int .u64 t.s.d, (.slice oe t.l.length ce)] 36)) (Off (w.heap.size + 1) ((w4.alloc (.cells #[.int .i64 t.k, .int .u64 t.s.a, .int .u64 t.s.b, .int .u64 t.s.c, .int .u64 t.s.d, (.slice oe t.l.length ce)] 36)).alloc (.cells #[.int .i64 t.k, .int .u64 t.s.a, .int .u64 t.s.b, .int .u64 t.s.c, .int .u64 t.s.d, (.slice oe t.l.length ce)] 36)).heap.size (Value.slice oc ps.length cc).ownBlock) p.2 p.1.l) := Lib.hid (fun p hp => (hr4 p hp).later (fun q hq => ⟨⟨hq.1.1, by have := hq.1.2; rw [hsz2]; omega⟩, hq.2⟩) (fun q hq o => (below2 w4 _ _).cell (p := ⟨q, o, none⟩) hq.1.2))
          have HRp5 : Hid (HT ((w4.alloc (.cells #[.int .i64 t.k, .int .u64 t.s.a, .int .u64 t.s.b, .int .u64 t.s.c, .int .u64 t.s.d, (.slice oe t.l.length ce)] 36)).alloc (.cells #[.int .i64 t.k, .int .u64 t.s.a, .int .u64 t.s.b, .int .u64 t.s.c, .int .u64 t.s.d, (.slice oe t.l.length ce)] 36)) (Btw W3.heap.size ((w4.alloc (.cells #[.int .i64 t.k, .int .u64 t.s.a, .int .u64 t.s.b, .int .u64 t.s.c, .int .u64 t.s.d, (.slice oe t.l.length ce)] 36)).alloc (.cells #[.int .i64 t.k, .int .u64 t.s.a, .int .u64 t.s.b, .int .u64 t.s.c, .int .u64 t.s.d, (.slice oe t.l.length ce)] 36)).heap.size) (.slice oe t.l.length ce) t.l) := Lib.hid (hrep.later (fun q hq => ⟨hq.1, by have := hq.2; rw [hsz2]; omega⟩) (fun q hq o => (below2 w4 _ _).cell (p := ⟨q, o, none⟩) hq.2))
          have hps2 : ps.map (·.1) = acc := hps
          clear ho4 hR4 hK4 HK4 hr4 hrep HC HR3 HZ3 HK3 HAc3 hol hz4
          unfold PT.val
          go_wp2_with (at_builtin; refine wpList_append_lies _ rfl _ _ _ rfl (w.heap.size + 1) 36 i0 _ 6 64 Tryd.underlying34 hi0 hz0 hz1 hz2 rfl (by omega) (.slice oc ps.length cc) ps.length (flatP ps) rfl HO5.out ⟨w4.heap.size + 1, 0, none⟩ 1 1 [.int .i64 t.k, .int .u64 t.s.a, .int .u64 t.s.b, .int .u64 t.s.c, .int .u64 t.s.d, (.slice oe t.l.length ce)] rfl rfl (World.news_of_block (cs := #[.int .i64 t.k, .int .u64 t.s.a, .int .u64 t.s.b, .int .u64 t.s.c, .int .u64 t.s.d, (.slice oe t.l.length ce)]) (t := 36) (fr := (0, 0)) hnw) (by simp [Value.oneCell']) (by omega) hn1 hby (by simp; omega) (w4.heap.size + 2) hsz2 ?_)
          intro gg cap2 w5 hown5 hgrow hat hgl
          have HA6 : Hid (Acc w5 (w.heap.size + 1) (.slice (some ⟨gg, 0, none⟩) (ps.length + 1) cap2) (acc ++ [t])) := Lib.hid (by
            rw [← hps2]
            exact Acc.snoc HO5.out HRs5.out HRp5.out (by omega) HOL.out hown5 hgrow (by rw [hsz2]; exact hat) hgl)
          have hkk : Kp w.heap.size (Is b) ((w4.alloc (.cells #[.int .i64 t.k, .int .u64 t.s.a, .int .u64 t.s.b, .int .u64 t.s.c, .int .u64 t.s.d, (.slice oe t.l.length ce)] 36)).alloc (.cells #[.int .i64 t.k, .int .u64 t.s.a, .int .u64 t.s.b, .int .u64 t.s.c, .int .u64 t.s.d, (.slice oe t.l.length ce)] 36)) w5 := ⟨hgrow.os, hgrow.tape, hgrow.output, hgrow.size, fun q hq _ => hgrow.block q (by rw [hsz2]; omega) (fun e => by have := (own_lt HO5.out q e.symm).1; omega)⟩
          have HK6 : Hid (Kp w.heap.size (Is b) w w5) := Lib.hid (HK5.out.trans hkk)
          have HR6 : Hid (RD w5 b s m) := Lib.hid ((hgrow.block b (by rw [hsz2]; omega) (fun e => by have := (own_lt HO5.out b e.symm).1; omega)).trans HR5.out)
          have HZ6 : Hid (Z6 w5 w.heap.size) := Lib.hid (Box6.of_block HZ5.out (hgrow.block w.heap.size (by rw [hsz2]; omega) (fun e => by have := (own_lt HO5.out w.heap.size e.symm).1; omega)))
          have hw5 : w.heap.size + 1 ≤ w5.heap.size := by have := hgrow.size; rw [hsz2] at this; omega
          clear hown5 hgrow hat hgl HO5 HRs5 HRp5 HK5 HR5 HZ5 hkk
          have hpl2 : acc.length = ps.length := by rw [← hps2, List.length_map]
          have HPL2 := Lib.hid hpl2
          clear hpl2 hps2
          go_wp2_with fail
          have hpl2 := HPL2.out
          go_roundg gf
          case measure => omega
          case rel => exact ⟨acc ++ [t], some ⟨gg, 0, none⟩, cap2, m, by rw [List.length_append, hpl2]; rfl, by omega, by omega, by omega, by rw [List.length_append, hpl2]; show ps.length + 1 + i ≤ m; omega, by rw [List.length_append, hpl2]; exact HA6, HR6, HZ6, HK6, hw5, HEn⟩
end Go.Proofs.YtaipaddfehpmgaaDoor
