/-
  list of the reference, for numbers. Nothing is assumed.
-/
import Derived.Test.YtmbmlcnipncgnaaGreatDoorLtRefL0
namespace Go.Proofs.YtmbmlcnipncgnaaGreatDoor
open Go.RowKit

set_option maxRecDepth 100000 in
set_option maxHeartbeats 3200000 in
theorem rlist_2 (s : ByteArray) (i least most : Nat) (w : World) (hi : i ≤ s.size) (hs : s.size ≤ 1000000) (hmost : most ≤ 16) (el : List V → Nat → PR V) (Inv : List V → Prop)
    (hel : ∀ (acc : List V) (j : Nat) (w' : World), Inv acc → j ≤ s.size → Calls Tryz.prog 45 #[.string s, .int .i64 (j : Int), .int .i64 2, .int .i64 (headC acc : Int)] w' fun e w'' => ROutE w' w'' (el acc j) e ∧ Below w'.heap.size w' w'')
    (hI0 : Inv []) (hInv : ∀ acc j v m, Inv acc → el acc j = .ok v m → Inv (acc ++ [v])) (hin : ∀ acc j, j ≤ s.size → (el acc j).In j s.size) :
    Calls Tryz.prog 47 #[.string s, .int .i64 (i : Int), .int .i64 2, .int .i64 (least : Int), .int .i64 (most : Int), .int .u8 93] w fun e w' => RLsE w w' (itemsL el 93 least s.data.toList most [] i) e ∧ Below w.heap.size w w' := by
  obtain ⟨i0, hi0, hz0, hz1, hz2⟩ := info_parts infoValue
  have HEL := Lib.hid hel
  have HI0 := Lib.hid hI0
  generalize hR : itemsL el 93 least s.data.toList most [] i = R at *
  have HE0 : Hid (R = itemsL el 93 least s.data.toList most [] i) := Lib.hid hR.symm
  clear hR hel hI0
  go_enter Tryz.func47, Tryz.ntmps47
  go_wp2_with fail
  go_loopg [1, 15] most (fun g iv v wr => ∃ (acc : List V) (oc : Option Addr) (cc ii : Nat), acc.length + g = most ∧ iv = .int .i64 (ii : Int) ∧ v = .slice oc acc.length cc ∧ Hid (Acc wr w.heap.size (.slice oc acc.length cc) acc) ∧ ii ≤ s.size ∧ Below w.heap.size w wr ∧ Hid (Inv acc) ∧ Hid (R = itemsL el 93 least s.data.toList g acc ii))
  case atStart => exact ⟨[], none, 0, i, by simp, rfl, rfl, Lib.hid (Acc.nil _ _), hi, Below.refl _ _, HI0, HE0⟩
  case round =>
    obtain ⟨acc, oc, cc, ii, hlg, rfl, rfl, HA, hii, hbel, HI, HE⟩ := hrel
    have HG := Lib.hid hlg
    have hlen : acc.length ≤ most := by omega
    have hleni : (acc.length : Int) ≤ most := by omega
    have HP := Lib.hid (fun w => rat_any s ii w)
    clear HI0 HE0
    by_cases hcl : pk s.data.toList ii = 93
    · have hcb : ((pk s.data.toList ii : Int) == 93) = true := by rw [hcl]; rfl
      by_cases hge : least ≤ acc.length
      · have HN : Hid (R = .ok acc (ii + 1)) := Lib.hid (by rw [HE.out, itemsL_close _ _ _ _ _ _ _ ⟨hcl, hge⟩])
        have hgei : (least : Int) ≤ (acc.length : Int) := by omega
        clear HE hcl hge
        go_wp2_with fail
        refine (HP.out _).mono ?_
        rintro e w' ⟨rfl, hw'⟩; obtain rfl := hw'.symm
        go_wp2_with fail
        refine bodyPost_ret (v := .tuple #[.slice oc acc.length cc, .int .i64 ((ii : Int) + 1), .bool true]) (by simp [results, Tryz.results47, go_sem, *]) rfl ?_
        rw [HN.out]
        exact ⟨⟨_, _, rfl, HA.out.repS (by omega)⟩, hbel⟩
      · have hgei : ¬ (least : Int) ≤ (acc.length : Int) := by omega
        have HNC : Hid (¬ (pk s.data.toList ii = 93 ∧ least ≤ acc.length)) := Lib.hid (fun h => hge h.2)
        clear hcl hge
        by_cases hfull : acc.length = most
        · obtain rfl : gk = 0 := by omega
          have HN : Hid (R = .bad ii) := Lib.hid (by rw [HE.out, itemsL_full _ _ _ _ _ _ HNC.out])
          have hfl : ((acc.length : Int) == (most : Int)) = true := by rw [beq_iff_eq]; omega
          clear HE HA
          go_wp2_with fail
          refine (HP.out _).mono ?_
          rintro e w' ⟨rfl, hw'⟩; obtain rfl := hw'.symm
          go_wp2_with fail
          refine bodyPost_ret (v := .tuple #[.slice none 0 0, .int .i64 (ii : Int), .bool false]) (by simp [results, Tryz.results47, go_sem, *]) rfl ?_
          rw [HN.out]
          exact ⟨rfl, hbel⟩
        · have hfl : ((acc.length : Int) == (most : Int)) = false := by rw [beq_eq_false_iff_ne]; omega
          obtain ⟨k, rfl⟩ : ∃ k, gk = k + 1 := ⟨gk - 1, by omega⟩
          by_cases hnil : acc = []
          · have HE1 : Hid (R = (el acc ii).bind fun v m => itemsL el 93 least s.data.toList k (acc ++ [v]) m) := Lib.hid (by
              rw [HE.out, itemsL_more _ _ _ _ _ _ _ HNC.out, sepL, if_pos hnil]
              rfl)
            have hgt : ¬ (0 : Int) < (acc.length : Int) := by rw [hnil]; decide
            have hhc : headC acc = 0 := by rw [hnil]; rfl
            have hjj := hii
            clear HE HNC hnil hfull
            have HC := Lib.hid (HEL.out acc ii wr HI.out hjj)
            rw [hhc] at HC
            cases hel : el acc ii with
            | bad m =>
              rw [hel] at HE1 HC
              have HN : Hid (R = .bad m) := Lib.hid HE1.out
              clear HE1 hel
              go_wp2_with fail
              refine (HP.out _).mono ?_
              rintro e w' ⟨rfl, hw'⟩; obtain rfl := hw'.symm
              go_wp2_with fail
              refine HC.out.mono ?_
              rintro e w4 ⟨⟨t1, n1, S1, rfl⟩, hb4⟩
              have HB4 : Hid (Below w.heap.size w w4) := Lib.hid (hbel.trans (hb4.mono hbel.size))
              have hw4 : w.heap.size ≤ w4.heap.size := HB4.out.size
              clear hb4 HC HA
              go_wp2_with fail
              refine bodyPost_ret (v := .tuple #[.slice none 0 0, .int .i64 (m : Int), .bool false]) (by simp [results, Tryz.results47, go_sem, *]) rfl ?_
              rw [HN.out]
              exact ⟨rfl, HB4.out.alloc hw4 _⟩
            | ok v m =>
              rw [hel] at HE1 HC
              have HN : Hid (R = itemsL el 93 least s.data.toList k (acc ++ [v]) m) := Lib.hid HE1.out
              have hmm : m ≤ s.size := by
                have := hin acc ii hjj
                rw [hel] at this
                exact this.2
              have HI2 : Hid (Inv (acc ++ [v])) := Lib.hid (hInv acc ii v m HI.out hel)
              clear HE1 hel
              go_wp2_with fail
              refine (HP.out _).mono ?_
              rintro e w' ⟨rfl, hw'⟩; obtain rfl := hw'.symm
              go_wp2_with fail
              refine HC.out.mono ?_
              rintro e w4 ⟨⟨oe, ce, rfl, hrep⟩, hb4⟩
              have hs4 : wr.heap.size ≤ w4.heap.size := hb4.size
              have HB4 : Hid (Below w.heap.size w w4) := Lib.hid (hbel.trans (hb4.mono hbel.size))
              have hacc : Acc w4 w.heap.size (.slice oc acc.length cc) acc := HA.out.kp (X := fun _ => False) (.of hb4 (Nat.le_refl _)) (Nat.le_refl _) (fun _ _ h => h)
              obtain ⟨ps, hps, ho4, hr4⟩ := hacc
              have hpl : ps.length = acc.length := by rw [← hps, List.length_map]
              have hol : ∀ q, (Value.slice oc acc.length cc).ownBlock = some q → q < wr.heap.size := fun q hq => by
                obtain ⟨ps', hps', ho', -⟩ := HA.out
                exact (own_lt ho' q hq).2
              have HOL := Lib.hid hol
              have HO4 := Lib.hid ho4
              have HR4s := Lib.hid hr4
              have HRep := Lib.hid hrep
              have hn1 : ps.length + 1 ≤ maxLen := by unfold maxLen; omega
              have hby : (ps.length + 1) * 56 ≤ 140737488355328 := by omega
              have hwr := hbel.size
              have hw4 : w.heap.size ≤ w4.heap.size := Nat.le_trans hwr hs4
              have HBL := Lib.hid hbel
              rw [← hpl] at *
              clear hb4 hrep ho4 hr4 HC HA hol hbel
              have hnw : ((w4.alloc (.cells #[.int .i64 v.t, .int .i64 v.n, .string v.s, .slice oe v.l.length ce] 34)).alloc (.cells #[.int .i64 v.t, .int .i64 v.n, .string v.s, .slice oe v.l.length ce] 34)).heap[w4.heap.size + 1]? = some (.cells #[.int .i64 v.t, .int .i64 v.n, .string v.s, .slice oe v.l.length ce] 34 (0, 0)) := two_new' _ _ _
              have hsz2 : ((w4.alloc (.cells #[.int .i64 v.t, .int .i64 v.n, .string v.s, .slice oe v.l.length ce] 34)).alloc (.cells #[.int .i64 v.t, .int .i64 v.n, .string v.s, .slice oe v.l.length ce] 34)).heap.size = w4.heap.size + 2 := by simp
              have HO5 := Lib.hid ((HO4.out.alloc (.cells #[.int .i64 v.t, .int .i64 v.n, .string v.s, .slice oe v.l.length ce] 34)).alloc (.cells #[.int .i64 v.t, .int .i64 v.n, .string v.s, .slice oe v.l.length ce] 34))
              have HB5 : Hid (Below w.heap.size w ((w4.alloc (.cells #[.int .i64 v.t, .int .i64 v.n, .string v.s, .slice oe v.l.length ce] 34)).alloc (.cells #[.int .i64 v.t, .int .i64 v.n, .string v.s, .slice oe v.l.length ce] 34))) := Lib.hid ((HB4.out.alloc hw4 _).alloc (by simp; omega) _)
              have HRs5 : Hid (∀ p, p ∈ ps → RepS ((w4.alloc (.cells #[.int .i64 v.t, .int .i64 v.n, .string v.s, .slice oe v.l.length ce] 34)).alloc (.cells #[.int .i64 v.t, .int .i64 v.n, .string v.s, .slice oe v.l.length ce] 34)) (Off w.heap.size ((w4.alloc (.cells #[.int .i64 v.t, .int .i64 v.n, .string v.s, .slice oe v.l.length ce] 34)).alloc (.cells #[.int .i64 v.t, .int .i64 v.n, .string v.s, .slice oe v.l.length ce] 34)).heap.size (Value.slice oc ps.length cc).ownBlock) p.2 p.1.l) := Lib.hid (fun p hp => (HR4s.out p hp).later (fun q hq => ⟨⟨hq.1.1, by have := hq.1.2; rw [hsz2]; omega⟩, hq.2⟩) (fun q hq o => (below2 w4 _ _).cell (p := ⟨q, o, none⟩) hq.1.2))
              have HRp5 : Hid (RepS ((w4.alloc (.cells #[.int .i64 v.t, .int .i64 v.n, .string v.s, .slice oe v.l.length ce] 34)).alloc (.cells #[.int .i64 v.t, .int .i64 v.n, .string v.s, .slice oe v.l.length ce] 34)) (Btw wr.heap.size ((w4.alloc (.cells #[.int .i64 v.t, .int .i64 v.n, .string v.s, .slice oe v.l.length ce] 34)).alloc (.cells #[.int .i64 v.t, .int .i64 v.n, .string v.s, .slice oe v.l.length ce] 34)).heap.size) (.slice oe v.l.length ce) v.l) := Lib.hid (HRep.out.later (fun q hq => ⟨hq.1, by have := hq.2; rw [hsz2]; omega⟩) (fun q hq o => (below2 w4 _ _).cell (p := ⟨q, o, none⟩) hq.2))
              have HPS2 : Hid (ps.map (·.1) = acc) := Lib.hid hps
              clear HO4 HB4 HR4s HRep hps hpl
              go_wp2_with (at_builtin; refine wpList_append_lies _ rfl _ _ _ rfl w.heap.size 34 i0 _ 4 56 Tryz.underlying22 hi0 hz0 hz1 hz2 rfl (by omega) (.slice oc ps.length cc) ps.length (flat ps) rfl HO5.out ⟨w4.heap.size + 1, 0, none⟩ 1 1 [.int .i64 v.t, .int .i64 v.n, .string v.s, .slice oe v.l.length ce] rfl rfl (World.news_of_block (cs := #[.int .i64 v.t, .int .i64 v.n, .string v.s, .slice oe v.l.length ce]) (t := 34) (fr := (0, 0)) hnw) (by simp [Value.oneCell']) (by omega) hn1 hby (by simp; omega) (w4.heap.size + 2) hsz2 ?_)
              intro gg cap2 w5 hown5 hgrow hat hgl
              have HA6 : Hid (Acc w5 w.heap.size (.slice (some ⟨gg, 0, none⟩) (ps.length + 1) cap2) (acc ++ [v])) := Lib.hid (by
                rw [← HPS2.out]
                exact Acc.snoc HO5.out HRs5.out HRp5.out hwr HOL.out hown5 hgrow (by rw [hsz2]; exact hat) hgl)
              have HB6 : Hid (Below w.heap.size w w5) := Lib.hid (HB5.out.grown hgrow (by rw [hsz2]; omega) (fun q hq => (own_lt HO5.out q hq).1))
              have HPL2 : Hid (acc.length = ps.length) := Lib.hid (by rw [← HPS2.out, List.length_map])
              clear hown5 hgrow hat hgl HO5 HRs5 HRp5 HB5 HPS2
              go_wp2_with fail
              have hpl2 := HPL2.out
              go_roundg k
              case measure => omega
              case rel => exact ⟨acc ++ [v], some ⟨gg, 0, none⟩, cap2, m, by rw [List.length_append, hpl2]; show ps.length + 1 + k = _; omega, rfl, by rw [List.length_append, hpl2]; rfl, by rw [List.length_append, hpl2]; exact HA6, hmm, HB6.out, HI2, HN⟩
          · have hgt : (0 : Int) < (acc.length : Int) := by have := List.length_pos_iff.2 hnil; omega
            have HE1 : Hid (R = (wordL [44, 32] s.data.toList ii).bind fun _ j => (el acc j).bind fun v m => itemsL el 93 least s.data.toList k (acc ++ [v]) m) := Lib.hid (by
              rw [HE.out, itemsL_more _ _ _ _ _ _ _ HNC.out, sepL, if_neg hnil])
            have HW2 : Hid (∀ w', Calls Tryz.prog 22 #[.string s, .int .i64 (ii : Int), .string ⟨#[44, 32]⟩] w' fun e w'' => e = .returned (.tuple #[.int .i64 ((wordL [44, 32] s.data.toList ii).fin : Int), .bool (wordL [44, 32] s.data.toList ii).good]) ∧ ∃ m, w'' = w'.drewN m) := Lib.hid (fun w' => rword_any ⟨#[44, 32]⟩ s ii w' (by omega) (by decide))
            have hwb := wordL_bd [44, 32] s.data.toList ii (by rw [lt_len]; exact hii) (by decide)
            rw [lt_len] at hwb
            obtain ⟨g0, oe0, ce0, hoc, hcell⟩ : ∃ g oe ce, oc = some ⟨g, 0, none⟩ ∧ wr.cell? ⟨g, 3, none⟩ = some (.slice oe (headC acc) ce) := by
              cases acc with
              | nil => exact absurd rfl hnil
              | cons v r => exact HA.out.head
            subst hoc
            generalize wordL [44, 32] s.data.toList ii = sep at *
            cases sep with
            | bad m =>
              have HN : Hid (R = .bad m) := Lib.hid HE1.out
              clear HE HE1 HA HNC hnil hfull
              go_wp2_with fail
              refine (HP.out _).mono ?_
              rintro e w' ⟨rfl, hw'⟩; obtain rfl := hw'.symm
              go_wp2_with fail
              refine (HW2.out _).mono ?_
              rintro e w3 ⟨rfl, m1, rfl⟩
              go_wp2_with fail
              refine bodyPost_ret (v := .tuple #[.slice none 0 0, .int .i64 (m : Int), .bool false]) (by simp [results, Tryz.results47, go_sem, PR.fin, *]) rfl ?_
              rw [HN.out]
              exact ⟨rfl, ⟨hbel.os, hbel.tape, hbel.output, hbel.size, hbel.block⟩⟩
            | ok u jj =>
              have hjj : jj ≤ s.size := hwb.2
              have HE1 : Hid (R = (el acc jj).bind fun v m => itemsL el 93 least s.data.toList k (acc ++ [v]) m) := Lib.hid HE1.out
              clear HE HNC hwb hnil hfull
              go_wp2_with fail
              refine (HP.out _).mono ?_
              rintro e w' ⟨rfl, hw'⟩; obtain rfl := hw'.symm
              go_wp2_with fail
              refine (HW2.out _).mono ?_
              rintro e w3 ⟨rfl, m1, hw3⟩
              have hcell : w3.cell? ⟨g0, 3, none⟩ = some (.slice oe0 (headC acc) ce0) := by rw [hw3]; exact hcell
              have hbel : Below w.heap.size w w3 := by rw [hw3]; exact ⟨hbel.os, hbel.tape, hbel.output, hbel.size, hbel.block⟩
              have HA : Hid (Acc w3 w.heap.size (.slice (some ⟨g0, 0, none⟩) acc.length cc) acc) := Lib.hid (by rw [hw3]; exact HA.out.drewN m1)
              clear HW2 HP hw3
              have HC := Lib.hid (HEL.out acc jj w3 HI.out hjj)
              cases hel : el acc jj with
              | bad m =>
                rw [hel] at HE1 HC
                have HN : Hid (R = .bad m) := Lib.hid HE1.out
                clear HE1 hel
                go_wp2_with fail
                refine HC.out.mono ?_
                rintro e w4 ⟨⟨t1, n1, S1, rfl⟩, hb4⟩
                have HB4 : Hid (Below w.heap.size w w4) := Lib.hid (hbel.trans (hb4.mono hbel.size))
                have hw4 : w.heap.size ≤ w4.heap.size := HB4.out.size
                clear hb4 HC HA
                go_wp2_with fail
                refine bodyPost_ret (v := .tuple #[.slice none 0 0, .int .i64 (m : Int), .bool false]) (by simp [results, Tryz.results47, go_sem, *]) rfl ?_
                rw [HN.out]
                exact ⟨rfl, HB4.out.alloc hw4 _⟩
              | ok v m =>
                rw [hel] at HE1 HC
                have HN : Hid (R = itemsL el 93 least s.data.toList k (acc ++ [v]) m) := Lib.hid HE1.out
                have hmm : m ≤ s.size := by
                  have := hin acc jj hjj
                  rw [hel] at this
                  exact this.2
                have HI2 : Hid (Inv (acc ++ [v])) := Lib.hid (hInv acc jj v m HI.out hel)
                clear HE1 hel
                go_wp2_with fail
                refine HC.out.mono ?_
                rintro e w4 ⟨⟨oe, ce, rfl, hrep⟩, hb4⟩
                have hs4 : w3.heap.size ≤ w4.heap.size := hb4.size
                have HB4 : Hid (Below w.heap.size w w4) := Lib.hid (hbel.trans (hb4.mono hbel.size))
                have hacc : Acc w4 w.heap.size (.slice (some ⟨g0, 0, none⟩) acc.length cc) acc := HA.out.kp (X := fun _ => False) (.of hb4 (Nat.le_refl _)) (Nat.le_refl _) (fun _ _ h => h)
                obtain ⟨ps, hps, ho4, hr4⟩ := hacc
                have hpl : ps.length = acc.length := by rw [← hps, List.length_map]
                have hol : ∀ q, (Value.slice (some ⟨g0, 0, none⟩) acc.length cc).ownBlock = some q → q < w3.heap.size := fun q hq => by
                  obtain ⟨ps', hps', ho', -⟩ := HA.out
                  exact (own_lt ho' q hq).2
                have HOL := Lib.hid hol
                have HO4 := Lib.hid ho4
                have HR4s := Lib.hid hr4
                have HRep := Lib.hid hrep
                have hn1 : ps.length + 1 ≤ maxLen := by unfold maxLen; omega
                have hby : (ps.length + 1) * 56 ≤ 140737488355328 := by omega
                have hw3 := hbel.size
                have hw4 : w.heap.size ≤ w4.heap.size := Nat.le_trans hw3 hs4
                have HBL := Lib.hid hbel
                rw [← hpl] at *
                clear hb4 hrep ho4 hr4 HC HA hol hbel
                have hnw : ((w4.alloc (.cells #[.int .i64 v.t, .int .i64 v.n, .string v.s, .slice oe v.l.length ce] 34)).alloc (.cells #[.int .i64 v.t, .int .i64 v.n, .string v.s, .slice oe v.l.length ce] 34)).heap[w4.heap.size + 1]? = some (.cells #[.int .i64 v.t, .int .i64 v.n, .string v.s, .slice oe v.l.length ce] 34 (0, 0)) := two_new' _ _ _
                have hsz2 : ((w4.alloc (.cells #[.int .i64 v.t, .int .i64 v.n, .string v.s, .slice oe v.l.length ce] 34)).alloc (.cells #[.int .i64 v.t, .int .i64 v.n, .string v.s, .slice oe v.l.length ce] 34)).heap.size = w4.heap.size + 2 := by simp
                have HO5 := Lib.hid ((HO4.out.alloc (.cells #[.int .i64 v.t, .int .i64 v.n, .string v.s, .slice oe v.l.length ce] 34)).alloc (.cells #[.int .i64 v.t, .int .i64 v.n, .string v.s, .slice oe v.l.length ce] 34))
                have HB5 : Hid (Below w.heap.size w ((w4.alloc (.cells #[.int .i64 v.t, .int .i64 v.n, .string v.s, .slice oe v.l.length ce] 34)).alloc (.cells #[.int .i64 v.t, .int .i64 v.n, .string v.s, .slice oe v.l.length ce] 34))) := Lib.hid ((HB4.out.alloc hw4 _).alloc (by simp; omega) _)
                have HRs5 : Hid (∀ p, p ∈ ps → RepS ((w4.alloc (.cells #[.int .i64 v.t, .int .i64 v.n, .string v.s, .slice oe v.l.length ce] 34)).alloc (.cells #[.int .i64 v.t, .int .i64 v.n, .string v.s, .slice oe v.l.length ce] 34)) (Off w.heap.size ((w4.alloc (.cells #[.int .i64 v.t, .int .i64 v.n, .string v.s, .slice oe v.l.length ce] 34)).alloc (.cells #[.int .i64 v.t, .int .i64 v.n, .string v.s, .slice oe v.l.length ce] 34)).heap.size (Value.slice (some ⟨g0, 0, none⟩) ps.length cc).ownBlock) p.2 p.1.l) := Lib.hid (fun p hp => (HR4s.out p hp).later (fun q hq => ⟨⟨hq.1.1, by have := hq.1.2; rw [hsz2]; omega⟩, hq.2⟩) (fun q hq o => (below2 w4 _ _).cell (p := ⟨q, o, none⟩) hq.1.2))
                have HRp5 : Hid (RepS ((w4.alloc (.cells #[.int .i64 v.t, .int .i64 v.n, .string v.s, .slice oe v.l.length ce] 34)).alloc (.cells #[.int .i64 v.t, .int .i64 v.n, .string v.s, .slice oe v.l.length ce] 34)) (Btw w3.heap.size ((w4.alloc (.cells #[.int .i64 v.t, .int .i64 v.n, .string v.s, .slice oe v.l.length ce] 34)).alloc (.cells #[.int .i64 v.t, .int .i64 v.n, .string v.s, .slice oe v.l.length ce] 34)).heap.size) (.slice oe v.l.length ce) v.l) := Lib.hid (HRep.out.later (fun q hq => ⟨hq.1, by have := hq.2; rw [hsz2]; omega⟩) (fun q hq o => (below2 w4 _ _).cell (p := ⟨q, o, none⟩) hq.2))
                have HPS2 : Hid (ps.map (·.1) = acc) := Lib.hid hps
                clear HO4 HB4 HR4s HRep hps hpl
                go_wp2_with (at_builtin; refine wpList_append_lies _ rfl _ _ _ rfl w.heap.size 34 i0 _ 4 56 Tryz.underlying22 hi0 hz0 hz1 hz2 rfl (by omega) (.slice (some ⟨g0, 0, none⟩) ps.length cc) ps.length (flat ps) rfl HO5.out ⟨w4.heap.size + 1, 0, none⟩ 1 1 [.int .i64 v.t, .int .i64 v.n, .string v.s, .slice oe v.l.length ce] rfl rfl (World.news_of_block (cs := #[.int .i64 v.t, .int .i64 v.n, .string v.s, .slice oe v.l.length ce]) (t := 34) (fr := (0, 0)) hnw) (by simp [Value.oneCell']) (by omega) hn1 hby (by simp; omega) (w4.heap.size + 2) hsz2 ?_)
                intro gg cap2 w5 hown5 hgrow hat hgl
                have HA6 : Hid (Acc w5 w.heap.size (.slice (some ⟨gg, 0, none⟩) (ps.length + 1) cap2) (acc ++ [v])) := Lib.hid (by
                  rw [← HPS2.out]
                  exact Acc.snoc HO5.out HRs5.out HRp5.out hw3 HOL.out hown5 hgrow (by rw [hsz2]; exact hat) hgl)
                have HB6 : Hid (Below w.heap.size w w5) := Lib.hid (HB5.out.grown hgrow (by rw [hsz2]; omega) (fun q hq => (own_lt HO5.out q hq).1))
                have HPL2 : Hid (acc.length = ps.length) := Lib.hid (by rw [← HPS2.out, List.length_map])
                clear hown5 hgrow hat hgl HO5 HRs5 HRp5 HB5 HPS2
                go_wp2_with fail
                have hpl2 := HPL2.out
                go_roundg k
                case measure => omega
                case rel => exact ⟨acc ++ [v], some ⟨gg, 0, none⟩, cap2, m, by rw [List.length_append, hpl2]; show ps.length + 1 + k = _; omega, rfl, by rw [List.length_append, hpl2]; rfl, by rw [List.length_append, hpl2]; exact HA6, hmm, HB6.out, HI2, HN⟩
    · have hcb : ((pk s.data.toList ii : Int) == 93) = false := by rw [beq_eq_false_iff_ne]; omega
      have HNC : Hid (¬ (pk s.data.toList ii = 93 ∧ least ≤ acc.length)) := Lib.hid (fun h => hcl h.1)
      clear hcl
      by_cases hfull : acc.length = most
      · obtain rfl : gk = 0 := by omega
        have HN : Hid (R = .bad ii) := Lib.hid (by rw [HE.out, itemsL_full _ _ _ _ _ _ HNC.out])
        have hfl : ((acc.length : Int) == (most : Int)) = true := by rw [beq_iff_eq]; omega
        clear HE HA
        go_wp2_with fail
        refine (HP.out _).mono ?_
        rintro e w' ⟨rfl, hw'⟩; obtain rfl := hw'.symm
        go_wp2_with fail
        refine bodyPost_ret (v := .tuple #[.slice none 0 0, .int .i64 (ii : Int), .bool false]) (by simp [results, Tryz.results47, go_sem, *]) rfl ?_
        rw [HN.out]
        exact ⟨rfl, hbel⟩
      · have hfl : ((acc.length : Int) == (most : Int)) = false := by rw [beq_eq_false_iff_ne]; omega
        obtain ⟨k, rfl⟩ : ∃ k, gk = k + 1 := ⟨gk - 1, by omega⟩
        by_cases hnil : acc = []
        · have HE1 : Hid (R = (el acc ii).bind fun v m => itemsL el 93 least s.data.toList k (acc ++ [v]) m) := Lib.hid (by
            rw [HE.out, itemsL_more _ _ _ _ _ _ _ HNC.out, sepL, if_pos hnil]
            rfl)
          have hgt : ¬ (0 : Int) < (acc.length : Int) := by rw [hnil]; decide
          have hhc : headC acc = 0 := by rw [hnil]; rfl
          have hjj := hii
          clear HE HNC hnil hfull
          have HC := Lib.hid (HEL.out acc ii wr HI.out hjj)
          rw [hhc] at HC
          cases hel : el acc ii with
          | bad m =>
            rw [hel] at HE1 HC
            have HN : Hid (R = .bad m) := Lib.hid HE1.out
            clear HE1 hel
            go_wp2_with fail
            refine (HP.out _).mono ?_
            rintro e w' ⟨rfl, hw'⟩; obtain rfl := hw'.symm
            go_wp2_with fail
            refine HC.out.mono ?_
            rintro e w4 ⟨⟨t1, n1, S1, rfl⟩, hb4⟩
            have HB4 : Hid (Below w.heap.size w w4) := Lib.hid (hbel.trans (hb4.mono hbel.size))
            have hw4 : w.heap.size ≤ w4.heap.size := HB4.out.size
            clear hb4 HC HA
            go_wp2_with fail
            refine bodyPost_ret (v := .tuple #[.slice none 0 0, .int .i64 (m : Int), .bool false]) (by simp [results, Tryz.results47, go_sem, *]) rfl ?_
            rw [HN.out]
            exact ⟨rfl, HB4.out.alloc hw4 _⟩
          | ok v m =>
            rw [hel] at HE1 HC
            have HN : Hid (R = itemsL el 93 least s.data.toList k (acc ++ [v]) m) := Lib.hid HE1.out
            have hmm : m ≤ s.size := by
              have := hin acc ii hjj
              rw [hel] at this
              exact this.2
            have HI2 : Hid (Inv (acc ++ [v])) := Lib.hid (hInv acc ii v m HI.out hel)
            clear HE1 hel
            go_wp2_with fail
            refine (HP.out _).mono ?_
            rintro e w' ⟨rfl, hw'⟩; obtain rfl := hw'.symm
            go_wp2_with fail
            refine HC.out.mono ?_
            rintro e w4 ⟨⟨oe, ce, rfl, hrep⟩, hb4⟩
            have hs4 : wr.heap.size ≤ w4.heap.size := hb4.size
            have HB4 : Hid (Below w.heap.size w w4) := Lib.hid (hbel.trans (hb4.mono hbel.size))
            have hacc : Acc w4 w.heap.size (.slice oc acc.length cc) acc := HA.out.kp (X := fun _ => False) (.of hb4 (Nat.le_refl _)) (Nat.le_refl _) (fun _ _ h => h)
            obtain ⟨ps, hps, ho4, hr4⟩ := hacc
            have hpl : ps.length = acc.length := by rw [← hps, List.length_map]
            have hol : ∀ q, (Value.slice oc acc.length cc).ownBlock = some q → q < wr.heap.size := fun q hq => by
              obtain ⟨ps', hps', ho', -⟩ := HA.out
              exact (own_lt ho' q hq).2
            have HOL := Lib.hid hol
            have HO4 := Lib.hid ho4
            have HR4s := Lib.hid hr4
            have HRep := Lib.hid hrep
            have hn1 : ps.length + 1 ≤ maxLen := by unfold maxLen; omega
            have hby : (ps.length + 1) * 56 ≤ 140737488355328 := by omega
            have hwr := hbel.size
            have hw4 : w.heap.size ≤ w4.heap.size := Nat.le_trans hwr hs4
            have HBL := Lib.hid hbel
            rw [← hpl] at *
            clear hb4 hrep ho4 hr4 HC HA hol hbel
            have hnw : ((w4.alloc (.cells #[.int .i64 v.t, .int .i64 v.n, .string v.s, .slice oe v.l.length ce] 34)).alloc (.cells #[.int .i64 v.t, .int .i64 v.n, .string v.s, .slice oe v.l.length ce] 34)).heap[w4.heap.size + 1]? = some (.cells #[.int .i64 v.t, .int .i64 v.n, .string v.s, .slice oe v.l.length ce] 34 (0, 0)) := two_new' _ _ _
            have hsz2 : ((w4.alloc (.cells #[.int .i64 v.t, .int .i64 v.n, .string v.s, .slice oe v.l.length ce] 34)).alloc (.cells #[.int .i64 v.t, .int .i64 v.n, .string v.s, .slice oe v.l.length ce] 34)).heap.size = w4.heap.size + 2 := by simp
            have HO5 := Lib.hid ((HO4.out.alloc (.cells #[.int .i64 v.t, .int .i64 v.n, .string v.s, .slice oe v.l.length ce] 34)).alloc (.cells #[.int .i64 v.t, .int .i64 v.n, .string v.s, .slice oe v.l.length ce] 34))
            have HB5 : Hid (Below w.heap.size w ((w4.alloc (.cells #[.int .i64 v.t, .int .i64 v.n, .string v.s, .slice oe v.l.length ce] 34)).alloc (.cells #[.int .i64 v.t, .int .i64 v.n, .string v.s, .slice oe v.l.length ce] 34))) := Lib.hid ((HB4.out.alloc hw4 _).alloc (by simp; omega) _)
            have HRs5 : Hid (∀ p, p ∈ ps → RepS ((w4.alloc (.cells #[.int .i64 v.t, .int .i64 v.n, .string v.s, .slice oe v.l.length ce] 34)).alloc (.cells #[.int .i64 v.t, .int .i64 v.n, .string v.s, .slice oe v.l.length ce] 34)) (Off w.heap.size ((w4.alloc (.cells #[.int .i64 v.t, .int .i64 v.n, .string v.s, .slice oe v.l.length ce] 34)).alloc (.cells #[.int .i64 v.t, .int .i64 v.n, .string v.s, .slice oe v.l.length ce] 34)).heap.size (Value.slice oc ps.length cc).ownBlock) p.2 p.1.l) := Lib.hid (fun p hp => (HR4s.out p hp).later (fun q hq => ⟨⟨hq.1.1, by have := hq.1.2; rw [hsz2]; omega⟩, hq.2⟩) (fun q hq o => (below2 w4 _ _).cell (p := ⟨q, o, none⟩) hq.1.2))
            have HRp5 : Hid (RepS ((w4.alloc (.cells #[.int .i64 v.t, .int .i64 v.n, .string v.s, .slice oe v.l.length ce] 34)).alloc (.cells #[.int .i64 v.t, .int .i64 v.n, .string v.s, .slice oe v.l.length ce] 34)) (Btw wr.heap.size ((w4.alloc (.cells #[.int .i64 v.t, .int .i64 v.n, .string v.s, .slice oe v.l.length ce] 34)).alloc (.cells #[.int .i64 v.t, .int .i64 v.n, .string v.s, .slice oe v.l.length ce] 34)).heap.size) (.slice oe v.l.length ce) v.l) := Lib.hid (HRep.out.later (fun q hq => ⟨hq.1, by have := hq.2; rw [hsz2]; omega⟩) (fun q hq o => (below2 w4 _ _).cell (p := ⟨q, o, none⟩) hq.2))
            have HPS2 : Hid (ps.map (·.1) = acc) := Lib.hid hps
            clear HO4 HB4 HR4s HRep hps hpl
            go_wp2_with (at_builtin; refine wpList_append_lies _ rfl _ _ _ rfl w.heap.size 34 i0 _ 4 56 Tryz.underlying22 hi0 hz0 hz1 hz2 rfl (by omega) (.slice oc ps.length cc) ps.length (flat ps) rfl HO5.out ⟨w4.heap.size + 1, 0, none⟩ 1 1 [.int .i64 v.t, .int .i64 v.n, .string v.s, .slice oe v.l.length ce] rfl rfl (World.news_of_block (cs := #[.int .i64 v.t, .int .i64 v.n, .string v.s, .slice oe v.l.length ce]) (t := 34) (fr := (0, 0)) hnw) (by simp [Value.oneCell']) (by omega) hn1 hby (by simp; omega) (w4.heap.size + 2) hsz2 ?_)
            intro gg cap2 w5 hown5 hgrow hat hgl
            have HA6 : Hid (Acc w5 w.heap.size (.slice (some ⟨gg, 0, none⟩) (ps.length + 1) cap2) (acc ++ [v])) := Lib.hid (by
              rw [← HPS2.out]
              exact Acc.snoc HO5.out HRs5.out HRp5.out hwr HOL.out hown5 hgrow (by rw [hsz2]; exact hat) hgl)
            have HB6 : Hid (Below w.heap.size w w5) := Lib.hid (HB5.out.grown hgrow (by rw [hsz2]; omega) (fun q hq => (own_lt HO5.out q hq).1))
            have HPL2 : Hid (acc.length = ps.length) := Lib.hid (by rw [← HPS2.out, List.length_map])
            clear hown5 hgrow hat hgl HO5 HRs5 HRp5 HB5 HPS2
            go_wp2_with fail
            have hpl2 := HPL2.out
            go_roundg k
            case measure => omega
            case rel => exact ⟨acc ++ [v], some ⟨gg, 0, none⟩, cap2, m, by rw [List.length_append, hpl2]; show ps.length + 1 + k = _; omega, rfl, by rw [List.length_append, hpl2]; rfl, by rw [List.length_append, hpl2]; exact HA6, hmm, HB6.out, HI2, HN⟩
        · have hgt : (0 : Int) < (acc.length : Int) := by have := List.length_pos_iff.2 hnil; omega
          have HE1 : Hid (R = (wordL [44, 32] s.data.toList ii).bind fun _ j => (el acc j).bind fun v m => itemsL el 93 least s.data.toList k (acc ++ [v]) m) := Lib.hid (by
            rw [HE.out, itemsL_more _ _ _ _ _ _ _ HNC.out, sepL, if_neg hnil])
          have HW2 : Hid (∀ w', Calls Tryz.prog 22 #[.string s, .int .i64 (ii : Int), .string ⟨#[44, 32]⟩] w' fun e w'' => e = .returned (.tuple #[.int .i64 ((wordL [44, 32] s.data.toList ii).fin : Int), .bool (wordL [44, 32] s.data.toList ii).good]) ∧ ∃ m, w'' = w'.drewN m) := Lib.hid (fun w' => rword_any ⟨#[44, 32]⟩ s ii w' (by omega) (by decide))
          have hwb := wordL_bd [44, 32] s.data.toList ii (by rw [lt_len]; exact hii) (by decide)
          rw [lt_len] at hwb
          obtain ⟨g0, oe0, ce0, hoc, hcell⟩ : ∃ g oe ce, oc = some ⟨g, 0, none⟩ ∧ wr.cell? ⟨g, 3, none⟩ = some (.slice oe (headC acc) ce) := by
            cases acc with
            | nil => exact absurd rfl hnil
            | cons v r => exact HA.out.head
          subst hoc
          generalize wordL [44, 32] s.data.toList ii = sep at *
          cases sep with
          | bad m =>
            have HN : Hid (R = .bad m) := Lib.hid HE1.out
            clear HE HE1 HA HNC hnil hfull
            go_wp2_with fail
            refine (HP.out _).mono ?_
            rintro e w' ⟨rfl, hw'⟩; obtain rfl := hw'.symm
            go_wp2_with fail
            refine (HW2.out _).mono ?_
            rintro e w3 ⟨rfl, m1, rfl⟩
            go_wp2_with fail
            refine bodyPost_ret (v := .tuple #[.slice none 0 0, .int .i64 (m : Int), .bool false]) (by simp [results, Tryz.results47, go_sem, PR.fin, *]) rfl ?_
            rw [HN.out]
            exact ⟨rfl, ⟨hbel.os, hbel.tape, hbel.output, hbel.size, hbel.block⟩⟩
          | ok u jj =>
            have hjj : jj ≤ s.size := hwb.2
            have HE1 : Hid (R = (el acc jj).bind fun v m => itemsL el 93 least s.data.toList k (acc ++ [v]) m) := Lib.hid HE1.out
            clear HE HNC hwb hnil hfull
            go_wp2_with fail
            refine (HP.out _).mono ?_
            rintro e w' ⟨rfl, hw'⟩; obtain rfl := hw'.symm
            go_wp2_with fail
            refine (HW2.out _).mono ?_
            rintro e w3 ⟨rfl, m1, hw3⟩
            have hcell : w3.cell? ⟨g0, 3, none⟩ = some (.slice oe0 (headC acc) ce0) := by rw [hw3]; exact hcell
            have hbel : Below w.heap.size w w3 := by rw [hw3]; exact ⟨hbel.os, hbel.tape, hbel.output, hbel.size, hbel.block⟩
            have HA : Hid (Acc w3 w.heap.size (.slice (some ⟨g0, 0, none⟩) acc.length cc) acc) := Lib.hid (by rw [hw3]; exact HA.out.drewN m1)
            clear HW2 HP hw3
            have HC := Lib.hid (HEL.out acc jj w3 HI.out hjj)
            cases hel : el acc jj with
            | bad m =>
              rw [hel] at HE1 HC
              have HN : Hid (R = .bad m) := Lib.hid HE1.out
              clear HE1 hel
              go_wp2_with fail
              refine HC.out.mono ?_
              rintro e w4 ⟨⟨t1, n1, S1, rfl⟩, hb4⟩
              have HB4 : Hid (Below w.heap.size w w4) := Lib.hid (hbel.trans (hb4.mono hbel.size))
              have hw4 : w.heap.size ≤ w4.heap.size := HB4.out.size
              clear hb4 HC HA
              go_wp2_with fail
              refine bodyPost_ret (v := .tuple #[.slice none 0 0, .int .i64 (m : Int), .bool false]) (by simp [results, Tryz.results47, go_sem, *]) rfl ?_
              rw [HN.out]
              exact ⟨rfl, HB4.out.alloc hw4 _⟩
            | ok v m =>
              rw [hel] at HE1 HC
              have HN : Hid (R = itemsL el 93 least s.data.toList k (acc ++ [v]) m) := Lib.hid HE1.out
              have hmm : m ≤ s.size := by
                have := hin acc jj hjj
                rw [hel] at this
                exact this.2
              have HI2 : Hid (Inv (acc ++ [v])) := Lib.hid (hInv acc jj v m HI.out hel)
              clear HE1 hel
              go_wp2_with fail
              refine HC.out.mono ?_
              rintro e w4 ⟨⟨oe, ce, rfl, hrep⟩, hb4⟩
              have hs4 : w3.heap.size ≤ w4.heap.size := hb4.size
              have HB4 : Hid (Below w.heap.size w w4) := Lib.hid (hbel.trans (hb4.mono hbel.size))
              have hacc : Acc w4 w.heap.size (.slice (some ⟨g0, 0, none⟩) acc.length cc) acc := HA.out.kp (X := fun _ => False) (.of hb4 (Nat.le_refl _)) (Nat.le_refl _) (fun _ _ h => h)
              obtain ⟨ps, hps, ho4, hr4⟩ := hacc
              have hpl : ps.length = acc.length := by rw [← hps, List.length_map]
              have hol : ∀ q, (Value.slice (some ⟨g0, 0, none⟩) acc.length cc).ownBlock = some q → q < w3.heap.size := fun q hq => by
                obtain ⟨ps', hps', ho', -⟩ := HA.out
                exact (own_lt ho' q hq).2
              have HOL := Lib.hid hol
              have HO4 := Lib.hid ho4
              have HR4s := Lib.hid hr4
              have HRep := Lib.hid hrep
              have hn1 : ps.length + 1 ≤ maxLen := by unfold maxLen; omega
              have hby : (ps.length + 1) * 56 ≤ 140737488355328 := by omega
              have hw3 := hbel.size
              have hw4 : w.heap.size ≤ w4.heap.size := Nat.le_trans hw3 hs4
              have HBL := Lib.hid hbel
              rw [← hpl] at *
              clear hb4 hrep ho4 hr4 HC HA hol hbel
              have hnw : ((w4.alloc (.cells #[.int .i64 v.t, .int .i64 v.n, .string v.s, .slice oe v.l.length ce] 34)).alloc (.cells #[.int .i64 v.t, .int .i64 v.n, .string v.s, .slice oe v.l.length ce] 34)).heap[w4.heap.size + 1]? = some (.cells #[.int .i64 v.t, .int .i64 v.n, .string v.s, .slice oe v.l.length ce] 34 (0, 0)) := two_new' _ _ _
              have hsz2 : ((w4.alloc (.cells #[.int .i64 v.t, .int .i64 v.n, .string v.s, .slice oe v.l.length ce] 34)).alloc (.cells #[.int .i64 v.t, .int .i64 v.n, .string v.s, .slice oe v.l.length ce] 34)).heap.size = w4.heap.size + 2 := by simp
              have HO5 := Lib.hid ((HO4.out.alloc (.cells #[.int .i64 v.t, .int .i64 v.n, .string v.s, .slice oe v.l.length ce] 34)).alloc (.cells #[.int .i64 v.t, .int .i64 v.n, .string v.s, .slice oe v.l.length ce] 34))
              have HB5 : Hid (Below w.heap.size w ((w4.alloc (.cells #[.int .i64 v.t, .int .i64 v.n, .string v.s, .slice oe v.l.length ce] 34)).alloc (.cells #[.int .i64 v.t, .int .i64 v.n, .string v.s, .slice oe v.l.length ce] 34))) := Lib.hid ((HB4.out.alloc hw4 _).alloc (by simp; omega) _)
              have HRs5 : Hid (∀ p, p ∈ ps → RepS ((w4.alloc (.cells #[.int .i64 v.t, .int .i64 v.n, .string v.s, .slice oe v.l.length ce] 34)).alloc (.cells #[.int .i64 v.t, .int .i64 v.n, .string v.s, .slice oe v.l.length ce] 34)) (Off w.heap.size ((w4.alloc (.cells #[.int .i64 v.t, .int .i64 v.n, .string v.s, .slice oe v.l.length ce] 34)).alloc (.cells #[.int .i64 v.t, .int .i64 v.n, .string v.s, .slice oe v.l.length ce] 34)).heap.size (Value.slice (some ⟨g0, 0, none⟩) ps.length cc).ownBlock) p.2 p.1.l) := Lib.hid (fun p hp => (HR4s.out p hp).later (fun q hq => ⟨⟨hq.1.1, by have := hq.1.2; rw [hsz2]; omega⟩, hq.2⟩) (fun q hq o => (below2 w4 _ _).cell (p := ⟨q, o, none⟩) hq.1.2))
              have HRp5 : Hid (RepS ((w4.alloc (.cells #[.int .i64 v.t, .int .i64 v.n, .string v.s, .slice oe v.l.length ce] 34)).alloc (.cells #[.int .i64 v.t, .int .i64 v.n, .string v.s, .slice oe v.l.length ce] 34)) (Btw w3.heap.size ((w4.alloc (.cells #[.int .i64 v.t, .int .i64 v.n, .string v.s, .slice oe v.l.length ce] 34)).alloc (.cells #[.int .i64 v.t, .int .i64 v.n, .string v.s, .slice oe v.l.length ce] 34)).heap.size) (.slice oe v.l.length ce) v.l) := Lib.hid (HRep.out.later (fun q hq => ⟨hq.1, by have := hq.2; rw [hsz2]; omega⟩) (fun q hq o => (below2 w4 _ _).cell (p := ⟨q, o, none⟩) hq.2))
              have HPS2 : Hid (ps.map (·.1) = acc) := Lib.hid hps
              clear HO4 HB4 HR4s HRep hps hpl
              go_wp2_with (at_builtin; refine wpList_append_lies _ rfl _ _ _ rfl w.heap.size 34 i0 _ 4 56 Tryz.underlying22 hi0 hz0 hz1 hz2 rfl (by omega) (.slice (some ⟨g0, 0, none⟩) ps.length cc) ps.length (flat ps) rfl HO5.out ⟨w4.heap.size + 1, 0, none⟩ 1 1 [.int .i64 v.t, .int .i64 v.n, .string v.s, .slice oe v.l.length ce] rfl rfl (World.news_of_block (cs := #[.int .i64 v.t, .int .i64 v.n, .string v.s, .slice oe v.l.length ce]) (t := 34) (fr := (0, 0)) hnw) (by simp [Value.oneCell']) (by omega) hn1 hby (by simp; omega) (w4.heap.size + 2) hsz2 ?_)
              intro gg cap2 w5 hown5 hgrow hat hgl
              have HA6 : Hid (Acc w5 w.heap.size (.slice (some ⟨gg, 0, none⟩) (ps.length + 1) cap2) (acc ++ [v])) := Lib.hid (by
                rw [← HPS2.out]
                exact Acc.snoc HO5.out HRs5.out HRp5.out hw3 HOL.out hown5 hgrow (by rw [hsz2]; exact hat) hgl)
              have HB6 : Hid (Below w.heap.size w w5) := Lib.hid (HB5.out.grown hgrow (by rw [hsz2]; omega) (fun q hq => (own_lt HO5.out q hq).1))
              have HPL2 : Hid (acc.length = ps.length) := Lib.hid (by rw [← HPS2.out, List.length_map])
              clear hown5 hgrow hat hgl HO5 HRs5 HRp5 HB5 HPS2
              go_wp2_with fail
              have hpl2 := HPL2.out
              go_roundg k
              case measure => omega
              case rel => exact ⟨acc ++ [v], some ⟨gg, 0, none⟩, cap2, m, by rw [List.length_append, hpl2]; show ps.length + 1 + k = _; omega, rfl, by rw [List.length_append, hpl2]; rfl, by rw [List.length_append, hpl2]; exact HA6, hmm, HB6.out, HI2, HN⟩

end Go.Proofs.YtmbmlcnipncgnaaGreatDoor
