/-
  items of the package, for numbers. Nothing is assumed.
-/
import Derived.Test.YtmbmlcnipncgnaaGreatDoorLtAcc
import Derived.Test.YtmbmlcnipncgnaaGreatDoorLtTexts
namespace Go.Proofs.YtmbmlcnipncgnaaGreatDoor
open Go.RowKit


/-- A list as the program hands it on. -/
def LsE (w w' : World) (r : PR (List V)) (e : Ending) : Prop := match r with
  | .bad _ => e = .returned (.tuple #[.slice none 0 0, .bool false])
  | .ok l _ => ∃ oe ce, e = .returned (.tuple #[.slice oe l.length ce, .bool true]) ∧ RepS w' (Btw w.heap.size w'.heap.size) (.slice oe l.length ce) l
theorem itemsL_close (el : List V → Nat → PR V) (close least : Nat) (L : List UInt8) (k : Nat) (acc : List V) (i : Nat) (h : pk L i = close ∧ least ≤ acc.length) : itemsL el close least L k acc i = .ok acc (i + 1) := by
  cases k <;> rw [itemsL, if_pos h]
theorem itemsL_full (el : List V → Nat → PR V) (close least : Nat) (L : List UInt8) (acc : List V) (i : Nat) (h : ¬ (pk L i = close ∧ least ≤ acc.length)) : itemsL el close least L 0 acc i = .bad i := by
  rw [itemsL, if_neg h]
theorem itemsL_more (el : List V → Nat → PR V) (close least : Nat) (L : List UInt8) (k : Nat) (acc : List V) (i : Nat) (h : ¬ (pk L i = close ∧ least ≤ acc.length)) :
    itemsL el close least L (k + 1) acc i = (sepL acc L i).bind fun _ j => (el acc j).bind fun v m => itemsL el close least L k (acc ++ [v]) m := by
  rw [itemsL, if_neg h]
theorem word1 (c : UInt8) (L : List UInt8) (i : Nat) : wordL [c] L i = if pk L i = c.toNat then .ok () (i + 1) else .bad i := by
  rw [wordL]
  rfl
theorem two_new' (w : World) (X Y : Obj) : ((w.alloc X).alloc Y).heap[w.heap.size + 1]? = some Y := by
  show ((w.heap.push X).push Y)[w.heap.size + 1]? = some Y
  rw [Array.getElem?_push, if_pos (by simp)]
theorem box_in (w : World) (xs : Array Value) (t : Nat) : (w.alloc (.cells xs t)).heap[w.heap.size]? = some (.cells xs t (0, 0)) := heap_new w _

set_option maxRecDepth 100000 in
set_option maxHeartbeats 3200000 in
theorem items_int (w : World) (b : Nat) (s : ByteArray) (i : Nat) (h : RD w b s i) (hi : i ≤ s.size) (hs : s.size ≤ 1000000) (least most : Nat) (hmost : most ≤ 16) (el : List V → Nat → PR V) (Inv : List V → World → Prop) (X : Nat → Prop)
    (hel : ∀ (acc : List V) (j : Nat) (w' : World), Inv acc w' → RD w' b s j → j ≤ s.size → w.heap.size ≤ w'.heap.size → Calls Tryz.prog 56 #[.pointer (some ⟨b, 0, none⟩)] w' fun e w'' => OutV X b s w' (el acc j) e w'' ∧ ∀ v m, el acc j = .ok v m → Inv (acc ++ [v]) w'')
    (hX : ∀ k, X k → k < w.heap.size) (hXb : X b) (hI0 : Inv [] w) (hInv : ∀ (acc : List V) (w' w'' : World), Inv acc w' → w.heap.size ≤ w'.heap.size → Kp w'.heap.size (Is b) w' w'' → Inv acc w'') (hInvA : ∀ (acc : List V) (w' w'' : World), Inv acc w' → w.heap.size ≤ w'.heap.size → Kp w.heap.size (Is b) w' w'' → Inv acc w'') (hin : ∀ (acc : List V) j, j ≤ s.size → (el acc j).In j s.size):
    Calls Tryz.prog 55 #[.pointer (some ⟨b, 0, none⟩), .string ⟨#[91, 93]⟩, .int .i64 (least : Int), .int .i64 (most : Int), (.func (.func 56) #[.pointer (some ⟨b, 0, none⟩)] #[])] w fun e w' => LsE w w' (if pk s.data.toList i = 91 then itemsL (el) 93 least s.data.toList most [] (i + 1) else .bad i) e ∧ RD w' b s (if pk s.data.toList i = 91 then itemsL (el) 93 least s.data.toList most [] (i + 1) else .bad i).fin ∧ Kp w.heap.size X w w' := by
  obtain ⟨i0, hi0, hz0, hz1, hz2⟩ := info_parts infoValue
  have HEL := Lib.hid hel
  clear hel
  have hblt : b < w.heap.size := h.lt
  have HWD : Hid (Calls Tryz.prog 43 #[.pointer (some ⟨b, 0, none⟩), .string ⟨#[91]⟩] w fun e w' => e = .returned (.bool (wordL [91] s.data.toList i).good) ∧ RD w' b s (wordL [91] s.data.toList i).fin ∧ Kp w.heap.size (Is b) w w') := Lib.hid (word_any ⟨#[91]⟩ w b s i h hi hs (by decide) (by decide))
  rw [word1] at HWD
  clear h
  by_cases hop : pk s.data.toList i = 91
  · rw [if_pos hop]
    rw [if_pos (show pk s.data.toList i = UInt8.toNat 91 from hop)] at HWD
    have hil := pos_of_pk hop (by decide)
    rw [lt_len] at hil
    generalize hR : itemsL (el) 93 least s.data.toList most [] (i + 1) = R at *
    have HE0 : Hid (R = itemsL (el) 93 least s.data.toList most [] (i + 1)) := Lib.hid hR.symm
    clear hR hop
    go_enter Tryz.func55, Tryz.ntmps55
    go_wp2_with fail
    refine HWD.out.mono ?_
    rintro e w1 ⟨rfl, hR1, hk1⟩
    have HR1 : Hid (RD w1 b s (i + 1)) := Lib.hid hR1
    have HK1 : Hid (Kp w.heap.size X w w1) := Lib.hid (hk1.mono (Nat.le_refl _) (fun k _ h => by unfold Is at h; subst h; exact hXb))
    have HI1 : Hid (Inv [] w1) := Lib.hid (hInv [] _ _ hI0 (Nat.le_refl _) hk1)
    have hw1 : w.heap.size ≤ w1.heap.size := hk1.size
    clear hR1 hk1 HWD hI0
    go_wp2_with fail
    go_loopg [12] most (fun g v wr => ∃ (acc : List V) (oc : Option Addr) (cc ii : Nat), acc.length + g = most ∧ v = .slice oc acc.length cc ∧ Hid (Acc wr w.heap.size (.slice oc acc.length cc) acc) ∧ Hid (RD wr b s ii) ∧ ii ≤ s.size ∧ Hid (Kp w.heap.size X w wr) ∧ Hid (Inv acc wr) ∧ w.heap.size ≤ wr.heap.size ∧ Hid (R = itemsL (el) 93 least s.data.toList g acc ii))
    case atStart => exact ⟨[], none, 0, i + 1, by simp, rfl, Lib.hid (Acc.nil _ _), HR1, hil, HK1, HI1, hw1, HE0⟩
    case round =>
      obtain ⟨acc, oc, cc, ii, hlg, rfl, HA, HR, hii, HK, HI, hwr, HE⟩ := hrel
      have HG := Lib.hid hlg
      have hlen : acc.length ≤ most := by omega
      have hleni : (acc.length : Int) ≤ most := by omega
      clear HR1 HK1 HI1 HE0 hw1
      by_cases hgeN : least ≤ acc.length
      · have hge : ¬ (acc.length : Int) < least := by omega
        have HWC : Hid (Calls Tryz.prog 43 #[.pointer (some ⟨b, 0, none⟩), .string ⟨#[93]⟩] wr fun e w' => e = .returned (.bool (wordL [93] s.data.toList ii).good) ∧ RD w' b s (wordL [93] s.data.toList ii).fin ∧ Kp wr.heap.size (Is b) wr w') := Lib.hid (word_any ⟨#[93]⟩ wr b s ii HR.out hii hs (by decide) (by decide))
        rw [word1] at HWC
        by_cases hcl : pk s.data.toList ii = 93
        · rw [if_pos (show pk s.data.toList ii = UInt8.toNat 93 from hcl)] at HWC
          have HN : Hid (R = .ok acc (ii + 1)) := Lib.hid (by rw [HE.out, itemsL_close _ _ _ _ _ _ _ ⟨hcl, hgeN⟩])
          clear HE hcl HR
          go_wp2_with fail
          refine HWC.out.mono ?_
          rintro e w3 ⟨rfl, hR3, hk3⟩
          have HR3 : Hid (RD w3 b s (ii + 1)) := Lib.hid hR3
          have HK3 : Hid (Kp w.heap.size X w w3) := Lib.hid (HK.out.trans (hk3.mono hwr (fun k _ h => by unfold Is at h; subst h; exact hXb)))
          have HA3 : Hid (Acc w3 w.heap.size (.slice oc acc.length cc) acc) := Lib.hid (HA.out.kp hk3 (Nat.le_refl _) (fun k hk h => by unfold Is at h; omega))
          clear hR3 hk3 HWC HK HI HA
          go_wp2_with fail
          go_ret2
          rw [HN.out]
          exact ⟨⟨_, _, rfl, HA3.out.repS (by omega)⟩, HR3.out, HK3.out⟩
        · rw [if_neg (show ¬ pk s.data.toList ii = UInt8.toNat 93 from hcl)] at HWC
          have HNC : Hid (¬ (pk s.data.toList ii = 93 ∧ least ≤ acc.length)) := Lib.hid (fun h => hcl h.1)
          clear hcl HR
          go_wp2_with fail
          refine HWC.out.mono ?_
          rintro e w2 ⟨rfl, hR3, hk3⟩
          have HRc : Hid (RD w2 b s ii) := Lib.hid hR3
          have HKc : Hid (Kp w.heap.size X w w2) := Lib.hid (HK.out.trans (hk3.mono hwr (fun k _ h => by unfold Is at h; subst h; exact hXb)))
          have HAc : Hid (Acc w2 w.heap.size (.slice oc acc.length cc) acc) := Lib.hid (HA.out.kp hk3 (Nat.le_refl _) (fun k hk h => by unfold Is at h; omega))
          have HIc : Hid (Inv acc w2) := Lib.hid (hInv acc _ _ HI.out hwr hk3)
          have HSc : Hid (wr.heap.size ≤ w2.heap.size) := Lib.hid hk3.size
          clear hR3 hk3 HWC HK HI HA
          by_cases hfull : acc.length = most
          · obtain rfl : gk = 0 := by omega
            have HN : Hid (R = .bad ii) := Lib.hid (by rw [HE.out, itemsL_full _ _ _ _ _ _ HNC.out])
            have hfl : ((acc.length : Int) == (most : Int)) = true := by rw [beq_iff_eq]; omega
            clear HE HAc HIc
            go_wp2_with fail
            go_ret2
            rw [HN.out]
            exact ⟨rfl, HRc.out, HKc.out⟩
          · have hfl : ((acc.length : Int) == (most : Int)) = false := by rw [beq_eq_false_iff_ne]; omega
            obtain ⟨k, rfl⟩ : ∃ k, gk = k + 1 := ⟨gk - 1, by omega⟩
            by_cases hnil : acc = []
            · have HE1 : Hid (R = (el acc ii).bind fun v m => itemsL (el) 93 least s.data.toList k (acc ++ [v]) m) := Lib.hid (by
                rw [HE.out, itemsL_more _ _ _ _ _ _ _ HNC.out, sepL, if_pos hnil]
                rfl)
              have hgt : ¬ (0 : Int) < (acc.length : Int) := by rw [hnil]; decide
              have HRd := HRc; have HKd := HKc; have HId := HIc; have HAd := HAc
              have HSd : Hid (wr.heap.size ≤ (w2).heap.size) := HSc
              obtain ⟨jj, hjj0⟩ : ∃ jj, ii = jj := ⟨_, rfl⟩
              have hjj : jj ≤ s.size := by omega
              rw [hjj0] at HRd HE1
              clear HE HRc HKc HIc HAc HNC hjj0 hnil
              cases hel : el acc jj with
              | bad m =>
                rw [hel] at HE1
                have HN : Hid (R = .bad m) := Lib.hid HE1.out
                have HC := Lib.hid (HEL.out acc jj w2 HId.out HRd.out hjj (Nat.le_trans hwr HSd.out))
                rw [hel] at HC
                clear HE1 hel HAd
                go_wp2_with fail
                refine HC.out.mono ?_
                rintro e w4 ⟨⟨⟨t1, n1, S1, rfl⟩, hR4, hK4⟩, -⟩
                have HR4 := Lib.hid hR4
                have HK4 : Hid (Kp w.heap.size X w w4) := Lib.hid (HKd.out.trans (hK4.less (Nat.le_trans hwr HSd.out)))
                clear hR4 hK4 HC HRd HKd HId HSd
                have hw4 : w.heap.size ≤ w4.heap.size := HK4.out.size
                go_wp2_with fail
                go_ret2
                rw [HN.out]
                exact ⟨rfl, HR4.out.alloc _, HK4.out.alloc hw4 _⟩
              | ok v m =>
                rw [hel] at HE1
                have HN : Hid (R = itemsL (el) 93 least s.data.toList k (acc ++ [v]) m) := Lib.hid HE1.out
                have hmm : m ≤ s.size := by
                  have := hin acc jj hjj
                  rw [hel] at this
                  exact this.2
                have HC := Lib.hid (HEL.out acc jj w2 HId.out HRd.out hjj (Nat.le_trans hwr HSd.out))
                rw [hel] at HC
                clear HE1 hel
                go_wp2_with fail
                refine HC.out.mono ?_
                rintro e w4 ⟨⟨⟨oe, ce, rfl, hrep⟩, hR4, hK4⟩, hI4⟩
                have hs4 : (w2).heap.size ≤ w4.heap.size := hK4.size
                have HR4 : Hid (RD w4 b s m) := Lib.hid hR4
                have HI4 : Hid (Inv (acc ++ [v]) w4) := Lib.hid (hI4 v m rfl)
                have HK4 : Hid (Kp w.heap.size X w w4) := Lib.hid (HKd.out.trans (hK4.less (Nat.le_trans hwr HSd.out)))
                have hacc : Acc w4 w.heap.size (.slice oc acc.length cc) acc := HAd.out.kp hK4 (Nat.le_refl _) (fun k hk h => absurd (hX k h) (by omega))
                obtain ⟨ps, hps, ho4, hr4⟩ := hacc
                have hpl : ps.length = acc.length := by rw [← hps, List.length_map]
                have hol : ∀ q, (Value.slice oc acc.length cc).ownBlock = some q → q < (w2).heap.size := fun q hq => by
                  obtain ⟨ps', hps', ho', -⟩ := HAd.out
                  exact (own_lt ho' q hq).2
                have HOL := Lib.hid hol
                have HO4 := Lib.hid ho4
                have HR4s := Lib.hid hr4
                have HRep := Lib.hid hrep
                have hn1 : ps.length + 1 ≤ maxLen := by unfold maxLen; omega
                have hby : (ps.length + 1) * 56 ≤ 140737488355328 := by omega
                have hw4 : w.heap.size ≤ w4.heap.size := Nat.le_trans hwr (Nat.le_trans HSd.out hs4)
                rw [← hpl] at *
                clear hR4 hI4 hK4 hrep ho4 hr4 HC HRd HKd HId HAd hol
                have hnw : ((w4.alloc (.cells #[.int .i64 v.t, .int .i64 v.n, .string v.s, .slice oe v.l.length ce] 34)).alloc (.cells #[.int .i64 v.t, .int .i64 v.n, .string v.s, .slice oe v.l.length ce] 34)).heap[w4.heap.size + 1]? = some (.cells #[.int .i64 v.t, .int .i64 v.n, .string v.s, .slice oe v.l.length ce] 34 (0, 0)) := two_new' _ _ _
                have hsz2 : ((w4.alloc (.cells #[.int .i64 v.t, .int .i64 v.n, .string v.s, .slice oe v.l.length ce] 34)).alloc (.cells #[.int .i64 v.t, .int .i64 v.n, .string v.s, .slice oe v.l.length ce] 34)).heap.size = w4.heap.size + 2 := by simp
                have hws2 : w.heap.size ≤ ((w4.alloc (.cells #[.int .i64 v.t, .int .i64 v.n, .string v.s, .slice oe v.l.length ce] 34)).alloc (.cells #[.int .i64 v.t, .int .i64 v.n, .string v.s, .slice oe v.l.length ce] 34)).heap.size := by rw [hsz2]; omega
                have HO5 := Lib.hid ((HO4.out.alloc (.cells #[.int .i64 v.t, .int .i64 v.n, .string v.s, .slice oe v.l.length ce] 34)).alloc (.cells #[.int .i64 v.t, .int .i64 v.n, .string v.s, .slice oe v.l.length ce] 34))
                have HR5 : Hid (RD ((w4.alloc (.cells #[.int .i64 v.t, .int .i64 v.n, .string v.s, .slice oe v.l.length ce] 34)).alloc (.cells #[.int .i64 v.t, .int .i64 v.n, .string v.s, .slice oe v.l.length ce] 34)) b s m) := Lib.hid ((HR4.out.alloc _).alloc _)
                have HK5 : Hid (Kp w.heap.size X w ((w4.alloc (.cells #[.int .i64 v.t, .int .i64 v.n, .string v.s, .slice oe v.l.length ce] 34)).alloc (.cells #[.int .i64 v.t, .int .i64 v.n, .string v.s, .slice oe v.l.length ce] 34))) := Lib.hid ((HK4.out.alloc hw4 _).alloc (by simp; omega) _)
                have HI5 : Hid (Inv (acc ++ [v]) ((w4.alloc (.cells #[.int .i64 v.t, .int .i64 v.n, .string v.s, .slice oe v.l.length ce] 34)).alloc (.cells #[.int .i64 v.t, .int .i64 v.n, .string v.s, .slice oe v.l.length ce] 34))) := Lib.hid (hInv _ _ _ HI4.out hw4 (.of (below2 w4 _ _) (Nat.le_refl _)))
                have HRs5 : Hid (∀ p, p ∈ ps → RepS ((w4.alloc (.cells #[.int .i64 v.t, .int .i64 v.n, .string v.s, .slice oe v.l.length ce] 34)).alloc (.cells #[.int .i64 v.t, .int .i64 v.n, .string v.s, .slice oe v.l.length ce] 34)) (Off w.heap.size ((w4.alloc (.cells #[.int .i64 v.t, .int .i64 v.n, .string v.s, .slice oe v.l.length ce] 34)).alloc (.cells #[.int .i64 v.t, .int .i64 v.n, .string v.s, .slice oe v.l.length ce] 34)).heap.size (Value.slice oc ps.length cc).ownBlock) p.2 p.1.l) := Lib.hid (fun p hp => (HR4s.out p hp).later (fun q hq => ⟨⟨hq.1.1, by have := hq.1.2; rw [hsz2]; omega⟩, hq.2⟩) (fun q hq o => (below2 w4 _ _).cell (p := ⟨q, o, none⟩) hq.1.2))
                have HRp5 : Hid (RepS ((w4.alloc (.cells #[.int .i64 v.t, .int .i64 v.n, .string v.s, .slice oe v.l.length ce] 34)).alloc (.cells #[.int .i64 v.t, .int .i64 v.n, .string v.s, .slice oe v.l.length ce] 34)) (Btw (w2).heap.size ((w4.alloc (.cells #[.int .i64 v.t, .int .i64 v.n, .string v.s, .slice oe v.l.length ce] 34)).alloc (.cells #[.int .i64 v.t, .int .i64 v.n, .string v.s, .slice oe v.l.length ce] 34)).heap.size) (.slice oe v.l.length ce) v.l) := Lib.hid (HRep.out.later (fun q hq => ⟨hq.1, by have := hq.2; rw [hsz2]; omega⟩) (fun q hq o => (below2 w4 _ _).cell (p := ⟨q, o, none⟩) hq.2))
                have hps2 : ps.map (·.1) = acc := hps
                clear HO4 HR4 HK4 HI4 HR4s HRep hws2
                go_wp2_with (at_builtin; refine wpList_append_lies _ rfl _ _ _ rfl w.heap.size 34 i0 _ 4 56 Tryz.underlying22 hi0 hz0 hz1 hz2 rfl (by omega) (.slice oc ps.length cc) ps.length (flat ps) rfl HO5.out ⟨w4.heap.size + 1, 0, none⟩ 1 1 [.int .i64 v.t, .int .i64 v.n, .string v.s, .slice oe v.l.length ce] rfl rfl (World.news_of_block (cs := #[.int .i64 v.t, .int .i64 v.n, .string v.s, .slice oe v.l.length ce]) (t := 34) (fr := (0, 0)) hnw) (by simp [Value.oneCell']) (by omega) hn1 hby (by simp; omega) (w4.heap.size + 2) hsz2 ?_)
                intro gg cap2 w5 hown5 hgrow hat hgl
                have HA6 : Hid (Acc w5 w.heap.size (.slice (some ⟨gg, 0, none⟩) (ps.length + 1) cap2) (acc ++ [v])) := Lib.hid (by
                  rw [← hps2]
                  exact Acc.snoc HO5.out HRs5.out HRp5.out (Nat.le_trans hwr HSd.out) HOL.out hown5 hgrow (by rw [hsz2]; exact hat) hgl)
                have hkk : Kp w.heap.size X ((w4.alloc (.cells #[.int .i64 v.t, .int .i64 v.n, .string v.s, .slice oe v.l.length ce] 34)).alloc (.cells #[.int .i64 v.t, .int .i64 v.n, .string v.s, .slice oe v.l.length ce] 34)) w5 := ⟨hgrow.os, hgrow.tape, hgrow.output, hgrow.size, fun q hq _ => hgrow.block q (by rw [hsz2]; omega) (fun e => by have := (own_lt HO5.out q e.symm).1; omega)⟩
                have HK6 : Hid (Kp w.heap.size X w w5) := Lib.hid (HK5.out.trans hkk)
                have hbn : b < w4.heap.size := by have := Nat.le_trans hwr (Nat.le_trans HSd.out hs4); omega
                have HR6 : Hid (RD w5 b s m) := Lib.hid ((hgrow.block b (by rw [hsz2]; omega) (fun e => by have := (own_lt HO5.out b e.symm).1; omega)).trans HR5.out)
                have HI6 : Hid (Inv (acc ++ [v]) w5) := Lib.hid (hInvA _ _ _ HI5.out (by rw [hsz2]; omega) ⟨hgrow.os, hgrow.tape, hgrow.output, hgrow.size, fun q hq _ => hgrow.block q (by rw [hsz2]; omega) (fun e => by have := (own_lt HO5.out q e.symm).1; omega)⟩)
                have hw5 : w.heap.size ≤ w5.heap.size := by have := hgrow.size; rw [hsz2] at this; omega
                clear hown5 hgrow hat hgl HO5 HRs5 HRp5 HK5 HR5 HI5 hkk
                have hpl2 : acc.length = ps.length := by rw [← hps2, List.length_map]
                have HPL2 := Lib.hid hpl2
                clear hpl2 hps2
                go_wp2_with fail
                have hpl2 := HPL2.out
                go_roundg k
                case measure => omega
                case rel => exact ⟨acc ++ [v], some ⟨gg, 0, none⟩, cap2, m, by rw [List.length_append, hpl2]; show ps.length + 1 + k = _; omega, by rw [List.length_append, hpl2]; rfl, by rw [List.length_append, hpl2]; exact HA6, HR6, hmm, HK6, HI6, hw5, HN⟩
            · have hgt : (0 : Int) < (acc.length : Int) := by have := List.length_pos_iff.2 hnil; omega
              have HW2 := Lib.hid (word_any ⟨#[44, 32]⟩ (w2) b s ii HRc.out hii hs (by decide) (by decide))
              have HE1 : Hid (R = (wordL [44, 32] s.data.toList ii).bind fun _ j => (el acc j).bind fun v m => itemsL (el) 93 least s.data.toList k (acc ++ [v]) m) := Lib.hid (by
                rw [HE.out, itemsL_more _ _ _ _ _ _ _ HNC.out, sepL, if_neg hnil])
              have HW2 : Hid (Calls Tryz.prog 43 #[.pointer (some ⟨b, 0, none⟩), .string ⟨#[44, 32]⟩] (w2) fun e w' => e = .returned (.bool (wordL [44, 32] s.data.toList ii).good) ∧ RD w' b s (wordL [44, 32] s.data.toList ii).fin ∧ Kp (w2).heap.size (Is b) (w2) w') := HW2
              have hwb := wordL_bd [44, 32] s.data.toList ii (by rw [lt_len]; exact hii) (by decide)
              rw [lt_len] at hwb
              generalize wordL [44, 32] s.data.toList ii = sep at *
              cases sep with
              | bad m =>
                have HN : Hid (R = .bad m) := Lib.hid HE1.out
                clear HE HE1 HAc HNC
                go_wp2_with fail
                refine HW2.out.mono ?_
                rintro e w3 ⟨rfl, hR3, hk3⟩
                have HR3 : Hid (RD w3 b s m) := Lib.hid hR3
                have HK3 : Hid (Kp w.heap.size X w w3) := Lib.hid (HKc.out.trans (hk3.mono (Nat.le_trans hwr HSc.out) (fun k _ h => by unfold Is at h; subst h; exact hXb)))
                clear hR3 hk3 HW2 HRc HKc HIc
                go_wp2_with fail
                go_ret2
                rw [HN.out]
                exact ⟨rfl, HR3.out, HK3.out⟩
              | ok u jj =>
                have hjj : jj ≤ s.size := hwb.2
                have HE1 : Hid (R = (el acc jj).bind fun v m => itemsL (el) 93 least s.data.toList k (acc ++ [v]) m) := Lib.hid HE1.out
                clear HE HNC hwb
                go_wp2_with fail
                refine HW2.out.mono ?_
                rintro e w3 ⟨rfl, hR3, hk3⟩
                have HRd : Hid (RD w3 b s jj) := Lib.hid hR3
                have HKd : Hid (Kp w.heap.size X w w3) := Lib.hid (HKc.out.trans (hk3.mono (Nat.le_trans hwr HSc.out) (fun k _ h => by unfold Is at h; subst h; exact hXb)))
                have HId : Hid (Inv acc w3) := Lib.hid (hInv acc _ _ HIc.out (Nat.le_trans hwr HSc.out) hk3)
                have HAd : Hid (Acc w3 w.heap.size (.slice oc acc.length cc) acc) := Lib.hid (HAc.out.kp hk3 (Nat.le_refl _) (fun k hk h => by unfold Is at h; omega))
                have HSd : Hid (wr.heap.size ≤ w3.heap.size) := Lib.hid (Nat.le_trans HSc.out hk3.size)
                clear hR3 hk3 HW2 HRc HKc HIc HAc HSc
                cases hel : el acc jj with
                | bad m =>
                  rw [hel] at HE1
                  have HN : Hid (R = .bad m) := Lib.hid HE1.out
                  have HC := Lib.hid (HEL.out acc jj w3 HId.out HRd.out hjj (Nat.le_trans hwr HSd.out))
                  rw [hel] at HC
                  clear HE1 hel HAd
                  go_wp2_with fail
                  refine HC.out.mono ?_
                  rintro e w4 ⟨⟨⟨t1, n1, S1, rfl⟩, hR4, hK4⟩, -⟩
                  have HR4 := Lib.hid hR4
                  have HK4 : Hid (Kp w.heap.size X w w4) := Lib.hid (HKd.out.trans (hK4.less (Nat.le_trans hwr HSd.out)))
                  clear hR4 hK4 HC HRd HKd HId HSd
                  have hw4 : w.heap.size ≤ w4.heap.size := HK4.out.size
                  go_wp2_with fail
                  go_ret2
                  rw [HN.out]
                  exact ⟨rfl, HR4.out.alloc _, HK4.out.alloc hw4 _⟩
                | ok v m =>
                  rw [hel] at HE1
                  have HN : Hid (R = itemsL (el) 93 least s.data.toList k (acc ++ [v]) m) := Lib.hid HE1.out
                  have hmm : m ≤ s.size := by
                    have := hin acc jj hjj
                    rw [hel] at this
                    exact this.2
                  have HC := Lib.hid (HEL.out acc jj w3 HId.out HRd.out hjj (Nat.le_trans hwr HSd.out))
                  rw [hel] at HC
                  clear HE1 hel
                  go_wp2_with fail
                  refine HC.out.mono ?_
                  rintro e w4 ⟨⟨⟨oe, ce, rfl, hrep⟩, hR4, hK4⟩, hI4⟩
                  have hs4 : (w3).heap.size ≤ w4.heap.size := hK4.size
                  have HR4 : Hid (RD w4 b s m) := Lib.hid hR4
                  have HI4 : Hid (Inv (acc ++ [v]) w4) := Lib.hid (hI4 v m rfl)
                  have HK4 : Hid (Kp w.heap.size X w w4) := Lib.hid (HKd.out.trans (hK4.less (Nat.le_trans hwr HSd.out)))
                  have hacc : Acc w4 w.heap.size (.slice oc acc.length cc) acc := HAd.out.kp hK4 (Nat.le_refl _) (fun k hk h => absurd (hX k h) (by omega))
                  obtain ⟨ps, hps, ho4, hr4⟩ := hacc
                  have hpl : ps.length = acc.length := by rw [← hps, List.length_map]
                  have hol : ∀ q, (Value.slice oc acc.length cc).ownBlock = some q → q < (w3).heap.size := fun q hq => by
                    obtain ⟨ps', hps', ho', -⟩ := HAd.out
                    exact (own_lt ho' q hq).2
                  have HOL := Lib.hid hol
                  have HO4 := Lib.hid ho4
                  have HR4s := Lib.hid hr4
                  have HRep := Lib.hid hrep
                  have hn1 : ps.length + 1 ≤ maxLen := by unfold maxLen; omega
                  have hby : (ps.length + 1) * 56 ≤ 140737488355328 := by omega
                  have hw4 : w.heap.size ≤ w4.heap.size := Nat.le_trans hwr (Nat.le_trans HSd.out hs4)
                  rw [← hpl] at *
                  clear hR4 hI4 hK4 hrep ho4 hr4 HC HRd HKd HId HAd hol
                  have hnw : ((w4.alloc (.cells #[.int .i64 v.t, .int .i64 v.n, .string v.s, .slice oe v.l.length ce] 34)).alloc (.cells #[.int .i64 v.t, .int .i64 v.n, .string v.s, .slice oe v.l.length ce] 34)).heap[w4.heap.size + 1]? = some (.cells #[.int .i64 v.t, .int .i64 v.n, .string v.s, .slice oe v.l.length ce] 34 (0, 0)) := two_new' _ _ _
                  have hsz2 : ((w4.alloc (.cells #[.int .i64 v.t, .int .i64 v.n, .string v.s, .slice oe v.l.length ce] 34)).alloc (.cells #[.int .i64 v.t, .int .i64 v.n, .string v.s, .slice oe v.l.length ce] 34)).heap.size = w4.heap.size + 2 := by simp
                  have hws2 : w.heap.size ≤ ((w4.alloc (.cells #[.int .i64 v.t, .int .i64 v.n, .string v.s, .slice oe v.l.length ce] 34)).alloc (.cells #[.int .i64 v.t, .int .i64 v.n, .string v.s, .slice oe v.l.length ce] 34)).heap.size := by rw [hsz2]; omega
                  have HO5 := Lib.hid ((HO4.out.alloc (.cells #[.int .i64 v.t, .int .i64 v.n, .string v.s, .slice oe v.l.length ce] 34)).alloc (.cells #[.int .i64 v.t, .int .i64 v.n, .string v.s, .slice oe v.l.length ce] 34))
                  have HR5 : Hid (RD ((w4.alloc (.cells #[.int .i64 v.t, .int .i64 v.n, .string v.s, .slice oe v.l.length ce] 34)).alloc (.cells #[.int .i64 v.t, .int .i64 v.n, .string v.s, .slice oe v.l.length ce] 34)) b s m) := Lib.hid ((HR4.out.alloc _).alloc _)
                  have HK5 : Hid (Kp w.heap.size X w ((w4.alloc (.cells #[.int .i64 v.t, .int .i64 v.n, .string v.s, .slice oe v.l.length ce] 34)).alloc (.cells #[.int .i64 v.t, .int .i64 v.n, .string v.s, .slice oe v.l.length ce] 34))) := Lib.hid ((HK4.out.alloc hw4 _).alloc (by simp; omega) _)
                  have HI5 : Hid (Inv (acc ++ [v]) ((w4.alloc (.cells #[.int .i64 v.t, .int .i64 v.n, .string v.s, .slice oe v.l.length ce] 34)).alloc (.cells #[.int .i64 v.t, .int .i64 v.n, .string v.s, .slice oe v.l.length ce] 34))) := Lib.hid (hInv _ _ _ HI4.out hw4 (.of (below2 w4 _ _) (Nat.le_refl _)))
                  have HRs5 : Hid (∀ p, p ∈ ps → RepS ((w4.alloc (.cells #[.int .i64 v.t, .int .i64 v.n, .string v.s, .slice oe v.l.length ce] 34)).alloc (.cells #[.int .i64 v.t, .int .i64 v.n, .string v.s, .slice oe v.l.length ce] 34)) (Off w.heap.size ((w4.alloc (.cells #[.int .i64 v.t, .int .i64 v.n, .string v.s, .slice oe v.l.length ce] 34)).alloc (.cells #[.int .i64 v.t, .int .i64 v.n, .string v.s, .slice oe v.l.length ce] 34)).heap.size (Value.slice oc ps.length cc).ownBlock) p.2 p.1.l) := Lib.hid (fun p hp => (HR4s.out p hp).later (fun q hq => ⟨⟨hq.1.1, by have := hq.1.2; rw [hsz2]; omega⟩, hq.2⟩) (fun q hq o => (below2 w4 _ _).cell (p := ⟨q, o, none⟩) hq.1.2))
                  have HRp5 : Hid (RepS ((w4.alloc (.cells #[.int .i64 v.t, .int .i64 v.n, .string v.s, .slice oe v.l.length ce] 34)).alloc (.cells #[.int .i64 v.t, .int .i64 v.n, .string v.s, .slice oe v.l.length ce] 34)) (Btw (w3).heap.size ((w4.alloc (.cells #[.int .i64 v.t, .int .i64 v.n, .string v.s, .slice oe v.l.length ce] 34)).alloc (.cells #[.int .i64 v.t, .int .i64 v.n, .string v.s, .slice oe v.l.length ce] 34)).heap.size) (.slice oe v.l.length ce) v.l) := Lib.hid (HRep.out.later (fun q hq => ⟨hq.1, by have := hq.2; rw [hsz2]; omega⟩) (fun q hq o => (below2 w4 _ _).cell (p := ⟨q, o, none⟩) hq.2))
                  have hps2 : ps.map (·.1) = acc := hps
                  clear HO4 HR4 HK4 HI4 HR4s HRep hws2
                  go_wp2_with (at_builtin; refine wpList_append_lies _ rfl _ _ _ rfl w.heap.size 34 i0 _ 4 56 Tryz.underlying22 hi0 hz0 hz1 hz2 rfl (by omega) (.slice oc ps.length cc) ps.length (flat ps) rfl HO5.out ⟨w4.heap.size + 1, 0, none⟩ 1 1 [.int .i64 v.t, .int .i64 v.n, .string v.s, .slice oe v.l.length ce] rfl rfl (World.news_of_block (cs := #[.int .i64 v.t, .int .i64 v.n, .string v.s, .slice oe v.l.length ce]) (t := 34) (fr := (0, 0)) hnw) (by simp [Value.oneCell']) (by omega) hn1 hby (by simp; omega) (w4.heap.size + 2) hsz2 ?_)
                  intro gg cap2 w5 hown5 hgrow hat hgl
                  have HA6 : Hid (Acc w5 w.heap.size (.slice (some ⟨gg, 0, none⟩) (ps.length + 1) cap2) (acc ++ [v])) := Lib.hid (by
                    rw [← hps2]
                    exact Acc.snoc HO5.out HRs5.out HRp5.out (Nat.le_trans hwr HSd.out) HOL.out hown5 hgrow (by rw [hsz2]; exact hat) hgl)
                  have hkk : Kp w.heap.size X ((w4.alloc (.cells #[.int .i64 v.t, .int .i64 v.n, .string v.s, .slice oe v.l.length ce] 34)).alloc (.cells #[.int .i64 v.t, .int .i64 v.n, .string v.s, .slice oe v.l.length ce] 34)) w5 := ⟨hgrow.os, hgrow.tape, hgrow.output, hgrow.size, fun q hq _ => hgrow.block q (by rw [hsz2]; omega) (fun e => by have := (own_lt HO5.out q e.symm).1; omega)⟩
                  have HK6 : Hid (Kp w.heap.size X w w5) := Lib.hid (HK5.out.trans hkk)
                  have hbn : b < w4.heap.size := by have := Nat.le_trans hwr (Nat.le_trans HSd.out hs4); omega
                  have HR6 : Hid (RD w5 b s m) := Lib.hid ((hgrow.block b (by rw [hsz2]; omega) (fun e => by have := (own_lt HO5.out b e.symm).1; omega)).trans HR5.out)
                  have HI6 : Hid (Inv (acc ++ [v]) w5) := Lib.hid (hInvA _ _ _ HI5.out (by rw [hsz2]; omega) ⟨hgrow.os, hgrow.tape, hgrow.output, hgrow.size, fun q hq _ => hgrow.block q (by rw [hsz2]; omega) (fun e => by have := (own_lt HO5.out q e.symm).1; omega)⟩)
                  have hw5 : w.heap.size ≤ w5.heap.size := by have := hgrow.size; rw [hsz2] at this; omega
                  clear hown5 hgrow hat hgl HO5 HRs5 HRp5 HK5 HR5 HI5 hkk
                  have hpl2 : acc.length = ps.length := by rw [← hps2, List.length_map]
                  have HPL2 := Lib.hid hpl2
                  clear hpl2 hps2
                  go_wp2_with fail
                  have hpl2 := HPL2.out
                  go_roundg k
                  case measure => omega
                  case rel => exact ⟨acc ++ [v], some ⟨gg, 0, none⟩, cap2, m, by rw [List.length_append, hpl2]; show ps.length + 1 + k = _; omega, by rw [List.length_append, hpl2]; rfl, by rw [List.length_append, hpl2]; exact HA6, HR6, hmm, HK6, HI6, hw5, HN⟩
      · have hge : (acc.length : Int) < least := by omega
        have HNC : Hid (¬ (pk s.data.toList ii = 93 ∧ least ≤ acc.length)) := Lib.hid (fun h => hgeN h.2)
        have HRc := HR; have HKc := HK; have HAc := HA; have HIc := HI
        have HSc : Hid (wr.heap.size ≤ wr.heap.size) := Lib.hid (Nat.le_refl _)
        clear HR HK HA HI hgeN
        by_cases hfull : acc.length = most
        · obtain rfl : gk = 0 := by omega
          have HN : Hid (R = .bad ii) := Lib.hid (by rw [HE.out, itemsL_full _ _ _ _ _ _ HNC.out])
          have hfl : ((acc.length : Int) == (most : Int)) = true := by rw [beq_iff_eq]; omega
          clear HE HAc HIc
          go_wp2_with fail
          go_ret2
          rw [HN.out]
          exact ⟨rfl, HRc.out, HKc.out⟩
        · have hfl : ((acc.length : Int) == (most : Int)) = false := by rw [beq_eq_false_iff_ne]; omega
          obtain ⟨k, rfl⟩ : ∃ k, gk = k + 1 := ⟨gk - 1, by omega⟩
          by_cases hnil : acc = []
          · have HE1 : Hid (R = (el acc ii).bind fun v m => itemsL (el) 93 least s.data.toList k (acc ++ [v]) m) := Lib.hid (by
              rw [HE.out, itemsL_more _ _ _ _ _ _ _ HNC.out, sepL, if_pos hnil]
              rfl)
            have hgt : ¬ (0 : Int) < (acc.length : Int) := by rw [hnil]; decide
            have HRd := HRc; have HKd := HKc; have HId := HIc; have HAd := HAc
            have HSd : Hid (wr.heap.size ≤ (wr).heap.size) := HSc
            obtain ⟨jj, hjj0⟩ : ∃ jj, ii = jj := ⟨_, rfl⟩
            have hjj : jj ≤ s.size := by omega
            rw [hjj0] at HRd HE1
            clear HE HRc HKc HIc HAc HNC hjj0 hnil
            cases hel : el acc jj with
            | bad m =>
              rw [hel] at HE1
              have HN : Hid (R = .bad m) := Lib.hid HE1.out
              have HC := Lib.hid (HEL.out acc jj wr HId.out HRd.out hjj (Nat.le_trans hwr HSd.out))
              rw [hel] at HC
              clear HE1 hel HAd
              go_wp2_with fail
              refine HC.out.mono ?_
              rintro e w4 ⟨⟨⟨t1, n1, S1, rfl⟩, hR4, hK4⟩, -⟩
              have HR4 := Lib.hid hR4
              have HK4 : Hid (Kp w.heap.size X w w4) := Lib.hid (HKd.out.trans (hK4.less (Nat.le_trans hwr HSd.out)))
              clear hR4 hK4 HC HRd HKd HId HSd
              have hw4 : w.heap.size ≤ w4.heap.size := HK4.out.size
              go_wp2_with fail
              go_ret2
              rw [HN.out]
              exact ⟨rfl, HR4.out.alloc _, HK4.out.alloc hw4 _⟩
            | ok v m =>
              rw [hel] at HE1
              have HN : Hid (R = itemsL (el) 93 least s.data.toList k (acc ++ [v]) m) := Lib.hid HE1.out
              have hmm : m ≤ s.size := by
                have := hin acc jj hjj
                rw [hel] at this
                exact this.2
              have HC := Lib.hid (HEL.out acc jj wr HId.out HRd.out hjj (Nat.le_trans hwr HSd.out))
              rw [hel] at HC
              clear HE1 hel
              go_wp2_with fail
              refine HC.out.mono ?_
              rintro e w4 ⟨⟨⟨oe, ce, rfl, hrep⟩, hR4, hK4⟩, hI4⟩
              have hs4 : (wr).heap.size ≤ w4.heap.size := hK4.size
              have HR4 : Hid (RD w4 b s m) := Lib.hid hR4
              have HI4 : Hid (Inv (acc ++ [v]) w4) := Lib.hid (hI4 v m rfl)
              have HK4 : Hid (Kp w.heap.size X w w4) := Lib.hid (HKd.out.trans (hK4.less (Nat.le_trans hwr HSd.out)))
              have hacc : Acc w4 w.heap.size (.slice oc acc.length cc) acc := HAd.out.kp hK4 (Nat.le_refl _) (fun k hk h => absurd (hX k h) (by omega))
              obtain ⟨ps, hps, ho4, hr4⟩ := hacc
              have hpl : ps.length = acc.length := by rw [← hps, List.length_map]
              have hol : ∀ q, (Value.slice oc acc.length cc).ownBlock = some q → q < (wr).heap.size := fun q hq => by
                obtain ⟨ps', hps', ho', -⟩ := HAd.out
                exact (own_lt ho' q hq).2
              have HOL := Lib.hid hol
              have HO4 := Lib.hid ho4
              have HR4s := Lib.hid hr4
              have HRep := Lib.hid hrep
              have hn1 : ps.length + 1 ≤ maxLen := by unfold maxLen; omega
              have hby : (ps.length + 1) * 56 ≤ 140737488355328 := by omega
              have hw4 : w.heap.size ≤ w4.heap.size := Nat.le_trans hwr (Nat.le_trans HSd.out hs4)
              rw [← hpl] at *
              clear hR4 hI4 hK4 hrep ho4 hr4 HC HRd HKd HId HAd hol
              have hnw : ((w4.alloc (.cells #[.int .i64 v.t, .int .i64 v.n, .string v.s, .slice oe v.l.length ce] 34)).alloc (.cells #[.int .i64 v.t, .int .i64 v.n, .string v.s, .slice oe v.l.length ce] 34)).heap[w4.heap.size + 1]? = some (.cells #[.int .i64 v.t, .int .i64 v.n, .string v.s, .slice oe v.l.length ce] 34 (0, 0)) := two_new' _ _ _
              have hsz2 : ((w4.alloc (.cells #[.int .i64 v.t, .int .i64 v.n, .string v.s, .slice oe v.l.length ce] 34)).alloc (.cells #[.int .i64 v.t, .int .i64 v.n, .string v.s, .slice oe v.l.length ce] 34)).heap.size = w4.heap.size + 2 := by simp
              have hws2 : w.heap.size ≤ ((w4.alloc (.cells #[.int .i64 v.t, .int .i64 v.n, .string v.s, .slice oe v.l.length ce] 34)).alloc (.cells #[.int .i64 v.t, .int .i64 v.n, .string v.s, .slice oe v.l.length ce] 34)).heap.size := by rw [hsz2]; omega
              have HO5 := Lib.hid ((HO4.out.alloc (.cells #[.int .i64 v.t, .int .i64 v.n, .string v.s, .slice oe v.l.length ce] 34)).alloc (.cells #[.int .i64 v.t, .int .i64 v.n, .string v.s, .slice oe v.l.length ce] 34))
              have HR5 : Hid (RD ((w4.alloc (.cells #[.int .i64 v.t, .int .i64 v.n, .string v.s, .slice oe v.l.length ce] 34)).alloc (.cells #[.int .i64 v.t, .int .i64 v.n, .string v.s, .slice oe v.l.length ce] 34)) b s m) := Lib.hid ((HR4.out.alloc _).alloc _)
              have HK5 : Hid (Kp w.heap.size X w ((w4.alloc (.cells #[.int .i64 v.t, .int .i64 v.n, .string v.s, .slice oe v.l.length ce] 34)).alloc (.cells #[.int .i64 v.t, .int .i64 v.n, .string v.s, .slice oe v.l.length ce] 34))) := Lib.hid ((HK4.out.alloc hw4 _).alloc (by simp; omega) _)
              have HI5 : Hid (Inv (acc ++ [v]) ((w4.alloc (.cells #[.int .i64 v.t, .int .i64 v.n, .string v.s, .slice oe v.l.length ce] 34)).alloc (.cells #[.int .i64 v.t, .int .i64 v.n, .string v.s, .slice oe v.l.length ce] 34))) := Lib.hid (hInv _ _ _ HI4.out hw4 (.of (below2 w4 _ _) (Nat.le_refl _)))
              have HRs5 : Hid (∀ p, p ∈ ps → RepS ((w4.alloc (.cells #[.int .i64 v.t, .int .i64 v.n, .string v.s, .slice oe v.l.length ce] 34)).alloc (.cells #[.int .i64 v.t, .int .i64 v.n, .string v.s, .slice oe v.l.length ce] 34)) (Off w.heap.size ((w4.alloc (.cells #[.int .i64 v.t, .int .i64 v.n, .string v.s, .slice oe v.l.length ce] 34)).alloc (.cells #[.int .i64 v.t, .int .i64 v.n, .string v.s, .slice oe v.l.length ce] 34)).heap.size (Value.slice oc ps.length cc).ownBlock) p.2 p.1.l) := Lib.hid (fun p hp => (HR4s.out p hp).later (fun q hq => ⟨⟨hq.1.1, by have := hq.1.2; rw [hsz2]; omega⟩, hq.2⟩) (fun q hq o => (below2 w4 _ _).cell (p := ⟨q, o, none⟩) hq.1.2))
              have HRp5 : Hid (RepS ((w4.alloc (.cells #[.int .i64 v.t, .int .i64 v.n, .string v.s, .slice oe v.l.length ce] 34)).alloc (.cells #[.int .i64 v.t, .int .i64 v.n, .string v.s, .slice oe v.l.length ce] 34)) (Btw (wr).heap.size ((w4.alloc (.cells #[.int .i64 v.t, .int .i64 v.n, .string v.s, .slice oe v.l.length ce] 34)).alloc (.cells #[.int .i64 v.t, .int .i64 v.n, .string v.s, .slice oe v.l.length ce] 34)).heap.size) (.slice oe v.l.length ce) v.l) := Lib.hid (HRep.out.later (fun q hq => ⟨hq.1, by have := hq.2; rw [hsz2]; omega⟩) (fun q hq o => (below2 w4 _ _).cell (p := ⟨q, o, none⟩) hq.2))
              have hps2 : ps.map (·.1) = acc := hps
              clear HO4 HR4 HK4 HI4 HR4s HRep hws2
              go_wp2_with (at_builtin; refine wpList_append_lies _ rfl _ _ _ rfl w.heap.size 34 i0 _ 4 56 Tryz.underlying22 hi0 hz0 hz1 hz2 rfl (by omega) (.slice oc ps.length cc) ps.length (flat ps) rfl HO5.out ⟨w4.heap.size + 1, 0, none⟩ 1 1 [.int .i64 v.t, .int .i64 v.n, .string v.s, .slice oe v.l.length ce] rfl rfl (World.news_of_block (cs := #[.int .i64 v.t, .int .i64 v.n, .string v.s, .slice oe v.l.length ce]) (t := 34) (fr := (0, 0)) hnw) (by simp [Value.oneCell']) (by omega) hn1 hby (by simp; omega) (w4.heap.size + 2) hsz2 ?_)
              intro gg cap2 w5 hown5 hgrow hat hgl
              have HA6 : Hid (Acc w5 w.heap.size (.slice (some ⟨gg, 0, none⟩) (ps.length + 1) cap2) (acc ++ [v])) := Lib.hid (by
                rw [← hps2]
                exact Acc.snoc HO5.out HRs5.out HRp5.out (Nat.le_trans hwr HSd.out) HOL.out hown5 hgrow (by rw [hsz2]; exact hat) hgl)
              have hkk : Kp w.heap.size X ((w4.alloc (.cells #[.int .i64 v.t, .int .i64 v.n, .string v.s, .slice oe v.l.length ce] 34)).alloc (.cells #[.int .i64 v.t, .int .i64 v.n, .string v.s, .slice oe v.l.length ce] 34)) w5 := ⟨hgrow.os, hgrow.tape, hgrow.output, hgrow.size, fun q hq _ => hgrow.block q (by rw [hsz2]; omega) (fun e => by have := (own_lt HO5.out q e.symm).1; omega)⟩
              have HK6 : Hid (Kp w.heap.size X w w5) := Lib.hid (HK5.out.trans hkk)
              have hbn : b < w4.heap.size := by have := Nat.le_trans hwr (Nat.le_trans HSd.out hs4); omega
              have HR6 : Hid (RD w5 b s m) := Lib.hid ((hgrow.block b (by rw [hsz2]; omega) (fun e => by have := (own_lt HO5.out b e.symm).1; omega)).trans HR5.out)
              have HI6 : Hid (Inv (acc ++ [v]) w5) := Lib.hid (hInvA _ _ _ HI5.out (by rw [hsz2]; omega) ⟨hgrow.os, hgrow.tape, hgrow.output, hgrow.size, fun q hq _ => hgrow.block q (by rw [hsz2]; omega) (fun e => by have := (own_lt HO5.out q e.symm).1; omega)⟩)
              have hw5 : w.heap.size ≤ w5.heap.size := by have := hgrow.size; rw [hsz2] at this; omega
              clear hown5 hgrow hat hgl HO5 HRs5 HRp5 HK5 HR5 HI5 hkk
              have hpl2 : acc.length = ps.length := by rw [← hps2, List.length_map]
              have HPL2 := Lib.hid hpl2
              clear hpl2 hps2
              go_wp2_with fail
              have hpl2 := HPL2.out
              go_roundg k
              case measure => omega
              case rel => exact ⟨acc ++ [v], some ⟨gg, 0, none⟩, cap2, m, by rw [List.length_append, hpl2]; show ps.length + 1 + k = _; omega, by rw [List.length_append, hpl2]; rfl, by rw [List.length_append, hpl2]; exact HA6, HR6, hmm, HK6, HI6, hw5, HN⟩
          · have hgt : (0 : Int) < (acc.length : Int) := by have := List.length_pos_iff.2 hnil; omega
            have HW2 := Lib.hid (word_any ⟨#[44, 32]⟩ (wr) b s ii HRc.out hii hs (by decide) (by decide))
            have HE1 : Hid (R = (wordL [44, 32] s.data.toList ii).bind fun _ j => (el acc j).bind fun v m => itemsL (el) 93 least s.data.toList k (acc ++ [v]) m) := Lib.hid (by
              rw [HE.out, itemsL_more _ _ _ _ _ _ _ HNC.out, sepL, if_neg hnil])
            have HW2 : Hid (Calls Tryz.prog 43 #[.pointer (some ⟨b, 0, none⟩), .string ⟨#[44, 32]⟩] (wr) fun e w' => e = .returned (.bool (wordL [44, 32] s.data.toList ii).good) ∧ RD w' b s (wordL [44, 32] s.data.toList ii).fin ∧ Kp (wr).heap.size (Is b) (wr) w') := HW2
            have hwb := wordL_bd [44, 32] s.data.toList ii (by rw [lt_len]; exact hii) (by decide)
            rw [lt_len] at hwb
            generalize wordL [44, 32] s.data.toList ii = sep at *
            cases sep with
            | bad m =>
              have HN : Hid (R = .bad m) := Lib.hid HE1.out
              clear HE HE1 HAc HNC
              go_wp2_with fail
              refine HW2.out.mono ?_
              rintro e w3 ⟨rfl, hR3, hk3⟩
              have HR3 : Hid (RD w3 b s m) := Lib.hid hR3
              have HK3 : Hid (Kp w.heap.size X w w3) := Lib.hid (HKc.out.trans (hk3.mono (Nat.le_trans hwr HSc.out) (fun k _ h => by unfold Is at h; subst h; exact hXb)))
              clear hR3 hk3 HW2 HRc HKc HIc
              go_wp2_with fail
              go_ret2
              rw [HN.out]
              exact ⟨rfl, HR3.out, HK3.out⟩
            | ok u jj =>
              have hjj : jj ≤ s.size := hwb.2
              have HE1 : Hid (R = (el acc jj).bind fun v m => itemsL (el) 93 least s.data.toList k (acc ++ [v]) m) := Lib.hid HE1.out
              clear HE HNC hwb
              go_wp2_with fail
              refine HW2.out.mono ?_
              rintro e w3 ⟨rfl, hR3, hk3⟩
              have HRd : Hid (RD w3 b s jj) := Lib.hid hR3
              have HKd : Hid (Kp w.heap.size X w w3) := Lib.hid (HKc.out.trans (hk3.mono (Nat.le_trans hwr HSc.out) (fun k _ h => by unfold Is at h; subst h; exact hXb)))
              have HId : Hid (Inv acc w3) := Lib.hid (hInv acc _ _ HIc.out (Nat.le_trans hwr HSc.out) hk3)
              have HAd : Hid (Acc w3 w.heap.size (.slice oc acc.length cc) acc) := Lib.hid (HAc.out.kp hk3 (Nat.le_refl _) (fun k hk h => by unfold Is at h; omega))
              have HSd : Hid (wr.heap.size ≤ w3.heap.size) := Lib.hid (Nat.le_trans HSc.out hk3.size)
              clear hR3 hk3 HW2 HRc HKc HIc HAc HSc
              cases hel : el acc jj with
              | bad m =>
                rw [hel] at HE1
                have HN : Hid (R = .bad m) := Lib.hid HE1.out
                have HC := Lib.hid (HEL.out acc jj w3 HId.out HRd.out hjj (Nat.le_trans hwr HSd.out))
                rw [hel] at HC
                clear HE1 hel HAd
                go_wp2_with fail
                refine HC.out.mono ?_
                rintro e w4 ⟨⟨⟨t1, n1, S1, rfl⟩, hR4, hK4⟩, -⟩
                have HR4 := Lib.hid hR4
                have HK4 : Hid (Kp w.heap.size X w w4) := Lib.hid (HKd.out.trans (hK4.less (Nat.le_trans hwr HSd.out)))
                clear hR4 hK4 HC HRd HKd HId HSd
                have hw4 : w.heap.size ≤ w4.heap.size := HK4.out.size
                go_wp2_with fail
                go_ret2
                rw [HN.out]
                exact ⟨rfl, HR4.out.alloc _, HK4.out.alloc hw4 _⟩
              | ok v m =>
                rw [hel] at HE1
                have HN : Hid (R = itemsL (el) 93 least s.data.toList k (acc ++ [v]) m) := Lib.hid HE1.out
                have hmm : m ≤ s.size := by
                  have := hin acc jj hjj
                  rw [hel] at this
                  exact this.2
                have HC := Lib.hid (HEL.out acc jj w3 HId.out HRd.out hjj (Nat.le_trans hwr HSd.out))
                rw [hel] at HC
                clear HE1 hel
                go_wp2_with fail
                refine HC.out.mono ?_
                rintro e w4 ⟨⟨⟨oe, ce, rfl, hrep⟩, hR4, hK4⟩, hI4⟩
                have hs4 : (w3).heap.size ≤ w4.heap.size := hK4.size
                have HR4 : Hid (RD w4 b s m) := Lib.hid hR4
                have HI4 : Hid (Inv (acc ++ [v]) w4) := Lib.hid (hI4 v m rfl)
                have HK4 : Hid (Kp w.heap.size X w w4) := Lib.hid (HKd.out.trans (hK4.less (Nat.le_trans hwr HSd.out)))
                have hacc : Acc w4 w.heap.size (.slice oc acc.length cc) acc := HAd.out.kp hK4 (Nat.le_refl _) (fun k hk h => absurd (hX k h) (by omega))
                obtain ⟨ps, hps, ho4, hr4⟩ := hacc
                have hpl : ps.length = acc.length := by rw [← hps, List.length_map]
                have hol : ∀ q, (Value.slice oc acc.length cc).ownBlock = some q → q < (w3).heap.size := fun q hq => by
                  obtain ⟨ps', hps', ho', -⟩ := HAd.out
                  exact (own_lt ho' q hq).2
                have HOL := Lib.hid hol
                have HO4 := Lib.hid ho4
                have HR4s := Lib.hid hr4
                have HRep := Lib.hid hrep
                have hn1 : ps.length + 1 ≤ maxLen := by unfold maxLen; omega
                have hby : (ps.length + 1) * 56 ≤ 140737488355328 := by omega
                have hw4 : w.heap.size ≤ w4.heap.size := Nat.le_trans hwr (Nat.le_trans HSd.out hs4)
                rw [← hpl] at *
                clear hR4 hI4 hK4 hrep ho4 hr4 HC HRd HKd HId HAd hol
                have hnw : ((w4.alloc (.cells #[.int .i64 v.t, .int .i64 v.n, .string v.s, .slice oe v.l.length ce] 34)).alloc (.cells #[.int .i64 v.t, .int .i64 v.n, .string v.s, .slice oe v.l.length ce] 34)).heap[w4.heap.size + 1]? = some (.cells #[.int .i64 v.t, .int .i64 v.n, .string v.s, .slice oe v.l.length ce] 34 (0, 0)) := two_new' _ _ _
                have hsz2 : ((w4.alloc (.cells #[.int .i64 v.t, .int .i64 v.n, .string v.s, .slice oe v.l.length ce] 34)).alloc (.cells #[.int .i64 v.t, .int .i64 v.n, .string v.s, .slice oe v.l.length ce] 34)).heap.size = w4.heap.size + 2 := by simp
                have hws2 : w.heap.size ≤ ((w4.alloc (.cells #[.int .i64 v.t, .int .i64 v.n, .string v.s, .slice oe v.l.length ce] 34)).alloc (.cells #[.int .i64 v.t, .int .i64 v.n, .string v.s, .slice oe v.l.length ce] 34)).heap.size := by rw [hsz2]; omega
                have HO5 := Lib.hid ((HO4.out.alloc (.cells #[.int .i64 v.t, .int .i64 v.n, .string v.s, .slice oe v.l.length ce] 34)).alloc (.cells #[.int .i64 v.t, .int .i64 v.n, .string v.s, .slice oe v.l.length ce] 34))
                have HR5 : Hid (RD ((w4.alloc (.cells #[.int .i64 v.t, .int .i64 v.n, .string v.s, .slice oe v.l.length ce] 34)).alloc (.cells #[.int .i64 v.t, .int .i64 v.n, .string v.s, .slice oe v.l.length ce] 34)) b s m) := Lib.hid ((HR4.out.alloc _).alloc _)
                have HK5 : Hid (Kp w.heap.size X w ((w4.alloc (.cells #[.int .i64 v.t, .int .i64 v.n, .string v.s, .slice oe v.l.length ce] 34)).alloc (.cells #[.int .i64 v.t, .int .i64 v.n, .string v.s, .slice oe v.l.length ce] 34))) := Lib.hid ((HK4.out.alloc hw4 _).alloc (by simp; omega) _)
                have HI5 : Hid (Inv (acc ++ [v]) ((w4.alloc (.cells #[.int .i64 v.t, .int .i64 v.n, .string v.s, .slice oe v.l.length ce] 34)).alloc (.cells #[.int .i64 v.t, .int .i64 v.n, .string v.s, .slice oe v.l.length ce] 34))) := Lib.hid (hInv _ _ _ HI4.out hw4 (.of (below2 w4 _ _) (Nat.le_refl _)))
                have HRs5 : Hid (∀ p, p ∈ ps → RepS ((w4.alloc (.cells #[.int .i64 v.t, .int .i64 v.n, .string v.s, .slice oe v.l.length ce] 34)).alloc (.cells #[.int .i64 v.t, .int .i64 v.n, .string v.s, .slice oe v.l.length ce] 34)) (Off w.heap.size ((w4.alloc (.cells #[.int .i64 v.t, .int .i64 v.n, .string v.s, .slice oe v.l.length ce] 34)).alloc (.cells #[.int .i64 v.t, .int .i64 v.n, .string v.s, .slice oe v.l.length ce] 34)).heap.size (Value.slice oc ps.length cc).ownBlock) p.2 p.1.l) := Lib.hid (fun p hp => (HR4s.out p hp).later (fun q hq => ⟨⟨hq.1.1, by have := hq.1.2; rw [hsz2]; omega⟩, hq.2⟩) (fun q hq o => (below2 w4 _ _).cell (p := ⟨q, o, none⟩) hq.1.2))
                have HRp5 : Hid (RepS ((w4.alloc (.cells #[.int .i64 v.t, .int .i64 v.n, .string v.s, .slice oe v.l.length ce] 34)).alloc (.cells #[.int .i64 v.t, .int .i64 v.n, .string v.s, .slice oe v.l.length ce] 34)) (Btw (w3).heap.size ((w4.alloc (.cells #[.int .i64 v.t, .int .i64 v.n, .string v.s, .slice oe v.l.length ce] 34)).alloc (.cells #[.int .i64 v.t, .int .i64 v.n, .string v.s, .slice oe v.l.length ce] 34)).heap.size) (.slice oe v.l.length ce) v.l) := Lib.hid (HRep.out.later (fun q hq => ⟨hq.1, by have := hq.2; rw [hsz2]; omega⟩) (fun q hq o => (below2 w4 _ _).cell (p := ⟨q, o, none⟩) hq.2))
                have hps2 : ps.map (·.1) = acc := hps
                clear HO4 HR4 HK4 HI4 HR4s HRep hws2
                go_wp2_with (at_builtin; refine wpList_append_lies _ rfl _ _ _ rfl w.heap.size 34 i0 _ 4 56 Tryz.underlying22 hi0 hz0 hz1 hz2 rfl (by omega) (.slice oc ps.length cc) ps.length (flat ps) rfl HO5.out ⟨w4.heap.size + 1, 0, none⟩ 1 1 [.int .i64 v.t, .int .i64 v.n, .string v.s, .slice oe v.l.length ce] rfl rfl (World.news_of_block (cs := #[.int .i64 v.t, .int .i64 v.n, .string v.s, .slice oe v.l.length ce]) (t := 34) (fr := (0, 0)) hnw) (by simp [Value.oneCell']) (by omega) hn1 hby (by simp; omega) (w4.heap.size + 2) hsz2 ?_)
                intro gg cap2 w5 hown5 hgrow hat hgl
                have HA6 : Hid (Acc w5 w.heap.size (.slice (some ⟨gg, 0, none⟩) (ps.length + 1) cap2) (acc ++ [v])) := Lib.hid (by
                  rw [← hps2]
                  exact Acc.snoc HO5.out HRs5.out HRp5.out (Nat.le_trans hwr HSd.out) HOL.out hown5 hgrow (by rw [hsz2]; exact hat) hgl)
                have hkk : Kp w.heap.size X ((w4.alloc (.cells #[.int .i64 v.t, .int .i64 v.n, .string v.s, .slice oe v.l.length ce] 34)).alloc (.cells #[.int .i64 v.t, .int .i64 v.n, .string v.s, .slice oe v.l.length ce] 34)) w5 := ⟨hgrow.os, hgrow.tape, hgrow.output, hgrow.size, fun q hq _ => hgrow.block q (by rw [hsz2]; omega) (fun e => by have := (own_lt HO5.out q e.symm).1; omega)⟩
                have HK6 : Hid (Kp w.heap.size X w w5) := Lib.hid (HK5.out.trans hkk)
                have hbn : b < w4.heap.size := by have := Nat.le_trans hwr (Nat.le_trans HSd.out hs4); omega
                have HR6 : Hid (RD w5 b s m) := Lib.hid ((hgrow.block b (by rw [hsz2]; omega) (fun e => by have := (own_lt HO5.out b e.symm).1; omega)).trans HR5.out)
                have HI6 : Hid (Inv (acc ++ [v]) w5) := Lib.hid (hInvA _ _ _ HI5.out (by rw [hsz2]; omega) ⟨hgrow.os, hgrow.tape, hgrow.output, hgrow.size, fun q hq _ => hgrow.block q (by rw [hsz2]; omega) (fun e => by have := (own_lt HO5.out q e.symm).1; omega)⟩)
                have hw5 : w.heap.size ≤ w5.heap.size := by have := hgrow.size; rw [hsz2] at this; omega
                clear hown5 hgrow hat hgl HO5 HRs5 HRp5 HK5 HR5 HI5 hkk
                have hpl2 : acc.length = ps.length := by rw [← hps2, List.length_map]
                have HPL2 := Lib.hid hpl2
                clear hpl2 hps2
                go_wp2_with fail
                have hpl2 := HPL2.out
                go_roundg k
                case measure => omega
                case rel => exact ⟨acc ++ [v], some ⟨gg, 0, none⟩, cap2, m, by rw [List.length_append, hpl2]; show ps.length + 1 + k = _; omega, by rw [List.length_append, hpl2]; rfl, by rw [List.length_append, hpl2]; exact HA6, HR6, hmm, HK6, HI6, hw5, HN⟩
  · rw [if_neg hop]
    rw [if_neg (show ¬ pk s.data.toList i = UInt8.toNat 91 from hop)] at HWD
    clear hop
    go_enter Tryz.func55, Tryz.ntmps55
    go_wp2_with fail
    refine HWD.out.mono ?_
    rintro e w1 ⟨rfl, hR1, hk1⟩
    have HR1 : Hid (RD w1 b s i) := Lib.hid hR1
    have HK1 : Hid (Kp w.heap.size X w w1) := Lib.hid (hk1.mono (Nat.le_refl _) (fun k _ h => by unfold Is at h; subst h; exact hXb))
    clear hR1 hk1 HWD
    go_wp2_with fail
    go_ret2
    exact ⟨rfl, HR1.out, HK1.out⟩

end Go.Proofs.YtmbmlcnipncgnaaGreatDoor
