/-
  tuple of the package. Nothing is assumed.
-/
import Derived.Test.YtmbmlcnipncgnaaGreatDoorLtValue
namespace Go.Proofs.YtmbmlcnipncgnaaGreatDoor
open Go.RowKit

theorem oneL_gt {L : List UInt8} {i : Nat} {v : V} {m : Nat} (h : oneL L i = .ok v m) : i < m := by
  have hm : (oneL L i).fin = m := by rw [h]; rfl
  rw [← hm]
  have hg : (oneL L i).good = true := by rw [h]; rfl
  clear h hm
  unfold oneL at hg ⊢
  split
  · rename_i h1; exact wTrue_gt L i h1
  rename_i h1
  rw [if_neg h1] at hg
  split
  · rename_i h2; exact wFalse_gt L i h2
  rename_i h2
  rw [if_neg h2] at hg
  split
  · rename_i h3; exact textL_gt L i h3
  rename_i h3
  rw [if_neg h3] at hg
  split
  · rename_i h4; exact (patL_bd L (i + 1) (pos_of_pk h4 (by decide))).1
  rename_i h4
  rw [if_neg h4] at hg
  split
  · rename_i h5; exact intsL_gt L i (pos_of_pk h5 (by decide))
  rename_i h5
  rw [if_neg h5] at hg
  split
  · rename_i h6; exact textsL_gt _ _ L i h6
  rename_i h6
  rw [if_neg h6] at hg
  split
  · rename_i h7; exact tableL_gt L i (pos_of_pk h7 (by decide))
  rename_i h7
  rw [if_neg h7] at hg
  split
  · have := bitsL_gt L i; omega
  rename_i h8
  rw [if_neg h8] at hg
  unfold intL at hg ⊢
  split
  · rename_i h9
    rw [if_pos h9] at hg
    split
    · rename_i h10; rw [if_pos h10] at hg; cases hg
    · rename_i h10
      have := natL_bd L (i + 1) (by
        cases hd : isD (pk L (i + 1)) with
        | true => rfl
        | false => exact absurd (.inl hd) h10)
      simp only [PR.fin]; omega
  · rename_i h9
    rw [if_neg h9] at hg
    split
    · rename_i h10; rw [if_pos h10] at hg; cases hg
    · rename_i h10
      have := natL_bd L i (by simpa using h10)
      simp only [PR.fin]; omega
theorem allL_end (L : List UInt8) (g : Nat) (acc : List V) (i : Nat) (h : L.length ≤ i) : allL L (g + 1) acc i = .ok acc i := by rw [allL, if_pos h]
theorem allL_more (L : List UInt8) (g : Nat) (acc : List V) (i : Nat) (h : ¬ L.length ≤ i) : allL L (g + 1) acc i = (sepL acc L i).bind fun _ j => (oneL L j).bind fun v m => allL L g (acc ++ [v]) m := by rw [allL, if_neg h]

set_option maxRecDepth 100000 in
set_option maxHeartbeats 3200000 in
theorem tuple_any (w : World) (b : Nat) (s : ByteArray) (h : RD w b s 0) (hs : s.size ≤ 1000000) :
    Calls Tryz.prog 21 #[.pointer (some ⟨b, 0, none⟩)] w fun e w' => LsE w w' (allL s.data.toList (s.size + 1) [] 0) e ∧ RD w' b s (allL s.data.toList (s.size + 1) [] 0).fin ∧ Kp w.heap.size (Is b) w w' := by
  obtain ⟨i0, hi0, hz0, hz1, hz2⟩ := info_parts infoValue
  have hblt : b < w.heap.size := h.lt
  have HR1 := Lib.hid h
  have HK1 : Hid (Kp w.heap.size (Is b) w w) := Lib.hid (.refl _ _ _)
  generalize hR : allL s.data.toList (s.size + 1) [] 0 = R at *
  have HE0 : Hid (R = allL s.data.toList (s.size + 1) [] 0) := Lib.hid hR.symm
  clear hR h
  go_enter Tryz.func21, Tryz.ntmps21
  go_wp2_with fail
  go_loopg [4] (s.size + 1) (fun g v wr => ∃ (acc : List V) (oc : Option Addr) (cc ii : Nat), v = .slice oc acc.length cc ∧ Hid (Acc wr w.heap.size (.slice oc acc.length cc) acc) ∧ Hid (RD wr b s ii) ∧ ii ≤ s.size ∧ Hid (Kp w.heap.size (Is b) w wr) ∧ w.heap.size ≤ wr.heap.size ∧ Hid (R = allL s.data.toList g acc ii) ∧ s.size < ii + g ∧ acc.length ≤ ii)
  case atStart => exact ⟨[], none, 0, 0, rfl, Lib.hid (Acc.nil _ _), HR1, by omega, HK1, Nat.le_refl _, HE0, by omega, by simp⟩
  case round =>
    obtain ⟨acc, oc, cc, ii, rfl, HA, HR, hii, HK, hwr, HE, hlg, hlen⟩ := hrel
    have HG := Lib.hid hlg
    have HAE := Lib.hid (atEnd_any wr b s ii HR.out)
    obtain ⟨k, rfl⟩ : ∃ k, gk = k + 1 := ⟨gk - 1, by omega⟩
    clear HR1 HK1 HE0
    by_cases hend : ii = s.size
    · have HN : Hid (R = .ok acc ii) := Lib.hid (by rw [HE.out, allL_end _ _ _ _ (by rw [lt_len]; omega)])
      rw [decide_eq_true hend] at HAE
      clear hend HE
      go_wp2_with fail
      refine HAE.out.mono ?_
      rintro e w2 ⟨rfl, m1, hw2⟩
      have HR2 : Hid (RD w2 b s ii) := Lib.hid (by rw [hw2]; exact HR.out)
      have HK2 : Hid (Kp w.heap.size (Is b) w w2) := Lib.hid (by rw [hw2]; exact HK.out.drewN m1)
      have HA2 : Hid (Acc w2 w.heap.size (.slice oc acc.length cc) acc) := Lib.hid (by rw [hw2]; exact HA.out.drewN m1)
      clear hw2 HAE
      go_wp2_with fail
      go_ret2
      rw [HN.out]
      exact ⟨⟨_, _, rfl, HA2.out.repS (by omega)⟩, HR2.out, HK2.out⟩
    · have hne : ¬ s.data.toList.length ≤ ii := by rw [lt_len]; omega
      rw [decide_eq_false hend] at HAE
      by_cases hnil : acc = []
      · have HE1 : Hid (R = (oneL s.data.toList ii).bind fun v m => allL s.data.toList k (acc ++ [v]) m) := Lib.hid (by
          rw [HE.out, allL_more _ _ _ _ hne, sepL, if_pos hnil]
          rfl)
        have hgt : ¬ (0 : Int) < (acc.length : Int) := by rw [hnil]; decide
        clear hend HE hnil hne
        go_wp2_with fail
        refine HAE.out.mono ?_
        rintro e w2 ⟨rfl, m1, hw2⟩
        obtain ⟨jj, hjj0'⟩ : ∃ jj, ii = jj := ⟨_, rfl⟩
        have hjj0 : ii ≤ jj := by omega
        have hjj : jj ≤ s.size := by omega
        have HRd : Hid (RD w2 b s jj) := Lib.hid (by rw [hw2, ← hjj0']; exact HR.out)
        have HKd : Hid (Kp w.heap.size (Is b) w w2) := Lib.hid (by rw [hw2]; exact HK.out.drewN m1)
        have HAd : Hid (Acc w2 w.heap.size (.slice oc acc.length cc) acc) := Lib.hid (by rw [hw2]; exact HA.out.drewN m1)
        have HSd : Hid (wr.heap.size ≤ w2.heap.size) := Lib.hid (by rw [hw2]; exact Nat.le_refl _)
        rw [hjj0'] at HE1
        clear hw2 HAE HR HK HA hjj0'
        cases hel : oneL s.data.toList jj with
        | bad m =>
          rw [hel] at HE1
          have HN : Hid (R = .bad m) := Lib.hid HE1.out
          have HC := Lib.hid (value_any w2 b s jj HRd.out hjj hs)
          rw [hel] at HC
          clear HE1 hel HAd
          go_wp2_with fail
          refine HC.out.mono ?_
          rintro e w4 ⟨⟨t1, n1, S1, rfl⟩, hR4, hK4⟩
          have HR4 := Lib.hid hR4
          have HK4 : Hid (Kp w.heap.size (Is b) w w4) := Lib.hid (HKd.out.trans (hK4.less (Nat.le_trans hwr HSd.out)))
          clear hR4 hK4 HC HRd HKd HSd
          have hw4 : w.heap.size ≤ w4.heap.size := HK4.out.size
          go_wp2_with fail
          go_ret2
          rw [HN.out]
          exact ⟨rfl, HR4.out.alloc _, HK4.out.alloc hw4 _⟩
        | ok v m =>
          have hgt2 := oneL_gt hel
          rw [hel] at HE1
          have HN : Hid (R = allL s.data.toList k (acc ++ [v]) m) := Lib.hid HE1.out
          have hmm : m ≤ s.size := by
            have := oneL_bd s.data.toList jj (by rw [lt_len]; exact hjj)
            rw [hel, lt_len] at this
            exact this.2
          have HC := Lib.hid (value_any w2 b s jj HRd.out hjj hs)
          rw [hel] at HC
          clear HE1 hel
          go_wp2_with fail
          refine HC.out.mono ?_
          rintro e w4 ⟨⟨oe, ce, rfl, hrep⟩, hR4, hK4⟩
          have hs4 : (w2).heap.size ≤ w4.heap.size := hK4.size
          have HR4 : Hid (RD w4 b s m) := Lib.hid hR4
          have HK4 : Hid (Kp w.heap.size (Is b) w w4) := Lib.hid (HKd.out.trans (hK4.less (Nat.le_trans hwr HSd.out)))
          have hacc : Acc w4 w.heap.size (.slice oc acc.length cc) acc := HAd.out.kp hK4 (Nat.le_refl _) (fun k hk h => by unfold Is at h; omega)
          obtain ⟨ps, hps, ho4, hr4⟩ := hacc
          have hpl : ps.length = acc.length := by rw [← hps, List.length_map]
          have hol : ∀ q, (Value.slice oc acc.length cc).ownBlock = some q → q < (w2).heap.size := fun q hq => by
            obtain ⟨ps', hps', ho', -⟩ := HAd.out
            exact (own_lt ho' q hq).2
          have HOL := Lib.hid hol
          have HO4 := Lib.hid ho4
          have HR4s := Lib.hid hr4
          have HRep := Lib.hid hrep
          have hn1 : ps.length + 1 ≤ maxLen := by unfold maxLen; omega
          have hby : (ps.length + 1) * 56 ≤ 140737488355328 := by omega
          have hw4 : w.heap.size ≤ w4.heap.size := Nat.le_trans hwr (Nat.le_trans HSd.out hs4)
          have HJ := Lib.hid hjj0
          clear hjj0
          rw [← hpl] at *
          clear hR4 hK4 hrep ho4 hr4 HC HRd HKd HAd hol
          have hnw : ((w4.alloc (.cells #[.int .i64 v.t, .int .i64 v.n, .string v.s, .slice oe v.l.length ce] 34)).alloc (.cells #[.int .i64 v.t, .int .i64 v.n, .string v.s, .slice oe v.l.length ce] 34)).heap[w4.heap.size + 1]? = some (.cells #[.int .i64 v.t, .int .i64 v.n, .string v.s, .slice oe v.l.length ce] 34 (0, 0)) := two_new' _ _ _
          have hsz2 : ((w4.alloc (.cells #[.int .i64 v.t, .int .i64 v.n, .string v.s, .slice oe v.l.length ce] 34)).alloc (.cells #[.int .i64 v.t, .int .i64 v.n, .string v.s, .slice oe v.l.length ce] 34)).heap.size = w4.heap.size + 2 := by simp
          have HO5 := Lib.hid ((HO4.out.alloc (.cells #[.int .i64 v.t, .int .i64 v.n, .string v.s, .slice oe v.l.length ce] 34)).alloc (.cells #[.int .i64 v.t, .int .i64 v.n, .string v.s, .slice oe v.l.length ce] 34))
          have HR5 : Hid (RD ((w4.alloc (.cells #[.int .i64 v.t, .int .i64 v.n, .string v.s, .slice oe v.l.length ce] 34)).alloc (.cells #[.int .i64 v.t, .int .i64 v.n, .string v.s, .slice oe v.l.length ce] 34)) b s m) := Lib.hid ((HR4.out.alloc _).alloc _)
          have HK5 : Hid (Kp w.heap.size (Is b) w ((w4.alloc (.cells #[.int .i64 v.t, .int .i64 v.n, .string v.s, .slice oe v.l.length ce] 34)).alloc (.cells #[.int .i64 v.t, .int .i64 v.n, .string v.s, .slice oe v.l.length ce] 34))) := Lib.hid ((HK4.out.alloc hw4 _).alloc (by simp; omega) _)
          have HRs5 : Hid (∀ p, p ∈ ps → RepS ((w4.alloc (.cells #[.int .i64 v.t, .int .i64 v.n, .string v.s, .slice oe v.l.length ce] 34)).alloc (.cells #[.int .i64 v.t, .int .i64 v.n, .string v.s, .slice oe v.l.length ce] 34)) (Off w.heap.size ((w4.alloc (.cells #[.int .i64 v.t, .int .i64 v.n, .string v.s, .slice oe v.l.length ce] 34)).alloc (.cells #[.int .i64 v.t, .int .i64 v.n, .string v.s, .slice oe v.l.length ce] 34)).heap.size (Value.slice oc ps.length cc).ownBlock) p.2 p.1.l) := Lib.hid (fun p hp => (HR4s.out p hp).later (fun q hq => ⟨⟨hq.1.1, by have := hq.1.2; rw [hsz2]; omega⟩, hq.2⟩) (fun q hq o => (below2 w4 _ _).cell (p := ⟨q, o, none⟩) hq.1.2))
          have HRp5 : Hid (RepS ((w4.alloc (.cells #[.int .i64 v.t, .int .i64 v.n, .string v.s, .slice oe v.l.length ce] 34)).alloc (.cells #[.int .i64 v.t, .int .i64 v.n, .string v.s, .slice oe v.l.length ce] 34)) (Btw (w2).heap.size ((w4.alloc (.cells #[.int .i64 v.t, .int .i64 v.n, .string v.s, .slice oe v.l.length ce] 34)).alloc (.cells #[.int .i64 v.t, .int .i64 v.n, .string v.s, .slice oe v.l.length ce] 34)).heap.size) (.slice oe v.l.length ce) v.l) := Lib.hid (HRep.out.later (fun q hq => ⟨hq.1, by have := hq.2; rw [hsz2]; omega⟩) (fun q hq o => (below2 w4 _ _).cell (p := ⟨q, o, none⟩) hq.2))
          have HPS2 : Hid (ps.map (·.1) = acc) := Lib.hid hps
          clear HO4 HR4 HK4 HR4s HRep hps hpl
          go_wp2_with (at_builtin; refine wpList_append_lies _ rfl _ _ _ rfl w.heap.size 34 i0 _ 4 56 Tryz.underlying22 hi0 hz0 hz1 hz2 rfl (by omega) (.slice oc ps.length cc) ps.length (flat ps) rfl HO5.out ⟨w4.heap.size + 1, 0, none⟩ 1 1 [.int .i64 v.t, .int .i64 v.n, .string v.s, .slice oe v.l.length ce] rfl rfl (World.news_of_block (cs := #[.int .i64 v.t, .int .i64 v.n, .string v.s, .slice oe v.l.length ce]) (t := 34) (fr := (0, 0)) hnw) (by simp [Value.oneCell']) (by omega) hn1 hby (by simp; omega) (w4.heap.size + 2) hsz2 ?_)
          intro gg cap2 w5 hown5 hgrow hat hgl
          have HA6 : Hid (Acc w5 w.heap.size (.slice (some ⟨gg, 0, none⟩) (ps.length + 1) cap2) (acc ++ [v])) := Lib.hid (by
            rw [← HPS2.out]
            exact Acc.snoc HO5.out HRs5.out HRp5.out (Nat.le_trans hwr HSd.out) HOL.out hown5 hgrow (by rw [hsz2]; exact hat) hgl)
          have hkk : Kp w.heap.size (Is b) ((w4.alloc (.cells #[.int .i64 v.t, .int .i64 v.n, .string v.s, .slice oe v.l.length ce] 34)).alloc (.cells #[.int .i64 v.t, .int .i64 v.n, .string v.s, .slice oe v.l.length ce] 34)) w5 := ⟨hgrow.os, hgrow.tape, hgrow.output, hgrow.size, fun q hq _ => hgrow.block q (by rw [hsz2]; omega) (fun e => by have := (own_lt HO5.out q e.symm).1; omega)⟩
          have HK6 : Hid (Kp w.heap.size (Is b) w w5) := Lib.hid (HK5.out.trans hkk)
          have hbn : b < w4.heap.size := by have := Nat.le_trans hwr (Nat.le_trans HSd.out hs4); omega
          have HR6 : Hid (RD w5 b s m) := Lib.hid ((hgrow.block b (by rw [hsz2]; omega) (fun e => by have := (own_lt HO5.out b e.symm).1; omega)).trans HR5.out)
          have hw5 : w.heap.size ≤ w5.heap.size := by have := hgrow.size; rw [hsz2] at this; omega
          have HPL2 : Hid (acc.length = ps.length) := Lib.hid (by rw [← HPS2.out, List.length_map])
          clear hown5 hgrow hat hgl HO5 HRs5 HRp5 HK5 HR5 hkk HPS2
          go_wp2_with fail
          have hpl2 := HPL2.out
          have hj0 := HJ.out
          go_roundg k
          case measure => omega
          case rel => exact ⟨acc ++ [v], some ⟨gg, 0, none⟩, cap2, m, by rw [List.length_append, hpl2]; rfl, by rw [List.length_append, hpl2]; exact HA6, HR6, hmm, HK6, hw5, HN, by have := HG.out; omega, by rw [List.length_append, hpl2]; show ps.length + 1 ≤ m; omega⟩
      · have hgt : (0 : Int) < (acc.length : Int) := by have := List.length_pos_iff.2 hnil; omega
        have HE1 : Hid (R = (wordL [44, 32] s.data.toList ii).bind fun _ j => (oneL s.data.toList j).bind fun v m => allL s.data.toList k (acc ++ [v]) m) := Lib.hid (by
          rw [HE.out, allL_more _ _ _ _ hne, sepL, if_neg hnil])
        clear hend HE hnil hne
        go_wp2_with fail
        refine HAE.out.mono ?_
        rintro e w2 ⟨rfl, m1, hw2⟩
        have HR2 : Hid (RD w2 b s ii) := Lib.hid (by rw [hw2]; exact HR.out)
        have HK2 : Hid (Kp w.heap.size (Is b) w w2) := Lib.hid (by rw [hw2]; exact HK.out.drewN m1)
        have HA2 : Hid (Acc w2 w.heap.size (.slice oc acc.length cc) acc) := Lib.hid (by rw [hw2]; exact HA.out.drewN m1)
        have HS2 : Hid (wr.heap.size ≤ w2.heap.size) := Lib.hid (by rw [hw2]; exact Nat.le_refl _)
        have HW2 : Hid (Calls Tryz.prog 43 #[.pointer (some ⟨b, 0, none⟩), .string ⟨#[44, 32]⟩] w2 fun e w' => e = .returned (.bool (wordL [44, 32] s.data.toList ii).good) ∧ RD w' b s (wordL [44, 32] s.data.toList ii).fin ∧ Kp w2.heap.size (Is b) w2 w') := Lib.hid (word_any ⟨#[44, 32]⟩ w2 b s ii HR2.out hii hs (by decide) (by decide))
        have hwb := wordL_bd [44, 32] s.data.toList ii (by rw [lt_len]; exact hii) (by decide)
        rw [lt_len] at hwb
        clear hw2 HAE HR HK HA
        generalize wordL [44, 32] s.data.toList ii = sep at *
        cases sep with
        | bad m =>
          have HN : Hid (R = .bad m) := Lib.hid HE1.out
          clear HE1 HA2
          go_wp2_with fail
          refine HW2.out.mono ?_
          rintro e w3 ⟨rfl, hR3, hk3⟩
          have HR3 : Hid (RD w3 b s m) := Lib.hid hR3
          have HK3 : Hid (Kp w.heap.size (Is b) w w3) := Lib.hid (HK2.out.trans (hk3.less (Nat.le_trans hwr HS2.out)))
          clear hR3 hk3 HW2 HR2 HK2
          go_wp2_with fail
          go_ret2
          rw [HN.out]
          exact ⟨rfl, HR3.out, HK3.out⟩
        | ok u jj =>
          have hjj : jj ≤ s.size := hwb.2
          have hjj0 : ii ≤ jj := hwb.1
          have HE1 : Hid (R = (oneL s.data.toList jj).bind fun v m => allL s.data.toList k (acc ++ [v]) m) := Lib.hid HE1.out
          clear hwb
          go_wp2_with fail
          refine HW2.out.mono ?_
          rintro e w3 ⟨rfl, hR3, hk3⟩
          have HRd : Hid (RD w3 b s jj) := Lib.hid hR3
          have HKd : Hid (Kp w.heap.size (Is b) w w3) := Lib.hid (HK2.out.trans (hk3.less (Nat.le_trans hwr HS2.out)))
          have HAd : Hid (Acc w3 w.heap.size (.slice oc acc.length cc) acc) := Lib.hid (HA2.out.kp hk3 (Nat.le_refl _) (fun k hk h => by unfold Is at h; omega))
          have HSd : Hid (wr.heap.size ≤ w3.heap.size) := Lib.hid (Nat.le_trans HS2.out hk3.size)
          clear hR3 hk3 HW2 HR2 HK2 HA2 HS2
          cases hel : oneL s.data.toList jj with
          | bad m =>
            rw [hel] at HE1
            have HN : Hid (R = .bad m) := Lib.hid HE1.out
            have HC := Lib.hid (value_any w3 b s jj HRd.out hjj hs)
            rw [hel] at HC
            clear HE1 hel HAd
            go_wp2_with fail
            refine HC.out.mono ?_
            rintro e w4 ⟨⟨t1, n1, S1, rfl⟩, hR4, hK4⟩
            have HR4 := Lib.hid hR4
            have HK4 : Hid (Kp w.heap.size (Is b) w w4) := Lib.hid (HKd.out.trans (hK4.less (Nat.le_trans hwr HSd.out)))
            clear hR4 hK4 HC HRd HKd HSd
            have hw4 : w.heap.size ≤ w4.heap.size := HK4.out.size
            go_wp2_with fail
            go_ret2
            rw [HN.out]
            exact ⟨rfl, HR4.out.alloc _, HK4.out.alloc hw4 _⟩
          | ok v m =>
            have hgt2 := oneL_gt hel
            rw [hel] at HE1
            have HN : Hid (R = allL s.data.toList k (acc ++ [v]) m) := Lib.hid HE1.out
            have hmm : m ≤ s.size := by
              have := oneL_bd s.data.toList jj (by rw [lt_len]; exact hjj)
              rw [hel, lt_len] at this
              exact this.2
            have HC := Lib.hid (value_any w3 b s jj HRd.out hjj hs)
            rw [hel] at HC
            clear HE1 hel
            go_wp2_with fail
            refine HC.out.mono ?_
            rintro e w4 ⟨⟨oe, ce, rfl, hrep⟩, hR4, hK4⟩
            have hs4 : (w3).heap.size ≤ w4.heap.size := hK4.size
            have HR4 : Hid (RD w4 b s m) := Lib.hid hR4
            have HK4 : Hid (Kp w.heap.size (Is b) w w4) := Lib.hid (HKd.out.trans (hK4.less (Nat.le_trans hwr HSd.out)))
            have hacc : Acc w4 w.heap.size (.slice oc acc.length cc) acc := HAd.out.kp hK4 (Nat.le_refl _) (fun k hk h => by unfold Is at h; omega)
            obtain ⟨ps, hps, ho4, hr4⟩ := hacc
            have hpl : ps.length = acc.length := by rw [← hps, List.length_map]
            have hol : ∀ q, (Value.slice oc acc.length cc).ownBlock = some q → q < (w3).heap.size := fun q hq => by
              obtain ⟨ps', hps', ho', -⟩ := HAd.out
              exact (own_lt ho' q hq).2
            have HOL := Lib.hid hol
            have HO4 := Lib.hid ho4
            have HR4s := Lib.hid hr4
            have HRep := Lib.hid hrep
            have hn1 : ps.length + 1 ≤ maxLen := by unfold maxLen; omega
            have hby : (ps.length + 1) * 56 ≤ 140737488355328 := by omega
            have hw4 : w.heap.size ≤ w4.heap.size := Nat.le_trans hwr (Nat.le_trans HSd.out hs4)
            have HJ := Lib.hid hjj0
            clear hjj0
            rw [← hpl] at *
            clear hR4 hK4 hrep ho4 hr4 HC HRd HKd HAd hol
            have hnw : ((w4.alloc (.cells #[.int .i64 v.t, .int .i64 v.n, .string v.s, .slice oe v.l.length ce] 34)).alloc (.cells #[.int .i64 v.t, .int .i64 v.n, .string v.s, .slice oe v.l.length ce] 34)).heap[w4.heap.size + 1]? = some (.cells #[.int .i64 v.t, .int .i64 v.n, .string v.s, .slice oe v.l.length ce] 34 (0, 0)) := two_new' _ _ _
            have hsz2 : ((w4.alloc (.cells #[.int .i64 v.t, .int .i64 v.n, .string v.s, .slice oe v.l.length ce] 34)).alloc (.cells #[.int .i64 v.t, .int .i64 v.n, .string v.s, .slice oe v.l.length ce] 34)).heap.size = w4.heap.size + 2 := by simp
            have HO5 := Lib.hid ((HO4.out.alloc (.cells #[.int .i64 v.t, .int .i64 v.n, .string v.s, .slice oe v.l.length ce] 34)).alloc (.cells #[.int .i64 v.t, .int .i64 v.n, .string v.s, .slice oe v.l.length ce] 34))
            have HR5 : Hid (RD ((w4.alloc (.cells #[.int .i64 v.t, .int .i64 v.n, .string v.s, .slice oe v.l.length ce] 34)).alloc (.cells #[.int .i64 v.t, .int .i64 v.n, .string v.s, .slice oe v.l.length ce] 34)) b s m) := Lib.hid ((HR4.out.alloc _).alloc _)
            have HK5 : Hid (Kp w.heap.size (Is b) w ((w4.alloc (.cells #[.int .i64 v.t, .int .i64 v.n, .string v.s, .slice oe v.l.length ce] 34)).alloc (.cells #[.int .i64 v.t, .int .i64 v.n, .string v.s, .slice oe v.l.length ce] 34))) := Lib.hid ((HK4.out.alloc hw4 _).alloc (by simp; omega) _)
            have HRs5 : Hid (∀ p, p ∈ ps → RepS ((w4.alloc (.cells #[.int .i64 v.t, .int .i64 v.n, .string v.s, .slice oe v.l.length ce] 34)).alloc (.cells #[.int .i64 v.t, .int .i64 v.n, .string v.s, .slice oe v.l.length ce] 34)) (Off w.heap.size ((w4.alloc (.cells #[.int .i64 v.t, .int .i64 v.n, .string v.s, .slice oe v.l.length ce] 34)).alloc (.cells #[.int .i64 v.t, .int .i64 v.n, .string v.s, .slice oe v.l.length ce] 34)).heap.size (Value.slice oc ps.length cc).ownBlock) p.2 p.1.l) := Lib.hid (fun p hp => (HR4s.out p hp).later (fun q hq => ⟨⟨hq.1.1, by have := hq.1.2; rw [hsz2]; omega⟩, hq.2⟩) (fun q hq o => (below2 w4 _ _).cell (p := ⟨q, o, none⟩) hq.1.2))
            have HRp5 : Hid (RepS ((w4.alloc (.cells #[.int .i64 v.t, .int .i64 v.n, .string v.s, .slice oe v.l.length ce] 34)).alloc (.cells #[.int .i64 v.t, .int .i64 v.n, .string v.s, .slice oe v.l.length ce] 34)) (Btw (w3).heap.size ((w4.alloc (.cells #[.int .i64 v.t, .int .i64 v.n, .string v.s, .slice oe v.l.length ce] 34)).alloc (.cells #[.int .i64 v.t, .int .i64 v.n, .string v.s, .slice oe v.l.length ce] 34)).heap.size) (.slice oe v.l.length ce) v.l) := Lib.hid (HRep.out.later (fun q hq => ⟨hq.1, by have := hq.2; rw [hsz2]; omega⟩) (fun q hq o => (below2 w4 _ _).cell (p := ⟨q, o, none⟩) hq.2))
            have HPS2 : Hid (ps.map (·.1) = acc) := Lib.hid hps
            clear HO4 HR4 HK4 HR4s HRep hps hpl
            go_wp2_with (at_builtin; refine wpList_append_lies _ rfl _ _ _ rfl w.heap.size 34 i0 _ 4 56 Tryz.underlying22 hi0 hz0 hz1 hz2 rfl (by omega) (.slice oc ps.length cc) ps.length (flat ps) rfl HO5.out ⟨w4.heap.size + 1, 0, none⟩ 1 1 [.int .i64 v.t, .int .i64 v.n, .string v.s, .slice oe v.l.length ce] rfl rfl (World.news_of_block (cs := #[.int .i64 v.t, .int .i64 v.n, .string v.s, .slice oe v.l.length ce]) (t := 34) (fr := (0, 0)) hnw) (by simp [Value.oneCell']) (by omega) hn1 hby (by simp; omega) (w4.heap.size + 2) hsz2 ?_)
            intro gg cap2 w5 hown5 hgrow hat hgl
            have HA6 : Hid (Acc w5 w.heap.size (.slice (some ⟨gg, 0, none⟩) (ps.length + 1) cap2) (acc ++ [v])) := Lib.hid (by
              rw [← HPS2.out]
              exact Acc.snoc HO5.out HRs5.out HRp5.out (Nat.le_trans hwr HSd.out) HOL.out hown5 hgrow (by rw [hsz2]; exact hat) hgl)
            have hkk : Kp w.heap.size (Is b) ((w4.alloc (.cells #[.int .i64 v.t, .int .i64 v.n, .string v.s, .slice oe v.l.length ce] 34)).alloc (.cells #[.int .i64 v.t, .int .i64 v.n, .string v.s, .slice oe v.l.length ce] 34)) w5 := ⟨hgrow.os, hgrow.tape, hgrow.output, hgrow.size, fun q hq _ => hgrow.block q (by rw [hsz2]; omega) (fun e => by have := (own_lt HO5.out q e.symm).1; omega)⟩
            have HK6 : Hid (Kp w.heap.size (Is b) w w5) := Lib.hid (HK5.out.trans hkk)
            have hbn : b < w4.heap.size := by have := Nat.le_trans hwr (Nat.le_trans HSd.out hs4); omega
            have HR6 : Hid (RD w5 b s m) := Lib.hid ((hgrow.block b (by rw [hsz2]; omega) (fun e => by have := (own_lt HO5.out b e.symm).1; omega)).trans HR5.out)
            have hw5 : w.heap.size ≤ w5.heap.size := by have := hgrow.size; rw [hsz2] at this; omega
            have HPL2 : Hid (acc.length = ps.length) := Lib.hid (by rw [← HPS2.out, List.length_map])
            clear hown5 hgrow hat hgl HO5 HRs5 HRp5 HK5 HR5 hkk HPS2
            go_wp2_with fail
            have hpl2 := HPL2.out
            have hj0 := HJ.out
            go_roundg k
            case measure => omega
            case rel => exact ⟨acc ++ [v], some ⟨gg, 0, none⟩, cap2, m, by rw [List.length_append, hpl2]; rfl, by rw [List.length_append, hpl2]; exact HA6, HR6, hmm, HK6, hw5, HN, by have := HG.out; omega, by rw [List.length_append, hpl2]; show ps.length + 1 ≤ m; omega⟩

end Go.Proofs.YtmbmlcnipncgnaaGreatDoor
