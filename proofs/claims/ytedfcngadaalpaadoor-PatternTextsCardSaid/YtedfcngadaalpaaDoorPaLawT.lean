/-
  The walk of PatternTexts. Nothing is assumed.
-/
import Derived.Test.YtedfcngadaalpaaDoorPaMat
import Derived.Test.YtedfcngadaalpaaDoorPaTxt
namespace Go.Proofs.YtedfcngadaalpaaDoor
open Go.RowKit

theorem words_len (t : PT) (s : ByteArray) (hs : s.size ≤ 10) : wordsR t (s.size : Int) = wordsT t s.size := by
  unfold wordsR
  rw [if_neg (by omega)]
  rfl
/-- What Match, Words and Same say together. -/
theorem texts_say {p q s : ByteArray} (h0 : errP p = 0) (h1 : errP q = 0) (hp : p.size ≤ 10) (hq : q.size ≤ 10) (hs : s.size ≤ 10) : ∃ t u, TP p t ∧ TP q u ∧
    ((wordsR t (s.size : Int)).2 = 11 ∨ ((wordsR t (s.size : Int)).2 = 0 ∧ (accZ p s = true → ¬ (wordsR t (s.size : Int)).1 < 1))) ∧
    ((sameT t u).2 ≠ 0 ∨ ((sameT t u).2 = 0 ∧ (sameT t u).1 = false) ∨ ((sameT t u).2 = 0 ∧ (sameT t u).1 = true ∧ accZ q s = accZ p s ∧ wordsR u (s.size : Int) = wordsR t (s.size : Int))) := by
  obtain ⟨t, ht⟩ := TP.of h0
  obtain ⟨u, hu⟩ := TP.of h1
  refine ⟨t, u, ht, hu, ?_, ?_⟩
  · rw [words_len t s hs]
    obtain ⟨m, hm⟩ := ht.parse
    have hl := (parse_gd hm).2.1
    rw [lt_len] at hl
    rw [words_few (by omega)]
    split
    · exact .inl rfl
    · refine .inr ⟨rfl, fun ha => ?_⟩
      have h2 : accT (buildT t).1 (buildT t).2 s.data.toList = true := by
        unfold accZ accS at ha
        rw [if_pos h0, hm] at ha
        exact ha
      have := cnt_of_acc ht.lv ht.al h2
      rw [lt_len] at this
      show ¬ cntT t s.size < 1
      omega
  · by_cases h2 : (sameT t u).2 = 0
    · right
      cases h3 : (sameT t u).1 with
      | false => exact .inl ⟨h2, rfl⟩
      | true =>
        have h4 : sameT t u = (true, 0) := Prod.ext h3 h2
        refine .inr ⟨h2, rfl, ?_, ?_⟩
        · obtain ⟨m, hm⟩ := ht.parse
          obtain ⟨k, hk⟩ := hu.parse
          unfold accZ accS
          rw [if_pos h0, if_pos h1, hm, hk]
          exact (same_acc h4 ht.lv hu.lv ht.al hu.al _).symm
        · obtain ⟨m, hm⟩ := ht.parse
          obtain ⟨k, hk⟩ := hu.parse
          have hl := (parse_gd hm).2.1
          have hl2 := (parse_gd hk).2.1
          rw [lt_len] at hl hl2
          rw [words_len t s hs, words_len u s hs, words_few (by omega), words_few (by omega), same_cnt h4]
    · exact .inl h2

set_option maxRecDepth 100000 in
set_option maxHeartbeats 3200000 in
theorem law_ptexts (p q s : ByteArray) (w : World) (hA : AL w) : Calls Tryd.prog 6 #[.string p, .string q, .string s] w fun e w' => e = .returned (.bool true) ∧ Below w.heap.size w w' := by
  by_cases hbigp : 10 < p.size
  · have HA := Lib.hid (awake_any w hA)
    have hbI : (p.size : Int) > 10 := by omega
    clear hbigp
    go_enter Tryd.func6, Tryd.ntmps6
    go_wp2_with fail
    refine HA.out.mono ?_
    rintro e w1 ⟨rfl, hb⟩
    go_wp2_with fail
    go_ret
    exact ⟨rfl, hb⟩
  have hpI : ¬ (p.size : Int) > 10 := by omega
  by_cases hbigq : 10 < q.size
  · have HA := Lib.hid (awake_any w hA)
    have hbI : (q.size : Int) > 10 := by omega
    clear hbigp hbigq
    go_enter Tryd.func6, Tryd.ntmps6
    go_wp2_with fail
    refine HA.out.mono ?_
    rintro e w1 ⟨rfl, hb⟩
    go_wp2_with fail
    go_ret
    exact ⟨rfl, hb⟩
  have hqI : ¬ (q.size : Int) > 10 := by omega
  by_cases hbigs : 10 < s.size
  · have HA := Lib.hid (awake_any w hA)
    have hbI : (s.size : Int) > 10 := by omega
    clear hbigp hbigq hbigs
    go_enter Tryd.func6, Tryd.ntmps6
    go_wp2_with fail
    refine HA.out.mono ?_
    rintro e w1 ⟨rfl, hb⟩
    go_wp2_with fail
    go_ret
    exact ⟨rfl, hb⟩
  have hsI : ¬ (s.size : Int) > 10 := by omega
  have HAI := Lib.hid hA
  have HB0 := Lib.hid (Below.refl w.heap.size w)
  have HAW := Lib.hid (fun (V : World) (hV : AL V) => awake_any V hV)
  have HM1 := Lib.hid (fun (V : World) (hV : AL V) => match_all p s V hV (by omega))
  have HM2 := Lib.hid (fun (V : World) (hV : AL V) => match_all q s V hV (by omega))
  clear hA
  by_cases h0 : ¬ errP p = 0
  · have hne : ((errP p != 0) : Bool) = true := by rw [bne_iff_ne]; exact h0
    clear hbigp hbigq hbigs
    generalize accZ p s = ya at *
    generalize accZ q s = yb at *
    generalize errP p = ea at *
    generalize errP q = eb at *
    go_enter Tryd.func6, Tryd.ntmps6
    go_wp2_with fail
    refine (HM1.out w (HAI.out.later HB0.out)).mono ?_
    rintro e w1 ⟨rfl, hb1⟩
    have HB1 := Lib.hid (HB0.out.trans (hb1.mono HB0.out.size))
    clear hb1 HM1
    go_wp2_with fail
    refine (HM2.out w1 (HAI.out.later HB1.out)).mono ?_
    rintro e w2 ⟨rfl, hb2⟩
    have HB2 := Lib.hid (HB1.out.trans (hb2.mono HB1.out.size))
    clear hb2 HM2
    go_wp2_with fail
    refine (HAW.out w2 (HAI.out.later HB2.out)).mono ?_
    rintro e w3 ⟨rfl, hb3⟩
    have HB3 := Lib.hid (HB2.out.trans (hb3.mono HB2.out.size))
    clear hb3 HAW
    go_wp2_with fail
    go_ret
    exact ⟨rfl, HB3.out⟩
  replace h0 := Classical.not_not.1 h0
  rw [h0] at HM1
  by_cases h1 : ¬ errP q = 0
  · have hne : ((errP q != 0) : Bool) = true := by rw [bne_iff_ne]; exact h1
    clear hbigp hbigq hbigs h0
    generalize accZ p s = ya at *
    generalize accZ q s = yb at *
    generalize errP q = eb at *
    go_enter Tryd.func6, Tryd.ntmps6
    go_wp2_with fail
    refine (HM1.out w (HAI.out.later HB0.out)).mono ?_
    rintro e w1 ⟨rfl, hb1⟩
    have HB1 := Lib.hid (HB0.out.trans (hb1.mono HB0.out.size))
    clear hb1 HM1
    go_wp2_with fail
    refine (HM2.out w1 (HAI.out.later HB1.out)).mono ?_
    rintro e w2 ⟨rfl, hb2⟩
    have HB2 := Lib.hid (HB1.out.trans (hb2.mono HB1.out.size))
    clear hb2 HM2
    go_wp2_with fail
    refine (HAW.out w2 (HAI.out.later HB2.out)).mono ?_
    rintro e w3 ⟨rfl, hb3⟩
    have HB3 := Lib.hid (HB2.out.trans (hb3.mono HB2.out.size))
    clear hb3 HAW
    go_wp2_with fail
    go_ret
    exact ⟨rfl, HB3.out⟩
  replace h1 := Classical.not_not.1 h1
  rw [h1] at HM2
  obtain ⟨t, u, ht, hu, h2, h3⟩ := texts_say (s := s) h0 h1 (by omega) (by omega) (by omega)
  have HW1 := Lib.hid (fun (V : World) (hV : AL V) => words_any p t ht (s.size : Int) V hV)
  have HW2 := Lib.hid (fun (V : World) (hV : AL V) => words_any q u hu (s.size : Int) V hV)
  have HS := Lib.hid (fun (V : World) (hV : AL V) => same_pat p q t u ht hu V hV)
  clear hbigp hbigq hbigs h0 h1 ht hu
  obtain ⟨⟨k, i⟩, hk⟩ : ∃ z, z = sameT t u := ⟨_, rfl⟩
  obtain ⟨⟨m, g⟩, hm⟩ : ∃ z, z = wordsR t (s.size : Int) := ⟨_, rfl⟩
  obtain ⟨⟨n, h⟩, hn⟩ : ∃ z, z = wordsR u (s.size : Int) := ⟨_, rfl⟩
  rw [← hm] at HW1 h2 h3
  rw [← hn] at HW2 h3
  rw [← hk] at HS h3
  clear hk hm hn
  generalize accZ p s = ya at *
  generalize accZ q s = yb at *
  dsimp only at HW1 HW2 HS h2 h3
  rcases h3 with hi | ⟨rfl, rfl⟩ | ⟨rfl, rfl, rfl, he⟩
  · have hib : ((i != 0) : Bool) = true := by rw [bne_iff_ne]; exact hi
    rcases h2 with rfl | ⟨rfl, hm⟩
    · cases ya
      · go_enter Tryd.func6, Tryd.ntmps6
        go_wp2_with fail
        refine (HM1.out w (HAI.out.later HB0.out)).mono ?_
        rintro e w1 ⟨rfl, hb1⟩
        have HB1 := Lib.hid (HB0.out.trans (hb1.mono HB0.out.size))
        clear hb1 HM1
        go_wp2_with fail
        refine (HM2.out w1 (HAI.out.later HB1.out)).mono ?_
        rintro e w2 ⟨rfl, hb2⟩
        have HB2 := Lib.hid (HB1.out.trans (hb2.mono HB1.out.size))
        clear hb2 HM2
        go_wp2_with fail
        refine (HW1.out w2 (HAI.out.later HB2.out)).mono ?_
        rintro e w3 ⟨rfl, hb3⟩
        have HB3 := Lib.hid (HB2.out.trans (hb3.mono HB2.out.size))
        clear hb3 HW1
        go_wp2_with fail
        refine (HW2.out w3 (HAI.out.later HB3.out)).mono ?_
        rintro e w4 ⟨rfl, hb4⟩
        have HB4 := Lib.hid (HB3.out.trans (hb4.mono HB3.out.size))
        clear hb4 HW2
        go_wp2_with fail
        refine (HS.out w4 (HAI.out.later HB4.out)).mono ?_
        rintro e w5 ⟨rfl, hb5⟩
        have HB5 := Lib.hid (HB4.out.trans (hb5.mono HB4.out.size))
        clear hb5 HS
        go_wp2_with fail
        refine (HAW.out w5 (HAI.out.later HB5.out)).mono ?_
        rintro e w6 ⟨rfl, hb6⟩
        have HB6 := Lib.hid (HB5.out.trans (hb6.mono HB5.out.size))
        clear hb6 HAW
        go_wp2_with fail
        go_ret
        exact ⟨rfl, HB6.out⟩
      · go_enter Tryd.func6, Tryd.ntmps6
        go_wp2_with fail
        refine (HM1.out w (HAI.out.later HB0.out)).mono ?_
        rintro e w1 ⟨rfl, hb1⟩
        have HB1 := Lib.hid (HB0.out.trans (hb1.mono HB0.out.size))
        clear hb1 HM1
        go_wp2_with fail
        refine (HM2.out w1 (HAI.out.later HB1.out)).mono ?_
        rintro e w2 ⟨rfl, hb2⟩
        have HB2 := Lib.hid (HB1.out.trans (hb2.mono HB1.out.size))
        clear hb2 HM2
        go_wp2_with fail
        refine (HW1.out w2 (HAI.out.later HB2.out)).mono ?_
        rintro e w3 ⟨rfl, hb3⟩
        have HB3 := Lib.hid (HB2.out.trans (hb3.mono HB2.out.size))
        clear hb3 HW1
        go_wp2_with fail
        refine (HW2.out w3 (HAI.out.later HB3.out)).mono ?_
        rintro e w4 ⟨rfl, hb4⟩
        have HB4 := Lib.hid (HB3.out.trans (hb4.mono HB3.out.size))
        clear hb4 HW2
        go_wp2_with fail
        refine (HS.out w4 (HAI.out.later HB4.out)).mono ?_
        rintro e w5 ⟨rfl, hb5⟩
        have HB5 := Lib.hid (HB4.out.trans (hb5.mono HB4.out.size))
        clear hb5 HS
        go_wp2_with fail
        refine (HAW.out w5 (HAI.out.later HB5.out)).mono ?_
        rintro e w6 ⟨rfl, hb6⟩
        have HB6 := Lib.hid (HB5.out.trans (hb6.mono HB5.out.size))
        clear hb6 HAW
        go_wp2_with fail
        go_ret
        exact ⟨rfl, HB6.out⟩
    · cases ya
      · go_enter Tryd.func6, Tryd.ntmps6
        go_wp2_with fail
        refine (HM1.out w (HAI.out.later HB0.out)).mono ?_
        rintro e w1 ⟨rfl, hb1⟩
        have HB1 := Lib.hid (HB0.out.trans (hb1.mono HB0.out.size))
        clear hb1 HM1
        go_wp2_with fail
        refine (HM2.out w1 (HAI.out.later HB1.out)).mono ?_
        rintro e w2 ⟨rfl, hb2⟩
        have HB2 := Lib.hid (HB1.out.trans (hb2.mono HB1.out.size))
        clear hb2 HM2
        go_wp2_with fail
        refine (HW1.out w2 (HAI.out.later HB2.out)).mono ?_
        rintro e w3 ⟨rfl, hb3⟩
        have HB3 := Lib.hid (HB2.out.trans (hb3.mono HB2.out.size))
        clear hb3 HW1
        go_wp2_with fail
        refine (HW2.out w3 (HAI.out.later HB3.out)).mono ?_
        rintro e w4 ⟨rfl, hb4⟩
        have HB4 := Lib.hid (HB3.out.trans (hb4.mono HB3.out.size))
        clear hb4 HW2
        go_wp2_with fail
        refine (HS.out w4 (HAI.out.later HB4.out)).mono ?_
        rintro e w5 ⟨rfl, hb5⟩
        have HB5 := Lib.hid (HB4.out.trans (hb5.mono HB4.out.size))
        clear hb5 HS
        go_wp2_with fail
        refine (HAW.out w5 (HAI.out.later HB5.out)).mono ?_
        rintro e w6 ⟨rfl, hb6⟩
        have HB6 := Lib.hid (HB5.out.trans (hb6.mono HB5.out.size))
        clear hb6 HAW
        go_wp2_with fail
        go_ret
        exact ⟨rfl, HB6.out⟩
      · have hm1 := hm rfl
        clear hm
        go_enter Tryd.func6, Tryd.ntmps6
        go_wp2_with fail
        refine (HM1.out w (HAI.out.later HB0.out)).mono ?_
        rintro e w1 ⟨rfl, hb1⟩
        have HB1 := Lib.hid (HB0.out.trans (hb1.mono HB0.out.size))
        clear hb1 HM1
        go_wp2_with fail
        refine (HM2.out w1 (HAI.out.later HB1.out)).mono ?_
        rintro e w2 ⟨rfl, hb2⟩
        have HB2 := Lib.hid (HB1.out.trans (hb2.mono HB1.out.size))
        clear hb2 HM2
        go_wp2_with fail
        refine (HW1.out w2 (HAI.out.later HB2.out)).mono ?_
        rintro e w3 ⟨rfl, hb3⟩
        have HB3 := Lib.hid (HB2.out.trans (hb3.mono HB2.out.size))
        clear hb3 HW1
        go_wp2_with fail
        refine (HW2.out w3 (HAI.out.later HB3.out)).mono ?_
        rintro e w4 ⟨rfl, hb4⟩
        have HB4 := Lib.hid (HB3.out.trans (hb4.mono HB3.out.size))
        clear hb4 HW2
        go_wp2_with fail
        refine (HS.out w4 (HAI.out.later HB4.out)).mono ?_
        rintro e w5 ⟨rfl, hb5⟩
        have HB5 := Lib.hid (HB4.out.trans (hb5.mono HB4.out.size))
        clear hb5 HS
        go_wp2_with fail
        refine (HAW.out w5 (HAI.out.later HB5.out)).mono ?_
        rintro e w6 ⟨rfl, hb6⟩
        have HB6 := Lib.hid (HB5.out.trans (hb6.mono HB5.out.size))
        clear hb6 HAW
        go_wp2_with fail
        go_ret
        exact ⟨rfl, HB6.out⟩
  · rcases h2 with rfl | ⟨rfl, hm⟩
    · cases ya
      · go_enter Tryd.func6, Tryd.ntmps6
        go_wp2_with fail
        refine (HM1.out w (HAI.out.later HB0.out)).mono ?_
        rintro e w1 ⟨rfl, hb1⟩
        have HB1 := Lib.hid (HB0.out.trans (hb1.mono HB0.out.size))
        clear hb1 HM1
        go_wp2_with fail
        refine (HM2.out w1 (HAI.out.later HB1.out)).mono ?_
        rintro e w2 ⟨rfl, hb2⟩
        have HB2 := Lib.hid (HB1.out.trans (hb2.mono HB1.out.size))
        clear hb2 HM2
        go_wp2_with fail
        refine (HW1.out w2 (HAI.out.later HB2.out)).mono ?_
        rintro e w3 ⟨rfl, hb3⟩
        have HB3 := Lib.hid (HB2.out.trans (hb3.mono HB2.out.size))
        clear hb3 HW1
        go_wp2_with fail
        refine (HW2.out w3 (HAI.out.later HB3.out)).mono ?_
        rintro e w4 ⟨rfl, hb4⟩
        have HB4 := Lib.hid (HB3.out.trans (hb4.mono HB3.out.size))
        clear hb4 HW2
        go_wp2_with fail
        refine (HS.out w4 (HAI.out.later HB4.out)).mono ?_
        rintro e w5 ⟨rfl, hb5⟩
        have HB5 := Lib.hid (HB4.out.trans (hb5.mono HB4.out.size))
        clear hb5 HS
        go_wp2_with fail
        refine (HAW.out w5 (HAI.out.later HB5.out)).mono ?_
        rintro e w6 ⟨rfl, hb6⟩
        have HB6 := Lib.hid (HB5.out.trans (hb6.mono HB5.out.size))
        clear hb6 HAW
        go_wp2_with fail
        go_ret
        exact ⟨rfl, HB6.out⟩
      · go_enter Tryd.func6, Tryd.ntmps6
        go_wp2_with fail
        refine (HM1.out w (HAI.out.later HB0.out)).mono ?_
        rintro e w1 ⟨rfl, hb1⟩
        have HB1 := Lib.hid (HB0.out.trans (hb1.mono HB0.out.size))
        clear hb1 HM1
        go_wp2_with fail
        refine (HM2.out w1 (HAI.out.later HB1.out)).mono ?_
        rintro e w2 ⟨rfl, hb2⟩
        have HB2 := Lib.hid (HB1.out.trans (hb2.mono HB1.out.size))
        clear hb2 HM2
        go_wp2_with fail
        refine (HW1.out w2 (HAI.out.later HB2.out)).mono ?_
        rintro e w3 ⟨rfl, hb3⟩
        have HB3 := Lib.hid (HB2.out.trans (hb3.mono HB2.out.size))
        clear hb3 HW1
        go_wp2_with fail
        refine (HW2.out w3 (HAI.out.later HB3.out)).mono ?_
        rintro e w4 ⟨rfl, hb4⟩
        have HB4 := Lib.hid (HB3.out.trans (hb4.mono HB3.out.size))
        clear hb4 HW2
        go_wp2_with fail
        refine (HS.out w4 (HAI.out.later HB4.out)).mono ?_
        rintro e w5 ⟨rfl, hb5⟩
        have HB5 := Lib.hid (HB4.out.trans (hb5.mono HB4.out.size))
        clear hb5 HS
        go_wp2_with fail
        refine (HAW.out w5 (HAI.out.later HB5.out)).mono ?_
        rintro e w6 ⟨rfl, hb6⟩
        have HB6 := Lib.hid (HB5.out.trans (hb6.mono HB5.out.size))
        clear hb6 HAW
        go_wp2_with fail
        go_ret
        exact ⟨rfl, HB6.out⟩
    · cases ya
      · go_enter Tryd.func6, Tryd.ntmps6
        go_wp2_with fail
        refine (HM1.out w (HAI.out.later HB0.out)).mono ?_
        rintro e w1 ⟨rfl, hb1⟩
        have HB1 := Lib.hid (HB0.out.trans (hb1.mono HB0.out.size))
        clear hb1 HM1
        go_wp2_with fail
        refine (HM2.out w1 (HAI.out.later HB1.out)).mono ?_
        rintro e w2 ⟨rfl, hb2⟩
        have HB2 := Lib.hid (HB1.out.trans (hb2.mono HB1.out.size))
        clear hb2 HM2
        go_wp2_with fail
        refine (HW1.out w2 (HAI.out.later HB2.out)).mono ?_
        rintro e w3 ⟨rfl, hb3⟩
        have HB3 := Lib.hid (HB2.out.trans (hb3.mono HB2.out.size))
        clear hb3 HW1
        go_wp2_with fail
        refine (HW2.out w3 (HAI.out.later HB3.out)).mono ?_
        rintro e w4 ⟨rfl, hb4⟩
        have HB4 := Lib.hid (HB3.out.trans (hb4.mono HB3.out.size))
        clear hb4 HW2
        go_wp2_with fail
        refine (HS.out w4 (HAI.out.later HB4.out)).mono ?_
        rintro e w5 ⟨rfl, hb5⟩
        have HB5 := Lib.hid (HB4.out.trans (hb5.mono HB4.out.size))
        clear hb5 HS
        go_wp2_with fail
        refine (HAW.out w5 (HAI.out.later HB5.out)).mono ?_
        rintro e w6 ⟨rfl, hb6⟩
        have HB6 := Lib.hid (HB5.out.trans (hb6.mono HB5.out.size))
        clear hb6 HAW
        go_wp2_with fail
        go_ret
        exact ⟨rfl, HB6.out⟩
      · have hm1 := hm rfl
        clear hm
        go_enter Tryd.func6, Tryd.ntmps6
        go_wp2_with fail
        refine (HM1.out w (HAI.out.later HB0.out)).mono ?_
        rintro e w1 ⟨rfl, hb1⟩
        have HB1 := Lib.hid (HB0.out.trans (hb1.mono HB0.out.size))
        clear hb1 HM1
        go_wp2_with fail
        refine (HM2.out w1 (HAI.out.later HB1.out)).mono ?_
        rintro e w2 ⟨rfl, hb2⟩
        have HB2 := Lib.hid (HB1.out.trans (hb2.mono HB1.out.size))
        clear hb2 HM2
        go_wp2_with fail
        refine (HW1.out w2 (HAI.out.later HB2.out)).mono ?_
        rintro e w3 ⟨rfl, hb3⟩
        have HB3 := Lib.hid (HB2.out.trans (hb3.mono HB2.out.size))
        clear hb3 HW1
        go_wp2_with fail
        refine (HW2.out w3 (HAI.out.later HB3.out)).mono ?_
        rintro e w4 ⟨rfl, hb4⟩
        have HB4 := Lib.hid (HB3.out.trans (hb4.mono HB3.out.size))
        clear hb4 HW2
        go_wp2_with fail
        refine (HS.out w4 (HAI.out.later HB4.out)).mono ?_
        rintro e w5 ⟨rfl, hb5⟩
        have HB5 := Lib.hid (HB4.out.trans (hb5.mono HB4.out.size))
        clear hb5 HS
        go_wp2_with fail
        refine (HAW.out w5 (HAI.out.later HB5.out)).mono ?_
        rintro e w6 ⟨rfl, hb6⟩
        have HB6 := Lib.hid (HB5.out.trans (hb6.mono HB5.out.size))
        clear hb6 HAW
        go_wp2_with fail
        go_ret
        exact ⟨rfl, HB6.out⟩
  · have e1 : n = m := congrArg Prod.fst he
    have e2 : h = g := congrArg Prod.snd he
    subst e1
    subst e2
    clear he
    rcases h2 with rfl | ⟨rfl, hm⟩
    · cases yb
      · go_enter Tryd.func6, Tryd.ntmps6
        go_wp2_with fail
        refine (HM1.out w (HAI.out.later HB0.out)).mono ?_
        rintro e w1 ⟨rfl, hb1⟩
        have HB1 := Lib.hid (HB0.out.trans (hb1.mono HB0.out.size))
        clear hb1 HM1
        go_wp2_with fail
        refine (HM2.out w1 (HAI.out.later HB1.out)).mono ?_
        rintro e w2 ⟨rfl, hb2⟩
        have HB2 := Lib.hid (HB1.out.trans (hb2.mono HB1.out.size))
        clear hb2 HM2
        go_wp2_with fail
        refine (HW1.out w2 (HAI.out.later HB2.out)).mono ?_
        rintro e w3 ⟨rfl, hb3⟩
        have HB3 := Lib.hid (HB2.out.trans (hb3.mono HB2.out.size))
        clear hb3 HW1
        go_wp2_with fail
        refine (HW2.out w3 (HAI.out.later HB3.out)).mono ?_
        rintro e w4 ⟨rfl, hb4⟩
        have HB4 := Lib.hid (HB3.out.trans (hb4.mono HB3.out.size))
        clear hb4 HW2
        go_wp2_with fail
        refine (HS.out w4 (HAI.out.later HB4.out)).mono ?_
        rintro e w5 ⟨rfl, hb5⟩
        have HB5 := Lib.hid (HB4.out.trans (hb5.mono HB4.out.size))
        clear hb5 HS
        go_wp2_with fail
        refine (HAW.out w5 (HAI.out.later HB5.out)).mono ?_
        rintro e w6 ⟨rfl, hb6⟩
        have HB6 := Lib.hid (HB5.out.trans (hb6.mono HB5.out.size))
        clear hb6 HAW
        go_wp2_with fail
        go_ret
        exact ⟨rfl, HB6.out⟩
      · go_enter Tryd.func6, Tryd.ntmps6
        go_wp2_with fail
        refine (HM1.out w (HAI.out.later HB0.out)).mono ?_
        rintro e w1 ⟨rfl, hb1⟩
        have HB1 := Lib.hid (HB0.out.trans (hb1.mono HB0.out.size))
        clear hb1 HM1
        go_wp2_with fail
        refine (HM2.out w1 (HAI.out.later HB1.out)).mono ?_
        rintro e w2 ⟨rfl, hb2⟩
        have HB2 := Lib.hid (HB1.out.trans (hb2.mono HB1.out.size))
        clear hb2 HM2
        go_wp2_with fail
        refine (HW1.out w2 (HAI.out.later HB2.out)).mono ?_
        rintro e w3 ⟨rfl, hb3⟩
        have HB3 := Lib.hid (HB2.out.trans (hb3.mono HB2.out.size))
        clear hb3 HW1
        go_wp2_with fail
        refine (HW2.out w3 (HAI.out.later HB3.out)).mono ?_
        rintro e w4 ⟨rfl, hb4⟩
        have HB4 := Lib.hid (HB3.out.trans (hb4.mono HB3.out.size))
        clear hb4 HW2
        go_wp2_with fail
        refine (HS.out w4 (HAI.out.later HB4.out)).mono ?_
        rintro e w5 ⟨rfl, hb5⟩
        have HB5 := Lib.hid (HB4.out.trans (hb5.mono HB4.out.size))
        clear hb5 HS
        go_wp2_with fail
        refine (HAW.out w5 (HAI.out.later HB5.out)).mono ?_
        rintro e w6 ⟨rfl, hb6⟩
        have HB6 := Lib.hid (HB5.out.trans (hb6.mono HB5.out.size))
        clear hb6 HAW
        go_wp2_with fail
        go_ret
        exact ⟨rfl, HB6.out⟩
    · cases yb
      · go_enter Tryd.func6, Tryd.ntmps6
        go_wp2_with fail
        refine (HM1.out w (HAI.out.later HB0.out)).mono ?_
        rintro e w1 ⟨rfl, hb1⟩
        have HB1 := Lib.hid (HB0.out.trans (hb1.mono HB0.out.size))
        clear hb1 HM1
        go_wp2_with fail
        refine (HM2.out w1 (HAI.out.later HB1.out)).mono ?_
        rintro e w2 ⟨rfl, hb2⟩
        have HB2 := Lib.hid (HB1.out.trans (hb2.mono HB1.out.size))
        clear hb2 HM2
        go_wp2_with fail
        refine (HW1.out w2 (HAI.out.later HB2.out)).mono ?_
        rintro e w3 ⟨rfl, hb3⟩
        have HB3 := Lib.hid (HB2.out.trans (hb3.mono HB2.out.size))
        clear hb3 HW1
        go_wp2_with fail
        refine (HW2.out w3 (HAI.out.later HB3.out)).mono ?_
        rintro e w4 ⟨rfl, hb4⟩
        have HB4 := Lib.hid (HB3.out.trans (hb4.mono HB3.out.size))
        clear hb4 HW2
        go_wp2_with fail
        refine (HS.out w4 (HAI.out.later HB4.out)).mono ?_
        rintro e w5 ⟨rfl, hb5⟩
        have HB5 := Lib.hid (HB4.out.trans (hb5.mono HB4.out.size))
        clear hb5 HS
        go_wp2_with fail
        refine (HAW.out w5 (HAI.out.later HB5.out)).mono ?_
        rintro e w6 ⟨rfl, hb6⟩
        have HB6 := Lib.hid (HB5.out.trans (hb6.mono HB5.out.size))
        clear hb6 HAW
        go_wp2_with fail
        go_ret
        exact ⟨rfl, HB6.out⟩
      · have hm1 := hm rfl
        clear hm
        go_enter Tryd.func6, Tryd.ntmps6
        go_wp2_with fail
        refine (HM1.out w (HAI.out.later HB0.out)).mono ?_
        rintro e w1 ⟨rfl, hb1⟩
        have HB1 := Lib.hid (HB0.out.trans (hb1.mono HB0.out.size))
        clear hb1 HM1
        go_wp2_with fail
        refine (HM2.out w1 (HAI.out.later HB1.out)).mono ?_
        rintro e w2 ⟨rfl, hb2⟩
        have HB2 := Lib.hid (HB1.out.trans (hb2.mono HB1.out.size))
        clear hb2 HM2
        go_wp2_with fail
        refine (HW1.out w2 (HAI.out.later HB2.out)).mono ?_
        rintro e w3 ⟨rfl, hb3⟩
        have HB3 := Lib.hid (HB2.out.trans (hb3.mono HB2.out.size))
        clear hb3 HW1
        go_wp2_with fail
        refine (HW2.out w3 (HAI.out.later HB3.out)).mono ?_
        rintro e w4 ⟨rfl, hb4⟩
        have HB4 := Lib.hid (HB3.out.trans (hb4.mono HB3.out.size))
        clear hb4 HW2
        go_wp2_with fail
        refine (HS.out w4 (HAI.out.later HB4.out)).mono ?_
        rintro e w5 ⟨rfl, hb5⟩
        have HB5 := Lib.hid (HB4.out.trans (hb5.mono HB4.out.size))
        clear hb5 HS
        go_wp2_with fail
        refine (HAW.out w5 (HAI.out.later HB5.out)).mono ?_
        rintro e w6 ⟨rfl, hb6⟩
        have HB6 := Lib.hid (HB5.out.trans (hb6.mono HB5.out.size))
        clear hb6 HAW
        go_wp2_with fail
        go_ret
        exact ⟨rfl, HB6.out⟩
end Go.Proofs.YtedfcngadaalpaaDoor
