/-
  Zip of the package; Running, Shift, Scale, Zip, Append of the reference. Nothing is assumed.
-/
import Derived.Test.YtohooejljbddmaaLsSum2
namespace Go.Proofs.Ytohooejljbddmaa
open Go.RowKit

theorem one_new (w : World) (X : Obj) : (w.alloc X).drew.heap[w.heap.size]? = some X := by
  show (w.heap.push X)[w.heap.size]? = some X
  rw [Array.getElem?_push, if_pos (by simp)]
theorem zipK_at (a b : List Int) : ∀ (n k : Nat) (ha : k < a.length) (hb : k < b.length), k < n → (zipK a b n)[k]? = some (a[k] + b[k])
  | 0, k, _, _, h => absurd h (by omega)
  | n + 1, k, ha, hb, h => by
    rw [zipK]
    have hl := zipK_len a b n
    by_cases e : k = n
    · subst e
      rw [List.getElem?_append_right (by omega), hl]
      simp [ha, hb]
    · rw [List.getElem?_append_left (by omega)]
      exact zipK_at a b n k ha hb (by omega)

set_option maxRecDepth 100000 in
set_option maxHeartbeats 1600000 in
theorem zip_any (x y : Value) (l m : List Int) (w : World) (B : Nat) (hx : HoldsI w B x l) (hy : HoldsI w B y m) (hB : B ≤ w.heap.size) (hl : l.length ≤ 900) (hm : m.length ≤ 900) :
    Calls Try.prog 48 #[x, y] w fun e w' => RetE w.heap.size (yes (zpB l m) (zipL l m)) (rng (zpB l m)) e w' ∧ Below w.heap.size w w' := by
  have HC := Lib.hid (permitted_any x l w _ hx (by omega))
  have HD := Lib.hid (permitted_any y m w _ hy (by omega))
  obtain ⟨oa, ca, rfl, _, _, hel⟩ := hx
  obtain ⟨ob, cb, rfl, _, _, hem⟩ := hy
  obtain ⟨i0, hi, hz0, hz1, hz2⟩ := info_parts infoInt
  cases hok : okL l with
  | false =>
    have HE : Hid (zpB l m = false) := Lib.hid (by unfold zpB; rw [hok]; rfl)
    rw [hok] at HC
    clear hok hel hem
    go_enter Try.func48, Try.ntmps48
    go_wp2_with fail
    refine HC.out.mono ?_
    rintro e w2 ⟨rfl, rfl⟩
    go_wp2_with fail
    go_ret2
    exact ⟨by rw [HE.out]; exact RetE.none _ _ _, Below.refl _ _⟩
  | true =>
    rw [hok] at HC
    cases hok2 : okL m with
    | false =>
      have HE : Hid (zpB l m = false) := Lib.hid (by unfold zpB; rw [hok, hok2]; rfl)
      rw [hok2] at HD
      clear hok hok2 hel hem
      go_enter Try.func48, Try.ntmps48
      go_wp2_with fail
      refine HC.out.mono ?_
      rintro e w2 ⟨rfl, rfl⟩
      go_wp2_with fail
      refine HD.out.mono ?_
      rintro e w2 ⟨rfl, rfl⟩
      go_wp2_with fail
      go_ret2
      exact ⟨by rw [HE.out]; exact RetE.none _ _ _, Below.refl _ _⟩
    | true =>
      have HE : Hid (zpB l m = okL (zipL l m)) := Lib.hid (by unfold zpB; rw [hok, hok2]; rfl)
      have HOK := Lib.hid hok
      have HOK2 := Lib.hid hok2
      rw [hok2] at HD
      have HEL := Lib.hid hel
      have HEM := Lib.hid hem
      obtain ⟨n, hn⟩ : ∃ n : Nat, n = min l.length m.length := ⟨_, rfl⟩
      have hnl : n ≤ l.length := by omega
      have hnm : n ≤ m.length := by omega
      have HN := Lib.hid hn
      clear hok hok2 hel hem hn
      by_cases hle : l.length ≤ m.length
      · have hlei : (l.length : Int) ≤ (m.length : Int) := by omega
        go_enter Try.func48, Try.ntmps48
        go_wp2_with fail
        refine HC.out.mono ?_
        rintro e w2 ⟨rfl, rfl⟩
        go_wp2_with fail
        refine HD.out.mono ?_
        rintro e w2 ⟨rfl, rfl⟩
        go_wp2_with (at_make; refine wpList_make_full _ rfl _ _ 22 rfl w.heap.size 2 i0 _ 1 Try.underlying22 hi hz0 hz1 _ _ _ _ n rfl rfl ?b0 ?b1 ?b2 ?b3 (Nat.le_refl _) ?_)
        case b0 => have := HN.out; omega
        case b1 => have := HN.out; omega
        case b2 => rw [hz2]; omega
        case b3 => unfold maxLen; omega
        intro w1 hown hgrow
        have hrow : RowI w1 w.heap.size n [] := RowI.made hown
        have hg1 : w.heap.size < w1.heap.size := hrow.lt
        have hbw1 : Below w.heap.size w w1 := ((Below.refl _ _).grown hgrow (Nat.le_refl _) (fun k h => by cases h))
        clear hown hgrow
        go_wp2_with fail
        go_loopw [7, 24] (fun _ j wr => ∃ k : Nat, k ≤ n ∧ j = .int .i64 k ∧ Hid (RowI wr w.heap.size n (zipK l m k)) ∧ w.heap.size < wr.heap.size ∧ Below w.heap.size w wr) (fun _ j _ => n - (intOf j).toNat)
        case atStart => exact ⟨0, Nat.zero_le _, rfl, hrow, hg1, hbw1⟩
        case round =>
          obtain ⟨k, hk, rfl, HR, hgr, hbel⟩ := hrel
          have HLN := Lib.hid (zipK_len l m k)
          clear hrow hg1 hbw1
          by_cases hlt : k < n
          · have hkl : k < l.length := by omega
            have hkm : k < m.length := by omega
            obtain ⟨b, off, rfl, hb, hc⟩ := HEL.out k _ (List.getElem?_eq_getElem hkl)
            obtain ⟨b', off', rfl, hb', hc'⟩ := HEM.out k _ (List.getElem?_eq_getElem hkm)
            rw [← hbel.cell (p := ⟨b, _, none⟩) (Nat.lt_of_lt_of_le hb hB)] at hc
            rw [← hbel.cell (p := ⟨b', _, none⟩) (Nat.lt_of_lt_of_le hb' hB)] at hc'
            obtain ⟨h3, h4⟩ := perm_yes (okL_at HOK.out (List.getElem?_eq_getElem hkl))
            obtain ⟨h5, h6⟩ := perm_yes (okL_at HOK2.out (List.getElem?_eq_getElem hkm))
            have hki0 : (0 : Int) ≤ (k : Int) := by omega
            have hki1 : (k : Int) < (l.length : Int) := by omega
            have hki2 : (k : Int) < (m.length : Int) := by omega
            have hki3 : (k : Int) < (n : Int) := by omega
            have hwrap : IntKind.i64.wrap (l[k] + m[k]) = l[k] + m[k] := IntWalk.i64_in _ (by omega)
            have HSN := Lib.hid (zipK_snoc l m k hkl hkm)
            obtain ⟨u0, e0, z0⟩ := HR.out.cell k hlt
            go_wp2_with fail
            go_still_tail 12, (by kernel_rfl)
            go_wp2_with fail
            refine ⟨⟨k + 1, hlt, by go_num, ?_, by simp [World.setCell]; omega, (hbel.setCell (p := ⟨w.heap.size, k, none⟩) (Nat.le_refl _) _).drew⟩, by simp [intOf]; omega⟩
            exact Lib.hid (HR.out.step (by rw [HLN.out]; exact hlt) HLN.out.symm _ (by rw [HSN.out]))
          · have hkl : k = n := by omega
            subst hkl
            have HI := Lib.hid (ifPerm_any _ _ wr w.heap.size (HR.out.own HLN.out (Nat.le_refl _) (by omega)) (by have := HLN.out; omega))
            have HZ : Hid (zipK l m k = zipL l m) := Lib.hid (by unfold zipL; rw [HN.out])
            go_wp2_with fail
            refine HI.out.mono ?_
            rintro e w2 ⟨⟨v, rfl, ho⟩, rfl⟩
            have HO := Lib.hid ho; clear ho
            go_wp2_with fail
            go_ret2
            exact ⟨by rw [HE.out, ← HZ.out]; exact ⟨_, rfl, HO.out⟩, hbel⟩
      · have hlei : ¬ (l.length : Int) ≤ (m.length : Int) := by omega
        go_enter Try.func48, Try.ntmps48
        go_wp2_with fail
        refine HC.out.mono ?_
        rintro e w2 ⟨rfl, rfl⟩
        go_wp2_with fail
        refine HD.out.mono ?_
        rintro e w2 ⟨rfl, rfl⟩
        go_wp2_with (at_make; refine wpList_make_full _ rfl _ _ 22 rfl w.heap.size 2 i0 _ 1 Try.underlying22 hi hz0 hz1 _ _ _ _ n rfl rfl ?b0 ?b1 ?b2 ?b3 (Nat.le_refl _) ?_)
        case b0 => have := HN.out; omega
        case b1 => have := HN.out; omega
        case b2 => rw [hz2]; omega
        case b3 => unfold maxLen; omega
        intro w1 hown hgrow
        have hrow : RowI w1 w.heap.size n [] := RowI.made hown
        have hg1 : w.heap.size < w1.heap.size := hrow.lt
        have hbw1 : Below w.heap.size w w1 := ((Below.refl _ _).grown hgrow (Nat.le_refl _) (fun k h => by cases h))
        clear hown hgrow
        go_wp2_with fail
        go_loopw [7, 24] (fun _ j wr => ∃ k : Nat, k ≤ n ∧ j = .int .i64 k ∧ Hid (RowI wr w.heap.size n (zipK l m k)) ∧ w.heap.size < wr.heap.size ∧ Below w.heap.size w wr) (fun _ j _ => n - (intOf j).toNat)
        case atStart => exact ⟨0, Nat.zero_le _, rfl, hrow, hg1, hbw1⟩
        case round =>
          obtain ⟨k, hk, rfl, HR, hgr, hbel⟩ := hrel
          have HLN := Lib.hid (zipK_len l m k)
          clear hrow hg1 hbw1
          by_cases hlt : k < n
          · have hkl : k < l.length := by omega
            have hkm : k < m.length := by omega
            obtain ⟨b, off, rfl, hb, hc⟩ := HEL.out k _ (List.getElem?_eq_getElem hkl)
            obtain ⟨b', off', rfl, hb', hc'⟩ := HEM.out k _ (List.getElem?_eq_getElem hkm)
            rw [← hbel.cell (p := ⟨b, _, none⟩) (Nat.lt_of_lt_of_le hb hB)] at hc
            rw [← hbel.cell (p := ⟨b', _, none⟩) (Nat.lt_of_lt_of_le hb' hB)] at hc'
            obtain ⟨h3, h4⟩ := perm_yes (okL_at HOK.out (List.getElem?_eq_getElem hkl))
            obtain ⟨h5, h6⟩ := perm_yes (okL_at HOK2.out (List.getElem?_eq_getElem hkm))
            have hki0 : (0 : Int) ≤ (k : Int) := by omega
            have hki1 : (k : Int) < (l.length : Int) := by omega
            have hki2 : (k : Int) < (m.length : Int) := by omega
            have hki3 : (k : Int) < (n : Int) := by omega
            have hwrap : IntKind.i64.wrap (l[k] + m[k]) = l[k] + m[k] := IntWalk.i64_in _ (by omega)
            have HSN := Lib.hid (zipK_snoc l m k hkl hkm)
            obtain ⟨u0, e0, z0⟩ := HR.out.cell k hlt
            go_wp2_with fail
            go_still_tail 12, (by kernel_rfl)
            go_wp2_with fail
            refine ⟨⟨k + 1, hlt, by go_num, ?_, by simp [World.setCell]; omega, (hbel.setCell (p := ⟨w.heap.size, k, none⟩) (Nat.le_refl _) _).drew⟩, by simp [intOf]; omega⟩
            exact Lib.hid (HR.out.step (by rw [HLN.out]; exact hlt) HLN.out.symm _ (by rw [HSN.out]))
          · have hkl : k = n := by omega
            subst hkl
            have HI := Lib.hid (ifPerm_any _ _ wr w.heap.size (HR.out.own HLN.out (Nat.le_refl _) (by omega)) (by have := HLN.out; omega))
            have HZ : Hid (zipK l m k = zipL l m) := Lib.hid (by unfold zipL; rw [HN.out])
            go_wp2_with fail
            refine HI.out.mono ?_
            rintro e w2 ⟨⟨v, rfl, ho⟩, rfl⟩
            have HO := Lib.hid ho; clear ho
            go_wp2_with fail
            go_ret2
            exact ⟨by rw [HE.out, ← HZ.out]; exact ⟨_, rfl, HO.out⟩, hbel⟩

set_option maxRecDepth 100000 in
set_option maxHeartbeats 1600000 in
theorem rzip_any (x y : Value) (l m : List Int) (w : World) (B : Nat) (hx : HoldsI w B x l) (hy : HoldsI w B y m) (hB : B ≤ w.heap.size) (hl : l.length ≤ 900) (hm : m.length ≤ 900) :
    Calls Try.prog 49 #[x, y] w fun e w' => RetE w.heap.size (yes (zpB l m) (zipL l m)) (rng (zpB l m)) e w' ∧ Below w.heap.size w w' := by
  have HC := Lib.hid (rall_any x l w _ hx (by omega))
  have HD := Lib.hid (rall_any y m w _ hy (by omega))
  obtain ⟨oa, ca, rfl, _, _, hel⟩ := hx
  obtain ⟨ob, cb, rfl, _, _, hem⟩ := hy
  cases hok : okL l with
  | false =>
    have HE : Hid (zpB l m = false) := Lib.hid (by unfold zpB; rw [hok]; rfl)
    rw [hok] at HC
    clear hok hel hem
    go_enter Try.func49, Try.ntmps49
    go_wp2_with fail
    refine HC.out.mono ?_
    rintro e w2 ⟨rfl, rfl⟩
    simp only [rng, Bool.false_eq_true, if_false]
    go_wp2_with fail
    go_ret2
    exact ⟨by rw [HE.out]; exact RetE.none _ _ _, Below.refl _ _⟩
  | true =>
    rw [hok] at HC
    cases hok2 : okL m with
    | false =>
      have HE : Hid (zpB l m = false) := Lib.hid (by unfold zpB; rw [hok, hok2]; rfl)
      rw [hok2] at HD
      clear hok hok2 hel hem
      go_enter Try.func49, Try.ntmps49
      go_wp2_with fail
      refine HC.out.mono ?_
      rintro e w2 ⟨rfl, rfl⟩
      simp only [rng, if_true]
      go_wp2_with fail
      refine HD.out.mono ?_
      rintro e w2 ⟨rfl, rfl⟩
      simp only [rng, Bool.false_eq_true, if_false]
      go_wp2_with fail
      go_ret2
      exact ⟨by rw [HE.out]; exact RetE.none _ _ _, Below.refl _ _⟩
    | true =>
      have HE : Hid (zpB l m = okL (zipL l m)) := Lib.hid (by unfold zpB; rw [hok, hok2]; rfl)
      have HOK := Lib.hid hok
      have HOK2 := Lib.hid hok2
      rw [hok2] at HD
      have HEL := Lib.hid hel
      have HEM := Lib.hid hem
      clear hok hok2 hel hem
      go_enter Try.func49, Try.ntmps49
      go_wp2_with fail
      refine HC.out.mono ?_
      rintro e w2 ⟨rfl, rfl⟩
      simp only [rng, if_true]
      go_wp2_with fail
      refine HD.out.mono ?_
      rintro e w2 ⟨rfl, rfl⟩
      simp only [rng, if_true]
      go_wp2_with fail
      go_loopw [6, 7] (fun v j wr => ∃ k : Nat, k ≤ l.length ∧ k ≤ m.length ∧ j = .int .i64 k ∧ Hid (OwnI wr w.heap.size v (zipK l m k)) ∧ Below w.heap.size w wr) (fun _ j _ => l.length - (intOf j).toNat)
      case atStart => exact ⟨0, Nat.zero_le _, Nat.zero_le _, rfl, OwnI.none _ _, Below.refl _ _⟩
      case round =>
        obtain ⟨k, hk, hkm', rfl, HO, hbel⟩ := hrel
        have hsz := hbel.size
        by_cases hlt : k < l.length ∧ k < m.length
        · obtain ⟨hkl, hkm⟩ := hlt
          obtain ⟨b, off, rfl, hb, hc⟩ := HEL.out k _ (List.getElem?_eq_getElem hkl)
          obtain ⟨b', off', rfl, hb', hc'⟩ := HEM.out k _ (List.getElem?_eq_getElem hkm)
          rw [← hbel.cell (p := ⟨b, _, none⟩) (Nat.lt_of_lt_of_le hb hB)] at hc
          rw [← hbel.cell (p := ⟨b', _, none⟩) (Nat.lt_of_lt_of_le hb' hB)] at hc'
          obtain ⟨h3, h4⟩ := perm_yes (okL_at HOK.out (List.getElem?_eq_getElem hkl))
          obtain ⟨h5, h6⟩ := perm_yes (okL_at HOK2.out (List.getElem?_eq_getElem hkm))
          have hki0 : (0 : Int) ≤ (k : Int) := by omega
          have hki1 : (k : Int) < (l.length : Int) := by omega
          have hki2 : (k : Int) < (m.length : Int) := by omega
          have hwrap : IntKind.i64.wrap (l[k] + m[k]) = l[k] + m[k] := IntWalk.i64_in _ (by omega)
          have HSN := Lib.hid (zipK_snoc l m k hkl hkm)
          have HLN := Lib.hid (zipK_len l m k)
          go_wp2_with fail
          have hblk : ∀ X : Obj, (wr.alloc X).drew.heap[wr.heap.size]? = some X := fun X => one_new wr X
          have hn1 : k + 1 ≤ maxLen := by unfold maxLen; omega
          have hby : (k + 1) * 8 ≤ 140737488355328 := by omega
          obtain ⟨i0, hi, hz0, hz1, hz2⟩ := info_parts infoInt
          have HOW : Hid (wr.ownsRow w.heap.size 2 1 u6 k ((zipK l m k).map (Value.int .i64))) := Lib.hid (by have h := HO.out; unfold OwnI at h; rw [HLN.out] at h; exact h)
          go_region_law (
            (refine step_append_lies _ (by rfl) _ _ _ (by rfl) w.heap.size 2 i0 _ 1 8 Try.underlying22 hi hz0 hz1 hz2 rfl (by omega) u6 k ((zipK l m k).map (Value.int .i64)) (by rfl) (HOW.out.alloc _).drew
              ⟨wr.heap.size, 0, none⟩ 1 1 [.int .i64 (l[k] + m[k])] (by rfl) (by rfl) (World.news_of_block (cs := #[.int .i64 (l[k] + m[k])]) (t := 2) (fr := (0, 0)) (hblk _)) (by simp [Value.oneCell'])
              (by omega) hn1 hby (by simp; omega) (wr.heap.size + 1) (by simp) ?_
             intro gg cap2 w3 hown3 hg3 hat hlt1))
          all_goals
            have HO3 : Hid (OwnI w3 w.heap.size (.slice (some ⟨gg, 0, none⟩) (k + 1) cap2) (zipK l m (k + 1))) := Lib.hid (by
              unfold OwnI
              rw [HSN.out, List.length_append, HLN.out, List.map_append]
              exact hown3)
            have hb3 : Below w.heap.size w w3 := ((hbel.alloc hsz _).drew).grown hg3 (by simp; omega) (fun q hq => by
              rcases Nat.lt_or_ge q w.heap.size with h | h
              · exact absurd hq (own_far HO.out h)
              · exact h)
            clear hown3 hg3 hat hlt1 hblk
            go_wp2_with fail
            go_roundw
            case rel => exact ⟨k + 1, hkl, hkm, by go_num, HO3, hb3⟩
            case measure => simp [intOf]; omega
        · have HZ : Hid (zipK l m k = zipL l m) := Lib.hid (by unfold zipL; rw [show min l.length m.length = k by omega])
          have HLN := Lib.hid (zipK_len l m k)
          have HI := fun v => Lib.hid (fun (h : OwnI wr w.heap.size v (zipK l m k)) => rall_any v (zipK l m k) wr _ h.holds (by have := HLN.out; omega))
          have HI2 := Lib.hid (HI _ |>.out HO.out)
          clear HI
          rw [HZ.out] at HI2 HO
          cases ho3 : okL (zipL l m) with
          | true =>
            rw [ho3] at HI2 HE
            by_cases hkl : k < l.length
            · have hkm : ¬ k < m.length := fun h => hlt ⟨hkl, h⟩
              clear hlt ho3
              go_wp2_with fail
              refine HI2.out.mono ?_
              rintro e w2 ⟨rfl, rfl⟩
              simp only [rng, if_true]
              go_wp2_with fail
              go_ret2
              exact ⟨by rw [HE.out]; exact ⟨_, rfl, HO.out⟩, hbel⟩
            · clear hlt ho3
              go_wp2_with fail
              refine HI2.out.mono ?_
              rintro e w2 ⟨rfl, rfl⟩
              simp only [rng, if_true]
              go_wp2_with fail
              go_ret2
              exact ⟨by rw [HE.out]; exact ⟨_, rfl, HO.out⟩, hbel⟩
          | false =>
            rw [ho3] at HI2 HE
            by_cases hkl : k < l.length
            · have hkm : ¬ k < m.length := fun h => hlt ⟨hkl, h⟩
              clear hlt ho3
              go_wp2_with fail
              refine HI2.out.mono ?_
              rintro e w2 ⟨rfl, rfl⟩
              simp only [rng, Bool.false_eq_true, if_false]
              go_wp2_with fail
              go_ret2
              exact ⟨by rw [HE.out]; exact RetE.none _ _ _, hbel⟩
            · clear hlt ho3
              go_wp2_with fail
              refine HI2.out.mono ?_
              rintro e w2 ⟨rfl, rfl⟩
              simp only [rng, Bool.false_eq_true, if_false]
              go_wp2_with fail
              go_ret2
              exact ⟨by rw [HE.out]; exact RetE.none _ _ _, hbel⟩

end Go.Proofs.Ytohooejljbddmaa
