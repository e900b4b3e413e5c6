/-
  Permitted numbers; Sum of the package and of the reference; rows that are filled. Nothing is assumed.
-/
import Derived.Test.YtohooejljbddmaaLsBase
namespace Go.Proofs.Ytohooejljbddmaa
open Go.RowKit

/-- A row of n cells, block g, filled as far as l goes. -/
def RowI (w : World) (g n : Nat) (l : List Int) : Prop :=
  ∃ (cur : Array Value), w.heap[g]? = some (.cells cur 2 (0, 0)) ∧ cur.size = n ∧ cur.toList.take l.length = l.map (Value.int .i64) ∧ l.length ≤ n
theorem RowI.lt {w : World} {g n : Nat} {l : List Int} (h : RowI w g n l) : g < w.heap.size := by
  obtain ⟨cur, hh, _⟩ := h
  rcases Nat.lt_or_ge g w.heap.size with h | h
  · exact h
  · rw [Array.getElem?_eq_none h] at hh; cases hh
theorem RowI.made {w : World} {base g n m : Nat} {xs : List Value} (h : w.ownsRow base 2 1 (.slice (some ⟨g, 0, none⟩) n n) m xs) : RowI w g n [] := by
  rcases h.2 with ⟨h0, _⟩ | ⟨g', cap, cur, hv, _, hh, _, _, hsz, _⟩
  · cases h0
  · cases hv
    exact ⟨cur, hh, by omega, by simp, Nat.zero_le _⟩
theorem RowI.later {w w' : World} {B g n : Nat} {l : List Int} (h : RowI w g n l) (hb : Below B w w') (hg : g < B) : RowI w' g n l := by
  obtain ⟨cur, hh, hr⟩ := h
  exact ⟨cur, (hb.block g hg).trans hh, hr⟩
theorem RowI.cell {w : World} {g n : Nat} {l : List Int} (h : RowI w g n l) (k : Nat) (hk : k < n) : ∃ u, w.cell? ⟨g, k, none⟩ = some u ∧ w.frozen? ⟨g, k, none⟩ = false := by
  obtain ⟨cur, hh, hsz, _⟩ := h
  refine ⟨cur[k], ?_, ?_⟩
  · unfold World.cell?
    rw [hh]
    simp [hsz, hk]
  · unfold World.frozen?
    rw [hh]
    simp
theorem heap_set {w : World} {g o : Nat} {cur : Array Value} {t : TypeId} {fr : Nat × Nat} (h : w.heap[g]? = some (.cells cur t fr)) (v : Value) :
    (w.setCell ⟨g, o, none⟩ v).heap[g]? = some (.cells (cur.setIfInBounds o v) t fr) := by
  simp [World.setCell, Array.getElem?_modify, h]
theorem size_set (w : World) (a : Addr) (v : Value) : (w.setCell a v).heap.size = w.heap.size := by simp [World.setCell]
theorem RowI.step {w : World} {g n k : Nat} {l m : List Int} (h : RowI w g n l) (hk : l.length < n) (ho : k = l.length) (z : Int) (hm : m = l ++ [z]) : RowI (w.setCell ⟨g, k, none⟩ (.int .i64 z)) g n m := by
  subst hm
  obtain ⟨cur, hh, hsz, htk, hle⟩ := h
  refine ⟨_, heap_set hh _, by simp [hsz], ?_, by simp; omega⟩
  subst ho
  rw [List.length_append, List.length_singleton, Array.toList_setIfInBounds, List.map_append]
  apply List.ext_getElem?
  intro i
  rw [List.getElem?_take]
  by_cases h1 : i < l.length
  · rw [if_pos (by omega), List.getElem?_set_ne (by omega), List.getElem?_append_left (by simpa using h1), ← htk, List.getElem?_take, if_pos h1]
  · by_cases h2 : i = l.length
    · subst h2
      rw [if_pos (by omega), List.getElem?_set_self (by simp; omega)]
      simp
    · rw [if_neg (by omega), List.getElem?_eq_none (by simp; omega)]
theorem RowI.other {w : World} {g n : Nat} {l : List Int} (h : RowI w g n l) (a : Addr) (v : Value) (ha : g ≠ a.block) : RowI (w.setCell a v) g n l := by
  obtain ⟨cur, hh, hr⟩ := h
  exact ⟨cur, (Below.heap_setCell _ _ _ _ ha).trans hh, hr⟩
theorem RowI.own {w : World} {g n H : Nat} {l : List Int} (h : RowI w g n l) (hn : l.length = n) (hg : H ≤ g) (hm : n ≤ 1000) : OwnI w H (.slice (some ⟨g, 0, none⟩) n n) l := by
  subst hn
  obtain ⟨cur, hh, hsz, htk, _⟩ := h
  exact ⟨by simp, .inr ⟨g, l.length, cur, rfl, hg, hh, Nat.le_refl _, by unfold maxLen; omega, by omega, by rw [Nat.mul_one]; exact htk⟩⟩

set_option maxRecDepth 100000 in
set_option maxHeartbeats 800000 in
theorem permitted_any (x : Value) (l : List Int) (w : World) (B : Nat) (hx : HoldsI w B x l) (_hl : l.length ≤ 1000) :
    Calls Try.prog 62 #[x] w fun e w' => e = .returned (.bool (okL l)) ∧ w = w' := by
  obtain ⟨oa, ca, rfl, _, _, hel⟩ := hx
  go_enter Try.func62, Try.ntmps62
  go_wp2_with fail
  go_loop [4, 7] (fun _ j => ∃ k : Nat, k ≤ l.length ∧ j = .int .i64 k ∧ Hid (okL (l.take k) = true)) (fun _ j => l.length - (intOf j).toNat)
  case atStart => exact ⟨0, Nat.zero_le _, rfl, Lib.hid rfl⟩
  case round =>
    obtain ⟨k, hk, rfl, HT⟩ := hrel
    by_cases hlt : k < l.length
    · obtain ⟨b, off, rfl, hb, hc⟩ := hel k _ (List.getElem?_eq_getElem hlt)
      have hki0 : (0 : Int) ≤ (k : Int) := by omega
      clear hel
      cases hp : perm l[k] with
      | true =>
        have HP := Lib.hid hp
        obtain ⟨h1, h2⟩ := perm_yes hp
        clear hp
        go_wp2_with fail
        go_round
        case rel => exact ⟨k + 1, hlt, by go_num, Lib.hid (by rw [okL_snoc l k hlt, HT.out, HP.out]; rfl)⟩
        case measure => simp [intOf]; omega
      | false =>
        have HB := Lib.hid (okL_bad (List.getElem?_eq_getElem hlt) hp)
        rcases perm_no hp with h1 | h1
        all_goals
          clear hp
          go_wp2_with fail
          go_ret
          exact ⟨ret_bool HB.out.symm, rfl⟩
    · clear hel
      go_wp2_with fail
      go_ret
      refine ⟨ret_bool ?_, rfl⟩
      have h := HT.out
      rw [okL_all l k (by omega)] at h
      exact h.symm

set_option maxHeartbeats 400000 in
theorem rpermitted_any (n : Int) (w : World) : Calls Try.prog 64 #[.int .i64 n] w fun e w' => e = .returned (.bool (perm n)) ∧ w = w' := by
  cases hp : perm n with
  | true =>
    obtain ⟨h1, h2⟩ := perm_yes hp
    clear hp
    go_enter Try.func64, Try.ntmps64
    go_wp2_with fail
    go_ret
    exact ⟨ret_bool (by first | rfl | (simp; omega)), rfl⟩
  | false =>
    rcases perm_no hp with h1 | h1
    all_goals
      clear hp
      go_enter Try.func64, Try.ntmps64
      go_wp2_with fail
      go_ret
      exact ⟨ret_bool (by first | rfl | (simp; omega)), rfl⟩

set_option maxRecDepth 100000 in
set_option maxHeartbeats 800000 in
theorem rall_any (x : Value) (l : List Int) (w : World) (B : Nat) (hx : HoldsI w B x l) (_hl : l.length ≤ 1000) :
    Calls Try.prog 63 #[x] w fun e w' => e = .returned (.int .i64 (rng (okL l))) ∧ w = w' := by
  obtain ⟨oa, ca, rfl, _, _, hel⟩ := hx
  go_enter Try.func63, Try.ntmps63
  go_wp2_with fail
  go_loop [3] (fun j => ∃ k : Nat, k ≤ l.length ∧ j = .int .i64 k ∧ Hid (okL (l.take k) = true)) (fun j => l.length - (intOf j).toNat)
  case atStart => exact ⟨0, Nat.zero_le _, rfl, Lib.hid rfl⟩
  case round =>
    obtain ⟨k, hk, rfl, HT⟩ := hrel
    by_cases hlt : k < l.length
    · obtain ⟨b, off, rfl, hb, hc⟩ := hel k _ (List.getElem?_eq_getElem hlt)
      have hki0 : (0 : Int) ≤ (k : Int) := by omega
      have HC := Lib.hid (rpermitted_any l[k] w)
      clear hel
      cases hp : perm l[k] with
      | true =>
        have HP := Lib.hid hp
        rw [hp] at HC
        clear hp
        go_wp2_with fail
        refine HC.out.mono ?_
        rintro e w2 ⟨rfl, rfl⟩
        go_wp2_with fail
        go_round
        case rel => exact ⟨k + 1, hlt, by go_num, Lib.hid (by rw [okL_snoc l k hlt, HT.out, HP.out]; rfl)⟩
        case measure => simp [intOf]; omega
      | false =>
        have HB := Lib.hid (okL_bad (List.getElem?_eq_getElem hlt) hp)
        rw [hp] at HC
        clear hp
        go_wp2_with fail
        refine HC.out.mono ?_
        rintro e w2 ⟨rfl, rfl⟩
        go_wp2_with fail
        go_ret
        exact ⟨ret_int (by rw [HB.out]; rfl), rfl⟩
    · clear hel
      go_wp2_with fail
      go_ret
      refine ⟨ret_int ?_, rfl⟩
      have h := HT.out
      rw [okL_all l k (by omega)] at h
      rw [h]
      rfl

set_option maxRecDepth 100000 in
set_option maxHeartbeats 800000 in
theorem sum_any (x : Value) (l : List Int) (w : World) (B : Nat) (hx : HoldsI w B x l) (hl : l.length ≤ 1000) :
    Calls Try.prog 40 #[x] w fun e w' => e = .returned (.tuple #[.int .i64 (smV l), .int .i64 (smE l)]) ∧ Below w.heap.size w w' := by
  have HC := Lib.hid (permitted_any x l w B hx hl)
  obtain ⟨oa, ca, rfl, _, _, hel⟩ := hx
  cases hok : okL l with
  | false =>
    have HE : Hid (smV l = 0 ∧ smE l = 1) := Lib.hid (by unfold smV smE; rw [hok]; exact ⟨rfl, rfl⟩)
    rw [hok] at HC
    clear hel hok
    go_enter Try.func40, Try.ntmps40
    go_wp2_with fail
    refine HC.out.mono ?_
    rintro e w2 ⟨rfl, rfl⟩
    go_wp2_with fail
    go_ret2
    exact ⟨ret_two HE.out.1.symm HE.out.2.symm, Below.refl _ _⟩
  | true =>
    have HOK := Lib.hid hok
    rw [hok] at HC
    clear hok
    go_enter Try.func40, Try.ntmps40
    go_wp2_with fail
    refine HC.out.mono ?_
    rintro e w2 ⟨rfl, rfl⟩
    go_wp2_with fail
    go_loop [4, 6, 12] (fun t _ j => ∃ k : Nat, k ≤ l.length ∧ j = .int .i64 k ∧ t = .int .i64 (sumK l k)) (fun _ _ j => l.length - (intOf j).toNat)
    case atStart => exact ⟨0, Nat.zero_le _, rfl, rfl⟩
    case round =>
      obtain ⟨k, hk, rfl, rfl⟩ := hrel
      have hbd := sumK_bd l HOK.out k hk
      by_cases hlt : k < l.length
      · obtain ⟨b, off, rfl, hb, hc⟩ := hel k _ (List.getElem?_eq_getElem hlt)
        have hpz := perm_yes (okL_at HOK.out (List.getElem?_eq_getElem hlt))
        have HS := Lib.hid (sumK_succ l k hlt)
        have hki0 : (0 : Int) ≤ (k : Int) := by omega
        obtain ⟨h1, h2⟩ := hbd
        obtain ⟨h3, h4⟩ := hpz
        clear hel
        go_wp2_with fail
        go_round
        case rel => exact ⟨k + 1, hlt, by go_num, by rw [HS.out]⟩
        case measure => simp [intOf]; omega
      · have hkl : k = l.length := by omega
        subst hkl
        clear hel hbd
        have HV : Hid (smV l = if perm (sumK l l.length) then sumK l l.length else 0) := Lib.hid (by unfold smV; rw [HOK.out]; rfl)
        have HE : Hid (smE l = rng (perm (sumK l l.length))) := Lib.hid (by unfold smE; rw [HOK.out]; rfl)
        generalize sumK l l.length = s at HV HE ⊢
        have HC2 := fun (W : World) (t : TypeId) => permitted_any (.slice (some ⟨W.heap.size, 0, none⟩) 1 1) [s] (W.alloc (.cells #[.int .i64 s] t)) (W.heap.size + 1) ⟨_, 1, rfl, Nat.le_refl _, by omega, fun i z hz => by
          match i, hz with
          | 0, hz => cases hz; exact ⟨_, 0, rfl, by omega, by simp⟩
          | i + 1, hz => simp at hz⟩ (by simp)
        have HP : Hid (okL [s] = perm s) := Lib.hid (by simp [okL])
        rw [HP.out] at HC2
        have HCC := Lib.hid HC2; clear HC2
        cases hp : perm s with
        | true =>
          rw [hp] at HV HE HCC
          clear hp
          go_wp2_with fail
          refine (HCC.out _ _).mono ?_
          rintro e w2 ⟨rfl, rfl⟩
          go_wp2_with fail
          go_ret2
          exact ⟨ret_two (by rw [HV.out]; rfl) (by rw [HE.out]; rfl), below1 _ _⟩
        | false =>
          rw [hp] at HV HE HCC
          clear hp
          go_wp2_with fail
          refine (HCC.out _ _).mono ?_
          rintro e w2 ⟨rfl, rfl⟩
          go_wp2_with fail
          go_ret2
          exact ⟨ret_two (by rw [HV.out]; rfl) (by rw [HE.out]; rfl), below1 _ _⟩

set_option maxRecDepth 100000 in
set_option maxHeartbeats 800000 in
theorem rsum_any (x : Value) (l : List Int) (w : World) (B : Nat) (hx : HoldsI w B x l) (hl : l.length ≤ 1000) :
    Calls Try.prog 41 #[x] w fun e w' => e = .returned (.tuple #[.int .i64 (smV l), .int .i64 (smE l)]) ∧ Below w.heap.size w w' := by
  have HC := Lib.hid (rall_any x l w B hx hl)
  obtain ⟨oa, ca, rfl, _, _, hel⟩ := hx
  cases hok : okL l with
  | false =>
    have HE : Hid (smV l = 0 ∧ smE l = 1) := Lib.hid (by unfold smV smE; rw [hok]; exact ⟨rfl, rfl⟩)
    rw [hok] at HC
    clear hel hok
    go_enter Try.func41, Try.ntmps41
    go_wp2_with fail
    refine HC.out.mono ?_
    rintro e w2 ⟨rfl, rfl⟩
    go_wp2_with fail
    go_ret2
    exact ⟨ret_two HE.out.1.symm HE.out.2.symm, Below.refl _ _⟩
  | true =>
    have HOK := Lib.hid hok
    rw [hok] at HC
    clear hok
    go_enter Try.func41, Try.ntmps41
    go_wp2_with fail
    refine HC.out.mono ?_
    rintro e w2 ⟨rfl, rfl⟩
    go_wp2_with fail
    go_loop [5, 6] (fun t j => ∃ k : Nat, k ≤ l.length ∧ j = .int .i64 k ∧ t = .int .i64 (sumK l k)) (fun _ j => l.length - (intOf j).toNat)
    case atStart => exact ⟨0, Nat.zero_le _, rfl, rfl⟩
    case round =>
      obtain ⟨k, hk, rfl, rfl⟩ := hrel
      have hbd := sumK_bd l HOK.out k hk
      by_cases hlt : k < l.length
      · obtain ⟨b, off, rfl, hb, hc⟩ := hel k _ (List.getElem?_eq_getElem hlt)
        have hpz := perm_yes (okL_at HOK.out (List.getElem?_eq_getElem hlt))
        have HS := Lib.hid (sumK_succ l k hlt)
        have hki0 : (0 : Int) ≤ (k : Int) := by omega
        obtain ⟨h1, h2⟩ := hbd
        obtain ⟨h3, h4⟩ := hpz
        clear hel
        go_wp2_with fail
        go_round
        case rel => exact ⟨k + 1, hlt, by go_num, by rw [HS.out]⟩
        case measure => simp [intOf]; omega
      · have hkl : k = l.length := by omega
        subst hkl
        clear hel hbd
        have HV : Hid (smV l = if perm (sumK l l.length) then sumK l l.length else 0) := Lib.hid (by unfold smV; rw [HOK.out]; rfl)
        have HE : Hid (smE l = rng (perm (sumK l l.length))) := Lib.hid (by unfold smE; rw [HOK.out]; rfl)
        generalize sumK l l.length = s at HV HE ⊢
        have HCC := Lib.hid (rpermitted_any s w)
        cases hp : perm s with
        | true =>
          rw [hp] at HV HE HCC
          clear hp
          go_wp2_with fail
          refine HCC.out.mono ?_
          rintro e w2 ⟨rfl, rfl⟩
          go_wp2_with fail
          go_ret2
          exact ⟨ret_two (by rw [HV.out]; rfl) (by rw [HE.out]; rfl), Below.refl _ _⟩
        | false =>
          rw [hp] at HV HE HCC
          clear hp
          go_wp2_with fail
          refine HCC.out.mono ?_
          rintro e w2 ⟨rfl, rfl⟩
          go_wp2_with fail
          go_ret2
          exact ⟨ret_two (by rw [HV.out]; rfl) (by rw [HE.out]; rfl), Below.refl _ _⟩

end Go.Proofs.Ytohooejljbddmaa
