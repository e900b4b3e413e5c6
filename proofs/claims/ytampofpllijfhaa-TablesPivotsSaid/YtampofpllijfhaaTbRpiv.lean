/-
  place, distinct and value of the reference. Nothing is assumed.
-/
import Derived.Test.YtampofpllijfhaaTbStep
import Derived.Test.YtampofpllijfhaaTbPivot
namespace Go.Proofs.Ytampofpllijfhaa
open Go.RowKit

def PlE (l : Row) (s : ByteArray) (e : Ending) : Prop := (Lib.containsS l s = true ∧ ∃ n : Nat, e = .returned (.int .i64 (n : Int))) ∨ (Lib.containsS l s = false ∧ e = .returned (.int .i64 (-1)))
theorem contains_no {l : Row} {s : ByteArray} (h : ∀ x ∈ l, x ≠ s) : Lib.containsS l s = false := by
  cases hc : Lib.containsS l s with
  | false => rfl
  | true =>
    rw [Lib.containsS_iff] at hc
    exact absurd rfl (h s hc)
theorem mem_take {l : Row} {k : Nat} {s : ByteArray} (h : k < l.length) (h1 : ∀ x ∈ l.take k, x ≠ s) (h2 : l[k] ≠ s) : ∀ x ∈ l.take (k + 1), x ≠ s := by
  intro x hx
  rw [take_snoc l k h] at hx
  rcases List.mem_append.1 hx with hx | hx
  · exact h1 x hx
  · obtain rfl := List.mem_singleton.1 hx
    exact h2

set_option maxRecDepth 100000 in
set_option maxHeartbeats 1600000 in
theorem place_any (x : Value) (l : List ByteArray) (s : ByteArray) (w : World) (P : Nat → Prop) (hx : HoldsS w P x l) :
    Calls Try.prog 78 #[x, .string s] w fun e w' => PlE l s e ∧ w = w' := by
  have HX := Lib.hid hx
  obtain ⟨oa, ca, rfl, _, _⟩ := hx.form
  clear hx
  go_enter Try.func78, Try.ntmps78
  go_wp2_with fail
  go_loop [5] (fun j => ∃ k : Nat, k ≤ l.length ∧ j = .int .i64 k ∧ Hid (∀ x ∈ l.take k, x ≠ s)) (fun j => l.length - (intOf j).toNat)
  case atStart => exact ⟨0, Nat.zero_le _, rfl, Lib.hid (by simp)⟩
  case round =>
    obtain ⟨k, hk, rfl, HN⟩ := hrel
    by_cases hlt : k < l.length
    · obtain ⟨b, off, rfl, hb, hc⟩ := HX.out.at_ (List.getElem?_eq_getElem hlt)
      have hki0 : (0 : Int) ≤ (k : Int) := by omega
      have hki1 : (k : Int) < (l.length : Int) := by omega
      by_cases he : l[k] = s
      · have hze : (l[k].toList == s.toList) = true := by rw [he]; exact beq_self_eq_true _
        have HM : Hid (Lib.containsS l s = true) := Lib.hid (by rw [Lib.containsS_iff, ← he]; exact List.getElem_mem hlt)
        clear he
        go_wp2_with fail
        go_ret
        exact ⟨.inl ⟨HM.out, k, rfl⟩, rfl⟩
      · have hze : (l[k].toList == s.toList) = false := str_ne he
        have HM := Lib.hid (mem_take hlt HN.out he)
        clear he
        go_wp2_with fail
        go_round
        case rel => exact ⟨k + 1, hlt, by go_num, HM⟩
        case measure => simp [intOf]; omega
    · obtain rfl : k = l.length := by omega
      go_wp2_with fail
      go_ret
      refine ⟨.inr ⟨contains_no ?_, rfl⟩, rfl⟩
      have := HN.out
      rwa [List.take_length] at this

set_option maxRecDepth 100000 in
set_option maxHeartbeats 1600000 in
theorem rdistinct_any (x : Value) (l : List ByteArray) (w : World) (B : Nat) (hx : HoldsS w (· < B) x l) (hB : B ≤ w.heap.size) (hl : l.length ≤ 100) :
    Calls Try.prog 67 #[x] w fun e w' => (∃ v, e = .returned v ∧ OwnS w' w.heap.size v (dst l)) ∧ Below w.heap.size w w' := by
  have HX := Lib.hid hx
  obtain ⟨oa, ca, rfl, _, _⟩ := hx.form
  clear hx
  go_enter Try.func67, Try.ntmps67
  go_wp2_with fail
  go_loopw [3, 4] (fun v j wr => ∃ k : Nat, k ≤ l.length ∧ j = .int .i64 k ∧ Hid (OwnS wr w.heap.size v (dstK l k)) ∧ Below w.heap.size w wr) (fun _ j _ => l.length - (intOf j).toNat)
  case atStart => exact ⟨0, Nat.zero_le _, rfl, Lib.hid (OwnS.none _ _), Below.refl _ _⟩
  case round =>
    obtain ⟨k, hk, rfl, HO, hbel⟩ := hrel
    have hsz := hbel.size
    by_cases hlt : k < l.length
    · obtain ⟨b, off, rfl, hb, hc⟩ := HX.out.at_ (List.getElem?_eq_getElem hlt)
      rw [← hbel.cell (p := ⟨b, _, none⟩) (Nat.lt_of_lt_of_le hb hB)] at hc
      have hki0 : (0 : Int) ≤ (k : Int) := by omega
      have hki1 : (k : Int) < (l.length : Int) := by omega
      have HN := Lib.hid (dstK_next l k hlt)
      have HLK := Lib.hid (dstK_len l k hk)
      have HCT := Lib.hid (place_any _ (dstK l k) l[k] wr _ HO.out.holds)
      obtain ⟨D, hD⟩ : ∃ D, dstK l k = D := ⟨_, rfl⟩
      rw [hD] at HO HN HLK HCT
      obtain ⟨ov, cv, rfl⟩ := owns_form HO.out
      clear hD
      by_cases hct : Lib.containsS D l[k] = true
      · have HN2 : Hid (dstK l (k + 1) = D) := Lib.hid (by rw [HN.out]; exact if_pos hct)
        have HCC := Lib.hid hct
        clear hct
        go_wp2_with fail
        refine HCT.out.mono ?_
        rintro e w' ⟨hp, rfl⟩
        obtain ⟨n, rfl⟩ : ∃ n : Nat, e = .returned (.int .i64 (n : Int)) := by
          rcases hp with ⟨_, h⟩ | ⟨h, _⟩
          · exact h
          · rw [HCC.out] at h; cases h
        have hnn : ¬ (n : Int) < 0 := by omega
        clear hp
        go_wp2_with fail
        go_roundw
        case rel => exact ⟨k + 1, hlt, by go_num, Lib.hid (by rw [HN2.out]; exact HO.out), hbel⟩
        case measure => simp [intOf]; omega
      · have HN2 : Hid (dstK l (k + 1) = D ++ [l[k]]) := Lib.hid (by rw [HN.out]; exact if_neg hct)
        have HCC := Lib.hid hct
        clear hct
        go_wp2_with fail
        refine HCT.out.mono ?_
        rintro e w' ⟨hp, rfl⟩
        obtain rfl : e = .returned (.int .i64 (-1)) := by
          rcases hp with ⟨h, _⟩ | ⟨_, h⟩
          · exact absurd h HCC.out
          · exact h
        clear hp
        go_wp2_with (at_builtin; refine append_src rfl _ _ rfl w.heap.size _ _ rfl (HO.out.later (below1 _ _)) (some ⟨wr.heap.size, 0, none⟩) 1 1 rfl [l[k]] rfl (one_src _ _ _) ?c0 ?c1 ?_)
        case c0 => have := HLK.out; omega
        case c1 => simp; omega
        intro v2 w2 hown2 hgrow2
        have hb3 := below_grownT (hbel.alloc hsz _) (by simp; omega) (HO.out.later (below1 _ _)) hgrow2
        have HW := Lib.hid hown2
        clear hown2 hgrow2
        go_wp2_with fail
        go_roundw
        case rel => exact ⟨k + 1, hlt, by go_num, Lib.hid (by rw [HN2.out]; exact HW.out), hb3⟩
        case measure => simp [intOf]; omega
    · obtain rfl : k = l.length := by omega
      have HF : Hid (dstK l l.length = dst l) := Lib.hid (by unfold dstK; rw [List.take_length])
      go_wp2_with fail
      go_ret
      exact ⟨⟨_, rfl, by have h := HO.out; rw [HF.out] at h; exact h⟩, hbel⟩

theorem ret_str {a b : ByteArray} (h : a = b) : Ending.returned (.string a) = .returned (.string b) := by rw [h]
theorem valOf_skip {t : Tab} {k : Nat} {p : Pair} (h : k < t.length) (h1 : valOf (t.take k) p = none) (h2 : rowKey t[k] ≠ p) : valOf (t.take (k + 1)) p = none := by
  unfold valOf at *
  rw [Option.map_eq_none_iff] at *
  rw [take_snoc t k h, List.find?_append, h1]
  simp
  exact h2
theorem valOf_hit {t : Tab} {k : Nat} {p : Pair} (h : k < t.length) (h1 : valOf (t.take k) p = none) (h2 : rowKey t[k] = p) : valOf t p = some (rowVal t[k]) := by
  unfold valOf at *
  rw [Option.map_eq_none_iff] at h1
  have e : t = t.take k ++ t[k] :: t.drop (k + 1) := by rw [← drop_at t k h, List.take_append_drop]
  conv => lhs; rw [e]
  rw [List.find?_append, h1, List.find?_cons_of_pos (by simpa using h2)]
  rfl

set_option maxRecDepth 100000 in
set_option maxHeartbeats 1600000 in
theorem rvalue_any (x : Value) (t : List (List ByteArray)) (key name : ByteArray) (w : World) (P : Nat → Prop) (hx : HoldsT w P x t) (h3 : ∀ r ∈ t, r.length = 3) :
    Calls Try.prog 68 #[x, .string key, .string name] w fun e w' => e = .returned (.string ((valOf t (key, name)).getD ⟨#[]⟩)) ∧ w = w' := by
  have HX := Lib.hid hx
  have H3 := Lib.hid h3
  obtain ⟨oa, ca, rfl, _, _⟩ := hx.form
  clear hx h3
  go_enter Try.func68, Try.ntmps68
  go_wp2_with fail
  go_loop [7] (fun j => ∃ k : Nat, k ≤ t.length ∧ j = .int .i64 k ∧ Hid (valOf (t.take k) (key, name) = none)) (fun j => t.length - (intOf j).toNat)
  case atStart => exact ⟨0, Nat.zero_le _, rfl, Lib.hid rfl⟩
  case round =>
    obtain ⟨k, hk, rfl, HN⟩ := hrel
    by_cases hlt : k < t.length
    · obtain ⟨b, off, o, cr, rfl, hb, h0, hrow⟩ := HX.out.at_ (List.getElem?_eq_getElem hlt)
      have hl3 := H3.out _ (List.getElem_mem hlt)
      have HSK := Lib.hid (fun h => valOf_skip (p := (key, name)) hlt HN.out h)
      have HIT := Lib.hid (fun h => valOf_hit (p := (key, name)) hlt HN.out h)
      obtain ⟨r, hr⟩ : ∃ r, t[k] = r := ⟨_, rfl⟩
      rw [hr] at h0 hrow hl3 HSK HIT
      obtain ⟨a0, a1, a2, rfl⟩ := row3 hl3
      obtain ⟨b2, off2, rfl, hb2, c0⟩ := hrow.at_ (i := 0) rfl
      obtain ⟨b3, off3, e3, hb3, c1⟩ := hrow.at_ (i := 1) rfl
      cases e3
      obtain ⟨b3, off3, e3, hb3, c2⟩ := hrow.at_ (i := 2) rfl
      cases e3
      rw [hl3] at h0
      simp only [Nat.add_zero] at c0
      have hki0 : (0 : Int) ≤ (k : Int) := by omega
      have hki1 : (k : Int) < (t.length : Int) := by omega
      clear hrow hl3 hr HN
      by_cases e0 : a0 = key
      · have q0 : (a0.toList == key.toList) = true := by rw [e0]; exact beq_self_eq_true _
        by_cases e1 : a1 = name
        · have q1 : (a1.toList == name.toList) = true := by rw [e1]; exact beq_self_eq_true _
          have HV : Hid ((valOf t (key, name)).getD ⟨#[]⟩ = a2) := Lib.hid (by rw [HIT.out (by subst e0; subst e1; rfl)]; rfl)
          clear e0 e1
          go_wp2_with fail
          go_ret
          exact ⟨ret_str HV.out.symm, rfl⟩
        · have q1 : (a1.toList == name.toList) = false := str_ne e1
          have HN2 := Lib.hid (HSK.out (by intro e; injection e with e2 e3; exact e1 e3))
          clear e0 e1
          go_wp2_with fail
          go_round
          case rel => exact ⟨k + 1, hlt, by go_num, HN2⟩
          case measure => simp [intOf]; omega
      · have q0 : (a0.toList == key.toList) = false := str_ne e0
        have HN2 := Lib.hid (HSK.out (by intro e; injection e with e2 e3; exact e0 e2))
        clear e0
        go_wp2_with fail
        go_round
        case rel => exact ⟨k + 1, hlt, by go_num, HN2⟩
        case measure => simp [intOf]; omega
    · obtain rfl : k = t.length := by omega
      have HV : Hid ((valOf t (key, name)).getD ⟨#[]⟩ = ⟨#[]⟩) := Lib.hid (by have := HN.out; rw [List.take_length] at this; rw [this]; rfl)
      go_wp2_with fail
      go_ret
      exact ⟨ret_str HV.out.symm, rfl⟩

end Go.Proofs.Ytampofpllijfhaa
