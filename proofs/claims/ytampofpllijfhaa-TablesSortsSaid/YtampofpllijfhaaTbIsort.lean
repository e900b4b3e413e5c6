/-
  The stable sort of rows by a column. Nothing is assumed.
-/
import Derived.Test.YtampofpllijfhaaTbRsort
import Derived.BigQuiet
namespace Go.Proofs.Ytampofpllijfhaa
open Go.RowKit

theorem snoc_of {α : Type} {A : List α} {p : Nat} (h : A.length = p + 1) : ∃ (A' : List α) (a : α), A = A' ++ [a] ∧ A'.length = p := by
  rcases List.eq_nil_or_concat A with rfl | ⟨A', a, rfl⟩
  · cases h
  · rw [List.concat_eq_append] at h ⊢
    exact ⟨A', a, rfl, by simpa using h⟩

set_option maxRecDepth 100000 in
set_option maxHeartbeats 6400000 in
theorem isort_any (ov : Option Addr) (cv : Nat) (t : Tab) (k n bx base : Nat) (w : World) (hA : AccD w base (.slice ov t.length cv) t) (hn : ∀ r ∈ t, r.length = n) (hk : k < n) (h8 : t.length ≤ 8) (h0 : w.cell? ⟨bx, 0, none⟩ = some (.int .i64 (k : Int))) (hbx : bx < base) :
    Calls Try.prog 80 #[.slice ov t.length cv, .int .i64 0, .int .i64 (t.length : Int), .func (.func 62) #[] #[.pointer (some ⟨bx, 0, none⟩)]] w fun e w' => e = .returned (.tuple #[]) ∧ AccD w' base (.slice ov t.length cv) (passes (keyS k) t.length t) ∧ Below base w w' := by
  have HA0 := Lib.hid hA
  have HRN := Lib.hid hn
  have H0 := Lib.hid h0
  clear hA hn h0
  have HFIN : Hid (∀ T : Tab, SortedK (keyS k) T → Alike (keyS k) T t → T = passes (keyS k) t.length t) := Lib.hid (fun T h1 h2 => sorted_unique _ h1 (passes_sorted _ t) (h2.trans _ (Alike.symm _ (passes_alike _ t _))))
  have HROW : Hid (∀ T : Tab, Alike (keyS k) T t → ∀ r ∈ T, r.length = n) := Lib.hid (fun T h r hr => HRN.out r (alike_mem _ h hr))
  go_enter Try.func80, Try.ntmps80
  go_wp2_with fail
  go_loopw [8] (fun j wr => ∃ (i : Nat) (p D : Tab), 1 ≤ i ∧ i ≤ t.length + 1 ∧ j = .int .i64 (i : Int) ∧ Hid ((p.length = i ∨ (t.length = 0 ∧ p = [])) ∧ D.length + p.length = t.length ∧ SortedK (keyS k) p ∧ Alike (keyS k) (p ++ D) t) ∧ Hid (AccD wr base (.slice ov t.length cv) (p ++ D)) ∧ Hid (Below base w wr)) (fun j _ => t.length + 1 - (intOf j).toNat)
  case atStart =>
    cases ht : t with
    | nil =>
      subst ht
      exact ⟨1, [], [], Nat.le_refl _, by omega, rfl, Lib.hid ⟨.inr ⟨rfl, rfl⟩, rfl, List.Pairwise.nil, Alike.refl _ _⟩, HA0, Lib.hid (Below.refl _ _)⟩
    | cons r t' =>
      subst ht
      exact ⟨1, [r], t', Nat.le_refl _, by omega, rfl, Lib.hid ⟨.inl rfl, rfl, List.pairwise_singleton .., Alike.refl _ _⟩, HA0, Lib.hid (Below.refl _ _)⟩
  case round =>
    obtain ⟨i, p, D, hi1, hi2, rfl, HF, HA, HBE⟩ := hrel
    obtain ⟨wo, hwo⟩ : ∃ wo : World, wo = wr := ⟨_, rfl⟩
    subst hwo
    by_cases hlt : i < t.length
    · have hltz : (i : Int) < (t.length : Int) := by omega
      obtain ⟨x0, D', rfl⟩ : ∃ x0 D', D = x0 :: D' := by
        have h1 := HF.out.1
        have h2 := HF.out.2.1
        cases D with
        | nil => simp at h2; omega
        | cons x0 D' => exact ⟨x0, D', rfl⟩
      have HPL : Hid (p.length = i ∧ D'.length + i + 1 = t.length ∧ SortedK (keyS k) p ∧ Alike (keyS k) (p ++ x0 :: D') t) := Lib.hid (by
        obtain ⟨h1, h2, h3, h4⟩ := HF.out
        have h5 : p.length = i := by rcases h1 with h1 | h1 <;> omega
        exact ⟨h5, by simp at h2; omega, h3, h4⟩)
      clear HF
      go_wp2_with fail
      go_loopw [9] (fun j wr => ∃ (q : Nat) (A : Tab) (x : Row) (C : Tab), q ≤ i ∧ j = .int .i64 (q : Int) ∧ Hid (A.length = q ∧ A.length + C.length = i ∧ SortedK (keyS k) (A ++ C) ∧ (∀ y ∈ C, keyS k x < keyS k y) ∧ Alike (keyS k) (A ++ x :: (C ++ D')) t) ∧ Hid (AccD wr base (.slice ov t.length cv) (A ++ x :: (C ++ D'))) ∧ Hid (Below base w wr)) (fun j _ => (intOf j).toNat)
      case atStart => exact ⟨i, p, x0, [], Nat.le_refl _, rfl, Lib.hid ⟨HPL.out.1, HPL.out.1, by rw [List.append_nil]; exact HPL.out.2.2.1, by simp, HPL.out.2.2.2⟩, HA, HBE⟩
      case round =>
        obtain ⟨q, A, x, C, hqi, rfl, HG, HA2, HBE2⟩ := hrel
        have HOUT : Hid ((∀ (y : Row) (p' : Tab), A = p' ++ [y] → ¬ keyS k x < keyS k y) → (A ++ x :: C).length = i + 1 ∧ D'.length + (A ++ x :: C).length = t.length ∧ SortedK (keyS k) (A ++ x :: C) ∧ Alike (keyS k) ((A ++ x :: C) ++ D') t ∧ AccD wr base (.slice ov t.length cv) ((A ++ x :: C) ++ D')) := Lib.hid (fun h => by
          obtain ⟨h1, h2, h3, h4, h5⟩ := HG.out
          have h6 : (A ++ x :: C).length = i + 1 := by rw [List.length_append, List.length_cons]; omega
          have e : (A ++ x :: C) ++ D' = A ++ x :: (C ++ D') := by rw [List.append_assoc]; rfl
          exact ⟨h6, by have := HPL.out.2.1; omega, sorted_put _ h3 h4 h, by rw [e]; exact h5, by rw [e]; exact HA2.out⟩)
        by_cases hq0 : 0 < q
        · obtain ⟨jp, hjp⟩ : ∃ jp, q = jp + 1 := ⟨q - 1, by omega⟩
          have HJP := Lib.hid hjp
          have hpi : (q : Int) - 1 = (jp : Int) := by omega
          have hwr : IntKind.i64.wrap (jp : Int) = (jp : Int) := IntWalk.i64_in _ (by omega)
          have hii0 : (0 : Int) ≤ (q : Int) := by omega
          have hpp0 : (0 : Int) ≤ (jp : Int) := by omega
          have hpp1 : (jp : Int) < (t.length : Int) := by omega
          have hii1 : (q : Int) < (t.length : Int) := by omega
          have hq0z : (0 : Int) < (q : Int) := by omega
          obtain ⟨A', a, rfl, hAl⟩ := snoc_of (HG.out.1.trans hjp)
          clear hjp
          have HAL := Lib.hid hAl
          have eT : (A' ++ [a]) ++ x :: (C ++ D') = A' ++ a :: x :: (C ++ D') := by rw [List.append_assoc]; rfl
          have HAT : Hid (Alike (keyS k) (A' ++ a :: x :: (C ++ D')) t) := Lib.hid (by rw [← eT]; exact HG.out.2.2.2.2)
          have HA3 : Hid (AccD wr base (.slice ov t.length cv) (A' ++ a :: x :: (C ++ D'))) := Lib.hid (by rw [← eT]; exact HA2.out)
          have ha : a.length = n := HROW.out _ HAT.out a (by simp)
          have hx : x.length = n := HROW.out _ HAT.out x (by simp)
          obtain ⟨gv, o1, c1, o2, c2, rfl, hgb, hgl, m1, m2, hs1, hs2, z1, z2, _, hsw⟩ := HA3.out.swap
          have HS1 := Lib.hid hs1
          have HS2 := Lib.hid hs2
          have hbw : wr.cell? ⟨bx, 0, none⟩ = some (.int .i64 (k : Int)) := (HBE2.out.cell (p := ⟨bx, 0, none⟩) hbx).trans H0.out
          have hc : ∀ d, Calls Try.prog 62 #[.slice o2 x.length c2, .slice o1 a.length c1, .pointer (some ⟨bx, 0, none⟩)] (wr.drewN d) fun e w' => e = .returned (.int .i64 (Lib.compareBytes (keyS k x) (keyS k a))) ∧ ∃ d', w' = (wr.drewN d).drewN d' := fun d => cmpOne_any _ _ x a k bx (wr.drewN d) _ HS2.out HS1.out (by omega) (by omega) hbw
          have HLT := Lib.hid (cmp_neg (keyS k x) (keyS k a))
          obtain ⟨CB, hCB⟩ : ∃ CB, Lib.compareBytes (keyS k x) (keyS k a) = CB := ⟨_, rfl⟩
          rw [hCB] at HLT hc
          rw [hAl] at m1 m2 z1 z2 hsw
          rw [← HJP.out] at m2 z2 hsw
          rw [ha] at m1 hsw hc
          rw [hx] at m2 hsw hc
          have HSW := Lib.hid hsw
          have HC := Lib.hid hc
          clear hsw hs1 hs2 ha hx hAl hCB hc hbw eT
          by_cases hlv : CB < 0
          · have hxa := HLT.out.1 hlv
            have HREL : Hid (A'.length = jp ∧ A'.length + (a :: C).length = i ∧ SortedK (keyS k) (A' ++ a :: C) ∧ (∀ y ∈ a :: C, keyS k x < keyS k y) ∧ Alike (keyS k) (A' ++ x :: ((a :: C) ++ D')) t) := Lib.hid (by
              obtain ⟨h1, h2, h3, h4, h5⟩ := HG.out
              refine ⟨HAL.out, by simp at h2 ⊢; omega, by rw [List.append_assoc] at h3; exact h3, fun y hy => ?_, ?_⟩
              · rcases List.mem_cons.1 hy with rfl | hy
                · exact hxa
                · exact h4 y hy
              · exact (Alike.symm _ (alike_swap _ A' (C ++ D') hxa)).trans _ HAT.out)
            clear hxa
            go_wp2_with fail
            go_quiet (first | (go_at_call 62; refine Calls.quiet_of (HC.out _)) | (refine Calls.quiet_of (HC.out _)) | (trace_state; fail))
            go_wp2_with fail
            have m1' : (wr.drewN nq).cell? ⟨gv, jp, none⟩ = some (.slice o1 n c1) := m1
            have m2' : (wr.drewN nq).cell? ⟨gv, q, none⟩ = some (.slice o2 n c2) := m2
            have z1' : (wr.drewN nq).frozen? ⟨gv, jp, none⟩ = false := z1
            have z2' : (wr.drewN nq).frozen? ⟨gv, q, none⟩ = false := z2
            have hs' : AccD (((wr.drewN nq).setCell ⟨gv, q, none⟩ (.slice o1 n c1)).setCell ⟨gv, jp, none⟩ (.slice o2 n c2)) base (.slice (some ⟨gv, 0, none⟩) t.length cv) (A' ++ x :: a :: (C ++ D')) := HSW.out
            have hb' : Below base w (wr.drewN nq) := HBE2.out.trans (below_drewN _ _ _)
            generalize wr.drewN nq = wq at m1' m2' z1' z2' hs' hb' ⊢
            have HSX := Lib.hid hs'
            have HBX := Lib.hid hb'
            clear hs' hb'
            go_region
            all_goals
              go_wp2_with fail
              go_roundw
              case rel => exact ⟨jp, A', x, a :: C, by omega, by go_num, HREL, Lib.hid HSX.out, Lib.hid (((HBX.out.setCell (p := ⟨gv, q, none⟩) hgb _).setCell (p := ⟨gv, jp, none⟩) hgb _).drew)⟩
              case measure => simp [intOf]; omega
          · have HOO := Lib.hid (HOUT.out (fun y p' h => by
              have h2 := List.append_inj_right' h rfl
              injection h2 with h3
              rw [← h3]
              exact fun h4 => hlv (HLT.out.2 h4)))
            go_wp2_with fail
            go_quiet (first | (go_at_call 62; refine Calls.quiet_of (HC.out _)) | (refine Calls.quiet_of (HC.out _)) | (trace_state; fail))
            go_wp2_with fail
            go_roundw
            case rel => exact ⟨i + 1, (A' ++ [a]) ++ x :: C, D', by omega, by omega, by go_num, Lib.hid ⟨.inl HOO.out.1, HOO.out.2.1, HOO.out.2.2.1, HOO.out.2.2.2.1⟩, Lib.hid HOO.out.2.2.2.2, Lib.hid (HBE2.out.trans (below_drewN _ _ _))⟩
            case measure => simp [intOf]; omega
        · obtain rfl : q = 0 := by omega
          have HOO := Lib.hid (HOUT.out (fun y p' h => by
            have h1 := HG.out.1
            rw [h] at h1
            simp at h1))
          go_wp2_with fail
          go_region
          all_goals
            go_wp2_with fail
            go_roundw
            case rel => exact ⟨i + 1, A ++ x :: C, D', by omega, by omega, by go_num, Lib.hid ⟨.inl HOO.out.1, HOO.out.2.1, HOO.out.2.2.1, HOO.out.2.2.2.1⟩, Lib.hid HOO.out.2.2.2.2, Lib.hid HBE2.out.drew⟩
            case measure => simp [intOf]; omega
    · have HD : Hid (p ++ D = passes (keyS k) t.length t) := Lib.hid (by
        obtain ⟨h1, h2, h3, h4⟩ := HF.out
        have hd : D = [] := List.eq_nil_of_length_eq_zero (by rcases h1 with h1 | ⟨h1, rfl⟩ <;> omega)
        subst hd
        rw [List.append_nil] at h4 ⊢
        exact HFIN.out p h3 h4)
      go_wp2_with fail
      go_end0
      exact ⟨rfl, by rw [← HD.out]; exact HA.out, HBE.out⟩

end Go.Proofs.Ytampofpllijfhaa
