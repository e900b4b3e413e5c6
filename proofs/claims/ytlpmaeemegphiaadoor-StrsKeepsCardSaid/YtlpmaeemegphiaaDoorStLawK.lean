/-
  The walk of StrsKeeps. Nothing is assumed.
-/
import Derived.Test.YtlpmaeemegphiaaDoorStRepl
namespace Go.Proofs.YtlpmaeemegphiaaDoor
open Go.RowKit

theorem split_at (l : List UInt8) (k : Nat) (old : List UInt8) (ho : Lib.occAt l old k = true) : l = l.take k ++ (old ++ (l.drop k).drop old.length) := by
  unfold Lib.occAt at ho
  obtain ⟨r, hr⟩ := List.isPrefixOf_iff_prefix.1 ho
  rw [← hr, List.drop_left, hr, List.take_append_drop]
theorem rep_both (old : List UInt8) (ho : 0 < old.length) : ∀ (n : Nat) (l : List UInt8), l.length ≤ n →
    rep old old l = l ∧ ∃ m : Nat, l.length = (rep old [] l).length + m * old.length ∧ ((∀ j, j ≤ l.length → Lib.occAt l old j = false) ∨ 0 < m) := by
  intro n
  induction n with
  | zero =>
    intro l hl
    obtain rfl := List.eq_nil_of_length_eq_zero (show l.length = 0 by omega)
    refine ⟨rfl, 0, by rw [rep_nil]; simp, .inl fun j hj => ?_⟩
    obtain rfl : j = 0 := by simpa using hj
    cases h : Lib.occAt [] old 0
    · rfl
    · have := occ_len h (Nat.zero_le _)
      rw [List.length_nil] at this
      omega
  | succ n ih =>
    intro l hl
    rcases index_cases l old with ⟨_, hno⟩ | ⟨k, hk, _, hoc, hno⟩
    · exact ⟨rep_none _ _ ho _ hno, 0, by rw [rep_none _ _ ho _ hno]; simp, .inl hno⟩
    · have hle := occ_len hoc hk
      obtain ⟨h1, m, h2, _⟩ := ih ((l.drop k).drop old.length) (by rw [List.length_drop, List.length_drop]; omega)
      have e : ∀ new, rep old new l = l.take k ++ (new ++ rep old new ((l.drop k).drop old.length)) := fun new => by
        rw [rep_skip _ _ ho k _ hk hno, rep_hit _ _ _ ho (by rw [occ_drop]; simpa using hoc)]
      refine ⟨?_, m + 1, ?_, .inr (by omega)⟩
      · rw [e, h1]
        exact (split_at l k old hoc).symm
      · rw [e, List.nil_append, List.length_append, List.length_take, Nat.min_eq_left hk]
        rw [List.length_drop, List.length_drop] at h2
        rw [Nat.add_mul, Nat.one_mul]
        omega
theorem toList_ne {a b : ByteArray} (h : a.size ≠ b.size) : (a.toList == b.toList) = false := by
  rw [beq_eq_false_iff_ne, ByteArray.toList_eq, ByteArray.toList_eq]
  intro e
  have := congrArg List.length e
  rw [list_len, list_len] at this
  exact h this

set_option maxRecDepth 100000 in
set_option maxHeartbeats 1600000 in
theorem lawKeeps_any (s old : ByteArray) (w : World) (hE : Env w) :
    Calls Tryd.prog 11 #[.string s, .string old] w fun e w' => e = .returned (.bool true) ∧ Below w.heap.size w w' := by
  by_cases h1 : 60 < (s.size : Int)
  · skip
    go_enter Tryd.func11, Tryd.ntmps11
    go_wp2_with fail
    refine (alive_any w hE).mono ?_
    rintro e w2 ⟨rfl, hb⟩
    go_wp2_with fail
    go_ret
    exact ⟨rfl, hb⟩
  by_cases h0 : old.size = 0
  · obtain ⟨f1, f2, _⟩ := nil_fct h0
    clear h0
    go_enter Tryd.func11, Tryd.ntmps11
    go_wp2_with fail
    refine (alive_any w hE).mono ?_
    rintro e w2 ⟨rfl, hb⟩
    go_wp2_with fail
    go_ret
    exact ⟨rfl, hb⟩
  obtain ⟨f1, f2⟩ := ne_fct h0
  have ho : 0 < old.size := by omega
  have hs : s.size ≤ 60 := by omega
  have H1 := fun w hE => replace_any s old old w hE (by omega) (fun h => by omega)
  have H2 := fun w hE => replace_any s old ⟨#[]⟩ w hE (by omega) (fun _ => by decide)
  have H3 := fun w hE => find_any s old w hE (by omega)
  obtain ⟨q1, m, q2, q3⟩ := rep_both old.data.toList (by rw [list_len]; exact ho) _ s.data.toList (Nat.le_refl _)
  rw [list_len, list_len] at q2
  have e1 : rpA s old old = s.data.toList := q1
  have r1 := rc_ok (s := s) (new := old) h0 (by rw [e1, list_len]; omega)
  rw [e1, str_of] at r1
  have e2 : (rpA s old ⟨#[]⟩).length + m * old.size = s.size := q2.symm
  have r2 := rc_ok (s := s) (new := ⟨#[]⟩) h0 (by omega)
  rw [r1.1, r1.2] at H1
  rw [r2.1, r2.2] at H2
  have hB : (str (rpA s old ⟨#[]⟩)).size + m * old.size = s.size := by rw [← list_len (str _)]; exact e2
  have hnone : (∀ j, j ≤ s.data.toList.length → Lib.occAt s.data.toList old.data.toList j = false) → str (rpA s old ⟨#[]⟩) = s := fun h => by rw [rp_none s old ⟨#[]⟩ ho h, str_of]
  generalize str (rpA s old ⟨#[]⟩) = B at *
  clear q1 q2 e1 e2 r1 r2
  have hmod : ((s.size : Int) - (B.size : Int)).tmod (old.size : Int) = 0 := by
    rw [show (s.size : Int) - (B.size : Int) = ((m * old.size : Nat) : Int) by omega, Int.natCast_mul]
    exact Int.mul_tmod_left _ _
  have hBs : ¬ ((s.size : Int) < (B.size : Int)) := by omega
  have hoi : (0 : Int) < (old.size : Int) := by omega
  rcases index_cases s.data.toList old.data.toList with ⟨hi, hno⟩ | ⟨k, hk, hi, hoc, _⟩
  · obtain rfl := hnone hno
    rw [hi] at H3
    clear hi hno q3 hnone hB h0 hs
    go_enter Tryd.func11, Tryd.ntmps11
    go_wp2_with fail
    refine (H1 _ hE).mono ?_
    rintro e w1 ⟨rfl, hb⟩
    have HE0 := Lib.hid (hE.later hb)
    go_wp2_with fail
    refine (H2 _ HE0.out).mono ?_
    rintro e w2 ⟨rfl, hb2⟩
    clear HE0
    replace hb := hb.trans (hb2.mono hb.size)
    clear hb2
    have HE1 := Lib.hid (hE.later hb)
    clear H1 H2
    go_wp2_with fail
    refine (H3 _ HE1.out).mono ?_
    rintro e wq ⟨rfl, hq⟩; obtain rfl := hq.symm
    clear H3 HE1
    have HE := Lib.hid (hE.later hb)
    go_wp2_with fail
    refine (alive_any _ HE.out).mono ?_
    rintro e wz ⟨rfl, hb2⟩
    go_wp2_with fail
    go_ret
    exact ⟨rfl, hb.trans (hb2.mono hb.size)⟩
  · have hm : 0 < m := by
      rcases q3 with h | h
      · rw [h k hk] at hoc
        cases hoc
      · exact h
    have hne : B.size ≠ s.size := by
      have : 0 < m * old.size := Nat.mul_pos hm ho
      omega
    have g := toList_ne hne
    rw [hi] at H3
    clear hi hoc hk q3 hnone hB h0 hs hm hne
    go_enter Tryd.func11, Tryd.ntmps11
    go_wp2_with fail
    refine (H1 _ hE).mono ?_
    rintro e w1 ⟨rfl, hb⟩
    have HE0 := Lib.hid (hE.later hb)
    go_wp2_with fail
    refine (H2 _ HE0.out).mono ?_
    rintro e w2 ⟨rfl, hb2⟩
    clear HE0
    replace hb := hb.trans (hb2.mono hb.size)
    clear hb2
    have HE1 := Lib.hid (hE.later hb)
    clear H1 H2
    go_wp2_with fail
    refine (H3 _ HE1.out).mono ?_
    rintro e wq ⟨rfl, hq⟩; obtain rfl := hq.symm
    clear H3 HE1
    have HE := Lib.hid (hE.later hb)
    go_wp2_with fail
    refine (alive_any _ HE.out).mono ?_
    rintro e wz ⟨rfl, hb2⟩
    go_wp2_with fail
    go_ret
    exact ⟨rfl, hb.trans (hb2.mono hb.size)⟩

end Go.Proofs.YtlpmaeemegphiaaDoor
