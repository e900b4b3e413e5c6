/-
  mapped of package domain: what the letters of a text become. Nothing is assumed.
-/
import Derived.Test.YthnlkijkgnmbhaaDoorDmLet
import Derived.Test.YthnlkijkgnmbhaaDoorDmMap
namespace Go.Proofs.YthnlkijkgnmbhaaDoor
open Go.RowKit

theorem letL_mem {m : Nat} : ∀ c, c ∈ letL m → c = 97 ∨ c = 98 := by
  induction m using Nat.strongRecOn with
  | _ m ih =>
    intro c hc
    by_cases h : 2 ≤ m
    · rw [letL_two h] at hc
      rcases List.mem_append.1 hc with hc | hc
      · exact ih _ (by omega) c hc
      · rw [List.mem_singleton] at hc
        subst hc
        have hr : m % 2 = 0 ∨ m % 2 = 1 := by omega
        rcases hr with hr | hr
        · rw [hr]; exact .inl rfl
        · rw [hr]; exact .inr rfl
    · rw [letL_one (by omega)] at hc; cases hc
theorem strB_size (l : List UInt8) : (strB l).size = l.length := by simp [strB, ByteArray.size]
theorem strB_at (l : List UInt8) (k : Nat) (h : k < (strB l).size) (h' : k < l.length) : (strB l)[k]'h = l[k] := by
  simp [strB]
  rfl
theorem row_form {w : World} {base e n : Nat} {v : Value} {xs : List Value} (h : w.ownsRow base e 1 v n xs) : ∃ ao cap, v = .slice ao n cap := by
  rcases h.2 with ⟨h1, h2⟩ | ⟨g, cap, cur, h1, _⟩
  · exact ⟨none, 0, by rw [h1, h2]⟩
  · exact ⟨_, _, h1⟩
theorem one_new (W : World) (v : Value) (t : TypeId) : ∀ (j : Nat) u, [v][j]? = some u → (W.alloc (.cells #[v] t)).cell? ((⟨W.heap.size, 0, none⟩ : Addr).add j) = some u := new_cells W [v] t
/-- A row of one-cell elements that the call has built, read element by element. -/
theorem row_lst {α : Type} {R : World → Nat → Value → α → Prop} {w : World} {base e : Nat} {v : Value} {n : Nat} {xs : List Value} {l : List α} (h : w.ownsRow base e 1 v n xs) (hn : l.length = n) (hm : n ≤ 9223372036854775807)
    (hr : ∀ (i : Nat) (a : α), l[i]? = some a → ∃ c, xs[i]? = some c ∧ R w w.heap.size c a) : Lst R w w.heap.size v l := by
  subst hn
  rcases h.2 with ⟨rfl, h0⟩ | ⟨g, cap, cur, rfl, hg, hh, _⟩
  · have := List.eq_nil_of_length_eq_zero h0
    subst this
    exact ⟨none, 0, rfl, by simp, fun i a ha => by simp at ha⟩
  · refine ⟨_, cap, rfl, hm, fun i a ha => ?_⟩
    obtain ⟨c, hc, hrc⟩ := hr i a ha
    have hil := (List.getElem?_eq_some_iff.1 ha).1
    have hca := World.ownsRow.cellAt h i (by omega)
    exact ⟨g, 0, c, rfl, (Array.getElem?_eq_some_iff.1 hh).1, by rw [Nat.zero_add, hca, hc], hrc⟩

theorem infoI64 : (Tryd.prog.info? 2).map (fun i => (i.zero, i.size, i.bytes)) = some (some (.int .i64 0), 1, 8) := by kernel_rfl
theorem infoStr : (Tryd.prog.info? 9).map (fun i => (i.zero, i.size, i.bytes)) = some (some (.string ⟨#[]⟩), 1, 16) := by kernel_rfl

set_option maxHeartbeats 400000 in
theorem cell_any (c : UInt8) (w : World) : Calls Tryd.prog 71 #[.int .u8 (c.toNat : Int)] w fun e w' => e = .returned (.string (cellB c)) ∧ w = w' := by
  by_cases h : c.toNat = 97
  · have h1 : ((c.toNat : Int) == 97) = true := by rw [h]; rfl
    have HC := Lib.hid (show cellB c = ⟨#[]⟩ from if_pos h)
    clear h
    go_enter Tryd.func71, Tryd.ntmps71
    go_wp2_with fail
    go_ret
    exact ⟨ret_string HC.out.symm, rfl⟩
  · have h1 : ((c.toNat : Int) == 97) = false := by rw [beq_eq_false_iff_ne]; omega
    have HC := Lib.hid (show cellB c = ⟨#[97]⟩ from if_neg h)
    clear h
    go_enter Tryd.func71, Tryd.ntmps71
    go_wp2_with fail
    go_ret
    exact ⟨ret_string HC.out.symm, rfl⟩
set_option maxHeartbeats 400000 in
theorem digit_any (c : UInt8) (hc : c = 97 ∨ c = 98) (w : World) : Calls Tryd.prog 68 #[.int .u8 (c.toNat : Int)] w fun e w' => e = .returned (.int .i64 ((c.toNat : Int) - 97)) ∧ w = w' := by
  rcases hc with rfl | rfl
  · go_enter Tryd.func68, Tryd.ntmps68
    go_wp2_with fail
    go_ret
    exact ⟨rfl, rfl⟩
  · go_enter Tryd.func68, Tryd.ntmps68
    go_wp2_with fail
    go_ret
    exact ⟨rfl, rfl⟩

set_option maxRecDepth 100000 in
set_option maxHeartbeats 1600000 in
theorem mappedInts_any (l : List UInt8) (hl : l.length ≤ 1000) (hm : ∀ c, c ∈ l → c = 97 ∨ c = 98) (w : World) : Calls Tryd.prog 67 #[.string (strB l), .func (.func 68) #[] #[]] w fun e w' => (∃ sl, e = .returned sl ∧ LInts w' w'.heap.size sl (l.map fun c => (c.toNat : Int) - 97)) ∧ Below w.heap.size w w' := by
  have HM := Lib.hid hm
  clear hm
  obtain ⟨s, hs⟩ : ∃ s, strB l = s := ⟨_, rfl⟩
  have hsz : s.size = l.length := by rw [← hs]; exact strB_size l
  have hat : ∀ k (h : k < s.size) (h' : k < l.length), s[k]'h = l[k] := by subst hs; exact fun k h h' => strB_at l k h h'
  obtain ⟨N, hN⟩ : ∃ N, l.length = N := ⟨_, rfl⟩
  have hsN : (s.size : Int) = (N : Int) := by omega
  have hN1 : (N : Int) ≤ 1000 := by omega
  obtain ⟨i0, hi, hz0, hz1, hz2⟩ := info_parts infoI64
  rw [hs]
  have HS := Lib.hid (And.intro hsz (And.intro hN hat))
  clear hs hsz hat hN
  go_enter Tryd.func67, Tryd.ntmps67
  go_wp2_with fail
  go_loopw [9, 5] (fun kv v wr => ∃ k : Nat, k ≤ N ∧ kv = .int .i64 k ∧ Hid (wr.ownsRow w.heap.size 2 1 v k ((l.take k).map fun c => Value.int .i64 ((c.toNat : Int) - 97)) ∧ Below w.heap.size w wr)) (fun kv _ _ => N - (intOf kv).toNat)
  case atStart => exact ⟨0, Nat.zero_le _, rfl, Lib.hid ⟨⟨rfl, .inl ⟨rfl, rfl⟩⟩, Below.refl _ _⟩⟩
  case round =>
    obtain ⟨k, hk, rfl, HI⟩ := hrel
    obtain ⟨ao, cp, hvf⟩ := row_form HI.out.1
    subst hvf
    by_cases hlt : k < N
    · have hki : (k : Int) < (N : Int) := by omega
      have hks : (k : Int) < (s.size : Int) := by omega
      have hksn : k < s.size := by omega
      have hk0 : (0 : Int) ≤ (k : Int) := by omega
      have hkl : k < l.length := by rw [HS.out.2.1]; exact hlt
      obtain ⟨c, hc⟩ : ∃ c, l[k] = c := ⟨_, rfl⟩
      have hsk : s[k]'hksn = c := by rw [HS.out.2.2 k hksn hkl, hc]
      have HCL := Lib.hid (fun w' => digit_any c (HM.out c (by rw [← hc]; exact List.getElem_mem hkl)) w')
      have HTK := Lib.hid (show (l.take (k + 1)).map (fun c => Value.int .i64 ((c.toNat : Int) - 97)) = (l.take k).map (fun c => Value.int .i64 ((c.toNat : Int) - 97)) ++ [Value.int .i64 ((c.toNat : Int) - 97)] from by rw [List.take_succ_eq_append_getElem hkl, hc, List.map_append]; rfl)
      have HWZ := Lib.hid HI.out.2.size
      have HKN := Lib.hid (show k + 1 ≤ N from hlt)
      clear hc hkl hlt
      go_wp2_with (first | (go_at_call 68; refine (HCL.out _).mono ?_; rintro e w9 ⟨rfl, h9⟩; subst w9) | (at_builtin; refine wpList_append_own _ rfl _ _ 84 rfl w.heap.size 2 i0 (.int .i64 0) 1 8 Tryd.underlying84 hi hz0 hz1 hz2 rfl (by decide) _ _ _ rfl ((HI.out.1).alloc _) ⟨wr.heap.size, 0, none⟩ 1 1 [Value.int .i64 ((c.toNat : Int) - 97)] rfl rfl (one_new _ _ _) (by simp [Value.oneCell']) (by unfold maxLen; omega) (by omega) (by have := HWZ.out; simp; omega) ?_; intro v3 w3 hown3 hg3 _; obtain ⟨ao3, cp3, hvf3⟩ := row_form hown3; subst hvf3; have HO3 := Lib.hid hown3; have HG3 := Lib.hid hg3; clear hown3 hg3))
      refine ⟨⟨k + 1, HKN.out, by go_num, Lib.hid ⟨by rw [HTK.out]; exact HO3.out, (HI.out.2.alloc HWZ.out _).grown HG3.out (by have := HWZ.out; simp; omega) (fun q hq => (World.ownsRow.lt HI.out.1 q hq).1)⟩⟩, by have := HKN.out; simp [intOf]; omega⟩
    · have hkN : k = N := by omega
      subst hkN
      go_wp2_with fail
      go_ret
      refine ⟨⟨_, rfl, ?_⟩, HI.out.2⟩
      have hr := HI.out.1
      rw [List.take_of_length_le (by rw [HS.out.2.1]; exact Nat.le_refl _)] at hr
      refine row_lst hr (by rw [List.length_map]; exact HS.out.2.1) (by omega) (fun i a ha => ?_)
      rw [List.getElem?_map] at ha
      obtain ⟨c, hc, rfl⟩ := Option.map_eq_some_iff.1 ha
      exact ⟨_, by rw [List.getElem?_map, hc]; rfl, rfl⟩

set_option maxRecDepth 100000 in
set_option maxHeartbeats 1600000 in
theorem mappedStrs_any (l : List UInt8) (hl : l.length ≤ 1000) (w : World) : Calls Tryd.prog 70 #[.string (strB l), .func (.func 71) #[] #[]] w fun e w' => (∃ sl, e = .returned sl ∧ LStrs w' w'.heap.size sl (l.map fun c => cellB c)) ∧ Below w.heap.size w w' := by
  obtain ⟨s, hs⟩ : ∃ s, strB l = s := ⟨_, rfl⟩
  have hsz : s.size = l.length := by rw [← hs]; exact strB_size l
  have hat : ∀ k (h : k < s.size) (h' : k < l.length), s[k]'h = l[k] := by subst hs; exact fun k h h' => strB_at l k h h'
  obtain ⟨N, hN⟩ : ∃ N, l.length = N := ⟨_, rfl⟩
  have hsN : (s.size : Int) = (N : Int) := by omega
  have hN1 : (N : Int) ≤ 1000 := by omega
  obtain ⟨i0, hi, hz0, hz1, hz2⟩ := info_parts infoStr
  rw [hs]
  have HS := Lib.hid (And.intro hsz (And.intro hN hat))
  clear hs hsz hat hN
  go_enter Tryd.func70, Tryd.ntmps70
  go_wp2_with fail
  go_loopw [9, 5] (fun kv v wr => ∃ k : Nat, k ≤ N ∧ kv = .int .i64 k ∧ Hid (wr.ownsRow w.heap.size 9 1 v k ((l.take k).map fun c => Value.string (cellB c)) ∧ Below w.heap.size w wr)) (fun kv _ _ => N - (intOf kv).toNat)
  case atStart => exact ⟨0, Nat.zero_le _, rfl, Lib.hid ⟨⟨rfl, .inl ⟨rfl, rfl⟩⟩, Below.refl _ _⟩⟩
  case round =>
    obtain ⟨k, hk, rfl, HI⟩ := hrel
    obtain ⟨ao, cp, hvf⟩ := row_form HI.out.1
    subst hvf
    by_cases hlt : k < N
    · have hki : (k : Int) < (N : Int) := by omega
      have hks : (k : Int) < (s.size : Int) := by omega
      have hksn : k < s.size := by omega
      have hk0 : (0 : Int) ≤ (k : Int) := by omega
      have hkl : k < l.length := by rw [HS.out.2.1]; exact hlt
      obtain ⟨c, hc⟩ : ∃ c, l[k] = c := ⟨_, rfl⟩
      have hsk : s[k]'hksn = c := by rw [HS.out.2.2 k hksn hkl, hc]
      have HCL := Lib.hid (fun w' => cell_any c w')
      have HTK := Lib.hid (show (l.take (k + 1)).map (fun c => Value.string (cellB c)) = (l.take k).map (fun c => Value.string (cellB c)) ++ [Value.string (cellB c)] from by rw [List.take_succ_eq_append_getElem hkl, hc, List.map_append]; rfl)
      have HWZ := Lib.hid HI.out.2.size
      have HKN := Lib.hid (show k + 1 ≤ N from hlt)
      clear hc hkl hlt
      go_wp2_with (first | (go_at_call 71; refine (HCL.out _).mono ?_; rintro e w9 ⟨rfl, h9⟩; subst w9) | (at_builtin; refine wpList_append_own _ rfl _ _ 72 rfl w.heap.size 9 i0 (.string ⟨#[]⟩) 1 16 Tryd.underlying72 hi hz0 hz1 hz2 rfl (by decide) _ _ _ rfl ((HI.out.1).alloc _) ⟨wr.heap.size, 0, none⟩ 1 1 [Value.string (cellB c)] rfl rfl (one_new _ _ _) (by simp [Value.oneCell']) (by unfold maxLen; omega) (by omega) (by have := HWZ.out; simp; omega) ?_; intro v3 w3 hown3 hg3 _; obtain ⟨ao3, cp3, hvf3⟩ := row_form hown3; subst hvf3; have HO3 := Lib.hid hown3; have HG3 := Lib.hid hg3; clear hown3 hg3))
      refine ⟨⟨k + 1, HKN.out, by go_num, Lib.hid ⟨by rw [HTK.out]; exact HO3.out, (HI.out.2.alloc HWZ.out _).grown HG3.out (by have := HWZ.out; simp; omega) (fun q hq => (World.ownsRow.lt HI.out.1 q hq).1)⟩⟩, by have := HKN.out; simp [intOf]; omega⟩
    · have hkN : k = N := by omega
      subst hkN
      go_wp2_with fail
      go_ret
      refine ⟨⟨_, rfl, ?_⟩, HI.out.2⟩
      have hr := HI.out.1
      rw [List.take_of_length_le (by rw [HS.out.2.1]; exact Nat.le_refl _)] at hr
      refine row_lst hr (by rw [List.length_map]; exact HS.out.2.1) (by omega) (fun i a ha => ?_)
      rw [List.getElem?_map] at ha
      obtain ⟨c, hc, rfl⟩ := Option.map_eq_some_iff.1 ha
      exact ⟨_, by rw [List.getElem?_map, hc]; rfl, rfl⟩

set_option maxHeartbeats 400000 in
theorem rowOf_any (c : UInt8) (w : World) : Calls Tryd.prog 74 #[.int .u8 (c.toNat : Int)] w fun e w' => e = .returned (.slice (some ⟨w.heap.size, 0, none⟩) 1 1) ∧ w' = w.alloc (.cells #[.string (cellB c)] 9) := by
  have HC := Lib.hid (cell_any c w)
  go_enter Tryd.func74, Tryd.ntmps74
  go_wp2_with fail
  refine HC.out.mono ?_
  rintro e w9 ⟨rfl, h9⟩
  subst w9
  go_wp2_with fail
  go_ret
  exact ⟨rfl, rfl⟩
theorem own_type {w : World} {base e k b : Nat} {v : Value} {xs : List Value} {cs : Array Value} {t : TypeId} {z : Nat × Nat} (ho : w.ownsRow base e 1 v k xs) (hb : w.heap[b]? = some (.cells cs t z)) (hne : t ≠ e) : v.ownBlock ≠ some b := by
  intro h
  rcases ho.2 with ⟨rfl, _⟩ | ⟨g, cap, cur, rfl, _, hh, _⟩
  · cases h
  · cases h
    rw [hh] at hb
    cases hb
    exact hne rfl
theorem infoStrs : (Tryd.prog.info? 72).map (fun i => (i.zero, i.size, i.bytes)) = some (some (.slice none 0 0), 1, 24) := by kernel_rfl
/-- What a row of texts of one letter each is. -/
def RowsI (w : World) (lo : Nat) (l : List UInt8) (xs : List Value) : Prop := ∀ (i : Nat) (c : UInt8), l[i]? = some c → ∃ b, xs[i]? = some (.slice (some ⟨b, 0, none⟩) 1 1) ∧ lo ≤ b ∧ w.heap[b]? = some (.cells #[.string (cellB c)] 9 (0, 0))

set_option maxRecDepth 100000 in
set_option maxHeartbeats 1600000 in
theorem mappedRows_any (l : List UInt8) (hl : l.length ≤ 1000) (w : World) : Calls Tryd.prog 73 #[.string (strB l), .func (.func 74) #[] #[]] w fun e w' => (∃ sl, e = .returned sl ∧ LRows w' w'.heap.size sl (l.map fun c => [cellB c])) ∧ Below w.heap.size w w' := by
  obtain ⟨s, hs⟩ : ∃ s, strB l = s := ⟨_, rfl⟩
  have hsz : s.size = l.length := by rw [← hs]; exact strB_size l
  have hat : ∀ k (h : k < s.size) (h' : k < l.length), s[k]'h = l[k] := by subst hs; exact fun k h h' => strB_at l k h h'
  obtain ⟨N, hN⟩ : ∃ N, l.length = N := ⟨_, rfl⟩
  have hsN : (s.size : Int) = (N : Int) := by omega
  have hN1 : (N : Int) ≤ 1000 := by omega
  obtain ⟨i0, hi, hz0, hz1, hz2⟩ := info_parts infoStrs
  rw [hs]
  have HS := Lib.hid (And.intro hsz (And.intro hN hat))
  clear hs hsz hat hN
  go_enter Tryd.func73, Tryd.ntmps73
  go_wp2_with fail
  go_loopw [9, 5] (fun kv v wr => ∃ (k : Nat) (xs : List Value), k ≤ N ∧ kv = .int .i64 k ∧ Hid (wr.ownsRow w.heap.size 72 1 v k xs ∧ Below w.heap.size w wr ∧ RowsI wr w.heap.size (l.take k) xs)) (fun kv _ _ => N - (intOf kv).toNat)
  case atStart => exact ⟨0, [], Nat.zero_le _, rfl, Lib.hid ⟨⟨rfl, .inl ⟨rfl, rfl⟩⟩, Below.refl _ _, fun i c h => by simp at h⟩⟩
  case round =>
    obtain ⟨k, xs, hk, rfl, HI⟩ := hrel
    obtain ⟨ao, cp, hvf⟩ := row_form HI.out.1
    subst hvf
    by_cases hlt : k < N
    · have hki : (k : Int) < (N : Int) := by omega
      have hks : (k : Int) < (s.size : Int) := by omega
      have hksn : k < s.size := by omega
      have hk0 : (0 : Int) ≤ (k : Int) := by omega
      have hkl : k < l.length := by rw [HS.out.2.1]; exact hlt
      obtain ⟨c, hc⟩ : ∃ c, l[k] = c := ⟨_, rfl⟩
      have hsk : s[k]'hksn = c := by rw [HS.out.2.2 k hksn hkl, hc]
      have HCL := Lib.hid (fun w' => rowOf_any c w')
      have HTK := Lib.hid (show l.take (k + 1) = l.take k ++ [c] ∧ (l.take k).length = k from ⟨by rw [List.take_succ_eq_append_getElem hkl, hc], by rw [List.length_take]; omega⟩)
      have HWZ := Lib.hid HI.out.2.1.size
      have HKN := Lib.hid (show k + 1 ≤ N from hlt)
      have hb2 : Below wr.heap.size wr (wr.alloc (.cells #[.string (cellB c)] 9)) := below1 _ _
      have HO2 := Lib.hid ((HI.out.1).alloc (.cells #[.string (cellB c)] 9))
      obtain ⟨w2, hw2⟩ : ∃ w2, w2 = wr.alloc (.cells #[.string (cellB c)] 9) := ⟨_, rfl⟩
      have hs2 : w2.heap.size = wr.heap.size + 1 := by rw [hw2]; simp
      have hnew : w2.heap[wr.heap.size]? = some (.cells #[.string (cellB c)] 9 (0, 0)) := by rw [hw2]; exact heap_alloc_new wr _
      rw [← hw2] at hb2 HO2
      have HNW := Lib.hid hnew
      have HW2 := Lib.hid hw2
      have HB2 := Lib.hid hb2
      have HS2 := Lib.hid hs2
      clear hc hkl hlt hw2 hnew hb2 hs2
      go_wp2_with (first | (go_at_call 74; refine (HCL.out _).mono ?_; rintro e w9 ⟨rfl, h9⟩; rw [← HW2.out] at h9; subst w9) | (at_builtin; refine wpList_append_own _ rfl _ _ 91 rfl w.heap.size 72 i0 (.slice none 0 0) 1 24 Tryd.underlying91 hi hz0 hz1 hz2 rfl (by decide) _ _ _ rfl ((HO2.out).alloc _) ⟨w2.heap.size, 0, none⟩ 1 1 [.slice (some ⟨wr.heap.size, 0, none⟩) 1 1] rfl rfl (one_new _ _ _) (by simp [Value.oneCell']) (by unfold maxLen; omega) (by omega) (by have := HWZ.out; have := HS2.out; simp; omega) ?_; intro v3 w3 hown3 hg3 _; obtain ⟨ao3, cp3, hvf3⟩ := row_form hown3; subst hvf3; have HO3 := Lib.hid hown3; have HG3 := Lib.hid hg3; clear hown3 hg3))
      have hkeep : ∀ (b : Nat) (cs : Array Value), w2.heap[b]? = some (.cells cs 9 (0, 0)) → w3.heap[b]? = some (.cells cs 9 (0, 0)) := fun b cs hb => by
        have hlt := (Array.getElem?_eq_some_iff.1 hb).1
        refine (HG3.out.block b (by simp; omega) (fun e => ?_)).trans ((Below.heap_alloc _ _ _ hlt).trans hb)
        exact own_type HO2.out hb (by decide) e.symm
      refine ⟨⟨k + 1, _, HKN.out, by go_num, Lib.hid ⟨HO3.out, ((HI.out.2.1.trans (HB2.out.mono HWZ.out)).alloc (by have := HWZ.out; have := HS2.out; omega) _).grown HG3.out (by have := HWZ.out; have := HS2.out; simp; omega) (fun q hq => (World.ownsRow.lt HI.out.1 q hq).1), fun i a ha => ?_⟩⟩, by have := HKN.out; simp [intOf]; omega⟩
      have hxl : xs.length = k := by have := HI.out.1.1; omega
      rw [HTK.out.1] at ha
      rcases Nat.lt_or_ge i k with hik | hik
      · rw [List.getElem?_append_left (by rw [HTK.out.2]; exact hik)] at ha
        obtain ⟨b, h1, h2, h3⟩ := HI.out.2.2 i a ha
        exact ⟨b, by rw [List.getElem?_append_left (by omega)]; exact h1, h2, hkeep b _ ((HB2.out.block b (Array.getElem?_eq_some_iff.1 h3).1).trans h3)⟩
      · rw [List.getElem?_append_right (by rw [HTK.out.2]; exact hik), HTK.out.2] at ha
        have hi0 : i = k := by
          have := (List.getElem?_eq_some_iff.1 ha).1
          simp at this
          omega
        subst hi0
        rw [Nat.sub_self] at ha
        cases ha
        exact ⟨wr.heap.size, by rw [List.getElem?_append_right (by omega), hxl, Nat.sub_self]; rfl, HWZ.out, hkeep _ _ HNW.out⟩
    · have hkN : k = N := by omega
      subst hkN
      go_wp2_with fail
      go_ret
      refine ⟨⟨_, rfl, ?_⟩, HI.out.2.1⟩
      have hr := HI.out.2.2
      rw [List.take_of_length_le (by rw [HS.out.2.1]; exact Nat.le_refl _)] at hr
      refine row_lst HI.out.1 (by rw [List.length_map]; exact HS.out.2.1) (by omega) (fun i a ha => ?_)
      rw [List.getElem?_map] at ha
      obtain ⟨c, hc, rfl⟩ := Option.map_eq_some_iff.1 ha
      obtain ⟨b, h1, _, h3⟩ := hr i c hc
      refine ⟨_, h1, some ⟨b, 0, none⟩, 1, rfl, by simp, fun j z hz => ?_⟩
      have hj : j = 0 := by
        have := (List.getElem?_eq_some_iff.1 hz).1
        simp at this
        exact this
      subst hj
      cases hz
      exact ⟨b, 0, _, rfl, (Array.getElem?_eq_some_iff.1 h3).1, by unfold World.cell?; rw [h3]; rfl, rfl⟩

end Go.Proofs.YthnlkijkgnmbhaaDoor
