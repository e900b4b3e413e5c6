/-
  Subterms of the reference. Nothing is assumed.
-/
import Derived.Test.YtdfhfljmcakilaaTmRIns
namespace Go.Proofs.Ytdfhfljmcakilaa
open Go.RowKit

theorem subs_bound (v : T) (k : Nat) : (T.subs [] (v.l.take k)).length ≤ v.size ∧ ∀ x, x ∈ T.subs [] (v.l.take k) → x.size ≤ v.size := by
  obtain ⟨_, _, h3, h4⟩ := subs_spec (v.l.take k) (fun x _ => x.sub_spec) [] List.Pairwise.nil
  have h5 := T.sizes_take v.l k
  have h6 := v.size_eq
  refine ⟨by simp at h3; omega, fun x hx => ?_⟩
  rcases h4 x hx with h | h
  · omega
  · cases h
theorem sub_bound (v : T) (k : Nat) (hk : k < v.l.length) (j : Nat) : (insAll (T.subs [] (v.l.take k)) (v.l[k].sub.take j)).length ≤ v.size ∧ ∀ x, x ∈ insAll (T.subs [] (v.l.take k)) (v.l[k].sub.take j) → x.size ≤ v.size := by
  obtain ⟨h1, _, h3, h4⟩ := subs_spec (v.l.take k) (fun x _ => x.sub_spec) [] List.Pairwise.nil
  obtain ⟨_, _, g3, g4⟩ := insAll_spec (v.l[k].sub.take j) _ h1
  obtain ⟨_, _, s3, s4⟩ := v.l[k].sub_spec
  have h5 := T.sizes_take v.l (k + 1)
  rw [List.take_succ_eq_append_getElem hk, T.sizes_snoc] at h5
  have h6 := v.size_eq
  refine ⟨by rw [List.length_take] at g3; simp at h3; omega, fun x hx => ?_⟩
  rcases g4 x hx with h | h
  · have := s4 x (List.mem_of_mem_take h); omega
  rcases h4 x h with h | h
  · omega
  · cases h

set_option maxRecDepth 100000 in
set_option maxHeartbeats 3200000 in
theorem rsubterms_any (v : T) : ∀ (sl : Value) (w : World) (B : Nat), Rep w B sl v.l → B ≤ w.heap.size → v.size ≤ 900 →
    Calls Try.prog 26 #[.agg #[.int .i64 v.r, sl]] w fun e w' => RetL w' v.sub e ∧ Below w.heap.size w w' := by
  induction v using T.ind with
  | h v ih =>
  intro sl w B hrep hB hsz
  have HREP := Lib.hid hrep
  obtain ⟨oa, cap, rfl, hlc, hm, hel⟩ := hrep.slice
  have hlz : v.l.length ≤ 900 := by have := T.len_sizes v.l; have := v.size_eq; omega
  have HEL := Lib.hid hel
  have HIH := Lib.hid ih
  have HBW : Below w.heap.size w (w.alloc (.cells #[.int .i64 v.r, .slice oa v.l.length cap] 24)) := below1 _ _
  have BT : Box (w.alloc (.cells #[.int .i64 v.r, .slice oa v.l.length cap] 24)) w.heap.size v (.slice oa v.l.length cap) := Box.new v _ _ rfl
  have HZZ := Lib.hid (show (w.alloc (.cells #[.int .i64 v.r, .slice oa v.l.length cap] 24)).heap.size = w.heap.size + 1 by simp)
  clear hrep hel ih
  go_enter Try.func26, Try.ntmps26
  go_wp2_with fail
  generalize w.alloc (.cells #[.int .i64 v.r, .slice oa v.l.length cap] 24) = W at *
  go_loopw [3, 4] (fun x i wr => ∃ (k : Nat), k ≤ v.l.length ∧ i = .int .i64 k ∧ Hid (Rep wr wr.heap.size x (T.subs [] (v.l.take k))) ∧ Hid (Below W.heap.size W wr)) (fun _ i _ => v.l.length - (intOf i).toNat)
  case atStart => exact ⟨0, Nat.zero_le _, rfl, Lib.hid (by rw [List.take_zero, T.subs_nil]; exact .nil), Lib.hid (Below.refl _ _)⟩
  case round =>
    obtain ⟨k, hk, rfl, HX, HBR⟩ := hrel
    obtain ⟨W1, hW1⟩ : ∃ W1, W1 = wr := ⟨_, rfl⟩
    subst hW1
    obtain ⟨t0, t1⟩ := BT.later HBR.out (by have := HZZ.out; omega)
    by_cases hlt : k < v.l.length
    · obtain ⟨b, off, oe, ce, rfl, hb, c0, c1, hr⟩ := HEL.out k _ (List.getElem?_eq_getElem hlt)
      have HB1 := Lib.hid (HBW.trans (HBR.out.mono (by have := HZZ.out; omega)))
      rw [← HB1.out.cell (p := ⟨b, _, none⟩) (Nat.lt_of_lt_of_le hb hB)] at c0 c1
      have hle := T.mem_sizes (List.getElem_mem hlt)
      have hle2 : v.l[k].size ≤ 900 := by have := v.size_eq; omega
      have q0 : (0 : Int) ≤ (k : Int) := by omega
      have q1 : (k : Int) < (v.l.length : Int) := by omega
      have HC := Lib.hid (HIH.out _ (List.getElem_mem hlt) _ W1 B (hr.later (HB1.out.mono hB)) (Nat.le_trans hB HB1.out.size) hle2)
      have HSB := Lib.hid (sub_bound v k hlt)
      have HNX : Hid (insAll (T.subs [] (v.l.take k)) v.l[k].sub = T.subs [] (v.l.take (k + 1))) := Lib.hid (by rw [List.take_succ_eq_append_getElem hlt, T.subs_snoc])
      clear hle hr
      generalize v.l[k] = vk at *
      go_wp2_with fail
      refine HC.out.mono ?_
      rintro e w3 ⟨⟨sl3, rfl, h3⟩, hb3⟩
      obtain ⟨o3, cc3, rfl, _, hm3, hel3⟩ := h3.slice
      have H3 := Lib.hid h3
      have HEL3 := Lib.hid hel3
      have HX3 := Lib.hid (HX.out.on hb3)
      have HB3 := Lib.hid (HBR.out.trans (hb3.mono HBR.out.size))
      have hln3 : vk.sub.length ≤ 900 := by have := vk.sub_spec.2.2.1; omega
      have HK3 : Hid (∀ w', Below w3.heap.size w3 w' → w'.cell? ⟨w.heap.size, 0, none⟩ = some (.int .i64 v.r) ∧ w'.cell? ⟨w.heap.size, 1, none⟩ = some (.slice (some ⟨b, off, none⟩) v.l.length cap)) :=
        Lib.hid fun w' hb' => BT.later (HB3.out.trans (hb'.mono HB3.out.size)) (by have := HZZ.out; omega)
      clear h3 hel3 hb3 t0 t1 c0 c1
      go_wp2_with fail
      go_loopw [3, 6] (fun x i wr => ∃ (j : Nat), j ≤ vk.sub.length ∧ i = .int .i64 j ∧ Hid (Rep wr wr.heap.size x (insAll (T.subs [] (v.l.take k)) (vk.sub.take j))) ∧ Hid (Below w3.heap.size w3 wr)) (fun _ i _ => vk.sub.length - (intOf i).toNat)
      case atStart => exact ⟨0, Nat.zero_le _, rfl, Lib.hid (by rw [List.take_zero, insAll_nil]; exact HX3.out), Lib.hid (Below.refl _ _)⟩
      case round =>
        obtain ⟨j, hj, rfl, HY, HBJ⟩ := hrel
        by_cases hjl : j < vk.sub.length
        · obtain ⟨b4, off4, oe4, ce4, rfl, hb4, d0, d1, hr4⟩ := HEL3.out j _ (List.getElem?_eq_getElem hjl)
          rw [← HBJ.out.cell (p := ⟨b4, _, none⟩) hb4] at d0 d1
          have q2 : (0 : Int) ≤ (j : Int) := by omega
          have q3 : (j : Int) < (vk.sub.length : Int) := by omega
          obtain ⟨z1, z2⟩ := HSB.out j
          have hx9 : vk.sub[j].size ≤ 900 := by have := vk.sub_spec.2.2.2 _ (List.getElem_mem hjl); omega
          have HNJ : Hid (ins vk.sub[j] (insAll (T.subs [] (v.l.take k)) (vk.sub.take j)) = insAll (T.subs [] (v.l.take k)) (vk.sub.take (j + 1))) := Lib.hid (by rw [List.take_succ_eq_append_getElem hjl, insAll_snoc])
          have HC2 := Lib.hid (fun x (h : Rep wr wr.heap.size x (insAll (T.subs [] (v.l.take k)) (vk.sub.take j))) => rinsert_any vk.sub[j] _ _ x wr wr.heap.size h ((hr4.later HBJ.out).mono HBJ.out.size) (Nat.le_refl _) (fun y hy => by have := z2 y hy; omega) hx9 (by omega))
          clear hr4 z1 z2
          generalize vk.sub[j] = xj at *
          go_wp2_with fail
          refine (HC2.out _ HY.out).mono ?_
          rintro e w5 ⟨⟨sl5, rfl, h5⟩, hb5⟩
          have H5 := Lib.hid h5
          have HB5 := Lib.hid hb5
          clear h5 hb5
          go_wp2_with fail
          go_roundw
          case rel => exact ⟨j + 1, hjl, by go_num, Lib.hid (by rw [← HNJ.out]; exact H5.out), Lib.hid (HBJ.out.trans (HB5.out.mono HBJ.out.size))⟩
          case measure => simp [intOf]; omega
        · have hjj : j = vk.sub.length := by omega
          have HYE : Hid (∀ x, Rep wr wr.heap.size x (insAll (T.subs [] (v.l.take k)) (vk.sub.take j)) → Rep wr wr.heap.size x (T.subs [] (v.l.take (k + 1)))) := Lib.hid fun x h => by rw [hjj, List.take_length, HNX.out] at h; exact h
          have HQ := Lib.hid hjj
          clear hjj
          go_wp2_with fail
          go_roundw
          case rel => exact ⟨k + 1, hlt, by go_num, Lib.hid (HYE.out _ HY.out), Lib.hid (HB3.out.trans (HBJ.out.mono HB3.out.size))⟩
          case measure => simp [intOf]; omega
    · have hkk : k = v.l.length := by omega
      have HSB := Lib.hid (subs_bound v k)
      have HB1 := Lib.hid (HBW.trans (HBR.out.mono (by have := HZZ.out; omega)))
      have HC := Lib.hid (rclone_any v _ W1 B (HREP.out.later (HB1.out.mono hB)) (Nat.le_trans hB HB1.out.size) hsz)
      have HE : Hid (ins v (T.subs [] (v.l.take k)) = v.sub) := Lib.hid (by rw [hkk, List.take_length, ← T.sub_eq])
      have HQ := Lib.hid hkk
      clear hkk
      go_wp2_with fail
      refine HC.out.mono ?_
      rintro e w3 ⟨⟨sl3, rfl, hf3⟩, hb3⟩
      have HX3 := Lib.hid (HX.out.on hb3)
      have HB3 := Lib.hid (HB1.out.trans (hb3.mono HB1.out.size))
      have HC2 := Lib.hid (fun x (h : Rep w3 w3.heap.size x (T.subs [] (v.l.take k))) => rinsert_any v _ _ x w3 w3.heap.size h (hf3.rep (fun q hq => hq.2)) (Nat.le_refl _) (fun y hy => by have := HSB.out.2 y hy; omega) hsz (by have := HSB.out.1; omega))
      clear hf3 hb3
      go_wp2_with fail
      refine (HC2.out _ HX3.out).mono ?_
      rintro e w5 ⟨⟨sl5, rfl, h5⟩, hb5⟩
      have H5 := Lib.hid h5
      have HB5 := Lib.hid hb5
      clear h5 hb5
      go_wp2_with fail
      go_ret
      exact ⟨RetL.mk H5.out HE.out, HB3.out.trans (HB5.out.mono HB3.out.size)⟩

end Go.Proofs.Ytdfhfljmcakilaa
