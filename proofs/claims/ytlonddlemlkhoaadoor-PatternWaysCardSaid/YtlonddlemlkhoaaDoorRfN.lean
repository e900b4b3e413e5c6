/-
  ends, Matched and Match of the specification. Nothing is assumed.
-/
import Derived.Deep.RegionHeldLaw
import Derived.Test.YtlonddlemlkhoaaDoorRfI
namespace Go.Proofs.YtlonddlemlkhoaaDoor

section
open Go.RowKit

set_option maxRecDepth 100000 in
set_option maxHeartbeats 3200000 in
theorem ends_3 (s : ByteArray) (hs : s.size ≤ 100) (n : Nat) (hn : (s.size : Int) + 1 = (n : Int)) (t : PT) (hk : t.k = 3) (hsok : Sok t) : EndsOk s n t := by
  have hn2 : n = s.size + 1 := by omega
  have hn3 : n ≤ 101 := by omega
  obtain ⟨i0, hi, hz0, hz1, hz2⟩ := info_parts infoB
  intro w oe ce g F hT hF hFl
  have hFlt := hF.lt
  have HFl := Lib.hid hFl
  have HT0 := Lib.hid hT
  obtain ⟨R, hR⟩ : ∃ R, R = endsT s.data.toList t F := ⟨_, rfl⟩
  have hRl : R.length = n := by rw [hR, endsT_len _ _ _ (by rw [lt_len, hFl, hn2]), lt_len, hn2]
  have HRl := Lib.hid hRl
  rw [← hR]
  rw [endsT_eq, lt_len, ← hn2] at hR
  have HR := Lib.hid hR
  have HN2 := Lib.hid hn2
  have kb2 : (t.k == 2) = false := by rw [hk]; rfl
  have kb3 : (t.k == 3) = true := by rw [hk]; rfl
  have HK := Lib.hid hk
  obtain ⟨w1, hw1⟩ : ∃ w1, w1 = w.alloc (.cells #[.int .i64 t.k, .int .u64 t.s.a, .int .u64 t.s.b, .int .u64 t.s.c, .int .u64 t.s.d, .slice oe t.l.length ce] 33) := ⟨_, rfl⟩
  have HW1 := Lib.hid hw1
  have hs1 : w1.heap.size = w.heap.size + 1 := by rw [hw1]; simp
  have hb1 : Below w.heap.size w w1 := by rw [hw1]; exact below1 _ _
  have HB1 := Lib.hid hb1
  have HX1 : Hid (Box6 w1 w.heap.size (.int .i64 t.k) (.int .u64 t.s.a) (.int .u64 t.s.b) (.int .u64 t.s.c) (.int .u64 t.s.d) (.slice oe t.l.length ce)) := Lib.hid (by rw [hw1]; exact Box6.new _ _ _ _ _ _ _ rfl)
  have HF0 := Lib.hid hF
  clear hw1 hb1 hT hF hR hRl hFl hn2 hk
  unfold PT.val
  go_enter Tryd.func62, Tryd.ntmps62
  go_wp2_with (at_make; refine wpList_make_full _ rfl _ _ 102 rfl (w.heap.size + 1) 4 i0 _ 1 Tryd.underlying102 hi hz0 hz1 _ _ _ _ n rfl rfl rfl rfl ?b2 ?b3 (by simp) ?_)
  case b2 => rw [hz2]; omega
  case b3 => unfold maxLen; omega
  intro w2 hown2 hgrow2
  rw [← HW1.out] at hgrow2
  have hb2 : Below w1.heap.size w1 w2 := (Below.refl _ _).grown hgrow2 (Nat.le_refl _) (fun k h => by cases h)
  have HO : Hid (BB w2 (w.heap.size + 1) (List.replicate n false)) := Lib.hid (BB.of_own hown2)
  have HB : Hid (Below w.heap.size w w2) := Lib.hid (HB1.out.trans (hb2.mono (by omega)))
  have HX : Hid (Box6 w2 w.heap.size (.int .i64 t.k) (.int .u64 t.s.a) (.int .u64 t.s.b) (.int .u64 t.s.c) (.int .u64 t.s.d) (.slice oe t.l.length ce)) := Lib.hid (HX1.out.later hb2 (by omega))
  have hs2 : w.heap.size + 2 ≤ w2.heap.size := by have := HO.out.lt; omega
  have HF : Hid (BB w2 g F) := Lib.hid (HF0.out.later HB.out hFlt)
  have HT2 : Hid (HT w2 (· < w.heap.size) (.slice oe t.l.length ce) t.l) := Lib.hid (HT0.out.later (fun _ h => h) (fun b hb o => HB.out.cell (p := ⟨b, o, none⟩) hb))
  clear hown2 hgrow2 hb2 HX1 HB1 HT0 HF0
  obtain ⟨x0, x1, x2, x3, x4, x5, xf⟩ := HX.out
  have HRe : Hid (R = false :: clsE t.s s.data.toList F) := Lib.hid (by rw [HR.out, if_neg (by rw [HK.out]; decide), if_pos HK.out])
  have HOk := Lib.hid (hsok.here)
  clear HR HK hsok
  go_wp2_with fail
  go_loopw [8] (fun v wr => ∃ i : Nat, v = .int .i64 (i : Int) ∧ i ≤ s.size ∧ Hid (BB wr (w.heap.size + 1) (fillL R (i + 1))) ∧ Hid (BB wr g F) ∧ Hid (Box6 wr w.heap.size (.int .i64 t.k) (.int .u64 t.s.a) (.int .u64 t.s.b) (.int .u64 t.s.c) (.int .u64 t.s.d) (.slice oe t.l.length ce)) ∧ Hid (Below w.heap.size w wr) ∧ w.heap.size + 2 ≤ wr.heap.size) (fun v _ => s.size - (intOf v).toNat)
  case atStart =>
    refine ⟨0, rfl, Nat.zero_le _, Lib.hid ?_, HF, HX, HB, hs2⟩
    have hr0 : 0 < R.length := by have := HRl.out; have := HN2.out; omega
    rw [Nat.zero_add, fillL_one R hr0 (by have h := HRe.out; subst h; rfl), HRl.out]
    exact HO.out
  case round =>
    obtain ⟨i, rfl, hii, HOr, HFr, HXr, HBr, hsr⟩ := hrel
    clear HO HF HX HB hs2 HT2 x0 x1 x2 x3 x4 x5 xf
    obtain ⟨y0, y1, y2, y3, y4, y5, yf⟩ := HXr.out
    by_cases hlt : i < s.size
    · have hltI : (i : Int) < (s.size : Int) := by omega
      have hi0 : (0 : Int) ≤ (i : Int) := by omega
      obtain ⟨m, hm⟩ : ∃ m : Nat, (i : Int) + 1 = (m : Int) := ⟨i + 1, by omega⟩
      have hmi : m = i + 1 := by omega
      have HMi := Lib.hid hmi
      have hm0 : (0 : Int) ≤ (m : Int) := by omega
      have hmn : (m : Int) < (n : Int) := by have := HN2.out; omega
      have hin : (i : Int) < (n : Int) := by have := HN2.out; omega
      have hwm : IntKind.i64.wrap (m : Int) = (m : Int) := IntWalk.i64_in _ (by omega)
      have hn0 : (0 : Int) ≤ (n : Int) := by omega
      obtain ⟨fb, hfb⟩ : ∃ fb, F[i]? = some fb := ⟨_, List.getElem?_eq_getElem (by have := HFl.out; have := HN2.out; omega)⟩
      have hc8 : (s[i]'hlt).toNat < 256 := UInt8.toNat_lt _
      have hwc : IntKind.i64.wrap (((s[i]'hlt).toNat : Nat) : Int) = (((s[i]'hlt).toNat : Nat) : Int) := IntWalk.i64_in _ (by omega)
      have hjl : i < s.data.toList.length := by rw [lt_len]; exact hlt
      have hRm : R[m]? = some (fb && t.s.has (s[i]'hlt).toNat) := by
        rw [HRe.out, hmi, List.getElem?_cons_succ]
        exact clsE_at _ _ _ _ _ _ (lt_at s i hlt) hfb
      have hml : m < R.length := (List.getElem?_eq_some_iff.1 hRm).1
      have HFS : Hid ((fillL R (i + 1)).set m (fb && t.s.has (s[i]'hlt).toNat) = fillL R (i + 1 + 1)) := Lib.hid (by
        have h := fillL_set R m hml
        rw [(List.getElem?_eq_some_iff.1 hRm).2] at h
        rw [← hmi]
        exact h)
      have HCF : Hid (∀ V, Below wr.heap.size wr V → V.cell? ⟨g, i, none⟩ = some (.bool fb) ∧ V.cell? ⟨w.heap.size, 1, none⟩ = some (.int .u64 t.s.a) ∧ V.cell? ⟨w.heap.size, 2, none⟩ = some (.int .u64 t.s.b) ∧ V.cell? ⟨w.heap.size, 3, none⟩ = some (.int .u64 t.s.c) ∧ V.cell? ⟨w.heap.size, 4, none⟩ = some (.int .u64 t.s.d)) := Lib.hid (fun V hV => by
        obtain ⟨q0, q1, q2, q3, q4, q5, qf⟩ := HXr.out.later hV (by omega)
        exact ⟨(HFr.out.later hV HFr.out.lt).cell hfb, q1, q2, q3, q4⟩)
      have HST : Hid (∀ V, Below wr.heap.size wr V → (∃ y, V.cell? ⟨w.heap.size + 1, m, none⟩ = some (.bool y)) ∧ V.frozen? ⟨w.heap.size + 1, m, none⟩ = false) := Lib.hid (fun V hV => by
        have h := HOr.out.later hV HOr.out.lt
        have hl := fillL_len R (i + 1) (by omega)
        exact ⟨⟨_, h.cell (List.getElem?_eq_getElem (by omega))⟩, h.free _⟩)
      have HHas := Lib.hid (rHas_any t.s HOk.out (s[i]'hlt).toNat hc8 wr.drew)
      have HEND : Hid (∀ V (b : Bool), Below wr.heap.size wr V → b = (fb && t.s.has (s[i]'hlt).toNat) → BB (V.setCell ⟨w.heap.size + 1, m, none⟩ (.bool b)) (w.heap.size + 1) (fillL R (i + 1 + 1)) ∧ BB (V.setCell ⟨w.heap.size + 1, m, none⟩ (.bool b)) g F ∧ Box6 (V.setCell ⟨w.heap.size + 1, m, none⟩ (.bool b)) w.heap.size (.int .i64 t.k) (.int .u64 t.s.a) (.int .u64 t.s.b) (.int .u64 t.s.c) (.int .u64 t.s.d) (.slice oe t.l.length ce) ∧ Below w.heap.size w (V.setCell ⟨w.heap.size + 1, m, none⟩ (.bool b)) ∧ w.heap.size + 2 ≤ (V.setCell ⟨w.heap.size + 1, m, none⟩ (.bool b)).heap.size) := Lib.hid (fun V b hV hb => by
        subst hb
        refine ⟨?_, ?_, ?_, ?_, ?_⟩
        · rw [← HFS.out]; exact (HOr.out.later hV HOr.out.lt).set m _
        · exact (HFr.out.later hV HFr.out.lt).far (by show g ≠ w.heap.size + 1; omega) _
        · exact (HXr.out.later hV (by omega)).of_block (Below.heap_setCell _ _ _ _ (by show w.heap.size ≠ w.heap.size + 1; omega))
        · exact (HBr.out.trans (hV.mono (by omega))).setCell (p := ⟨w.heap.size + 1, m, none⟩) (by show w.heap.size ≤ w.heap.size + 1; omega) _
        · have := hV.size; simp [World.setCell]; omega)
      obtain ⟨ka, kb, kc, kd, ke⟩ := HCF.out wr.drew (Below.refl _ _).drew
      obtain ⟨⟨yy, hyy⟩, hyf⟩ := HST.out wr.drew (Below.refl _ _).drew
      have HK6 : Hid (∀ (V : World) (u : Value), (V.cell? ⟨g, i, none⟩ = some (.bool fb) ∧ V.cell? ⟨w.heap.size, 1, none⟩ = some (.int .u64 t.s.a) ∧ V.cell? ⟨w.heap.size, 2, none⟩ = some (.int .u64 t.s.b) ∧ V.cell? ⟨w.heap.size, 3, none⟩ = some (.int .u64 t.s.c) ∧ V.cell? ⟨w.heap.size, 4, none⟩ = some (.int .u64 t.s.d)) → ((V.setCell ⟨w.heap.size + 1, m, none⟩ u).cell? ⟨g, i, none⟩ = some (.bool fb) ∧ (V.setCell ⟨w.heap.size + 1, m, none⟩ u).cell? ⟨w.heap.size, 1, none⟩ = some (.int .u64 t.s.a) ∧ (V.setCell ⟨w.heap.size + 1, m, none⟩ u).cell? ⟨w.heap.size, 2, none⟩ = some (.int .u64 t.s.b) ∧ (V.setCell ⟨w.heap.size + 1, m, none⟩ u).cell? ⟨w.heap.size, 3, none⟩ = some (.int .u64 t.s.c) ∧ (V.setCell ⟨w.heap.size + 1, m, none⟩ u).cell? ⟨w.heap.size, 4, none⟩ = some (.int .u64 t.s.d))) := Lib.hid (fun V u h =>
        ⟨(World.cell?_setCell_other _ _ _ _ (fun e => by have := congrArg (·.block) e; simp at this; omega)).trans h.1, (World.cell?_setCell_other _ _ _ _ (fun e => by have := congrArg (·.block) e; simp at this)).trans h.2.1, (World.cell?_setCell_other _ _ _ _ (fun e => by have := congrArg (·.block) e; simp at this)).trans h.2.2.1, (World.cell?_setCell_other _ _ _ _ (fun e => by have := congrArg (·.block) e; simp at this)).trans h.2.2.2.1, (World.cell?_setCell_other _ _ _ _ (fun e => by have := congrArg (·.block) e; simp at this)).trans h.2.2.2.2⟩)
      unfold S4.val at HHas
      clear hRm hml hmi hjl HRl HRe HFl HOr HFr HXr
      cases fb
      · clear HHas
        go_wp2_with fail
        go_region
        go_wp2_with fail
        have hE := HEND.out wr false (Below.refl _ _) (by simp)
        go_roundw
        case rel => exact ⟨i + 1, by first | rfl | go_num, hlt, Lib.hid hE.1, Lib.hid hE.2.1, Lib.hid hE.2.2.1, Lib.hid (by first | exact hE.2.2.2.1 | exact hE.2.2.2.1.drew), hE.2.2.2.2⟩
        case measure => simp [intOf]; omega
      · go_wp2_with fail
        go_region_held_law (fun V => V.cell? ⟨g, i, none⟩ = some (.bool true) ∧ V.cell? ⟨w.heap.size, 1, none⟩ = some (.int .u64 t.s.a) ∧ V.cell? ⟨w.heap.size, 2, none⟩ = some (.int .u64 t.s.b) ∧ V.cell? ⟨w.heap.size, 3, none⟩ = some (.int .u64 t.s.c) ∧ V.cell? ⟨w.heap.size, 4, none⟩ = some (.int .u64 t.s.d)) (first | exact ⟨ka, kb, kc, kd, ke⟩ | exact k5 | exact k6 _) (first
          | (go_simp; go_at_call 83; refine HHas.out.mono ?_; rintro e w5 ⟨rfl, hb5⟩
             have hq5 : Below wr.heap.size wr w5 := (Below.refl _ _).drew.trans hb5
             have k5 := HCF.out w5 hq5
             have HB5 := Lib.hid hq5
             obtain ⟨⟨yy5, hyy5⟩, hyf5⟩ := HST.out w5 hq5
             have k6 := fun u => HK6.out w5 u k5
             clear hb5 hq5
             dsimp only))
        all_goals
          have hE := HEND.out w5 (t.s.has (s[i]'hlt).toNat) HB5.out (by simp)
          clear k5 k6 ka kb kc kd ke
          go_wp2_with fail
          go_roundw
          case rel => exact ⟨i + 1, by first | rfl | go_num, hlt, Lib.hid hE.1, Lib.hid hE.2.1, Lib.hid hE.2.2.1, Lib.hid (by first | exact hE.2.2.2.1 | exact hE.2.2.2.1.drew), hE.2.2.2.2⟩
          case measure => simp [intOf]; omega
    · have hltI : ¬ ((i : Int) < (s.size : Int)) := by omega
      have HRR : Hid (fillL R (i + 1) = R) := Lib.hid (by
        rw [show i + 1 = R.length by have := HRl.out; have := HN2.out; omega, fillL_all])
      clear HRl HRe HFl
      go_wp2_with fail
      go_ret
      exact ⟨⟨w.heap.size + 1, rfl, by omega, by rw [← HRR.out]; exact HOr.out⟩, HBr.out⟩
end

section
open Go.RowKit

set_option maxRecDepth 100000 in
set_option maxHeartbeats 3200000 in
theorem ends_4 (s : ByteArray) (hs : s.size ≤ 100) (n : Nat) (hn : (s.size : Int) + 1 = (n : Int)) (t : PT) (hk : t.k = 4) (IH : ∀ x, x ∈ t.l → EndsOk s n x) : EndsOk s n t := by
  have hn2 : n = s.size + 1 := by omega
  have hn3 : n ≤ 101 := by omega
  obtain ⟨i0, hi, hz0, hz1, hz2⟩ := info_parts infoB
  intro w oe ce g F hT hF hFl
  have hFlt := hF.lt
  have HFl := Lib.hid hFl
  have HT0 := Lib.hid hT
  obtain ⟨R, hR⟩ : ∃ R, R = endsT s.data.toList t F := ⟨_, rfl⟩
  have hRl : R.length = n := by rw [hR, endsT_len _ _ _ (by rw [lt_len, hFl, hn2]), lt_len, hn2]
  have HRl := Lib.hid hRl
  rw [← hR]
  rw [endsT_eq, lt_len, ← hn2] at hR
  have HR := Lib.hid hR
  have HN2 := Lib.hid hn2
  have kb2 : (t.k == 2) = false := by rw [hk]; rfl
  have kb3 : (t.k == 3) = false := by rw [hk]; rfl
  have kb4 : (t.k == 4) = true := by rw [hk]; rfl
  have HK := Lib.hid hk
  obtain ⟨w1, hw1⟩ : ∃ w1, w1 = w.alloc (.cells #[.int .i64 t.k, .int .u64 t.s.a, .int .u64 t.s.b, .int .u64 t.s.c, .int .u64 t.s.d, .slice oe t.l.length ce] 33) := ⟨_, rfl⟩
  have HW1 := Lib.hid hw1
  have hs1 : w1.heap.size = w.heap.size + 1 := by rw [hw1]; simp
  have hb1 : Below w.heap.size w w1 := by rw [hw1]; exact below1 _ _
  have HB1 := Lib.hid hb1
  have HX1 : Hid (Box6 w1 w.heap.size (.int .i64 t.k) (.int .u64 t.s.a) (.int .u64 t.s.b) (.int .u64 t.s.c) (.int .u64 t.s.d) (.slice oe t.l.length ce)) := Lib.hid (by rw [hw1]; exact Box6.new _ _ _ _ _ _ _ rfl)
  have HF0 := Lib.hid hF
  clear hw1 hb1 hT hF hR hRl hFl hn2 hk
  unfold PT.val
  go_enter Tryd.func62, Tryd.ntmps62
  go_wp2_with (at_make; refine wpList_make_full _ rfl _ _ 102 rfl (w.heap.size + 1) 4 i0 _ 1 Tryd.underlying102 hi hz0 hz1 _ _ _ _ n rfl rfl rfl rfl ?b2 ?b3 (by simp) ?_)
  case b2 => rw [hz2]; omega
  case b3 => unfold maxLen; omega
  intro w2 hown2 hgrow2
  rw [← HW1.out] at hgrow2
  have hb2 : Below w1.heap.size w1 w2 := (Below.refl _ _).grown hgrow2 (Nat.le_refl _) (fun k h => by cases h)
  have HO : Hid (BB w2 (w.heap.size + 1) (List.replicate n false)) := Lib.hid (BB.of_own hown2)
  have HB : Hid (Below w.heap.size w w2) := Lib.hid (HB1.out.trans (hb2.mono (by omega)))
  have HX : Hid (Box6 w2 w.heap.size (.int .i64 t.k) (.int .u64 t.s.a) (.int .u64 t.s.b) (.int .u64 t.s.c) (.int .u64 t.s.d) (.slice oe t.l.length ce)) := Lib.hid (HX1.out.later hb2 (by omega))
  have hs2 : w.heap.size + 2 ≤ w2.heap.size := by have := HO.out.lt; omega
  have HF : Hid (BB w2 g F) := Lib.hid (HF0.out.later HB.out hFlt)
  have HT2 : Hid (HT w2 (· < w.heap.size) (.slice oe t.l.length ce) t.l) := Lib.hid (HT0.out.later (fun _ h => h) (fun b hb o => HB.out.cell (p := ⟨b, o, none⟩) hb))
  clear hown2 hgrow2 hb2 HX1 HB1 HT0 HF0
  obtain ⟨x0, x1, x2, x3, x4, x5, xf⟩ := HX.out
  have HRe : Hid (R = catE s.data.toList t.l F) := Lib.hid (by rw [HR.out, if_neg (by rw [HK.out]; decide), if_neg (by rw [HK.out]; decide), if_pos HK.out])
  have HIH := Lib.hid IH
  have HTL : Hid (t.l.length ≤ 1000000) := Lib.hid HT2.out.len.2
  clear HR HK IH
  have HFc : Hid (∀ (j : Nat) v, (F.map Value.bool)[j]? = some v → w2.cell? (Addr.add ⟨g, 0, none⟩ j) = some v) := Lib.hid (fun j v hv => by
    simp only [List.getElem?_map, Option.map_eq_some_iff] at hv
    obtain ⟨b, hb, rfl⟩ := hv
    have := HF.out.cell hb
    unfold Addr.add
    split
    · rename_i h; subst h; exact this
    · simpa using this)
  go_wp2_with (refine wpList_copy_splice (o := ⟨some 56, _, _, _, _, _⟩) rfl (.tmp 54) (.tmp 55) 102 102 rfl 4 Tryd.underlying102 infoSizeB (some ⟨w.heap.size + 1, 0, none⟩) (some ⟨g, 0, none⟩) n n n n rfl rfl (w.heap.size + 1) 0 (List.replicate n (Value.bool false)) 4 (by simpa [BB] using HO.out) (F.map Value.bool) (by rw [List.length_map, HFl.out]; exact (Nat.min_self n).symm) (fun h => ⟨rfl, ⟨g, 0, none⟩, rfl, HFc.out⟩) (by rw [List.length_map, HFl.out]; simp) (by intro v hv; simp at hv; rcases hv with ⟨_, rfl⟩ | ⟨_, rfl⟩ <;> rfl) (w.heap.size + 1) w2 (Below.refl _ _) (Nat.le_refl _) ?_)
  intro w3 HG3 hB3
  have HB3 : Hid (Below w.heap.size w w3) := Lib.hid (HB.out.trans (hB3.mono (by omega)))
  have HO3 : Hid (BB w3 (w.heap.size + 1) F) := Lib.hid (by unfold BB; rw [← spliceF HFl.out]; exact HG3.out)
  have HX3 : Hid (Box6 w3 w.heap.size (.int .i64 t.k) (.int .u64 t.s.a) (.int .u64 t.s.b) (.int .u64 t.s.c) (.int .u64 t.s.d) (.slice oe t.l.length ce)) := Lib.hid (HX.out.later hB3 (by omega))
  have HT3 : Hid (HT w3 (· < w.heap.size) (.slice oe t.l.length ce) t.l) := Lib.hid (HT2.out.later (fun _ h => h) (fun b hb o => hB3.cell (p := ⟨b, o, none⟩) (by show b < w.heap.size + 1; omega)))
  have hs3 : w.heap.size + 2 ≤ w3.heap.size := by have := HO3.out.lt; omega
  clear x0 x1 x2 x3 x4 x5 xf HO HF HX HB hs2 HT2 HFc
  clear HG3 hB3
  generalize htl0 : t.l = tl at *
  clear htl0 HRl
  go_wp2_with fail
  go_loopw [7, 9] (fun v7 v wr => ∃ (j gg : Nat) (X : List Bool), v7 = .slice (some ⟨gg, 0, none⟩) n n ∧ v = .int .i64 (j : Int) ∧ j ≤ tl.length ∧ w.heap.size + 1 ≤ gg ∧ X.length = n ∧ Hid (BB wr gg X) ∧ Hid (R = catE s.data.toList (tl.drop j) X) ∧ Hid (Box6 wr w.heap.size (.int .i64 t.k) (.int .u64 t.s.a) (.int .u64 t.s.b) (.int .u64 t.s.c) (.int .u64 t.s.d) (.slice oe tl.length ce)) ∧ Hid (HT wr (· < w.heap.size) (.slice oe tl.length ce) tl) ∧ Hid (Below w.heap.size w wr) ∧ w.heap.size + 2 ≤ wr.heap.size) (fun _ v _ => tl.length - (intOf v).toNat)
  case atStart => exact ⟨0, w.heap.size + 1, F, rfl, rfl, Nat.zero_le _, Nat.le_refl _, HFl.out, HO3, HRe, HX3, HT3, HB3, hs3⟩
  case round =>
    obtain ⟨j, gg, X, rfl, rfl, hjl, hgg, hXl, HOr, HEr, HXr, HTr, HBr, hsr⟩ := hrel
    clear HO3 HX3 HT3 HB3 hs3 HRe HFl
    obtain ⟨y0, y1, y2, y3, y4, y5, yf⟩ := HXr.out
    have htl := HTL.out
    by_cases hlt : j < tl.length
    · have hltI : (j : Int) < (tl.length : Int) := by omega
      have hj0 : (0 : Int) ≤ (j : Int) := by omega
      have hwj : IntKind.i64.wrap ((j : Int) + 1) = ((j + 1 : Nat) : Int) := by rw [IntWalk.i64_in _ (by omega)]; omega
      obtain ⟨x, hx⟩ : ∃ x, tl[j]? = some x := ⟨_, List.getElem?_eq_getElem hlt⟩
      have HE2 : Hid (R = catE s.data.toList (tl.drop (j + 1)) (endsT s.data.toList x X)) := Lib.hid (by
        rw [HEr.out, List.drop_eq_getElem_cons hlt, catE]
        rw [List.getElem?_eq_getElem hlt] at hx
        rw [Option.some.inj hx])
      have hXn : (endsT s.data.toList x X).length = n := by rw [endsT_len _ _ _ (by rw [lt_len, hXl, HN2.out]), lt_len, HN2.out]
      obtain ⟨b, off, oe2, ce2, rfl, hbS, hT2, c0, c1, c2, c3, c4, c5⟩ := HTr.out.at_ hx
      have HC := Lib.hid (HIH.out x (List.mem_of_getElem? hx) wr oe2 ce2 gg X (hT2.later (fun _ h => by omega) (fun _ _ _ => rfl)) HOr.out hXl)
      unfold PT.val at HC
      clear hT2 hbS
      clear HEr htl
      generalize endsT s.data.toList x X = X2 at *
      go_wp2_with fail
      refine HC.out.mono ?_
      rintro e w4 ⟨⟨g4, rfl, hg4, hB4⟩, hb4⟩
      have HO4 := Lib.hid hB4
      have HX4 := Lib.hid (HXr.out.later hb4 (by omega))
      have HT4 : Hid (HT w4 (· < w.heap.size) (.slice (some ⟨b, off, none⟩) tl.length ce) tl) := Lib.hid (HTr.out.later (fun _ h => h) (fun q hq o => hb4.cell (p := ⟨q, o, none⟩) (by show q < wr.heap.size; omega)))
      have HB4 := Lib.hid (HBr.out.trans (hb4.mono (by omega)))
      have hs4 : w.heap.size + 2 ≤ w4.heap.size := Nat.le_trans hsr hb4.size
      clear hB4 hb4 HC
      go_wp2_with fail
      go_roundw
      case rel => exact ⟨j + 1, g4, X2, rfl, by first | rfl | go_num, hlt, by omega, hXn, HO4, HE2, HX4, HT4, HB4, hs4⟩
      case measure => simp [intOf]; omega
    · have hltI : ¬ ((j : Int) < (tl.length : Int)) := by omega
      have hRX : R = X := by
        have h := HEr.out
        rw [List.drop_eq_nil_of_le (by omega), catE] at h
        exact h
      have HRX := Lib.hid hRX
      clear hRX HEr
      go_wp2_with fail
      go_ret
      exact ⟨⟨gg, rfl, by omega, by rw [HRX.out]; exact HOr.out⟩, HBr.out⟩
end

section
open Go.RowKit

set_option maxRecDepth 100000 in
set_option maxHeartbeats 3200000 in
theorem ends_5 (s : ByteArray) (hs : s.size ≤ 100) (n : Nat) (hn : (s.size : Int) + 1 = (n : Int)) (t : PT) (hk : t.k = 5) (IH : ∀ x, x ∈ t.l → EndsOk s n x) : EndsOk s n t := by
  have hn2 : n = s.size + 1 := by omega
  have hn3 : n ≤ 101 := by omega
  obtain ⟨i0, hi, hz0, hz1, hz2⟩ := info_parts infoB
  intro w oe ce g F hT hF hFl
  have hFlt := hF.lt
  have HFl := Lib.hid hFl
  have HT0 := Lib.hid hT
  obtain ⟨R, hR⟩ : ∃ R, R = endsT s.data.toList t F := ⟨_, rfl⟩
  have hRl : R.length = n := by rw [hR, endsT_len _ _ _ (by rw [lt_len, hFl, hn2]), lt_len, hn2]
  have HRl := Lib.hid hRl
  rw [← hR]
  rw [endsT_eq, lt_len, ← hn2] at hR
  have HR := Lib.hid hR
  have HN2 := Lib.hid hn2
  have kb2 : (t.k == 2) = false := by rw [hk]; rfl
  have kb3 : (t.k == 3) = false := by rw [hk]; rfl
  have kb4 : (t.k == 4) = false := by rw [hk]; rfl
  have kb5 : (t.k == 5) = true := by rw [hk]; rfl
  have HK := Lib.hid hk
  obtain ⟨w1, hw1⟩ : ∃ w1, w1 = w.alloc (.cells #[.int .i64 t.k, .int .u64 t.s.a, .int .u64 t.s.b, .int .u64 t.s.c, .int .u64 t.s.d, .slice oe t.l.length ce] 33) := ⟨_, rfl⟩
  have HW1 := Lib.hid hw1
  have hs1 : w1.heap.size = w.heap.size + 1 := by rw [hw1]; simp
  have hb1 : Below w.heap.size w w1 := by rw [hw1]; exact below1 _ _
  have HB1 := Lib.hid hb1
  have HX1 : Hid (Box6 w1 w.heap.size (.int .i64 t.k) (.int .u64 t.s.a) (.int .u64 t.s.b) (.int .u64 t.s.c) (.int .u64 t.s.d) (.slice oe t.l.length ce)) := Lib.hid (by rw [hw1]; exact Box6.new _ _ _ _ _ _ _ rfl)
  have HF0 := Lib.hid hF
  clear hw1 hb1 hT hF hR hRl hFl hn2 hk
  unfold PT.val
  go_enter Tryd.func62, Tryd.ntmps62
  go_wp2_with (at_make; refine wpList_make_full _ rfl _ _ 102 rfl (w.heap.size + 1) 4 i0 _ 1 Tryd.underlying102 hi hz0 hz1 _ _ _ _ n rfl rfl rfl rfl ?b2 ?b3 (by simp) ?_)
  case b2 => rw [hz2]; omega
  case b3 => unfold maxLen; omega
  intro w2 hown2 hgrow2
  rw [← HW1.out] at hgrow2
  have hb2 : Below w1.heap.size w1 w2 := (Below.refl _ _).grown hgrow2 (Nat.le_refl _) (fun k h => by cases h)
  have HO : Hid (BB w2 (w.heap.size + 1) (List.replicate n false)) := Lib.hid (BB.of_own hown2)
  have HB : Hid (Below w.heap.size w w2) := Lib.hid (HB1.out.trans (hb2.mono (by omega)))
  have HX : Hid (Box6 w2 w.heap.size (.int .i64 t.k) (.int .u64 t.s.a) (.int .u64 t.s.b) (.int .u64 t.s.c) (.int .u64 t.s.d) (.slice oe t.l.length ce)) := Lib.hid (HX1.out.later hb2 (by omega))
  have hs2 : w.heap.size + 2 ≤ w2.heap.size := by have := HO.out.lt; omega
  have HF : Hid (BB w2 g F) := Lib.hid (HF0.out.later HB.out hFlt)
  have HT2 : Hid (HT w2 (· < w.heap.size) (.slice oe t.l.length ce) t.l) := Lib.hid (HT0.out.later (fun _ h => h) (fun b hb o => HB.out.cell (p := ⟨b, o, none⟩) hb))
  clear hown2 hgrow2 hb2 HX1 HB1 HT0 HF0
  obtain ⟨x0, x1, x2, x3, x4, x5, xf⟩ := HX.out
  have HRe : Hid (R = altE s.data.toList t.l F (List.replicate n false)) := Lib.hid (by rw [HR.out, if_neg (by rw [HK.out]; decide), if_neg (by rw [HK.out]; decide), if_neg (by rw [HK.out]; decide), if_pos HK.out])
  have HIH := Lib.hid IH
  have HTL : Hid (t.l.length ≤ 1000000) := Lib.hid HT2.out.len.2
  clear HR HK IH x0 x1 x2 x3 x4 x5 xf
  obtain ⟨x0, x1, x2, x3, x4, x5, xf⟩ := HX.out
  generalize htl0 : t.l = tl at *
  clear htl0 HRl
  go_wp2_with fail
  go_loopw [10] (fun v wr => ∃ (j : Nat) (O : List Bool), v = .int .i64 (j : Int) ∧ j ≤ tl.length ∧ O.length = n ∧ Hid (BB wr (w.heap.size + 1) O) ∧ Hid (BB wr g F) ∧ Hid (R = altE s.data.toList (tl.drop j) F O) ∧ Hid (Box6 wr w.heap.size (.int .i64 t.k) (.int .u64 t.s.a) (.int .u64 t.s.b) (.int .u64 t.s.c) (.int .u64 t.s.d) (.slice oe tl.length ce)) ∧ Hid (HT wr (· < w.heap.size) (.slice oe tl.length ce) tl) ∧ Hid (Below w.heap.size w wr) ∧ w.heap.size + 2 ≤ wr.heap.size) (fun v _ => tl.length - (intOf v).toNat)
  case atStart => exact ⟨0, List.replicate n false, rfl, Nat.zero_le _, by simp, HO, HF, HRe, HX, HT2, HB, hs2⟩
  case round =>
    obtain ⟨j, O, rfl, hjl, hOl, HOr, HFr, HEr, HXr, HTr, HBr, hsr⟩ := hrel
    clear HO HX HT2 HB hs2 HRe HF x0 x1 x2 x3 x4 x5 xf
    obtain ⟨wo, hwo⟩ : ∃ wo : World, wo = wr := ⟨_, rfl⟩
    subst hwo
    obtain ⟨y0, y1, y2, y3, y4, y5, yf⟩ := HXr.out
    have htl := HTL.out
    by_cases hlt : j < tl.length
    · have hltI : (j : Int) < (tl.length : Int) := by omega
      have hj0 : (0 : Int) ≤ (j : Int) := by omega
      have hwj : IntKind.i64.wrap ((j : Int) + 1) = ((j + 1 : Nat) : Int) := by rw [IntWalk.i64_in _ (by omega)]; omega
      obtain ⟨x, hx⟩ : ∃ x, tl[j]? = some x := ⟨_, List.getElem?_eq_getElem hlt⟩
      have HE2 : Hid (R = altE s.data.toList (tl.drop (j + 1)) F (orL O (endsT s.data.toList x F))) := Lib.hid (by
        rw [HEr.out, List.drop_eq_getElem_cons hlt, altE]
        rw [List.getElem?_eq_getElem hlt] at hx
        rw [Option.some.inj hx])
      have hXn : (endsT s.data.toList x F).length = n := by rw [endsT_len _ _ _ (by rw [lt_len, HFl.out, HN2.out]), lt_len, HN2.out]
      obtain ⟨b, off, oe2, ce2, rfl, hbS, hT2, c0, c1, c2, c3, c4, c5⟩ := HTr.out.at_ hx
      have HC := Lib.hid (HIH.out x (List.mem_of_getElem? hx) wo oe2 ce2 g F (hT2.later (fun _ h => by omega) (fun _ _ _ => rfl)) HFr.out HFl.out)
      unfold PT.val at HC
      clear hT2 hbS
      clear HEr
      generalize endsT s.data.toList x F = Y at *
      have hYO : Y.length = O.length := by omega
      go_wp2_with fail
      refine HC.out.mono ?_
      rintro e w4 ⟨⟨g4, rfl, hg4, hB4⟩, hb4⟩
      have HY4 := Lib.hid hB4
      have HO4 : Hid (BB w4 (w.heap.size + 1) (orK O Y 0)) := Lib.hid (by rw [orK_zero]; exact HOr.out.later hb4 HOr.out.lt)
      have HF4 := Lib.hid (HFr.out.later hb4 HFr.out.lt)
      have HX4 := Lib.hid (HXr.out.later hb4 (by omega))
      have HT4 : Hid (HT w4 (· < w.heap.size) (.slice (some ⟨b, off, none⟩) tl.length ce) tl) := Lib.hid (HTr.out.later (fun _ h => h) (fun q hq o => hb4.cell (p := ⟨q, o, none⟩) (by show q < wo.heap.size; omega)))
      have HB4 := Lib.hid (HBr.out.trans (hb4.mono (by omega)))
      have hs4 : w.heap.size + 2 ≤ w4.heap.size := Nat.le_trans hsr hb4.size
      clear hB4 hb4 HC HOr HFr HXr HTr HBr c0 c1 c2 c3 c4 c5 y0 y1 y2 y3 y4 y5 yf
      go_wp2_with fail
      go_loopw [12] (fun v wi => ∃ k : Nat, v = .int .i64 (k : Int) ∧ k ≤ n ∧ Hid (BB wi (w.heap.size + 1) (orK O Y k)) ∧ Hid (BB wi g4 Y) ∧ Hid (BB wi g F) ∧ Hid (Box6 wi w.heap.size (.int .i64 t.k) (.int .u64 t.s.a) (.int .u64 t.s.b) (.int .u64 t.s.c) (.int .u64 t.s.d) (.slice (some ⟨b, off, none⟩) tl.length ce)) ∧ Hid (HT wi (· < w.heap.size) (.slice (some ⟨b, off, none⟩) tl.length ce) tl) ∧ Hid (Below w.heap.size w wi) ∧ w.heap.size + 2 ≤ wi.heap.size) (fun v _ => n - (intOf v).toNat)
      case atStart => exact ⟨0, rfl, Nat.zero_le _, HO4, HY4, HF4, HX4, HT4, HB4, hs4⟩
      case round =>
        obtain ⟨k, rfl, hkn, HOi, HYi, HFi, HXi, HTi, HBi, hsi⟩ := hrel
        clear HO4 HY4 HF4 HX4 HT4 HB4 hs4
        by_cases hkl : k < n
        · have hklI : (k : Int) < (n : Int) := by omega
          have hk0 : (0 : Int) ≤ (k : Int) := by omega
          have hwk : IntKind.i64.wrap ((k : Int) + 1) = ((k + 1 : Nat) : Int) := by rw [IntWalk.i64_in _ (by omega)]; omega
          have hko : k < O.length := by omega
          have hky : k < Y.length := by omega
          have HSET := Lib.hid (orK_set hYO k hko)
          have o1 := HOi.out.cell (orK_at hYO k hko)
          have y1 := HYi.out.cell (List.getElem?_eq_getElem hky)
          have f1 := HOi.out.free k
          have HEND : Hid (∀ b2 : Bool, b2 = (O[k]'hko || Y[k]'hky) → BB (wr.setCell ⟨w.heap.size + 1, k, none⟩ (.bool b2)) (w.heap.size + 1) (orK O Y (k + 1)) ∧ BB (wr.setCell ⟨w.heap.size + 1, k, none⟩ (.bool b2)) g4 Y ∧ BB (wr.setCell ⟨w.heap.size + 1, k, none⟩ (.bool b2)) g F ∧ Box6 (wr.setCell ⟨w.heap.size + 1, k, none⟩ (.bool b2)) w.heap.size (.int .i64 t.k) (.int .u64 t.s.a) (.int .u64 t.s.b) (.int .u64 t.s.c) (.int .u64 t.s.d) (.slice (some ⟨b, off, none⟩) tl.length ce) ∧ HT (wr.setCell ⟨w.heap.size + 1, k, none⟩ (.bool b2)) (· < w.heap.size) (.slice (some ⟨b, off, none⟩) tl.length ce) tl ∧ Below w.heap.size w (wr.setCell ⟨w.heap.size + 1, k, none⟩ (.bool b2)) ∧ w.heap.size + 2 ≤ (wr.setCell ⟨w.heap.size + 1, k, none⟩ (.bool b2)).heap.size) := Lib.hid (fun b2 hb2 => by
            subst hb2
            have hbw : Below (w.heap.size + 1) wr (wr.setCell ⟨w.heap.size + 1, k, none⟩ (.bool (O[k]'hko || Y[k]'hky))) := (Below.refl _ _).setCell (p := ⟨w.heap.size + 1, k, none⟩) (Nat.le_refl _) _
            refine ⟨?_, HYi.out.far (by show g4 ≠ w.heap.size + 1; omega) _, HFi.out.later hbw (by omega), HXi.out.later hbw (by omega), HTi.out.later (fun _ h => h) (fun q hq o => hbw.cell (p := ⟨q, o, none⟩) (by show q < w.heap.size + 1; omega)), HBi.out.trans (hbw.mono (by omega)), by simp [World.setCell]; omega⟩
            rw [← HSET.out]
            exact HOi.out.set k _)
          clear HOi HYi HFi HXi HTi HBi HSET
          generalize hOk : O[k]'hko = ob at *
          generalize hYk : Y[k]'hky = yb at *
          clear hOk hYk
          cases ob
          · cases yb
            · go_wp2_with fail
              have hE := HEND.out false rfl
              go_roundw
              case rel => exact ⟨k + 1, by first | rfl | go_num, hkl, Lib.hid hE.1, Lib.hid hE.2.1, Lib.hid hE.2.2.1, Lib.hid hE.2.2.2.1, Lib.hid hE.2.2.2.2.1, Lib.hid hE.2.2.2.2.2.1, hE.2.2.2.2.2.2⟩
              case measure => simp [intOf]; omega
            · go_wp2_with fail
              have hE := HEND.out true rfl
              go_roundw
              case rel => exact ⟨k + 1, by first | rfl | go_num, hkl, Lib.hid hE.1, Lib.hid hE.2.1, Lib.hid hE.2.2.1, Lib.hid hE.2.2.2.1, Lib.hid hE.2.2.2.2.1, Lib.hid hE.2.2.2.2.2.1, hE.2.2.2.2.2.2⟩
              case measure => simp [intOf]; omega
          · go_wp2_with fail
            have hE := HEND.out true rfl
            go_roundw
            case rel => exact ⟨k + 1, by first | rfl | go_num, hkl, Lib.hid hE.1, Lib.hid hE.2.1, Lib.hid hE.2.2.1, Lib.hid hE.2.2.2.1, Lib.hid hE.2.2.2.2.1, Lib.hid hE.2.2.2.2.2.1, hE.2.2.2.2.2.2⟩
            case measure => simp [intOf]; omega
        · have hklI : ¬ ((k : Int) < (n : Int)) := by omega
          obtain rfl : k = n := by omega
          have HO5 : Hid (BB wr (w.heap.size + 1) (orL O Y)) := Lib.hid (by
            have h := HOi.out
            rw [← hOl, orK_all hYO] at h
            exact h)
          go_wp2_with fail
          go_roundw
          case rel => exact ⟨j + 1, orL O Y, by first | rfl | go_num, hlt, by rw [orL_len hYO]; exact hOl, HO5, HFi, HE2, HXi, HTi, HBi, hsi⟩
          case measure => simp [intOf]; omega
    · have hltI : ¬ ((j : Int) < (tl.length : Int)) := by omega
      have hRX : R = O := by
        have h := HEr.out
        rw [List.drop_eq_nil_of_le (by omega), altE] at h
        exact h
      have HRX := Lib.hid hRX
      clear hRX HEr
      go_wp2_with fail
      go_ret
      exact ⟨⟨w.heap.size + 1, rfl, by omega, by rw [HRX.out]; exact HOr.out⟩, HBr.out⟩
end

section
open Go.RowKit

set_option maxRecDepth 100000 in
set_option maxHeartbeats 3200000 in
theorem ends_6 (s : ByteArray) (hs : s.size ≤ 100) (n : Nat) (hn : (s.size : Int) + 1 = (n : Int)) (t : PT) (hk : t.k = 6) (hfit : t.fit = true) (IH : ∀ x, x ∈ t.l → EndsOk s n x) : EndsOk s n t := by
  have hn2 : n = s.size + 1 := by omega
  have hn3 : n ≤ 101 := by omega
  obtain ⟨i0, hi, hz0, hz1, hz2⟩ := info_parts infoB
  intro w oe ce g F hT hF hFl
  have hFlt := hF.lt
  have HFl := Lib.hid hFl
  have HT0 := Lib.hid hT
  obtain ⟨R, hR⟩ : ∃ R, R = endsT s.data.toList t F := ⟨_, rfl⟩
  have hRl : R.length = n := by rw [hR, endsT_len _ _ _ (by rw [lt_len, hFl, hn2]), lt_len, hn2]
  have HRl := Lib.hid hRl
  rw [← hR]
  rw [endsT_eq, lt_len, ← hn2] at hR
  have HR := Lib.hid hR
  have HN2 := Lib.hid hn2
  have kb2 : (t.k == 2) = false := by rw [hk]; rfl
  have kb3 : (t.k == 3) = false := by rw [hk]; rfl
  have kb4 : (t.k == 4) = false := by rw [hk]; rfl
  have kb5 : (t.k == 5) = false := by rw [hk]; rfl
  have kb6 : (t.k == 6) = true := by rw [hk]; rfl
  have HK := Lib.hid hk
  obtain ⟨w1, hw1⟩ : ∃ w1, w1 = w.alloc (.cells #[.int .i64 t.k, .int .u64 t.s.a, .int .u64 t.s.b, .int .u64 t.s.c, .int .u64 t.s.d, .slice oe t.l.length ce] 33) := ⟨_, rfl⟩
  have HW1 := Lib.hid hw1
  have hs1 : w1.heap.size = w.heap.size + 1 := by rw [hw1]; simp
  have hb1 : Below w.heap.size w w1 := by rw [hw1]; exact below1 _ _
  have HB1 := Lib.hid hb1
  have HX1 : Hid (Box6 w1 w.heap.size (.int .i64 t.k) (.int .u64 t.s.a) (.int .u64 t.s.b) (.int .u64 t.s.c) (.int .u64 t.s.d) (.slice oe t.l.length ce)) := Lib.hid (by rw [hw1]; exact Box6.new _ _ _ _ _ _ _ rfl)
  have HF0 := Lib.hid hF
  clear hw1 hb1 hT hF hR hRl hFl hn2 hk
  unfold PT.val
  go_enter Tryd.func62, Tryd.ntmps62
  go_wp2_with (at_make; refine wpList_make_full _ rfl _ _ 102 rfl (w.heap.size + 1) 4 i0 _ 1 Tryd.underlying102 hi hz0 hz1 _ _ _ _ n rfl rfl rfl rfl ?b2 ?b3 (by simp) ?_)
  case b2 => rw [hz2]; omega
  case b3 => unfold maxLen; omega
  intro w2 hown2 hgrow2
  rw [← HW1.out] at hgrow2
  have hb2 : Below w1.heap.size w1 w2 := (Below.refl _ _).grown hgrow2 (Nat.le_refl _) (fun k h => by cases h)
  have HO : Hid (BB w2 (w.heap.size + 1) (List.replicate n false)) := Lib.hid (BB.of_own hown2)
  have HB : Hid (Below w.heap.size w w2) := Lib.hid (HB1.out.trans (hb2.mono (by omega)))
  have HX : Hid (Box6 w2 w.heap.size (.int .i64 t.k) (.int .u64 t.s.a) (.int .u64 t.s.b) (.int .u64 t.s.c) (.int .u64 t.s.d) (.slice oe t.l.length ce)) := Lib.hid (HX1.out.later hb2 (by omega))
  have hs2 : w.heap.size + 2 ≤ w2.heap.size := by have := HO.out.lt; omega
  have HF : Hid (BB w2 g F) := Lib.hid (HF0.out.later HB.out hFlt)
  have HT2 : Hid (HT w2 (· < w.heap.size) (.slice oe t.l.length ce) t.l) := Lib.hid (HT0.out.later (fun _ h => h) (fun b hb o => HB.out.cell (p := ⟨b, o, none⟩) hb))
  clear hown2 hgrow2 hb2 HX1 HB1 HT0 HF0
  obtain ⟨x0, x1, x2, x3, x4, x5, xf⟩ := HX.out
  have hx0 : ∃ x0, t.l[0]? = some x0 := by
    have h := hfit
    rw [PT.fit_eq, HK.out] at h
    cases hl : t.l with
    | nil => rw [hl] at h; simp at h
    | cons x r => exact ⟨x, rfl⟩
  obtain ⟨x, hx⟩ := hx0
  have HRe : Hid (R = repR (endsT s.data.toList x) (n + 1) F) := Lib.hid (by
    rw [HR.out, if_neg (by rw [HK.out]; decide), if_neg (by rw [HK.out]; decide), if_neg (by rw [HK.out]; decide), if_neg (by rw [HK.out]; decide), if_pos HK.out]
    cases hl : t.l with
    | nil => rw [hl] at hx; cases hx
    | cons y r =>
      rw [hl] at hx
      cases hx
      rw [repE, lt_len, HN2.out])
  have HIH := Lib.hid IH
  have HTL : Hid (t.l.length ≤ 1000000 ∧ 0 < t.l.length) := Lib.hid ⟨HT2.out.len.2, (List.getElem?_eq_some_iff.1 hx).1⟩
  have HCN : Hid (cntF F < n + 1) := Lib.hid (by have := List.count_le_length (a := false) (l := F); have := HFl.out; unfold cntF; omega)
  have HLN : Hid (∀ Z : List Bool, Z.length = n → (endsT s.data.toList x Z).length = n) := Lib.hid (fun Z hZ => by rw [endsT_len _ _ _ (by rw [lt_len, hZ, HN2.out]), lt_len, HN2.out])
  clear HR HK IH hfit
  have HFc : Hid (∀ (j : Nat) v, (F.map Value.bool)[j]? = some v → w2.cell? (Addr.add ⟨g, 0, none⟩ j) = some v) := Lib.hid (fun j v hv => by
    simp only [List.getElem?_map, Option.map_eq_some_iff] at hv
    obtain ⟨b, hb, rfl⟩ := hv
    have := HF.out.cell hb
    unfold Addr.add
    split
    · rename_i h; subst h; exact this
    · simpa using this)
  go_wp2_with (refine wpList_copy_splice (o := ⟨some 112, _, _, _, _, _⟩) rfl (.tmp 110) (.tmp 111) 102 102 rfl 4 Tryd.underlying102 infoSizeB (some ⟨w.heap.size + 1, 0, none⟩) (some ⟨g, 0, none⟩) n n n n rfl rfl (w.heap.size + 1) 0 (List.replicate n (Value.bool false)) 4 (by simpa [BB] using HO.out) (F.map Value.bool) (by rw [List.length_map, HFl.out]; exact (Nat.min_self n).symm) (fun h => ⟨rfl, ⟨g, 0, none⟩, rfl, HFc.out⟩) (by rw [List.length_map, HFl.out]; simp) (by intro v hv; simp at hv; rcases hv with ⟨_, rfl⟩ | ⟨_, rfl⟩ <;> rfl) (w.heap.size + 1) w2 (Below.refl _ _) (Nat.le_refl _) ?_)
  intro w3 HG3 hB3
  have HB3 : Hid (Below w.heap.size w w3) := Lib.hid (HB.out.trans (hB3.mono (by omega)))
  have HO3 : Hid (BB w3 (w.heap.size + 1) F) := Lib.hid (by unfold BB; rw [← spliceF HFl.out]; exact HG3.out)
  have HX3 : Hid (Box6 w3 w.heap.size (.int .i64 t.k) (.int .u64 t.s.a) (.int .u64 t.s.b) (.int .u64 t.s.c) (.int .u64 t.s.d) (.slice oe t.l.length ce)) := Lib.hid (HX.out.later hB3 (by omega))
  have HT3 : Hid (HT w3 (· < w.heap.size) (.slice oe t.l.length ce) t.l) := Lib.hid (HT2.out.later (fun _ h => h) (fun b hb o => hB3.cell (p := ⟨b, o, none⟩) (by show b < w.heap.size + 1; omega)))
  have hs3 : w.heap.size + 2 ≤ w3.heap.size := by have := HO3.out.lt; omega
  clear x0 x1 x2 x3 x4 x5 xf HO HF HX HB hs2 HT2 HFc
  clear HG3 hB3
  generalize htl0 : t.l = tl at *
  clear htl0 HRl
  go_wp2_with fail
  go_loopg [13] (n + 1) (fun gk v wr => ∃ (X : List Bool) (more : Bool), v = .bool more ∧ X.length = n ∧ Hid (BB wr (w.heap.size + 1) X) ∧ Hid (more = true → cntF X < gk ∧ R = repR (endsT s.data.toList x) gk X) ∧ Hid (more = false → R = X) ∧ Hid (Box6 wr w.heap.size (.int .i64 t.k) (.int .u64 t.s.a) (.int .u64 t.s.b) (.int .u64 t.s.c) (.int .u64 t.s.d) (.slice oe tl.length ce)) ∧ Hid (HT wr (· < w.heap.size) (.slice oe tl.length ce) tl) ∧ Hid (Below w.heap.size w wr) ∧ w.heap.size + 2 ≤ wr.heap.size)
  case atStart => exact ⟨F, true, rfl, HFl.out, HO3, Lib.hid (fun _ => ⟨HCN.out, HRe.out⟩), Lib.hid (fun h => by cases h), HX3, HT3, HB3, hs3⟩
  case round =>
    obtain ⟨X, more, rfl, hXl, HOr, HMr, HNr, HXr, HTr, HBr, hsr⟩ := hrel
    clear HO3 HX3 HT3 HB3 hs3 HRe HFl HCN
    obtain ⟨wo, hwo⟩ : ∃ wo : World, wo = wr := ⟨_, rfl⟩
    subst hwo
    obtain ⟨y0, y1, y2, y3, y4, y5, yf⟩ := HXr.out
    obtain ⟨htl, htl0⟩ := HTL.out
    have htl1 : (0 : Int) < (tl.length : Int) := by omega
    cases more
    · have HRX : Hid (R = X) := Lib.hid (HNr.out rfl)
      clear HMr HNr
      go_wp2_with fail
      go_ret
      exact ⟨⟨w.heap.size + 1, rfl, by omega, by rw [HRX.out]; exact HOr.out⟩, HBr.out⟩
    · obtain ⟨hcn, hR⟩ := HMr.out rfl
      obtain ⟨gf, rfl⟩ : ∃ gf, gk = gf + 1 := ⟨gk - 1, by omega⟩
      have HR1 : Hid (R = if anyNew X (endsT s.data.toList x X) = true then repR (endsT s.data.toList x) gf (orL X (endsT s.data.toList x X)) else orL X (endsT s.data.toList x X)) := Lib.hid (by rw [hR, repR])
      have HCN := Lib.hid hcn
      have hYX : (endsT s.data.toList x X).length = X.length := by rw [HLN.out X hXl, hXl]
      clear hR HMr HNr hcn
      obtain ⟨b, off, oe2, ce2, rfl, hbS, hT2, c0, c1, c2, c3, c4, c5⟩ := HTr.out.at_ hx
      have HC := Lib.hid (HIH.out x (List.mem_of_getElem? hx) wo oe2 ce2 (w.heap.size + 1) X (hT2.later (fun _ h => by omega) (fun _ _ _ => rfl)) HOr.out hXl)
      unfold PT.val at HC
      clear hT2 hbS
      simp only [Nat.zero_mul, Nat.add_zero] at c0 c1 c2 c3 c4 c5
      obtain ⟨Y, hY⟩ : ∃ Y, Y = endsT s.data.toList x X := ⟨_, rfl⟩
      rw [← hY] at HC HR1 hYX
      have HY := Lib.hid hY
      clear hY
      go_wp2_with fail
      refine HC.out.mono ?_
      rintro e w4 ⟨⟨g4, rfl, hg4, hB4⟩, hb4⟩
      have HY4 := Lib.hid hB4
      have HO4 : Hid (BB w4 (w.heap.size + 1) (orK X Y 0)) := Lib.hid (by rw [orK_zero]; exact HOr.out.later hb4 HOr.out.lt)
      have HX4 := Lib.hid (HXr.out.later hb4 (by omega))
      have HT4 : Hid (HT w4 (· < w.heap.size) (.slice (some ⟨b, off, none⟩) tl.length ce) tl) := Lib.hid (HTr.out.later (fun _ h => h) (fun q hq o => hb4.cell (p := ⟨q, o, none⟩) (by show q < wo.heap.size; omega)))
      have HB4 := Lib.hid (HBr.out.trans (hb4.mono (by omega)))
      have hs4 : w.heap.size + 2 ≤ w4.heap.size := Nat.le_trans hsr hb4.size
      clear hB4 hb4 HC HOr HXr HTr HBr c0 c1 c2 c3 c4 c5 y0 y1 y2 y3 y4 y5 yf
      go_wp2_with fail
      go_loopw [13, 15] (fun v13 v wi => ∃ k : Nat, v13 = .bool (newK X Y k) ∧ v = .int .i64 (k : Int) ∧ k ≤ n ∧ Hid (BB wi (w.heap.size + 1) (orK X Y k)) ∧ Hid (BB wi g4 Y) ∧ Hid (Box6 wi w.heap.size (.int .i64 t.k) (.int .u64 t.s.a) (.int .u64 t.s.b) (.int .u64 t.s.c) (.int .u64 t.s.d) (.slice (some ⟨b, off, none⟩) tl.length ce)) ∧ Hid (HT wi (· < w.heap.size) (.slice (some ⟨b, off, none⟩) tl.length ce) tl) ∧ Hid (Below w.heap.size w wi) ∧ w.heap.size + 2 ≤ wi.heap.size) (fun _ v _ => n - (intOf v).toNat)
      case atStart => exact ⟨0, by rw [newK_zero], rfl, Nat.zero_le _, HO4, HY4, HX4, HT4, HB4, hs4⟩
      case round =>
        obtain ⟨k, rfl, rfl, hkn, HOi, HYi, HXi, HTi, HBi, hsi⟩ := hrel
        clear HO4 HY4 HX4 HT4 HB4 hs4
        by_cases hkl : k < n
        · have hklI : (k : Int) < (n : Int) := by omega
          have hk0 : (0 : Int) ≤ (k : Int) := by omega
          have hwk : IntKind.i64.wrap ((k : Int) + 1) = ((k + 1 : Nat) : Int) := by rw [IntWalk.i64_in _ (by omega)]; omega
          have hko : k < X.length := by omega
          have hky : k < Y.length := by omega
          have HSET := Lib.hid (orK_set hYX k hko)
          have HNK := Lib.hid (newK_succ hYX k hko)
          have o1 := HOi.out.cell (orK_at hYX k hko)
          have y1 := HYi.out.cell (List.getElem?_eq_getElem hky)
          have f1 := HOi.out.free k
          have HEND : Hid (∀ b2 : Bool, b2 = (X[k]'hko || Y[k]'hky) → BB (wr.setCell ⟨w.heap.size + 1, k, none⟩ (.bool b2)) (w.heap.size + 1) (orK X Y (k + 1)) ∧ BB (wr.setCell ⟨w.heap.size + 1, k, none⟩ (.bool b2)) g4 Y ∧ Box6 (wr.setCell ⟨w.heap.size + 1, k, none⟩ (.bool b2)) w.heap.size (.int .i64 t.k) (.int .u64 t.s.a) (.int .u64 t.s.b) (.int .u64 t.s.c) (.int .u64 t.s.d) (.slice (some ⟨b, off, none⟩) tl.length ce) ∧ HT (wr.setCell ⟨w.heap.size + 1, k, none⟩ (.bool b2)) (· < w.heap.size) (.slice (some ⟨b, off, none⟩) tl.length ce) tl ∧ Below w.heap.size w (wr.setCell ⟨w.heap.size + 1, k, none⟩ (.bool b2)) ∧ w.heap.size + 2 ≤ (wr.setCell ⟨w.heap.size + 1, k, none⟩ (.bool b2)).heap.size) := Lib.hid (fun b2 hb2 => by
            subst hb2
            have hbw : Below (w.heap.size + 1) wr (wr.setCell ⟨w.heap.size + 1, k, none⟩ (.bool (X[k]'hko || Y[k]'hky))) := (Below.refl _ _).setCell (p := ⟨w.heap.size + 1, k, none⟩) (Nat.le_refl _) _
            refine ⟨?_, HYi.out.far (by show g4 ≠ w.heap.size + 1; omega) _, HXi.out.later hbw (by omega), HTi.out.later (fun _ h => h) (fun q hq o => hbw.cell (p := ⟨q, o, none⟩) (by show q < w.heap.size + 1; omega)), HBi.out.trans (hbw.mono (by omega)), by simp [World.setCell]; omega⟩
            rw [← HSET.out]
            exact HOi.out.set k _)
          clear HOi HYi HXi HTi HBi HSET
          generalize hOk : X[k]'hko = ob at *
          generalize hYk : Y[k]'hky = yb at *
          generalize hnk : newK X Y k = nk at *
          clear hOk hYk hnk
          cases nk <;> cases yb <;> cases ob
          · go_wp2_with fail
            have hE := HEND.out false rfl
            go_roundw
            case rel => exact ⟨k + 1, by rw [HNK.out]; rfl, by first | rfl | go_num, hkl, Lib.hid hE.1, Lib.hid hE.2.1, Lib.hid hE.2.2.1, Lib.hid hE.2.2.2.1, Lib.hid hE.2.2.2.2.1, hE.2.2.2.2.2⟩
            case measure => simp [intOf]; omega
          · go_wp2_with fail
            have hE := HEND.out true rfl
            go_roundw
            case rel => exact ⟨k + 1, by rw [HNK.out]; rfl, by first | rfl | go_num, hkl, Lib.hid hE.1, Lib.hid hE.2.1, Lib.hid hE.2.2.1, Lib.hid hE.2.2.2.1, Lib.hid hE.2.2.2.2.1, hE.2.2.2.2.2⟩
            case measure => simp [intOf]; omega
          · go_wp2_with fail
            have hE := HEND.out true rfl
            go_roundw
            case rel => exact ⟨k + 1, by rw [HNK.out]; rfl, by first | rfl | go_num, hkl, Lib.hid hE.1, Lib.hid hE.2.1, Lib.hid hE.2.2.1, Lib.hid hE.2.2.2.1, Lib.hid hE.2.2.2.2.1, hE.2.2.2.2.2⟩
            case measure => simp [intOf]; omega
          · go_wp2_with fail
            have hE := HEND.out true rfl
            go_roundw
            case rel => exact ⟨k + 1, by rw [HNK.out]; rfl, by first | rfl | go_num, hkl, Lib.hid hE.1, Lib.hid hE.2.1, Lib.hid hE.2.2.1, Lib.hid hE.2.2.2.1, Lib.hid hE.2.2.2.2.1, hE.2.2.2.2.2⟩
            case measure => simp [intOf]; omega
          · go_wp2_with fail
            have hE := HEND.out false rfl
            go_roundw
            case rel => exact ⟨k + 1, by rw [HNK.out]; rfl, by first | rfl | go_num, hkl, Lib.hid hE.1, Lib.hid hE.2.1, Lib.hid hE.2.2.1, Lib.hid hE.2.2.2.1, Lib.hid hE.2.2.2.2.1, hE.2.2.2.2.2⟩
            case measure => simp [intOf]; omega
          · go_wp2_with fail
            have hE := HEND.out true rfl
            go_roundw
            case rel => exact ⟨k + 1, by rw [HNK.out]; rfl, by first | rfl | go_num, hkl, Lib.hid hE.1, Lib.hid hE.2.1, Lib.hid hE.2.2.1, Lib.hid hE.2.2.2.1, Lib.hid hE.2.2.2.2.1, hE.2.2.2.2.2⟩
            case measure => simp [intOf]; omega
          · go_wp2_with fail
            have hE := HEND.out true rfl
            go_roundw
            case rel => exact ⟨k + 1, by rw [HNK.out]; rfl, by first | rfl | go_num, hkl, Lib.hid hE.1, Lib.hid hE.2.1, Lib.hid hE.2.2.1, Lib.hid hE.2.2.2.1, Lib.hid hE.2.2.2.2.1, hE.2.2.2.2.2⟩
            case measure => simp [intOf]; omega
          · go_wp2_with fail
            have hE := HEND.out true rfl
            go_roundw
            case rel => exact ⟨k + 1, by rw [HNK.out]; rfl, by first | rfl | go_num, hkl, Lib.hid hE.1, Lib.hid hE.2.1, Lib.hid hE.2.2.1, Lib.hid hE.2.2.2.1, Lib.hid hE.2.2.2.2.1, hE.2.2.2.2.2⟩
            case measure => simp [intOf]; omega
        · have hklI : ¬ ((k : Int) < (n : Int)) := by omega
          obtain rfl : k = n := by omega
          have HO5 : Hid (BB wr (w.heap.size + 1) (orL X Y)) := Lib.hid (by
            have h := HOi.out
            rw [← hXl, orK_all hYX] at h
            exact h)
          have hnew : newK X Y k = anyNew X Y := by rw [← hXl, newK_all hYX]
          have HM5 : Hid (anyNew X Y = true → cntF (orL X Y) < gf ∧ R = repR (endsT s.data.toList x) gf (orL X Y)) := Lib.hid (fun h => ⟨by have := cnt_orL X Y hYX h; have := HCN.out; omega, by rw [HR1.out, if_pos h]⟩)
          have HN5 : Hid (anyNew X Y = false → R = orL X Y) := Lib.hid (fun h => by rw [HR1.out, if_neg (by rw [h]; decide)])
          rw [hnew]
          clear hnew HR1
          go_wp2_with fail
          go_roundg gf
          case measure => omega
          case rel => exact ⟨orL X Y, anyNew X Y, rfl, by rw [orL_len hYX]; exact hXl, HO5, HM5, HN5, HXi, HTi, HBi, hsi⟩
end

section
open Go.RowKit

theorem ends_all (s : ByteArray) (hs : s.size ≤ 100) (n : Nat) (hn : (s.size : Int) + 1 = (n : Int)) (t : PT) : t.fit = true → Sok t → EndsOk s n t := by
  induction t using PT.ind with
  | h t ih =>
  intro hfit hsok
  have IH : ∀ x, x ∈ t.l → EndsOk s n x := fun x hx => ih x hx (PT.fits_mem (by rw [PT.fit_eq, Bool.and_eq_true] at hfit; exact hfit.2) hx) (hsok.mem hx)
  by_cases h2 : t.k = 2
  · exact ends_2 s hs n hn t h2
  by_cases h3 : t.k = 3
  · exact ends_3 s hs n hn t h3 hsok
  by_cases h4 : t.k = 4
  · exact ends_4 s hs n hn t h4 IH
  by_cases h5 : t.k = 5
  · exact ends_5 s hs n hn t h5 IH
  by_cases h6 : t.k = 6
  · exact ends_6 s hs n hn t h6 hfit IH
  exact ends_0 s hs n hn t ⟨h2, h3, h4, h5, h6⟩

/-- The row of the beginning. -/
def row0 (n : Nat) : List Bool := (List.replicate n false).set 0 true
/-- Whether a tree matches a text, as the specification reckons it. -/
def matchE (t : PT) (L : List UInt8) : Bool := ((endsT L t (row0 (L.length + 1)))[L.length]?).getD false

set_option maxRecDepth 100000 in
set_option maxHeartbeats 1600000 in
theorem rMatched_any (s : ByteArray) (hs : s.size ≤ 100) (t : PT) (hfit : t.fit = true) (hsok : Sok t) (w : World) (oe : Option Addr) (ce : Nat) (hT : HT w (· < w.heap.size) (.slice oe t.l.length ce) t.l) :
    Calls Tryd.prog 34 #[t.val (.slice oe t.l.length ce), .string s] w fun e w' => e = .returned (.bool (matchE t s.data.toList)) ∧ Below w.heap.size w w' := by
  obtain ⟨i0, hi, hz0, hz1, hz2⟩ := info_parts infoB
  obtain ⟨n, hn⟩ : ∃ n : Nat, (s.size : Int) + 1 = (n : Int) := ⟨s.size + 1, by omega⟩
  have hn2 : n = s.size + 1 := by omega
  have HN2 := Lib.hid hn2
  have hn3 : n ≤ 101 := by omega
  have hn4 : (0 : Int) < (n : Int) := by omega
  have hn5 : (s.size : Int) < (n : Int) := by omega
  have HEN := Lib.hid (ends_all s hs n hn t hfit hsok)
  have HT0 := Lib.hid hT
  obtain ⟨w1, hw1⟩ : ∃ w1, w1 = w.alloc (.cells #[.int .i64 t.k, .int .u64 t.s.a, .int .u64 t.s.b, .int .u64 t.s.c, .int .u64 t.s.d, .slice oe t.l.length ce] 33) := ⟨_, rfl⟩
  have HW1 := Lib.hid hw1
  have hs1 : w1.heap.size = w.heap.size + 1 := by rw [hw1]; simp
  have hb1 : Below w.heap.size w w1 := by rw [hw1]; exact below1 _ _
  have HB1 := Lib.hid hb1
  have HX1 : Hid (Box6 w1 w.heap.size (.int .i64 t.k) (.int .u64 t.s.a) (.int .u64 t.s.b) (.int .u64 t.s.c) (.int .u64 t.s.d) (.slice oe t.l.length ce)) := Lib.hid (by rw [hw1]; exact Box6.new _ _ _ _ _ _ _ rfl)
  have HME : Hid (matchE t s.data.toList = ((endsT s.data.toList t (row0 n))[s.size]?).getD false) := Lib.hid (by unfold matchE; rw [lt_len, hn2])
  have HLN : Hid ((endsT s.data.toList t (row0 n)).length = n) := Lib.hid (by rw [endsT_len _ _ _ (by unfold row0; simp [hn2]), lt_len, hn2])
  clear hw1 hb1 hT hfit hsok hn2
  unfold PT.val
  go_enter Tryd.func34, Tryd.ntmps34
  go_wp2_with (at_make; refine wpList_make_full _ rfl _ _ 102 rfl (w.heap.size + 1) 4 i0 _ 1 Tryd.underlying102 hi hz0 hz1 _ _ _ _ n rfl rfl rfl rfl ?b2 ?b3 (by simp) ?_)
  case b2 => rw [hz2]; omega
  case b3 => unfold maxLen; omega
  intro w2 hown2 hgrow2
  rw [← HW1.out] at hgrow2
  have hb2 : Below w1.heap.size w1 w2 := (Below.refl _ _).grown hgrow2 (Nat.le_refl _) (fun k h => by cases h)
  have hO : BB w2 (w.heap.size + 1) (List.replicate n false) := BB.of_own hown2
  have hbw : Below (w.heap.size + 1) w2 (w2.setCell ⟨w.heap.size + 1, 0, none⟩ (.bool true)) := (Below.refl _ _).setCell (p := ⟨w.heap.size + 1, 0, none⟩) (Nat.le_refl _) _
  obtain ⟨w3, hw3⟩ : ∃ w3, w3 = w2.setCell ⟨w.heap.size + 1, 0, none⟩ (.bool true) := ⟨_, rfl⟩
  rw [← hw3] at hbw
  have HW3 := Lib.hid hw3
  have c0 := hO.cell (k := 0) (b := false) (by rw [List.getElem?_replicate, if_pos (by omega)])
  have f0 := hO.free 0
  have HO3 : Hid (BB w3 (w.heap.size + 1) (row0 n)) := Lib.hid (by rw [hw3]; exact hO.set 0 true)
  have hb3 : Below (w.heap.size + 1) w1 w3 := (hs1 ▸ hb2).trans hbw
  have HX3 : Hid (Box6 w3 w.heap.size (.int .i64 t.k) (.int .u64 t.s.a) (.int .u64 t.s.b) (.int .u64 t.s.c) (.int .u64 t.s.d) (.slice oe t.l.length ce)) := Lib.hid (HX1.out.later hb3 (by omega))
  have HB3 : Hid (Below w.heap.size w w3) := Lib.hid (HB1.out.trans (hb3.mono (by omega)))
  have hs3 : w.heap.size + 1 ≤ w3.heap.size := by have := HO3.out.lt; omega
  have HC := Lib.hid (HEN.out w3 oe ce (w.heap.size + 1) (row0 n) (HT0.out.later (fun _ h => by omega) (fun b hb o => HB3.out.cell (p := ⟨b, o, none⟩) hb)) HO3.out (by unfold row0; simp))
  unfold PT.val at HC
  obtain ⟨x0, x1, x2, x3, x4, x5, -⟩ := HX3.out
  have hx : ∀ j v, w3.cell? ⟨w.heap.size, j, none⟩ = some v → (w2.setCell ⟨w.heap.size + 1, 0, none⟩ (.bool true)).cell? ⟨w.heap.size, j, none⟩ = some v := fun j v h => by rw [← hw3]; exact h
  have y0 := hx _ _ x0
  have y1 := hx _ _ x1
  have y2 := hx _ _ x2
  have y3 := hx _ _ x3
  have y4 := hx _ _ x4
  have y5 := hx _ _ x5
  have q : ∀ j, (w2.setCell ⟨w.heap.size + 1, 0, none⟩ (.bool true)).cell? ⟨w.heap.size, j, none⟩ = w2.cell? ⟨w.heap.size, j, none⟩ := fun j => World.cell?_setCell_other _ _ _ _ (fun e => by have := congrArg (·.block) e; simp at this)
  rw [q] at y0 y1 y2 y3 y4 y5
  clear hown2 hgrow2 hb2 HX1 HB1 hO hbw hb3 hw3 x0 x1 x2 x3 x4 x5 hx q
  go_wp2_with fail
  rw [← HW3.out]
  refine HC.out.mono ?_
  rintro e w4 ⟨⟨g4, rfl, hg4, hB4⟩, hb4⟩
  have HB4 := Lib.hid (HB3.out.trans (hb4.mono (by omega)))
  obtain ⟨v, hv⟩ : ∃ v, (endsT s.data.toList t (row0 n))[s.size]? = some v := ⟨_, List.getElem?_eq_getElem (by have := HLN.out; have := HN2.out; omega)⟩
  have c9 := hB4.cell hv
  have hME := HME.out
  rw [hv] at hME
  have HV : Hid (matchE t s.data.toList = v) := Lib.hid hME
  have hsz0 : (0 : Int) ≤ (s.size : Int) := by omega
  clear hb4 hB4 hv hME HME HC y0 y1 y2 y3 y4 y5 c0 f0
  go_wp2_with fail
  go_ret
  exact ⟨by rw [HV.out]; rfl, HB4.out⟩

set_option maxRecDepth 100000 in
set_option maxHeartbeats 1600000 in
theorem rMatch_any (p s : ByteArray) (hs : s.size ≤ 100) (t : PT) (m : Nat) (h0 : errP p = 0) (hq : parseT p.data.toList = .ok t m) (hfit : t.fit = true) (hsok : Sok t) (w : World) :
    Calls Tryd.prog 14 #[.string p, .string s] w fun e w' => e = .returned (.tuple #[.bool (matchE t s.data.toList), .int .i64 0]) ∧ Below w.heap.size w w' := by
  have HP := Lib.hid (rParse_any p w)
  have HQ := Lib.hid hq
  have H0 := Lib.hid h0
  have HF := Lib.hid hfit
  have HS := Lib.hid hsok
  clear hq h0 hfit hsok
  go_enter Tryd.func14, Tryd.ntmps14
  go_wp2_with fail
  refine HP.out.mono ?_
  rintro e w1 ⟨⟨hne, _⟩ | ⟨_, t', m', oe, ce, hq', rfl, hT⟩, hb1⟩
  · exact absurd H0.out hne
  have htt : t' = t := by
    have h := HQ.out
    rw [hq'] at h
    cases h
    rfl
  subst htt
  have hb2 := below1 w1 (.cells #[.int .i64 t'.k, .int .u64 t'.s.a, .int .u64 t'.s.b, .int .u64 t'.s.c, .int .u64 t'.s.d, .slice oe t'.l.length ce] 33)
  have HT2 : Hid (HT (w1.alloc (.cells #[.int .i64 t'.k, .int .u64 t'.s.a, .int .u64 t'.s.b, .int .u64 t'.s.c, .int .u64 t'.s.d, .slice oe t'.l.length ce] 33)) (· < (w1.alloc (.cells #[.int .i64 t'.k, .int .u64 t'.s.a, .int .u64 t'.s.b, .int .u64 t'.s.c, .int .u64 t'.s.d, .slice oe t'.l.length ce] 33)).heap.size) (.slice oe t'.l.length ce) t'.l) := Lib.hid (hT.later (fun _ h => by have := h.2; rw [World.size_alloc]; omega) (fun b hb o => hb2.cell (p := ⟨b, o, none⟩) hb.2))
  have HB2 := Lib.hid (hb1.trans (hb2.mono hb1.size))
  have HC := Lib.hid (rMatched_any s hs t' HF.out HS.out _ oe ce HT2.out)
  have hs1 := hb1.size
  clear hT hb1 hb2 hq' HP
  unfold PT.val at HC ⊢
  go_wp2_with fail
  refine HC.out.mono ?_
  rintro e w3 ⟨rfl, hb3⟩
  go_wp2_with fail
  go_ret2
  exact ⟨rfl, HB2.out.trans (hb3.mono (by rw [World.size_alloc]; omega))⟩
end

end Go.Proofs.YtlonddlemlkhoaaDoor
