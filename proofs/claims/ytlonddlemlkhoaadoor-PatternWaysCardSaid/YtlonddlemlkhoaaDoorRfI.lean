/-
  ends of the specification. Nothing is assumed.
-/
import Derived.Test.YtlonddlemlkhoaaDoorRfH
import Derived.Test.YtlonddlemlkhoaaDoorEnP
import Derived.Laws.CopyOwn
namespace Go.Proofs.YtlonddlemlkhoaaDoor
open Go.RowKit

theorem infoB : (Tryd.prog.info? 4).map (fun i => (i.zero, i.size, i.bytes)) = some (some (.bool false), 1, 1) := by kernel_rfl
theorem infoSizeB : (Tryd.prog.info? 4).map (·.size) = some 1 := by kernel_rfl

/-- A row of truth values in a block of its own. -/
def BB (w : World) (g : Nat) (F : List Bool) : Prop := w.heap[g]? = some (.cells (F.map Value.bool).toArray 4 (0, 0))
theorem BB.lt {w : World} {g : Nat} {F : List Bool} (h : BB w g F) : g < w.heap.size := (Array.getElem?_eq_some_iff.1 h).1
theorem BB.later {w w' : World} {g B : Nat} {F : List Bool} (h : BB w g F) (hb : Below B w w') (hg : g < B) : BB w' g F := (hb.block g hg).trans h
theorem BB.cell {w : World} {g : Nat} {F : List Bool} (h : BB w g F) {k : Nat} {b : Bool} (hk : F[k]? = some b) : w.cell? ⟨g, k, none⟩ = some (.bool b) := by
  unfold World.cell?
  rw [h]
  show (F.map Value.bool).toArray[k]? = _
  simp [hk]
theorem BB.free {w : World} {g : Nat} {F : List Bool} (h : BB w g F) (k : Nat) : w.frozen? ⟨g, k, none⟩ = false := by unfold World.frozen?; rw [h]; simp
theorem BB.set {w : World} {g : Nat} {F : List Bool} (h : BB w g F) (k : Nat) (b : Bool) : BB (w.setCell ⟨g, k, none⟩ (.bool b)) g (F.set k b) := by
  unfold BB at *
  simp [World.setCell, Array.getElem?_modify, h, List.map_set]
theorem BB.far {w : World} {g : Nat} {F : List Bool} (h : BB w g F) {p : Addr} (hk : g ≠ p.block) (v : Value) : BB (w.setCell p v) g F := (Below.heap_setCell _ _ _ _ hk).trans h
theorem BB.of_own {w : World} {g base n : Nat} (h : w.ownsRow base 4 1 (.slice (some ⟨g, 0, none⟩) n n) n (madeCells #[Value.bool false] n).toList) : BB w g (List.replicate n false) := by
  rw [toList_madeCells_one] at h
  rcases h.2 with ⟨h0, _⟩ | ⟨g', cap, cur, hv, _, hh, _, _, hsz, htk⟩
  · cases h0
  · cases hv
    unfold BB
    rw [hh]
    have : cur = ((List.replicate n false).map Value.bool).toArray := by
      apply Array.toList_inj.1
      rw [List.take_of_length_le (by simp; omega)] at htk
      rw [htk]
      simp
    rw [this]

/-- The sets of a tree are sets of bytes. -/
def Sok (t : PT) : Prop := PT.rec (motive_1 := fun _ => Prop) (motive_2 := fun _ => Prop) (fun _ s _ ih => s.Ok ∧ ih) True (fun _ _ a b => a ∧ b) t
theorem Sok.here {t : PT} (h : Sok t) : t.s.Ok := by cases t; exact h.1
theorem Sok.mem {t x : PT} (h : Sok t) (hx : x ∈ t.l) : Sok x := by
  cases t with
  | mk k s l =>
    have h2 := h.2
    clear h
    induction l with
    | nil => cases hx
    | cons y l ih =>
      rcases List.mem_cons.1 hx with rfl | hx
      · exact h2.1
      · exact ih hx h2.2

/-- The contract of ends at a tree. -/
def EndsOk (s : ByteArray) (n : Nat) (t : PT) : Prop := ∀ (w : World) (oe : Option Addr) (ce g : Nat) (F : List Bool), HT w (· < w.heap.size) (.slice oe t.l.length ce) t.l → BB w g F → F.length = n →
    Calls Tryd.prog 62 #[t.val (.slice oe t.l.length ce), .string s, .slice (some ⟨g, 0, none⟩) n n] w fun e w' => (∃ g', e = .returned (.slice (some ⟨g', 0, none⟩) n n) ∧ w.heap.size ≤ g' ∧ BB w' g' (endsT s.data.toList t F)) ∧ Below w.heap.size w w'
theorem spliceF {n : Nat} {F : List Bool} (h : F.length = n) : splice (List.replicate n (Value.bool false)) 0 (F.map Value.bool) = F.map Value.bool := by
  unfold splice
  simp
  omega
set_option maxRecDepth 100000 in
set_option maxHeartbeats 3200000 in
theorem ends_2 (s : ByteArray) (hs : s.size ≤ 100) (n : Nat) (hn : (s.size : Int) + 1 = (n : Int)) (t : PT) (hk : t.k = 2)  : EndsOk s n t := by
  have hn2 : n = s.size + 1 := by omega
  have hn3 : n ≤ 101 := by omega
  obtain ⟨i0, hi, hz0, hz1, hz2⟩ := info_parts infoB
  intro w oe ce g F hT hF hFl
  have hFlt := hF.lt
  have HFl := Lib.hid hFl
  have HT0 := Lib.hid hT
  obtain ⟨R, hR⟩ : ∃ R, R = endsT s.data.toList t F := ⟨_, rfl⟩
  have hRl : R.length = n := by rw [hR, endsT_len _ _ _ (by rw [lt_len, hFl, hn2]), lt_len, hn2]
  have HRl := Lib.hid hRl
  rw [← hR]
  rw [endsT_eq, lt_len, ← hn2] at hR
  have HR := Lib.hid hR
  have HN2 := Lib.hid hn2
  have kb2 : (t.k == 2) = true := by rw [hk]; rfl
  have HK := Lib.hid hk
  obtain ⟨w1, hw1⟩ : ∃ w1, w1 = w.alloc (.cells #[.int .i64 t.k, .int .u64 t.s.a, .int .u64 t.s.b, .int .u64 t.s.c, .int .u64 t.s.d, .slice oe t.l.length ce] 33) := ⟨_, rfl⟩
  have HW1 := Lib.hid hw1
  have hs1 : w1.heap.size = w.heap.size + 1 := by rw [hw1]; simp
  have hb1 : Below w.heap.size w w1 := by rw [hw1]; exact below1 _ _
  have HB1 := Lib.hid hb1
  have HX1 : Hid (Box6 w1 w.heap.size (.int .i64 t.k) (.int .u64 t.s.a) (.int .u64 t.s.b) (.int .u64 t.s.c) (.int .u64 t.s.d) (.slice oe t.l.length ce)) := Lib.hid (by rw [hw1]; exact Box6.new _ _ _ _ _ _ _ rfl)
  have HF0 := Lib.hid hF
  clear hw1 hb1 hT hF hR hRl hFl hn2 hk
  unfold PT.val
  go_enter Tryd.func62, Tryd.ntmps62
  go_wp2_with (at_make; refine wpList_make_full _ rfl _ _ 102 rfl (w.heap.size + 1) 4 i0 _ 1 Tryd.underlying102 hi hz0 hz1 _ _ _ _ n rfl rfl rfl rfl ?b2 ?b3 (by simp) ?_)
  case b2 => rw [hz2]; omega
  case b3 => unfold maxLen; omega
  intro w2 hown2 hgrow2
  rw [← HW1.out] at hgrow2
  have hb2 : Below w1.heap.size w1 w2 := (Below.refl _ _).grown hgrow2 (Nat.le_refl _) (fun k h => by cases h)
  have HO : Hid (BB w2 (w.heap.size + 1) (List.replicate n false)) := Lib.hid (BB.of_own hown2)
  have HB : Hid (Below w.heap.size w w2) := Lib.hid (HB1.out.trans (hb2.mono (by omega)))
  have HX : Hid (Box6 w2 w.heap.size (.int .i64 t.k) (.int .u64 t.s.a) (.int .u64 t.s.b) (.int .u64 t.s.c) (.int .u64 t.s.d) (.slice oe t.l.length ce)) := Lib.hid (HX1.out.later hb2 (by omega))
  have hs2 : w.heap.size + 2 ≤ w2.heap.size := by have := HO.out.lt; omega
  have HF : Hid (BB w2 g F) := Lib.hid (HF0.out.later HB.out hFlt)
  have HT2 : Hid (HT w2 (· < w.heap.size) (.slice oe t.l.length ce) t.l) := Lib.hid (HT0.out.later (fun _ h => h) (fun b hb o => HB.out.cell (p := ⟨b, o, none⟩) hb))
  clear hown2 hgrow2 hb2 HX1 HB1 HT0 HF0
  obtain ⟨x0, x1, x2, x3, x4, x5, xf⟩ := HX.out
  have HFc : Hid (∀ (j : Nat) v, (F.map Value.bool)[j]? = some v → w2.cell? (Addr.add ⟨g, 0, none⟩ j) = some v) := Lib.hid (fun j v hv => by
    simp only [List.getElem?_map, Option.map_eq_some_iff] at hv
    obtain ⟨b, hb, rfl⟩ := hv
    have := HF.out.cell hb
    unfold Addr.add
    split
    · rename_i h; subst h; exact this
    · simpa using this)
  go_wp2_with (refine wpList_copy_splice (o := ⟨some 26, _, _, _, _, _⟩) rfl (.tmp 24) (.tmp 25) 102 102 rfl 4 Tryd.underlying102 infoSizeB (some ⟨w.heap.size + 1, 0, none⟩) (some ⟨g, 0, none⟩) n n n n rfl rfl (w.heap.size + 1) 0 (List.replicate n (Value.bool false)) 4 (by simpa [BB] using HO.out) (F.map Value.bool) (by rw [List.length_map, HFl.out]; exact (Nat.min_self n).symm) (fun h => ⟨rfl, ⟨g, 0, none⟩, rfl, HFc.out⟩) (by rw [List.length_map, HFl.out]; simp) (by intro v hv; simp at hv; rcases hv with ⟨_, rfl⟩ | ⟨_, rfl⟩ <;> rfl) (w.heap.size + 1) w2 (Below.refl _ _) (Nat.le_refl _) ?_)
  intro w3 HG3 hB3
  have HB3 : Hid (Below w.heap.size w w3) := Lib.hid (HB.out.trans (hB3.mono (by omega)))
  have HO3 : Hid (BB w3 (w.heap.size + 1) F) := Lib.hid (by unfold BB; rw [← spliceF HFl.out]; exact HG3.out)
  have HX3 : Hid (Box6 w3 w.heap.size (.int .i64 t.k) (.int .u64 t.s.a) (.int .u64 t.s.b) (.int .u64 t.s.c) (.int .u64 t.s.d) (.slice oe t.l.length ce)) := Lib.hid (HX.out.later hB3 (by omega))
  have HT3 : Hid (HT w3 (· < w.heap.size) (.slice oe t.l.length ce) t.l) := Lib.hid (HT2.out.later (fun _ h => h) (fun b hb o => hB3.cell (p := ⟨b, o, none⟩) (by show b < w.heap.size + 1; omega)))
  have hs3 : w.heap.size + 2 ≤ w3.heap.size := by have := HO3.out.lt; omega
  clear x0 x1 x2 x3 x4 x5 xf HO HF HX HB hs2 HT2 HFc
  clear HG3 hB3
  have HRe : Hid (R = F) := Lib.hid (by rw [HR.out, if_pos HK.out])
  go_wp2_with fail
  go_ret
  exact ⟨⟨w.heap.size + 1, rfl, by omega, by rw [HRe.out]; exact HO3.out⟩, HB3.out⟩
set_option maxRecDepth 100000 in
set_option maxHeartbeats 3200000 in
theorem ends_0 (s : ByteArray) (hs : s.size ≤ 100) (n : Nat) (hn : (s.size : Int) + 1 = (n : Int)) (t : PT) (hk : t.k ≠ 2 ∧ t.k ≠ 3 ∧ t.k ≠ 4 ∧ t.k ≠ 5 ∧ t.k ≠ 6)  : EndsOk s n t := by
  have hn2 : n = s.size + 1 := by omega
  have hn3 : n ≤ 101 := by omega
  obtain ⟨i0, hi, hz0, hz1, hz2⟩ := info_parts infoB
  intro w oe ce g F hT hF hFl
  have hFlt := hF.lt
  have HFl := Lib.hid hFl
  have HT0 := Lib.hid hT
  obtain ⟨R, hR⟩ : ∃ R, R = endsT s.data.toList t F := ⟨_, rfl⟩
  have hRl : R.length = n := by rw [hR, endsT_len _ _ _ (by rw [lt_len, hFl, hn2]), lt_len, hn2]
  have HRl := Lib.hid hRl
  rw [← hR]
  rw [endsT_eq, lt_len, ← hn2] at hR
  have HR := Lib.hid hR
  have HN2 := Lib.hid hn2
  have kb2 : (t.k == 2) = false := by rw [beq_eq_false_iff_ne]; omega
  have kb3 : (t.k == 3) = false := by rw [beq_eq_false_iff_ne]; omega
  have kb4 : (t.k == 4) = false := by rw [beq_eq_false_iff_ne]; omega
  have kb5 : (t.k == 5) = false := by rw [beq_eq_false_iff_ne]; omega
  have kb6 : (t.k == 6) = false := by rw [beq_eq_false_iff_ne]; omega
  have HK := Lib.hid hk
  obtain ⟨w1, hw1⟩ : ∃ w1, w1 = w.alloc (.cells #[.int .i64 t.k, .int .u64 t.s.a, .int .u64 t.s.b, .int .u64 t.s.c, .int .u64 t.s.d, .slice oe t.l.length ce] 33) := ⟨_, rfl⟩
  have HW1 := Lib.hid hw1
  have hs1 : w1.heap.size = w.heap.size + 1 := by rw [hw1]; simp
  have hb1 : Below w.heap.size w w1 := by rw [hw1]; exact below1 _ _
  have HB1 := Lib.hid hb1
  have HX1 : Hid (Box6 w1 w.heap.size (.int .i64 t.k) (.int .u64 t.s.a) (.int .u64 t.s.b) (.int .u64 t.s.c) (.int .u64 t.s.d) (.slice oe t.l.length ce)) := Lib.hid (by rw [hw1]; exact Box6.new _ _ _ _ _ _ _ rfl)
  have HF0 := Lib.hid hF
  clear hw1 hb1 hT hF hR hRl hFl hn2 hk
  unfold PT.val
  go_enter Tryd.func62, Tryd.ntmps62
  go_wp2_with (at_make; refine wpList_make_full _ rfl _ _ 102 rfl (w.heap.size + 1) 4 i0 _ 1 Tryd.underlying102 hi hz0 hz1 _ _ _ _ n rfl rfl rfl rfl ?b2 ?b3 (by simp) ?_)
  case b2 => rw [hz2]; omega
  case b3 => unfold maxLen; omega
  intro w2 hown2 hgrow2
  rw [← HW1.out] at hgrow2
  have hb2 : Below w1.heap.size w1 w2 := (Below.refl _ _).grown hgrow2 (Nat.le_refl _) (fun k h => by cases h)
  have HO : Hid (BB w2 (w.heap.size + 1) (List.replicate n false)) := Lib.hid (BB.of_own hown2)
  have HB : Hid (Below w.heap.size w w2) := Lib.hid (HB1.out.trans (hb2.mono (by omega)))
  have HX : Hid (Box6 w2 w.heap.size (.int .i64 t.k) (.int .u64 t.s.a) (.int .u64 t.s.b) (.int .u64 t.s.c) (.int .u64 t.s.d) (.slice oe t.l.length ce)) := Lib.hid (HX1.out.later hb2 (by omega))
  have hs2 : w.heap.size + 2 ≤ w2.heap.size := by have := HO.out.lt; omega
  have HF : Hid (BB w2 g F) := Lib.hid (HF0.out.later HB.out hFlt)
  have HT2 : Hid (HT w2 (· < w.heap.size) (.slice oe t.l.length ce) t.l) := Lib.hid (HT0.out.later (fun _ h => h) (fun b hb o => HB.out.cell (p := ⟨b, o, none⟩) hb))
  clear hown2 hgrow2 hb2 HX1 HB1 HT0 HF0
  obtain ⟨x0, x1, x2, x3, x4, x5, xf⟩ := HX.out
  have HRe : Hid (R = List.replicate n false) := Lib.hid (by
    obtain ⟨h2, h3, h4, h5, h6⟩ := HK.out
    rw [HR.out, if_neg h2, if_neg h3, if_neg h4, if_neg h5, if_neg h6])
  go_wp2_with fail
  go_ret
  exact ⟨⟨w.heap.size + 1, rfl, by omega, by rw [HRe.out]; exact HO.out⟩, HB.out⟩
end Go.Proofs.YtlonddlemlkhoaaDoor
