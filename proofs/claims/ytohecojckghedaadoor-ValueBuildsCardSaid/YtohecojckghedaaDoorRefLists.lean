/-
  The walks of the reference's OfInts, OfTexts and OfTable.
-/
import Derived.Test.YtohecojckghedaaDoorMapEach
import Derived.Deep.AppendLies
import Derived.Deep.RegionLaw
import Derived.Deep.RegionHeld3
namespace Go.Proofs.YtohecojckghedaaDoor
open Go.RowKit

/-- A value that the call has built so far: its slice owns the elements. -/
def Own4 (w : World) (base : Nat) (x : Value) (ps : List (V × Value)) : Prop := w.ownsRow base 24 4 x ps.length (flat ps)

set_option maxHeartbeats 400000 in
theorem refOfText_ex (s : ByteArray) (w : World) :
    Calls Tryd.prog 41 #[.string s] w fun e w' => e = .returned (.agg #[.int .i64 3, .int .i64 0, .string s, .slice none 0 0]) ∧ w' = w.alloc (.cells #[.int .i64 3, .int .i64 0, .string s, .slice none 0 0] 24) := by
  go_enter Tryd.func41, Tryd.ntmps41
  go_wp2_with fail
  exact bodyPost_ret (v := .agg #[.int .i64 3, .int .i64 0, .string s, .slice none 0 0]) (by simp [results, Tryd.results41, go_sem]) rfl ⟨rfl, rfl⟩

/-- Four cells of one block, none frozen. -/
def Box4 (w : World) (n : Nat) (a b c d : Value) : Prop :=
  w.cell? ⟨n, 0, none⟩ = some a ∧ w.cell? ⟨n, 1, none⟩ = some b ∧ w.cell? ⟨n, 2, none⟩ = some c ∧ w.cell? ⟨n, 3, none⟩ = some d ∧ ∀ o, w.frozen? ⟨n, o, none⟩ = false
theorem Box4.of_block {w w1 : World} {n : Nat} {a b c d : Value} (h : Box4 w n a b c d) (hb : w1.heap[n]? = w.heap[n]?) : Box4 w1 n a b c d := by
  obtain ⟨h0, h1, h2, h3, hz⟩ := h
  exact ⟨(World.cell?_of_block (w := w) (a := ⟨n, _, none⟩) hb).trans h0, (World.cell?_of_block (w := w) (a := ⟨n, _, none⟩) hb).trans h1, (World.cell?_of_block (w := w) (a := ⟨n, _, none⟩) hb).trans h2,
    (World.cell?_of_block (w := w) (a := ⟨n, _, none⟩) hb).trans h3, fun o => (World.frozen?_of_block (w := w) (a := ⟨n, o, none⟩) hb).trans (hz o)⟩
theorem Box4.later {w w1 : World} {n B : Nat} {a b c d : Value} (h : Box4 w n a b c d) (hb : Below B w w1) (hn : n < B) : Box4 w1 n a b c d := h.of_block (hb.block n hn)
theorem Box4.grown {w w1 : World} {n : Nat} {row : Option Nat} {a b c d : Value} (h : Box4 w n a b c d) (hg : w.grownBy w1 row) (hn : n < w.heap.size) (hne : row ≠ some n) : Box4 w1 n a b c d := h.of_block (hg.block n hn (Ne.symm hne))
theorem Box4.new {w : World} {n : Nat} (a b c d : Value) (t : Nat) (hn : w.heap.size = n) : Box4 (w.alloc (.cells #[a, b, c, d] t)) n a b c d := by
  subst hn
  obtain ⟨h0, h1, h2, h3⟩ := box_later (a := a) (b := b) (c := c) (d := d) (t := t) (Below.refl (w.heap.size + 1) (w.alloc (.cells #[a, b, c, d] t)))
  exact ⟨h0, h1, h2, h3, fun o => World.frozen?_alloc_at _ _ _ _ rfl⟩
theorem Box4.set3 {w : World} {n : Nat} {a b c d : Value} (h : Box4 w n a b c d) (x : Value) : Box4 (w.setCell ⟨n, 3, none⟩ x) n a b c x := by
  obtain ⟨h0, h1, h2, h3, hz⟩ := h
  refine ⟨?_, ?_, ?_, World.cell?_setCell_same _ _ _ h3, fun o => ?_⟩
  · rw [World.cell?_setCell_other _ _ _ _ (by simp)]; exact h0
  · rw [World.cell?_setCell_other _ _ _ _ (by simp)]; exact h1
  · rw [World.cell?_setCell_other _ _ _ _ (by simp)]; exact h2
  · rw [World.frozen?_setCell]; exact hz o

theorem two_new (w : World) (X Y : Obj) : ((w.alloc X).alloc Y).drew.heap[w.heap.size + 1]? = some Y := by
  show ((w.heap.push X).push Y)[w.heap.size + 1]? = some Y
  rw [Array.getElem?_push, if_pos (by simp)]

theorem own_ne {w : World} {base e size n : Nat} {v : Value} {xs : List Value} (h : w.ownsRow base e size v n xs) {g : Nat} (hg : g < base) : v.ownBlock ≠ some g := by
  rcases h.2 with ⟨rfl, _⟩ | ⟨g', cap, cur, rfl, hb, _⟩
  · simp [Value.ownBlock]
  · simp [Value.ownBlock]; omega

set_option maxRecDepth 100000 in
set_option maxHeartbeats 1600000 in
theorem refOfInts_any (zs : List Int) (x : Value) (w : World) (B : Nat) (hl : LInts w B x zs) (hB : B ≤ w.heap.size) (hn : zs.length ≤ 1000) :
    Calls Tryd.prog 45 #[x] w fun e w' => RetV w.heap.size (.mk 5 0 ⟨#[]⟩ (zs.map fun z => .mk 2 z ⟨#[]⟩ [])) e w' ∧ Below w.heap.size w w' := by
  obtain ⟨oa, cap, rfl, hm, hel⟩ := hl
  obtain ⟨i, hi, hz0, hz1, hz2⟩ := info_parts infoValue
  go_enter Tryd.func45, Tryd.ntmps45
  go_wp2_with fail
  go_loopw [4] (fun v wr => ∃ (k : Nat) (oc : Option Addr) (cc : Nat), k ≤ zs.length ∧ v = .int .i64 k ∧ w.heap.size + 1 < wr.heap.size ∧
      Hid (wr.ownsRow (w.heap.size + 2) 24 4 (.slice oc k cc) k (flat ((zs.take k).map fun z => (.mk 2 z ⟨#[]⟩ [], .slice none 0 0)))) ∧
      Hid (Box4 wr (w.heap.size + 1) (.int .i64 5) (.int .i64 0) (.string ⟨#[]⟩) (.slice oc k cc)) ∧
      Below (w.heap.size + 1) (w.alloc (.cells #[.int .i64 0, .int .i64 0, .string ⟨#[]⟩, .slice none 0 0] 24)) wr) (fun v _ => zs.length - (intOf v).toNat)
  case atStart => exact ⟨0, none, 0, Nat.zero_le _, rfl, by simp, ⟨rfl, .inl ⟨rfl, rfl⟩⟩, Box4.new _ _ _ _ _ (by simp), (Below.refl _ _).alloc (by simp) _⟩
  case round =>
    obtain ⟨k, oc, cc, hk, rfl, hgr, HO, HB, hbel'⟩ := hrel
    have hbx := HB.out
    obtain ⟨c0, c1, c2, c3, hfz⟩ := id hbx
    have hbel : Below w.heap.size w wr := (below1 _ _).trans (hbel'.mono (by omega))
    by_cases hlt : k < zs.length
    · obtain ⟨b, off, c, rfl, hb, hc, hcv⟩ := hel k _ (List.getElem?_eq_getElem hlt)
      obtain rfl : c = .int .i64 zs[k] := hcv
      rw [← hbel.cell (p := ⟨b, _, none⟩) (Nat.lt_of_lt_of_le hb hB)] at hc
      have f3 := hfz 3
      have g3 : ∀ X, (wr.alloc X).cell? ⟨w.heap.size + 1, 3, none⟩ = some (.slice oc k cc) := fun X => (World.cell?_alloc_past _ _ _ hgr).trans c3
      have g4 : ∀ X Y, ((wr.alloc X).alloc Y).cell? ⟨w.heap.size + 1, 3, none⟩ = some (.slice oc k cc) := fun X Y => (World.cell?_alloc_past _ _ _ (by simp; omega)).trans (g3 X)
      have hki : (k : Int) < (zs.length : Int) := by omega
      go_wp2_with fail
      have hn1 : k + 1 ≤ maxLen := by unfold maxLen; omega
      have hby : (k + 1) * 56 ≤ 140737488355328 := by omega
      have hblk : ∀ (X Y : Obj), ((wr.alloc X).alloc Y).drew.heap[wr.heap.size + 1]? = some Y := fun X Y => two_new wr X Y
      have hne := own_ne HO.out (Nat.lt_succ_self (w.heap.size + 1))
      have HNE := Lib.hid hne; clear hne
      have HBX : Hid (∀ (w1 : World) (row : Option Nat), ((wr.alloc (.cells #[.int .i64 2, .int .i64 zs[k], .string ⟨#[]⟩, .slice none 0 0] 24)).alloc (.cells #[.int .i64 2, .int .i64 zs[k], .string ⟨#[]⟩, .slice none 0 0] 24)).drew.grownBy w1 row → row ≠ some (w.heap.size + 1) →
          Box4 w1 (w.heap.size + 1) (.int .i64 5) (.int .i64 0) (.string ⟨#[]⟩) (.slice oc k cc)) :=
        fun w1 row hg hne => ((hbx.later (below2 wr _ _) hgr).later (Below.refl _ _).drew (by first | omega | (simp; omega))).grown hg (by first | omega | (simp; omega)) hne
      go_region_law (first
        | (refine step_append_lies _ (by rfl) _ _ _ (by rfl) (w.heap.size + 2) 24 i _ 4 56 Tryd.underlying22 hi hz0 hz1 hz2 rfl (by omega) (.slice oc k cc) k (flat ((zs.take k).map fun z => (.mk 2 z ⟨#[]⟩ [], .slice none 0 0))) (by rfl) ((HO.out.alloc _).alloc _).drew
            ⟨wr.heap.size + 1, 0, none⟩ 1 1 [.int .i64 2, .int .i64 zs[k], .string ⟨#[]⟩, .slice none 0 0] (by rfl) (by rfl) (World.news_of_block (cs := #[.int .i64 2, .int .i64 zs[k], .string ⟨#[]⟩, .slice none 0 0]) (t := 24) (fr := (0, 0)) (hblk _ _)) (by simp [Value.oneCell'])
            (by omega) hn1 hby (by simp; omega) (wr.heap.size + 2) (by simp) ?_
           intro gg cap2 w1 hown1 hgrow hat hlt1
           obtain ⟨e0, e1, e2, e3, ez⟩ := HBX.out w1 _ hgrow HNE.out
           have z3 := ez 3)
        | (go_simp; go_at_call 37; refine (refOfInt_any _ _).mono ?_; rintro e w' ⟨rfl, rfl⟩))
      all_goals
        have hbw : Below (w.heap.size + 1) (w.alloc (.cells #[.int .i64 0, .int .i64 0, .string ⟨#[]⟩, .slice none 0 0] 24)) w1 :=
          (((hbel'.alloc (by omega) _).alloc (by simp; omega) _).drew).grown hgrow (by simp; omega) (fun q hq => by
            rcases Nat.lt_or_ge q (w.heap.size + 1) with h | h
            · exact absurd hq (own_ne HO.out (by omega))
            · exact h)
        have hbx1 := HBX.out w1 _ hgrow HNE.out
        have hsz1 : w.heap.size + 1 < w1.heap.size := by have := hgrow.size; simp at this; omega
        clear e0 e1 e2 e3 ez z3 g3 g4 c0 c1 c2 c3 f3 hfz hbx
        go_wp2_with fail
        refine ⟨⟨k + 1, some ⟨gg, 0, none⟩, cap2, hlt, by go_num, by rw [size_set]; exact hsz1, ?_, hbx1.set3 _, hbw.setCell (p := ⟨w.heap.size + 1, 3, none⟩) (Nat.le_refl _) _⟩, by simp [intOf]; omega⟩
        have h := ownsRow_setCell_below hown1 (a := ⟨w.heap.size + 1, 3, none⟩) (Nat.lt_succ_self _) (.slice (some ⟨gg, 0, none⟩) (k + 1) cap2)
        rw [List.take_succ_eq_append_getElem hlt, List.map_append, List.map_cons, List.map_nil, flat_snoc]
        exact h
    · obtain rfl : k = zs.length := by omega
      rw [List.take_length] at HO
      clear hel
      have d0 : wr.cell? ⟨w.heap.size, 0, none⟩ = some (.int .i64 0) := (hbel'.cell (p := ⟨w.heap.size, 0, none⟩) (Nat.lt_succ_self _)).trans (cell_at _ _ _ _ _ rfl)
      have d1 : wr.cell? ⟨w.heap.size, 1, none⟩ = some (.int .i64 0) := (hbel'.cell (p := ⟨w.heap.size, 1, none⟩) (Nat.lt_succ_self _)).trans (cell_at _ _ _ _ _ rfl)
      have d2 : wr.cell? ⟨w.heap.size, 2, none⟩ = some (.string ⟨#[]⟩) := (hbel'.cell (p := ⟨w.heap.size, 2, none⟩) (Nat.lt_succ_self _)).trans (cell_at _ _ _ _ _ rfl)
      have d3 : wr.cell? ⟨w.heap.size, 3, none⟩ = some (.slice none 0 0) := (hbel'.cell (p := ⟨w.heap.size, 3, none⟩) (Nat.lt_succ_self _)).trans (cell_at _ _ _ _ _ rfl)
      have hz : ∀ o, wr.frozen? ⟨w.heap.size, o, none⟩ = false := fun o => (hbel'.frozen (p := ⟨w.heap.size, o, none⟩) (Nat.lt_succ_self _)).trans (World.frozen?_alloc_at _ _ _ _ rfl)
      have y0 := hz 0; have y1 := hz 1; have y2 := hz 2; have y3 := hz 3
      clear hz hfz hbx
      go_wp2_with fail
      have hRL : RepS wr (Btw (w.heap.size + 2) wr.heap.size) (.slice oc zs.length cc) (zs.map fun z => .mk 2 z ⟨#[]⟩ []) := by
        have h := RepS.of_owns (S := Btw (w.heap.size + 2) wr.heap.size) (ps := zs.map fun z => ((.mk 2 z ⟨#[]⟩ [] : V), Value.slice none 0 0)) (by rw [List.length_map]; exact HO.out) (fun p hp => by
          obtain ⟨z, _, rfl⟩ := List.mem_map.1 hp
          exact RepS.nil) (by rw [List.length_map]; exact hm) (fun g h1 h2 => ⟨h1, h2⟩)
        rw [List.map_map] at h
        exact h
      refine bodyPost_ret (v := .agg #[.int .i64 5, .int .i64 0, .string ⟨#[]⟩, .slice oc zs.length cc]) (by simp [results, Tryd.results45, go_sem, *]) rfl ⟨⟨oc, cc, ?_, ?_⟩, ?_⟩
      · show Ending.returned _ = Ending.returned (.agg #[.int .i64 5, .int .i64 0, .string ⟨#[]⟩, .slice oc (zs.map _).length cc])
        rw [List.length_map]
      · have h := Btw.set4 (N := w.heap.size) (o := 0) (H := w.heap.size + 2) (by omega) (.int .i64 5) (.int .i64 0) (.string ⟨#[]⟩) (.slice oc zs.length cc) (S := Btw w.heap.size wr.heap.size) hRL (fun b h => ⟨by have := h.1; omega, h.2⟩)
        show RepS _ (Btw w.heap.size _) (.slice oc (zs.map _).length cc) (zs.map _)
        rw [List.length_map]
        exact h.later (fun b h => ⟨h.1, by have := h.2; simp only [size_set]; omega⟩) (fun _ _ _ => rfl)
      · exact below_set4 (o := 0) hbel (Nat.le_refl _) _ _ _ _

set_option maxRecDepth 100000 in
set_option maxHeartbeats 1600000 in
theorem refOfTexts_any (zs : List ByteArray) (x : Value) (w : World) (B : Nat) (hl : LStrs w B x zs) (hB : B ≤ w.heap.size) (hn : zs.length ≤ 1000) :
    Calls Tryd.prog 47 #[x] w fun e w' => RetV w.heap.size (.mk 6 0 ⟨#[]⟩ (zs.map fun z => .mk 3 0 z [])) e w' ∧ Below w.heap.size w w' := by
  obtain ⟨oa, cap, rfl, hm, hel⟩ := hl
  obtain ⟨i, hi, hz0, hz1, hz2⟩ := info_parts infoValue
  go_enter Tryd.func47, Tryd.ntmps47
  go_wp2_with fail
  go_loopw [4] (fun v wr => ∃ (k : Nat) (oc : Option Addr) (cc : Nat), k ≤ zs.length ∧ v = .int .i64 k ∧ w.heap.size + 1 < wr.heap.size ∧
      Hid (wr.ownsRow (w.heap.size + 2) 24 4 (.slice oc k cc) k (flat ((zs.take k).map fun z => (.mk 3 0 z [], .slice none 0 0)))) ∧
      Hid (Box4 wr (w.heap.size + 1) (.int .i64 6) (.int .i64 0) (.string ⟨#[]⟩) (.slice oc k cc)) ∧
      Below (w.heap.size + 1) (w.alloc (.cells #[.int .i64 0, .int .i64 0, .string ⟨#[]⟩, .slice none 0 0] 24)) wr) (fun v _ => zs.length - (intOf v).toNat)
  case atStart => exact ⟨0, none, 0, Nat.zero_le _, rfl, by simp, ⟨rfl, .inl ⟨rfl, rfl⟩⟩, Box4.new _ _ _ _ _ (by simp), (Below.refl _ _).alloc (by simp) _⟩
  case round =>
    obtain ⟨k, oc, cc, hk, rfl, hgr, HO, HB, hbel'⟩ := hrel
    have hbx := HB.out
    obtain ⟨c0, c1, c2, c3, hfz⟩ := id hbx
    have hbel : Below w.heap.size w wr := (below1 _ _).trans (hbel'.mono (by omega))
    by_cases hlt : k < zs.length
    · obtain ⟨b, off, c, rfl, hb, hc, hcv⟩ := hel k _ (List.getElem?_eq_getElem hlt)
      obtain rfl : c = .string zs[k] := hcv
      rw [← hbel.cell (p := ⟨b, _, none⟩) (Nat.lt_of_lt_of_le hb hB)] at hc
      have f3 := hfz 3
      have g3 : ∀ X, (wr.alloc X).cell? ⟨w.heap.size + 1, 3, none⟩ = some (.slice oc k cc) := fun X => (World.cell?_alloc_past _ _ _ hgr).trans c3
      have g4 : ∀ X Y, ((wr.alloc X).alloc Y).cell? ⟨w.heap.size + 1, 3, none⟩ = some (.slice oc k cc) := fun X Y => (World.cell?_alloc_past _ _ _ (by simp; omega)).trans (g3 X)
      have hki : (k : Int) < (zs.length : Int) := by omega
      go_wp2_with fail
      have hn1 : k + 1 ≤ maxLen := by unfold maxLen; omega
      have hby : (k + 1) * 56 ≤ 140737488355328 := by omega
      have hblk : ∀ (X Y : Obj), ((wr.alloc X).alloc Y).drew.heap[wr.heap.size + 1]? = some Y := fun X Y => two_new wr X Y
      have hne := own_ne HO.out (Nat.lt_succ_self (w.heap.size + 1))
      have HNE := Lib.hid hne; clear hne
      have HBX : Hid (∀ (w1 : World) (row : Option Nat), ((wr.alloc (.cells #[.int .i64 3, .int .i64 0, .string zs[k], .slice none 0 0] 24)).alloc (.cells #[.int .i64 3, .int .i64 0, .string zs[k], .slice none 0 0] 24)).drew.grownBy w1 row → row ≠ some (w.heap.size + 1) →
          Box4 w1 (w.heap.size + 1) (.int .i64 6) (.int .i64 0) (.string ⟨#[]⟩) (.slice oc k cc)) :=
        fun w1 row hg hne => ((hbx.later (below2 wr _ _) hgr).later (Below.refl _ _).drew (by first | omega | (simp; omega))).grown hg (by first | omega | (simp; omega)) hne
      go_region_law (first
        | (refine step_append_lies _ (by rfl) _ _ _ (by rfl) (w.heap.size + 2) 24 i _ 4 56 Tryd.underlying22 hi hz0 hz1 hz2 rfl (by omega) (.slice oc k cc) k (flat ((zs.take k).map fun z => (.mk 3 0 z [], .slice none 0 0))) (by rfl) ((HO.out.alloc _).alloc _).drew
            ⟨wr.heap.size + 1, 0, none⟩ 1 1 [.int .i64 3, .int .i64 0, .string zs[k], .slice none 0 0] (by rfl) (by rfl) (World.news_of_block (cs := #[.int .i64 3, .int .i64 0, .string zs[k], .slice none 0 0]) (t := 24) (fr := (0, 0)) (hblk _ _)) (by simp [Value.oneCell'])
            (by omega) hn1 hby (by simp; omega) (wr.heap.size + 2) (by simp) ?_
           intro gg cap2 w1 hown1 hgrow hat hlt1
           obtain ⟨e0, e1, e2, e3, ez⟩ := HBX.out w1 _ hgrow HNE.out
           have z3 := ez 3)
        | (go_simp; go_at_call 41; refine (refOfText_ex _ _).mono ?_; rintro e w' ⟨rfl, rfl⟩))
      all_goals
        have hbw : Below (w.heap.size + 1) (w.alloc (.cells #[.int .i64 0, .int .i64 0, .string ⟨#[]⟩, .slice none 0 0] 24)) w1 :=
          (((hbel'.alloc (by omega) _).alloc (by simp; omega) _).drew).grown hgrow (by simp; omega) (fun q hq => by
            rcases Nat.lt_or_ge q (w.heap.size + 1) with h | h
            · exact absurd hq (own_ne HO.out (by omega))
            · exact h)
        have hbx1 := HBX.out w1 _ hgrow HNE.out
        have hsz1 : w.heap.size + 1 < w1.heap.size := by have := hgrow.size; simp at this; omega
        clear e0 e1 e2 e3 ez z3 g3 g4 c0 c1 c2 c3 f3 hfz hbx
        go_wp2_with fail
        refine ⟨⟨k + 1, some ⟨gg, 0, none⟩, cap2, hlt, by go_num, by rw [size_set]; exact hsz1, ?_, hbx1.set3 _, hbw.setCell (p := ⟨w.heap.size + 1, 3, none⟩) (Nat.le_refl _) _⟩, by simp [intOf]; omega⟩
        have h := ownsRow_setCell_below hown1 (a := ⟨w.heap.size + 1, 3, none⟩) (Nat.lt_succ_self _) (.slice (some ⟨gg, 0, none⟩) (k + 1) cap2)
        rw [List.take_succ_eq_append_getElem hlt, List.map_append, List.map_cons, List.map_nil, flat_snoc]
        exact h
    · obtain rfl : k = zs.length := by omega
      rw [List.take_length] at HO
      clear hel
      have d0 : wr.cell? ⟨w.heap.size, 0, none⟩ = some (.int .i64 0) := (hbel'.cell (p := ⟨w.heap.size, 0, none⟩) (Nat.lt_succ_self _)).trans (cell_at _ _ _ _ _ rfl)
      have d1 : wr.cell? ⟨w.heap.size, 1, none⟩ = some (.int .i64 0) := (hbel'.cell (p := ⟨w.heap.size, 1, none⟩) (Nat.lt_succ_self _)).trans (cell_at _ _ _ _ _ rfl)
      have d2 : wr.cell? ⟨w.heap.size, 2, none⟩ = some (.string ⟨#[]⟩) := (hbel'.cell (p := ⟨w.heap.size, 2, none⟩) (Nat.lt_succ_self _)).trans (cell_at _ _ _ _ _ rfl)
      have d3 : wr.cell? ⟨w.heap.size, 3, none⟩ = some (.slice none 0 0) := (hbel'.cell (p := ⟨w.heap.size, 3, none⟩) (Nat.lt_succ_self _)).trans (cell_at _ _ _ _ _ rfl)
      have hz : ∀ o, wr.frozen? ⟨w.heap.size, o, none⟩ = false := fun o => (hbel'.frozen (p := ⟨w.heap.size, o, none⟩) (Nat.lt_succ_self _)).trans (World.frozen?_alloc_at _ _ _ _ rfl)
      have y0 := hz 0; have y1 := hz 1; have y2 := hz 2; have y3 := hz 3
      clear hz hfz hbx
      go_wp2_with fail
      have hRL : RepS wr (Btw (w.heap.size + 2) wr.heap.size) (.slice oc zs.length cc) (zs.map fun z => .mk 3 0 z []) := by
        have h := RepS.of_owns (S := Btw (w.heap.size + 2) wr.heap.size) (ps := zs.map fun z => ((.mk 3 0 z [] : V), Value.slice none 0 0)) (by rw [List.length_map]; exact HO.out) (fun p hp => by
          obtain ⟨z, _, rfl⟩ := List.mem_map.1 hp
          exact RepS.nil) (by rw [List.length_map]; exact hm) (fun g h1 h2 => ⟨h1, h2⟩)
        rw [List.map_map] at h
        exact h
      refine bodyPost_ret (v := .agg #[.int .i64 6, .int .i64 0, .string ⟨#[]⟩, .slice oc zs.length cc]) (by simp [results, Tryd.results47, go_sem, *]) rfl ⟨⟨oc, cc, ?_, ?_⟩, ?_⟩
      · show Ending.returned _ = Ending.returned (.agg #[.int .i64 6, .int .i64 0, .string ⟨#[]⟩, .slice oc (zs.map _).length cc])
        rw [List.length_map]
      · have h := Btw.set4 (N := w.heap.size) (o := 0) (H := w.heap.size + 2) (by omega) (.int .i64 6) (.int .i64 0) (.string ⟨#[]⟩) (.slice oc zs.length cc) (S := Btw w.heap.size wr.heap.size) hRL (fun b h => ⟨by have := h.1; omega, h.2⟩)
        show RepS _ (Btw w.heap.size _) (.slice oc (zs.map _).length cc) (zs.map _)
        rw [List.length_map]
        exact h.later (fun b h => ⟨h.1, by have := h.2; simp only [size_set]; omega⟩) (fun _ _ _ => rfl)
      · exact below_set4 (o := 0) hbel (Nat.le_refl _) _ _ _ _

/-- The blocks from lo on, below hi, but one. -/
def Off (lo hi : Nat) (row : Option Nat) (b : Nat) : Prop := Btw lo hi b ∧ row ≠ some b

theorem owns_later {w w' : World} {base e size n : Nat} {v : Value} {xs : List Value} (h : w.ownsRow base e size v n xs) (hb : Below w.heap.size w w') : w'.ownsRow base e size v n xs := by
  refine ⟨h.1, ?_⟩
  rcases h.2 with h0 | ⟨g, cap, cur, hv, hg, hh, r⟩
  · exact .inl h0
  · refine .inr ⟨g, cap, cur, hv, hg, ?_, r⟩
    have hlt : g < w.heap.size := by
      rcases Nat.lt_or_ge g w.heap.size with h | h
      · exact h
      · rw [Array.getElem?_eq_none h] at hh; cases hh
    exact (hb.block g hlt).trans hh
theorem one_new (w : World) (X : Obj) : (w.alloc X).heap[w.heap.size]? = some X := by
  show (w.heap.push X)[w.heap.size]? = some X
  rw [Array.getElem?_push, if_pos rfl]


set_option maxRecDepth 100000 in
set_option maxHeartbeats 1600000 in
theorem refOfTable_any (zs : List (List ByteArray)) (x : Value) (w : World) (B : Nat) (hl : LRows w B x zs) (hB : B ≤ w.heap.size) (hn : zs.length ≤ 1000) (hn2 : ∀ r, r ∈ zs → r.length ≤ 1000) :
    Calls Tryd.prog 49 #[x] w fun e w' => RetV w.heap.size (.mk 7 0 ⟨#[]⟩ (zs.map rowV)) e w' ∧ Below w.heap.size w w' := by
  obtain ⟨oa, cap, rfl, hm, hel⟩ := hl
  obtain ⟨i, hi, hz0, hz1, hz2⟩ := info_parts infoValue
  have HN2 := Lib.hid hn2; clear hn2
  go_enter Tryd.func49, Tryd.ntmps49
  go_wp2_with fail
  go_loopw [4] (fun v wr => ∃ (k : Nat) (oc : Option Addr) (cc : Nat) (ps : List (V × Value)), k ≤ zs.length ∧ v = .int .i64 k ∧ w.heap.size + 1 < wr.heap.size ∧
      Hid (ps.length = k ∧ ps.map (·.1) = (zs.take k).map rowV ∧ (∀ p, p ∈ ps → RepS wr (Off (w.heap.size + 2) wr.heap.size (Value.slice oc k cc).ownBlock) p.2 p.1.l)) ∧ Hid (wr.ownsRow (w.heap.size + 2) 24 4 (.slice oc k cc) k (flat ps)) ∧
      Hid (Box4 wr (w.heap.size + 1) (.int .i64 7) (.int .i64 0) (.string ⟨#[]⟩) (.slice oc k cc)) ∧
      Below (w.heap.size + 1) (w.alloc (.cells #[.int .i64 0, .int .i64 0, .string ⟨#[]⟩, .slice none 0 0] 24)) wr) (fun v _ => zs.length - (intOf v).toNat)
  case atStart => exact ⟨0, none, 0, [], Nat.zero_le _, rfl, by simp, ⟨rfl, rfl, (fun p hp => absurd hp (by simp))⟩, ⟨rfl, .inl ⟨rfl, rfl⟩⟩, Box4.new _ _ _ _ _ (by simp), (Below.refl _ _).alloc (by simp) _⟩
  case round =>
    obtain ⟨k, oc, cc, ps, hk, rfl, hgr, HP, HO, HB, hbel'⟩ := hrel
    have hbx := HB.out
    obtain ⟨c0, c1, c2, c3, hfz⟩ := id hbx
    have hbel : Below w.heap.size w wr := (below1 _ _).trans (hbel'.mono (by omega))
    by_cases hlt : k < zs.length
    · obtain ⟨b, off, c, rfl, hb, hc, hcv⟩ := hel k _ (List.getElem?_eq_getElem hlt)
      obtain ⟨oe, ce, rfl, _, _⟩ := id hcv
      rw [← hbel.cell (p := ⟨b, _, none⟩) (Nat.lt_of_lt_of_le hb hB)] at hc
      have hki : (k : Int) < (zs.length : Int) := by omega
      have hn1 : k + 1 ≤ maxLen := by unfold maxLen; omega
      have hby : (k + 1) * 56 ≤ 140737488355328 := by omega
      have HNE := Lib.hid (own_ne HO.out (Nat.lt_succ_self (w.heap.size + 1)))
      have HC : Hid (Calls Tryd.prog 47 #[.slice oe zs[k].length ce] wr.drew fun e w' => RetV wr.heap.size (rowV zs[k]) e w' ∧ Below wr.heap.size wr w') :=
        (refOfTexts_any zs[k] _ wr.drew B (LStrs.later hcv ((hbel.drew).mono hB)) (by have := hbel.size; show B ≤ wr.heap.size; omega) (HN2.out _ (List.getElem_mem hlt))).mono
          fun _ _ ⟨h1, h2⟩ => ⟨h1, (Below.refl _ _).drew.trans h2⟩
      have HBX : Hid (∀ (w2 w1 : World) (X : Obj) (row : Option Nat), Below wr.heap.size wr w2 → (w2.alloc X).grownBy w1 row → row ≠ some (w.heap.size + 1) →
          Box4 w1 (w.heap.size + 1) (.int .i64 7) (.int .i64 0) (.string ⟨#[]⟩) (.slice oc k cc)) :=
        fun w2 w1 X row h2 hg hne => ((hbx.later h2 hgr).later (below1 w2 X) (Nat.lt_of_lt_of_le hgr h2.size)).grown hg (by have := h2.size; simp; omega) hne
      have H3 : Hid (∀ (w2 : World), Below wr.heap.size wr w2 → w2.cell? ⟨w.heap.size + 1, 3, none⟩ = some (.slice oc k cc) ∧ ∀ X, (w2.alloc X).cell? ⟨w.heap.size + 1, 3, none⟩ = some (.slice oc k cc)) :=
        fun w2 h2 => ⟨(hbx.later h2 hgr).2.2.2.1, fun X => ((hbx.later h2 hgr).later (below1 w2 X) (Nat.lt_of_lt_of_le hgr h2.size)).2.2.2.1⟩
      have HOW : Hid (∀ (w2 : World), Below wr.heap.size wr w2 → w2.ownsRow (w.heap.size + 2) 24 4 (.slice oc k cc) k (flat ps)) := fun w2 h2 => owns_later HO.out h2
      have HHS : Hid (∀ (w2 : World), Below wr.heap.size wr w2 → w.heap.size + 2 ≤ w2.heap.size) := fun w2 h2 => by have := h2.size; omega
      go_wp2_with fail
      go_region_law (first
        | (refine step_append_lies _ (by rfl) _ _ _ (by rfl) (w.heap.size + 2) 24 i _ 4 56 Tryd.underlying22 hi hz0 hz1 hz2 rfl (by omega) (.slice oc k cc) k (flat ps) (by rfl) ((HOW.out w2 hb2).alloc _)
            ⟨w2.heap.size, 0, none⟩ 1 1 [.int .i64 6, .int .i64 0, .string ⟨#[]⟩, .slice o2 zs[k].length k2] (by rfl) (by rfl) (World.news_of_block (cs := #[.int .i64 6, .int .i64 0, .string ⟨#[]⟩, .slice o2 zs[k].length k2]) (t := 24) (fr := (0, 0)) (one_new _ _)) (by simp [Value.oneCell'])
            (by omega) hn1 hby (by have := HHS.out w2 hb2; simp; omega) (w2.heap.size + 1) (by simp) ?_
           intro gg cap2 w1 hown1 hgrow hat hlt1
           obtain ⟨e0, e1, e2, e3, ez⟩ := HBX.out w2 w1 _ _ hb2 hgrow HNE.out
           have z3 := ez 3)
        | (go_simp; go_at_call 47; refine HC.out.mono ?_; rintro e w2 ⟨⟨o2, k2, he, hR⟩, hb2⟩; (have hlen : (rowV zs[k]).l.length = zs[k].length := by simp [rowV, V.l]); rw [hlen] at he hR; clear hlen; obtain rfl := he; have HRR := Lib.hid hR; clear hR; obtain ⟨g3, g4⟩ := H3.out w2 hb2))
      all_goals
        have hs2 := hb2.size
        have hbw : Below (w.heap.size + 1) (w.alloc (.cells #[.int .i64 0, .int .i64 0, .string ⟨#[]⟩, .slice none 0 0] 24)) w1 :=
          ((hbel'.trans (hb2.mono (by omega))).alloc (by omega) _).grown hgrow (by simp; omega) (fun q hq => by
            rcases Nat.lt_or_ge q (w.heap.size + 1) with h | h
            · exact absurd hq (own_ne HO.out (by omega))
            · exact h)
        have hbx1 := HBX.out w2 w1 _ _ hb2 hgrow HNE.out
        have hsz1 : w2.heap.size + 1 ≤ w1.heap.size := by have := hgrow.size; simp at this; omega
        have HRd : Hid (V.mk 6 0 ⟨#[]⟩ (zs[k].map fun z => V.mk 3 0 z []) = rowV zs[k]) := rfl
        have HB1 : Hid (Box4 w1 (w.heap.size + 1) (.int .i64 7) (.int .i64 0) (.string ⟨#[]⟩) (.slice oc k cc)) := hbx1
        have HAT := Lib.hid hat
        have HGR := Lib.hid hgrow
        have HOWN := Lib.hid hown1
        clear hbx1 hat hgrow hown1 e0 e1 e2 e3 ez z3 g3 g4 c0 c1 c2 c3 hfz hbx
        go_wp2_with fail
        obtain ⟨hp1, hp2, hp3⟩ := HP.out
        have hol : ∀ q, (Value.slice oc k cc).ownBlock = some q → q < wr.heap.size := fun q hq => by
          rcases HO.out.2 with ⟨h0, _⟩ | ⟨g, cap', cur, hv, _, hh, _⟩
          · rw [h0] at hq; simp [Value.ownBlock] at hq
          · rw [hv] at hq
            simp only [Value.ownBlock, Option.some.injEq] at hq
            subst hq
            rcases Nat.lt_or_ge g wr.heap.size with h | h
            · exact h
            · rw [Array.getElem?_eq_none h] at hh; cases hh
        refine ⟨⟨k + 1, some ⟨gg, 0, none⟩, cap2, ps ++ [(rowV zs[k], .slice o2 zs[k].length k2)], hlt, by go_num, by rw [size_set]; omega, ⟨?_, ?_, ?_⟩, ?_, HB1.out.set3 _, hbw.setCell (p := ⟨w.heap.size + 1, 3, none⟩) (Nat.le_refl _) _⟩, by simp [intOf]; omega⟩
        · simp; omega
        · rw [List.map_append, hp2, List.take_succ_eq_append_getElem hlt, List.map_append]
          rfl
        · have cellw : ∀ q o, w.heap.size + 2 ≤ q → q < w2.heap.size → (Value.slice oc k cc).ownBlock ≠ some q →
              (w1.setCell ⟨w.heap.size + 1, 3, none⟩ (.slice (some ⟨gg, 0, none⟩) (k + 1) cap2)).cell? ⟨q, o, none⟩ = w2.cell? ⟨q, o, none⟩ := fun q o h1 h2 h3 => by
            rw [World.cell?_setCell_other _ _ _ _ (fun e => by have := congrArg Addr.block e; simp at this; omega)]
            exact (HGR.out.cell_far ⟨q, o, none⟩ (by simp; omega) (Ne.symm h3)).trans (World.cell?_alloc_past _ _ _ h2)
          intro p hp
          rcases List.mem_append.1 hp with hp | hp
          · refine (hp3 p hp).later (fun q hq => ⟨⟨hq.1.1, by have := hq.1.2; rw [size_set]; omega⟩, ?_⟩) (fun q hq o => ?_)
            · simp only [Value.ownBlock, ne_eq, Option.some.injEq]
              rintro rfl
              rcases HAT.out with h | h
              · exact hq.2 h
              · have := hq.1.2; omega
            · rw [cellw q o hq.1.1 (by have := hq.1.2; omega) hq.2]
              exact hb2.cell (p := ⟨q, o, none⟩) hq.1.2
          · obtain rfl := List.mem_singleton.1 hp
            refine HRR.out.later (fun q hq => ⟨⟨by have := hq.1; omega, by have := hq.2; rw [size_set]; omega⟩, ?_⟩) (fun q hq o => ?_)
            · simp only [Value.ownBlock, ne_eq, Option.some.injEq]
              rintro rfl
              rcases HAT.out with h | h
              · have := hol _ h; have := hq.1; omega
              · have := hq.2; omega
            · exact cellw q o (by have := hq.1; omega) hq.2 (fun h => by have := hol _ h; have := hq.1; omega)
        · have h := ownsRow_setCell_below HOWN.out (a := ⟨w.heap.size + 1, 3, none⟩) (Nat.lt_succ_self _) (.slice (some ⟨gg, 0, none⟩) (k + 1) cap2)
          rw [flat_snoc]
          exact h
    · obtain rfl : k = zs.length := by omega
      clear hel
      have d0 : wr.cell? ⟨w.heap.size, 0, none⟩ = some (.int .i64 0) := (hbel'.cell (p := ⟨w.heap.size, 0, none⟩) (Nat.lt_succ_self _)).trans (cell_at _ _ _ _ _ rfl)
      have d1 : wr.cell? ⟨w.heap.size, 1, none⟩ = some (.int .i64 0) := (hbel'.cell (p := ⟨w.heap.size, 1, none⟩) (Nat.lt_succ_self _)).trans (cell_at _ _ _ _ _ rfl)
      have d2 : wr.cell? ⟨w.heap.size, 2, none⟩ = some (.string ⟨#[]⟩) := (hbel'.cell (p := ⟨w.heap.size, 2, none⟩) (Nat.lt_succ_self _)).trans (cell_at _ _ _ _ _ rfl)
      have d3 : wr.cell? ⟨w.heap.size, 3, none⟩ = some (.slice none 0 0) := (hbel'.cell (p := ⟨w.heap.size, 3, none⟩) (Nat.lt_succ_self _)).trans (cell_at _ _ _ _ _ rfl)
      have hz : ∀ o, wr.frozen? ⟨w.heap.size, o, none⟩ = false := fun o => (hbel'.frozen (p := ⟨w.heap.size, o, none⟩) (Nat.lt_succ_self _)).trans (World.frozen?_alloc_at _ _ _ _ rfl)
      have y0 := hz 0; have y1 := hz 1; have y2 := hz 2; have y3 := hz 3
      clear hz hfz hbx
      go_wp2_with fail
      obtain ⟨hp1, hp2, hp3⟩ := HP.out
      have hRL : RepS wr (Btw (w.heap.size + 2) wr.heap.size) (.slice oc zs.length cc) (zs.map rowV) := by
        have h := RepS.of_owns (S := Btw (w.heap.size + 2) wr.heap.size) (ps := ps) (by rw [hp1]; exact HO.out) (fun p hp => (hp3 p hp).later (fun q hq => hq.1) (fun _ _ _ => rfl)) (by rw [hp1]; exact hm) (fun g h1 h2 => ⟨h1, h2⟩)
        rw [hp2, List.take_length] at h
        exact h
      refine bodyPost_ret (v := .agg #[.int .i64 7, .int .i64 0, .string ⟨#[]⟩, .slice oc zs.length cc]) (by simp [results, Tryd.results49, go_sem, *]) rfl ⟨⟨oc, cc, ?_, ?_⟩, ?_⟩
      · show Ending.returned _ = Ending.returned (.agg #[.int .i64 7, .int .i64 0, .string ⟨#[]⟩, .slice oc (zs.map _).length cc])
        rw [List.length_map]
      · have h := Btw.set4 (N := w.heap.size) (o := 0) (H := w.heap.size + 2) (by omega) (.int .i64 7) (.int .i64 0) (.string ⟨#[]⟩) (.slice oc zs.length cc) (S := Btw w.heap.size wr.heap.size) hRL (fun b h => ⟨by have := h.1; omega, h.2⟩)
        show RepS _ (Btw w.heap.size _) (.slice oc (zs.map _).length cc) (zs.map _)
        rw [List.length_map]
        exact h.later (fun b h => ⟨h.1, by have := h.2; simp only [size_set]; omega⟩) (fun _ _ _ => rfl)
      · exact below_set4 (o := 0) hbel (Nat.le_refl _) _ _ _ _

end Go.Proofs.YtohecojckghedaaDoor
