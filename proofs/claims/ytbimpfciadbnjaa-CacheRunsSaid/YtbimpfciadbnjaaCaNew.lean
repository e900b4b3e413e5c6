/-
  New and Clear of the cache. Nothing is assumed.
-/
import Derived.Test.YtbimpfciadbnjaaCaGet
import Derived.Carry
namespace Go.Proofs.Ytbimpfciadbnjaa
open Go.RowKit

/-- The cache's own cells, whatever its list and its map. -/
def Raw (w : World) (n : Nat) (cap : Int) (en pl : Value) (h m r : Nat) : Prop := w.heap[n]? = some (.cells #[ptr n, .int .i64 cap, en, pl, .int .i64 h, .int .i64 m, .int .i64 r] 60 (0, 0))

set_option maxRecDepth 100000 in
set_option maxHeartbeats 1600000 in
theorem clear_raw {w : World} {n cap h m r : Nat} {en pl : Value} (H : Raw w n cap en pl h m r) :
    Calls Try.prog 19 #[ptr n] w fun e w' => e = .returned (.tuple #[]) ∧ ∃ e0 mb, w.heap.size ≤ e0 ∧ e0 < w'.heap.size ∧ w.heap.size ≤ mb ∧ Hd w' n cap e0 mb h m r ∧ Ring w' e0 [] ∧ (∀ z, MapE w' mb z []) ∧ On (fun k => k = n) w w' := by
  have hlt : n < w.heap.size := (Array.getElem?_eq_some_iff.1 H).1
  have H' : w.heap[n]? = some (.cells #[ptr n, .int .i64 cap, en, pl, .int .i64 h, .int .i64 m, .int .i64 r] 60 (0, 0)) := H
  have c0 : w.cell? ⟨n, 0, none⟩ = some (ptr n) := by unfold World.cell?; rw [H']; rfl
  have HR := Lib.hid H'
  have HL := Lib.hid (newList_any w)
  have hmm := @run_makeMap Try.prog
  clear H H'
  go_enter Try.func19, Try.ntmps19
  go_wp2_with fail
  refine (made_yes c0).mono ?_
  rintro e w9 ⟨rfl, h9⟩
  subst w9
  go_wp2_with fail
  refine HL.out.mono ?_
  rintro e w1 ⟨e0, rfl, he0, hr1, hb1⟩
  have h1 : w1.heap[n]? = some (.cells #[ptr n, .int .i64 cap, en, pl, .int .i64 h, .int .i64 m, .int .i64 r] 60 (0, 0)) := (hb1.block n hlt).trans HR.out
  have d2 : w1.cell? ⟨n, 2, none⟩ = some en := by unfold World.cell?; rw [h1]; rfl
  have g2 : w1.frozen? ⟨n, 2, none⟩ = false := by unfold World.frozen?; rw [h1]; simp
  have s1 := heap_setCell_same w1 n 2 _ _ (ptr e0) h1
  have hs := hb1.size
  have s2 : ((w1.setCell ⟨n, 2, none⟩ (ptr e0)).alloc (.map #[] 0)).heap[n]? = some (.cells #[ptr n, .int .i64 cap, ptr e0, pl, .int .i64 h, .int .i64 m, .int .i64 r] 60 (0, 0)) := (Below.heap_alloc _ _ n (by rw [World.size_setCell]; omega)).trans s1
  have d3 : ((w1.setCell ⟨n, 2, none⟩ (ptr e0)).alloc (.map #[] 0)).cell? ⟨n, 3, none⟩ = some pl := by unfold World.cell?; rw [s2]; rfl
  have g3 : ((w1.setCell ⟨n, 2, none⟩ (ptr e0)).alloc (.map #[] 0)).frozen? ⟨n, 3, none⟩ = false := by unfold World.frozen?; rw [s2]; simp
  have hsz : (w1.setCell ⟨n, 2, none⟩ (ptr e0)).heap.size = w1.heap.size := by simp
  have HS2 := Lib.hid (heap_setCell_same _ n 3 _ _ (.map (some w1.heap.size)) s2)
  have HR1 := Lib.hid hr1
  have HB1 := Lib.hid hb1
  have he0l : e0 < w1.heap.size := by
    obtain ⟨_, _, _, he⟩ := hr1.el e0 (List.mem_cons_self ..)
    exact he.lt
  clear h1 s1 s2 c0 hr1 hb1 HL HR
  go_wp2_with fail
  go_end0
  have hO : On (fun k => k = n) w (((w1.setCell ⟨n, 2, none⟩ (ptr e0)).alloc (.map #[] 0)).setCell ⟨n, 3, none⟩ (.map (some w1.heap.size))) :=
    (((On.below HB1.out).trans (On.set (F := fun k => k = n) _ (p := ⟨n, 2, none⟩) rfl _)).trans (On.below (below1 _ _))).trans (On.set (F := fun k => k = n) _ (p := ⟨n, 3, none⟩) rfl _)
  have hM : ∀ z, MapE (((w1.setCell ⟨n, 2, none⟩ (ptr e0)).alloc (.map #[] 0)).setCell ⟨n, 3, none⟩ (.map (some w1.heap.size))) w1.heap.size z [] := fun z => by
    have h := MapE.made (w1.setCell ⟨n, 2, none⟩ (ptr e0)) z
    rw [World.size_setCell] at h
    exact h.keep (heap_setCell_other _ _ _ _ (by show w1.heap.size ≠ n; omega))
  refine ⟨rfl, e0, w1.heap.size, he0, ?_, hs, HS2.out, HR1.out.keep fun b hb => ?_, hM, hO⟩
  · rw [World.size_setCell, World.size_alloc, World.size_setCell]; omega
  · rcases List.mem_singleton.1 hb with rfl
    rw [heap_setCell_other _ _ _ _ (by show b ≠ n; omega), Below.heap_alloc _ _ _ (by rw [World.size_setCell]; omega), heap_setCell_other _ _ _ _ (by show b ≠ n; omega)]

theorem CaS.fresh {w w' : World} {F : Nat → Prop} {n cap h m r z e0 mb : Nat} (hz : h ≤ z ∧ m ≤ z ∧ r ≤ z) (hF : ∀ k, F k → k < w'.heap.size) (hn : F n) (hn' : n < w.heap.size) (h1 : w.heap.size ≤ e0) (h2 : F e0) (h3 : w.heap.size ≤ mb) (h4 : F mb) (hH : Hd w' n cap e0 mb h m r) (hR : Ring w' e0 []) (hM : ∀ z, MapE w' mb z []) : CaS w' F n cap z [] h m r :=
  ⟨fun _ => False, e0, mb, [], rfl, List.nodup_nil, Nat.zero_le _, hz.1, hz.2.1, hz.2.2, hH,
    { ring := hR, nodes := (fun x hx => absurd hx (List.not_mem_nil)), mp := hM z, sm := (fun x hx => absurd hx (List.not_mem_nil)), fn := hn, fe := h2, fm := h4, fr := (fun x hx => absurd hx (List.not_mem_nil)), fb := (fun x hx => absurd hx (List.not_mem_nil)), fp := fun k hk => hk.elim, lt := hF,
      rn := fun b hb => by
        rcases List.mem_singleton.1 hb with rfl
        omega
      xn := (fun x hx => absurd hx (List.not_mem_nil)), mn := by omega, sn := fun k hk => hk.elim, sm' := fun k hk => hk.elim, sr := fun k hk => hk.elim, sx := fun k hk => hk.elim }⟩

set_option maxHeartbeats 800000 in
theorem clear_any {w : World} {F : Nat → Prop} {n cap z h m r : Nat} {q : List Ent} (H : CaS w F n cap z q h m r) :
    Calls Try.prog 19 #[ptr n] w fun e w' => e = .returned (.tuple #[]) ∧ CaS w' (gF F w w') n cap z [] h m r ∧ On F w w' := by
  have hlt := H.lt
  obtain ⟨P, e0, mb, l, rfl, h2, h3, h4, h5, h6, HH, HC⟩ := H
  refine (clear_raw (w := w) (n := n) (en := ptr e0) (pl := .map (some mb)) HH).mono ?_
  rintro e w' ⟨rfl, e1, m1, g1, g2, g3, hH, hR, hM, hO⟩
  have hm1 := (hM 0).lt
  refine ⟨rfl, CaS.fresh (w := w) ⟨h4, h5, h6⟩ (fun k hk => ?_) (.inl HC.fn) HH.lt g1 (.inr ⟨g1, g2⟩) g3 (.inr ⟨g3, hm1⟩) hH hR hM, hO.mono fun k _ hk => by rw [hk]; exact HC.fn⟩
  rcases hk with hk | hk
  · exact Nat.lt_of_lt_of_le (hlt k hk) hO.kp.size
  · exact hk.2

set_option maxRecDepth 100000 in
set_option maxHeartbeats 1600000 in
theorem new_any (w : World) (cap : Nat) (h1 : 1 ≤ cap) (h2 : cap ≤ 4096) :
    Calls Try.prog 10 #[.int .i64 cap] w fun e w' => e = .returned (.tuple #[ptr w.heap.size, .int .i64 0]) ∧ (∀ z, CaS w' (fun k => w.heap.size ≤ k ∧ k < w'.heap.size) w.heap.size cap z [] 0 0 0) ∧ Below w.heap.size w w' := by
  have hx1 : ¬ (cap : Int) < 1 := by omega
  have hx2 : ¬ (4096 : Int) < (cap : Int) := by omega
  have a1 : (w.alloc (.cells #[.pointer none, .int .i64 cap, .pointer none, .map none, .int .i64 0, .int .i64 0, .int .i64 0] 60)).heap[w.heap.size]? = some (.cells #[.pointer none, .int .i64 cap, .pointer none, .map none, .int .i64 0, .int .i64 0, .int .i64 0] 60 (0, 0)) := heap_alloc_new _ _
  have d0 : (w.alloc (.cells #[.pointer none, .int .i64 cap, .pointer none, .map none, .int .i64 0, .int .i64 0, .int .i64 0] 60)).cell? ⟨w.heap.size, 0, none⟩ = some (.pointer none) := cell_at _ _ _ _ _ rfl
  have g0 : (w.alloc (.cells #[.pointer none, .int .i64 cap, .pointer none, .map none, .int .i64 0, .int .i64 0, .int .i64 0] 60)).frozen? ⟨w.heap.size, 0, none⟩ = false := frozen_newC _ _ _ _
  have HRW : Hid (Raw (w.alloc (.cells #[ptr w.heap.size, .int .i64 cap, .pointer none, .map none, .int .i64 0, .int .i64 0, .int .i64 0] 60)) w.heap.size cap (.pointer none) (.map none) 0 0 0) := Lib.hid (heap_alloc_new _ _)
  have HB := Lib.hid (below1 w (.cells #[ptr w.heap.size, .int .i64 cap, .pointer none, .map none, .int .i64 0, .int .i64 0, .int .i64 0] 60))
  have hsz : (w.alloc (.cells #[ptr w.heap.size, .int .i64 cap, .pointer none, .map none, .int .i64 0, .int .i64 0, .int .i64 0] 60)).heap.size = w.heap.size + 1 := by simp
  have HCL := Lib.hid (clear_raw HRW.out)
  have HSZ := Lib.hid hsz
  clear a1 hsz
  go_enter Try.func10, Try.ntmps10
  go_wp2_with fail
  refine HCL.out.mono ?_
  rintro e w1 ⟨rfl, e0, mb, g1, g2, g3, hH, hR, hM, hO⟩
  have H1 : Hid (∀ z, CaS w1 (fun k => w.heap.size ≤ k ∧ k < w1.heap.size) w.heap.size cap z [] 0 0 0) := Lib.hid (fun z => by
    have hs := HSZ.out
    have hm := (hM 0).lt
    have hs1 := hO.kp.size
    rw [hs] at g1 g3 hs1
    exact CaS.fresh (w := w.alloc (.cells #[ptr w.heap.size, .int .i64 cap, .pointer none, .map none, .int .i64 0, .int .i64 0, .int .i64 0] 60)) ⟨Nat.zero_le _, Nat.zero_le _, Nat.zero_le _⟩ (fun k hk => hk.2) ⟨Nat.le_refl _, by omega⟩ (by rw [hs]; omega) (by rw [hs]; exact g1) ⟨by omega, g2⟩ (by rw [hs]; exact g3) ⟨by omega, hm⟩ hH hR hM)
  have H2 : Hid (Below w.heap.size w w1) := Lib.hid (HB.out.trans (hO.toBelow (by rw [HSZ.out]; omega) (fun k hk => by rw [hk]; exact Nat.le_refl _)))
  clear hH hR hM hO g1 g2 g3 HCL d0 g0
  go_wp2_with fail
  refine bodyPost_ret (v := .tuple #[ptr w.heap.size, .int .i64 0]) (by simp [results, Try.results10, go_sem, *]) rfl ?_
  exact ⟨rfl, H1.out, H2.out⟩

set_option maxHeartbeats 800000 in
theorem new_no (w : World) (cap : Int) (h : cap < 1 ∨ 4096 < cap) :
    Calls Try.prog 10 #[.int .i64 cap] w fun e w' => e = .returned (.tuple #[.pointer none, .int .i64 1]) ∧ w' = w := by
  by_cases h1 : cap < 1
  · go_enter Try.func10, Try.ntmps10
    go_wp2_with fail
    refine bodyPost_ret (v := .tuple #[.pointer none, .int .i64 1]) (by simp [results, Try.results10, go_sem, *]) rfl ?_
    exact ⟨rfl, rfl⟩
  · have h2 : 4096 < cap := by omega
    clear h
    go_enter Try.func10, Try.ntmps10
    go_wp2_with fail
    refine bodyPost_ret (v := .tuple #[.pointer none, .int .i64 1]) (by simp [results, Try.results10, go_sem, *]) rfl ?_
    exact ⟨rfl, rfl⟩

end Go.Proofs.Ytbimpfciadbnjaa
