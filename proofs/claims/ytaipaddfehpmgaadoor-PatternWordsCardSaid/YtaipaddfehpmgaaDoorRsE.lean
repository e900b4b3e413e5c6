/-
  groups of the specification. Nothing is assumed.
-/
import Derived.Test.YtaipaddfehpmgaaDoorRsC
import Derived.Test.YtaipaddfehpmgaaDoorRsQ
import Derived.Deep.RegionHeld3
import Derived.Deep.DeepCutAuto
namespace Go.Proofs.YtaipaddfehpmgaaDoor

section
open Go.RowKit

/-- A machine that of has made. -/
def OfR (t : PT) (w : World) (e : Ending) (w' : World) : Prop :=
  (∃ o1 c1 o2 c2, e = .returned (mV (rOf t).2 (.slice o1 (rOf t).1.1.length c1) (.slice o2 (rOf t).1.2.length c2)) ∧ RM w' w'.heap.size o1 o2 (rOf t).1.1 (rOf t).1.2) ∧ Below w.heap.size w w'
theorem M5.set012 {w : World} {n : Nat} {p : Pa} {x y : Value} (h : M5 w n p x y) (q : Pa) : M5 (((w.setCell ⟨n, 0, none⟩ (.bool q.e)).setCell ⟨n, 1, none⟩ (.int .u64 q.f)).setCell ⟨n, 2, none⟩ (.int .u64 q.t)) n q x y := by
  unfold M5 at *
  simp [World.setCell, Array.getElem?_modify, h]
set_option maxRecDepth 100000 in
set_option maxHeartbeats 3200000 in
theorem of_any (t : PT) (hfit : t.fit = true) (hsok : Sok t) (hlv : t.lv ≤ 62) (w : World) (oe : Option Addr) (ce : Nat) (hT : HT w (· < w.heap.size) (.slice oe t.l.length ce) t.l) :
    Calls Tryd.prog 22 #[t.val (.slice oe t.l.length ce)] w (OfR t w) := by
  obtain ⟨w1, hw1⟩ : ∃ w1, w1 = (w.alloc (.cells #[.int .i64 t.k, .int .u64 t.s.a, .int .u64 t.s.b, .int .u64 t.s.c, .int .u64 t.s.d, .slice oe t.l.length ce] 60)).alloc zM := ⟨_, rfl⟩
  have HW1 := Lib.hid hw1
  have hs1 : w1.heap.size = w.heap.size + 2 := by rw [hw1]; simp
  have hb1 : Below w.heap.size w w1 := by rw [hw1]; exact below2 _ _ _
  have HB1 := Lib.hid hb1
  have HN1 : Hid (M5 w1 (w.heap.size + 1) .zero (.slice none 0 0) (.slice none 0 0)) := Lib.hid (by rw [hw1]; exact top_at _ _ (by simp))
  have HX1 : Hid (Box6 w1 w.heap.size (.int .i64 t.k) (.int .u64 t.s.a) (.int .u64 t.s.b) (.int .u64 t.s.c) (.int .u64 t.s.d) (.slice oe t.l.length ce)) := Lib.hid (by rw [hw1]; exact box6_of (old_at (top_at _ _ rfl) _))
  have HT1 : Hid (HT w1 (· < w1.heap.size) (.slice oe t.l.length ce) t.l) := Lib.hid (hT.later (fun _ h => by omega) (fun b hb o => hb1.cell (p := ⟨b, o, none⟩) hb))
  have HC := Lib.hid (radd_any t hfit hsok w1 w1.heap.size .zero none none oe 0 0 ce ([], []) ⟨RS.nil _ _, RU.nil _ _, rfl, by simp, fun k s h => by simp at h⟩ HT1.out (Nat.le_refl _) (by simp; omega))
  have HRO : Hid (rAdd ([], []) t = rOf t) := Lib.hid rfl
  rw [HRO.out] at HC
  obtain ⟨x0, x1, x2, x3, x4, x5, xf⟩ := HX1.out
  unfold OfR
  generalize rOf t = r at *
  obtain ⟨⟨s5, f5⟩, q5⟩ := r
  unfold RAddR PT.val mV Pa.val at HC
  unfold PT.val mV
  dsimp only at HC ⊢
  clear hw1 hT hfit hsok
  unfold zM at HW1
  go_enter Tryd.func22, Tryd.ntmps22
  go_wp2_with fail
  rw [← HW1.out]
  refine HC.out.mono ?_
  rintro e w5 ⟨⟨o3, c3, o4, c4, rfl, hm5⟩, hb5⟩
  have hn5 := HN1.out.later hb5 (by omega)
  have hs5 := hb5.size
  have hlt5 : w.heap.size + 1 < w5.heap.size := by omega
  obtain ⟨W, hW⟩ : ∃ W, W = (w5.alloc (.cells #[.bool q5.e, .int .u64 q5.f, .int .u64 q5.t, .slice o3 s5.length c3, .slice o4 f5.length c4] 68)).alloc (.cells #[.bool q5.e, .int .u64 q5.f, .int .u64 q5.t] 64) := ⟨_, rfl⟩
  have HW := Lib.hid hW
  have hbW : Below w5.heap.size w5 W := by rw [hW]; exact below2 _ _ _
  have HNW := Lib.hid (hn5.later hbW (by omega))
  have HRW : Hid (RM W W.heap.size o3 o4 s5 f5) := Lib.hid (hm5.later hbW hbW.size)
  have HMW : Hid (M5 W w5.heap.size q5 (.slice o3 s5.length c3) (.slice o4 f5.length c4)) := Lib.hid (by rw [hW]; exact (M5.new w5 _ _ _).later (below1 _ _) (by simp))
  have HBW := Lib.hid ((HB1.out.trans (hb5.mono (by omega))).trans (hbW.mono (by omega)))
  clear hn5 hm5 hb5 hW hbW x0 x1 x2 x3 x4 x5 xf
  unfold Pa.zero
  dsimp only
  go_upto_region 3 with fail
  rw [← HW.out]
  obtain ⟨m0, m1, m2, m3, m4⟩ := HMW.out.cells
  obtain ⟨n0, n1, n2, n3, n4⟩ := HNW.out.cells
  have n0f := HNW.out.free 0
  have n1f := HNW.out.free 1
  have n2f := HNW.out.free 2
  have n3f := HNW.out.free 3
  have n4f := HNW.out.free 4
  go_wp2_with fail
  refine bodyPost_ret (v := mV q5 (.slice o3 s5.length c3) (.slice o4 f5.length c4)) (by simp [results, Tryd.results22, go_sem, mV, *]) rfl ?_
  refine ⟨⟨o3, c3, o4, c4, rfl, ?_⟩, below5s HBW.out (by omega) _ _ _ _ _⟩
  simp only [World.size_setCell]
  exact HRW.out.pu5 HNW.out.ty _ _ _ _ _
end

section
open Go.RowKit

theorem infoG : (Tryd.prog.info? 84).map (fun i => (i.zero, i.size, i.bytes)) = some (some (.agg #[.int .u64 0, .int .u64 0, .int .i64 0]), 3, 24) := by kernel_rfl
/-- The cells of groups. -/
def g3 (G : List Gp) : List Value := G.flatMap fun g => [Value.int .u64 g.1, .int .u64 g.2.1, .int .i64 g.2.2]
theorem g3_cons (g : Gp) (G : List Gp) : g3 (g :: G) = [Value.int .u64 g.1, .int .u64 g.2.1, .int .i64 g.2.2] ++ g3 G := by unfold g3; rw [List.flatMap_cons]
theorem g3_len (G : List Gp) : (g3 G).length = G.length * 3 := by
  induction G with
  | nil => rfl
  | cons g G ih => rw [g3_cons, List.length_append, ih, List.length_cons]; simp; omega
theorem g3_app (G H : List Gp) : g3 (G ++ H) = g3 G ++ g3 H := by unfold g3; rw [List.flatMap_append]
theorem g3_at : ∀ (G : List Gp) (k : Nat) (g : Gp) (j : Nat) (u : Value), G[k]? = some g → ([Value.int .u64 g.1, .int .u64 g.2.1, .int .i64 g.2.2])[j]? = some u → (g3 G)[k * 3 + j]? = some u
  | [], k, g, j, u, h, _ => by simp at h
  | a :: G, 0, g, j, u, h, hu => by
    cases h
    rw [g3_cons, Nat.zero_mul, Nat.zero_add, List.getElem?_append_left (by have := (List.getElem?_eq_some_iff.1 hu).1; simpa using this)]
    exact hu
  | a :: G, k + 1, g, j, u, h, hu => by
    have ih := g3_at G k g j u (by simpa using h) hu
    rw [g3_cons, List.getElem?_append_right (by simp; omega), show (k + 1) * 3 + j - [Value.int .u64 a.1, .int .u64 a.2.1, .int .i64 a.2.2].length = k * 3 + j by simp; omega]
    exact ih
theorem g3_one (G : List Gp) : ∀ u ∈ g3 G, u.oneCell' = true := fun u hu => by
  unfold g3 at hu
  rw [List.mem_flatMap] at hu
  obtain ⟨s, _, h⟩ := hu
  simp at h
  rcases h with rfl | rfl | rfl <;> rfl
theorem g3_set : ∀ (G : List Gp) (k : Nat) (g : Gp) (n : Int), G[k]? = some g → (g3 G).set (k * 3 + 2) (.int .i64 n) = g3 (G.set k (g.1, g.2.1, n))
  | [], k, g, n, h => by simp at h
  | a :: G, 0, g, n, h => by
    cases h
    rw [List.set_cons_zero, g3_cons, g3_cons]
    rfl
  | a :: G, k + 1, g, n, h => by
    have ih := g3_set G k g n (by simpa using h)
    rw [List.set_cons_succ, g3_cons, g3_cons, ← ih, List.set_append_right _ _ (by simp; omega)]
    congr 2
    simp
    omega
/-- A box with a group. -/
def G3 (w : World) (b : Nat) (g : Gp) : Prop := w.heap[b]? = some (.cells #[.int .u64 g.1, .int .u64 g.2.1, .int .i64 g.2.2] 84 (0, 0))
theorem G3.cells {w : World} {b : Nat} {g : Gp} (h : G3 w b g) : w.cell? ⟨b, 0, none⟩ = some (.int .u64 g.1) ∧ w.cell? ⟨b, 1, none⟩ = some (.int .u64 g.2.1) ∧ w.cell? ⟨b, 2, none⟩ = some (.int .i64 g.2.2) := by
  unfold World.cell?
  rw [h]
  exact ⟨rfl, rfl, rfl⟩
theorem G3.free {w : World} {b : Nat} {g : Gp} (h : G3 w b g) (k : Nat) : w.frozen? ⟨b, k, none⟩ = false := by unfold World.frozen?; rw [h]; simp
theorem G3.lt {w : World} {b : Nat} {g : Gp} (h : G3 w b g) : b < w.heap.size := (Array.getElem?_eq_some_iff.1 h).1
theorem G3.later {w w' : World} {b B : Nat} {g : Gp} (h : G3 w b g) (hb : Below B w w') (hn : b < B) : G3 w' b g := (hb.block b hn).trans h
theorem G3.set {w : World} {b : Nat} {g : Gp} (h : G3 w b g) (k : Gp) : G3 (((w.setCell ⟨b, 0, none⟩ (.int .u64 k.1)).setCell ⟨b, 1, none⟩ (.int .u64 k.2.1)).setCell ⟨b, 2, none⟩ (.int .i64 k.2.2)) b k := by
  unfold G3 at *
  simp [World.setCell, Array.getElem?_modify, h]
theorem gAdd_bd {a b : Int} {G : List Gp} {k : Int} (hk : 0 ≤ k) (h : ∀ g, g ∈ G → 1 ≤ g.2.2 ∧ g.2.2 ≤ k) : ∀ g, g ∈ gAdd a b G → 1 ≤ g.2.2 ∧ g.2.2 ≤ k + 1 := fun g hg => by
  rw [gAdd_eq] at hg
  split at hg
  · obtain ⟨x, hx, rfl⟩ := List.mem_map.1 hg
    have := h x hx
    unfold inc
    split
    · show 1 ≤ x.2.2 + 1 ∧ x.2.2 + 1 ≤ k + 1
      omega
    · omega
  · rcases List.mem_append.1 hg with h1 | h1
    · have := h g h1
      omega
    · rw [List.mem_singleton] at h1
      subst h1
      show (1 : Int) ≤ 1 ∧ (1 : Int) ≤ k + 1
      omega
theorem gAdd_len (a b : Int) (G : List Gp) : (gAdd a b G).length ≤ G.length + 1 := by
  rw [gAdd_eq]
  split
  · rw [List.length_map]; omega
  · rw [List.length_append, List.length_singleton]; exact Nat.le_refl _
theorem alB_drop {k : Nat} (hk : k < 95) : alB.drop k = (32 + k) :: alB.drop (k + 1) := by
  have hl : alB.length = 95 := by unfold alB; rw [List.length_map, List.length_range]
  rw [List.drop_eq_getElem_cons (by omega)]
  congr 1
  unfold alB
  simp
/-- A part of the groups is done: those that are hit have one more. -/
def MixG (a b : Int) (G : List Gp) (i : Nat) : List Gp := (G.take i).map (inc a b) ++ G.drop i
theorem mixG_zero (a b : Int) (G : List Gp) : MixG a b G 0 = G := by unfold MixG; simp
theorem mixG_full (a b : Int) (G : List Gp) : MixG a b G G.length = G.map (inc a b) := by unfold MixG; simp
theorem mixG_at {a b : Int} {G : List Gp} {i : Nat} {g : Gp} (h : G[i]? = some g) : (MixG a b G i)[i]? = some g := by
  have hi := (List.getElem?_eq_some_iff.1 h).1
  unfold MixG
  rw [List.getElem?_append_right (by rw [List.length_map, List.length_take]; omega), List.length_map, List.length_take, Nat.min_eq_left (by omega), Nat.sub_self, List.getElem?_drop, Nat.add_zero, h]
theorem mixG_len (a b : Int) (G : List Gp) (i : Nat) (h : i ≤ G.length) : (MixG a b G i).length = G.length := by
  unfold MixG
  rw [List.length_append, List.length_map, List.length_take, List.length_drop]
  omega
theorem mixG_succ {a b : Int} {G : List Gp} {i : Nat} {g : Gp} (h : G[i]? = some g) : MixG a b G (i + 1) = (MixG a b G i).set i (inc a b g) := by
  have hi := (List.getElem?_eq_some_iff.1 h).1
  have hd : G.drop i = g :: G.drop (i + 1) := by rw [List.drop_eq_getElem_cons hi, (List.getElem?_eq_some_iff.1 h).2]
  have ht : G.take (i + 1) = G.take i ++ [g] := by rw [List.take_add_one, h]; rfl
  unfold MixG
  rw [ht, hd, List.map_append, List.append_assoc, List.set_append_right _ _ (by rw [List.length_map, List.length_take]; omega), List.length_map, List.length_take, Nat.min_eq_left (by omega), Nat.sub_self]
  rfl
theorem mixG_same {a b : Int} {G : List Gp} {i : Nat} {g : Gp} (h : G[i]? = some g) (hh : hitG a b g = false) : MixG a b G (i + 1) = MixG a b G i := by
  rw [mixG_succ h]
  have : inc a b g = g := by unfold inc; rw [hh]; rfl
  rw [this]
  refine List.ext_getElem? fun j => ?_
  rw [List.getElem?_set]
  by_cases he : i = j
  · subst he
    rw [if_pos rfl, mixG_at h, if_pos (List.getElem?_eq_some_iff.1 (mixG_at (a := a) (b := b) h)).1]
  · rw [if_neg he]
theorem any_take {α : Type} (p : α → Bool) {G : List α} {i : Nat} {g : α} (h : G[i]? = some g) : (G.take (i + 1)).any p = ((G.take i).any p || p g) := by
  rw [List.take_add_one, h, List.any_append]
  simp
/-- Groups that are read, below a block. -/
def RG (w : World) (B : Nat) (o : Option Addr) (G : List Gp) : Prop := ∀ (k : Nat) (g : Gp), G[k]? = some g → ∃ (b : Nat) (cs : Array Value), o = some ⟨b, 0, none⟩ ∧ b < B ∧ w.heap[b]? = some (.cells cs 84 (0, 0)) ∧ ∀ (j : Nat) u, ([Value.int .u64 g.1, .int .u64 g.2.1, .int .i64 g.2.2])[j]? = some u → cs[k * 3 + j]? = some u
theorem RG.later {w w' : World} {B C : Nat} {o : Option Addr} {l : List Gp} (h : RG w B o l) (hb : Below B w w') (hC : B ≤ C) : RG w' C o l := fun k x hx => by
  obtain ⟨g, cs, h1, h2, h3, h4⟩ := h k x hx
  exact ⟨g, cs, h1, by omega, (hb.block g h2).trans h3, h4⟩
theorem RG.of_own {w : World} {base : Nat} {o : Option Addr} {n c : Nat} {l : List Gp} (h : w.ownsRow base 84 3 (.slice o n c) l.length (g3 l)) : n = l.length ∧ RG w w.heap.size o l := by
  rcases h.2 with ⟨hv, h0⟩ | ⟨g, cap, cur, hv, hg, hh, hcap, _, hsz, htk⟩
  · cases hv
    have := List.eq_nil_of_length_eq_zero h0
    subst this
    exact ⟨rfl, fun k g h => by simp at h⟩
  · cases hv
    refine ⟨rfl, fun k x hx => ⟨g, cur, rfl, (Array.getElem?_eq_some_iff.1 hh).1, hh, fun j u hu => ?_⟩⟩
    have hk := (List.getElem?_eq_some_iff.1 hx).1
    have hj := (List.getElem?_eq_some_iff.1 hu).1
    have hj4 : j < 3 := by simpa using hj
    have hc := World.ownsRow.cellAt h (k * 3 + j) (by omega)
    rw [g3_at l k x j u hx hu] at hc
    unfold World.cell? at hc
    rw [hh] at hc
    exact hc
theorem RG.at_ {w : World} {B : Nat} {o : Option Addr} {l : List Gp} (h : RG w B o l) {k : Nat} {s : Gp} (hs : l[k]? = some s) : ∃ g, o = some ⟨g, 0, none⟩ ∧ g < B ∧ ∀ (j : Nat) u, ([Value.int .u64 s.1, .int .u64 s.2.1, .int .i64 s.2.2])[j]? = some u → w.cell? ⟨g, k * 3 + j, none⟩ = some u := by
  obtain ⟨g, cs, h1, h2, h3, h4⟩ := h k s hs
  exact ⟨g, h1, h2, fun j u hu => cell_block h3 (h4 j u hu)⟩
theorem inc_none {a b : Int} {G : List Gp} (h : G.any (hitG a b) = false) : G.map (inc a b) = G := by
  conv => rhs; rw [← List.map_id G]
  refine List.map_congr_left fun g hg => ?_
  have := List.any_eq_false.1 h g hg
  unfold inc
  rw [if_neg this]
  rfl
theorem hit_iff (a b : Int) (g : Gp) : hitG a b g = ((g.1 == a) && (g.2.1 == b)) := by
  unfold hitG
  rw [Bool.eq_iff_iff, decide_eq_true_iff, Bool.and_eq_true, beq_iff_eq, beq_iff_eq]
set_option maxRecDepth 100000 in
set_option maxHeartbeats 12800000 in
theorem groups_any (p q : Pa) (ss tt : List S4) (fs us : List Int) (w : World) (B : Nat) (o1 o2 o3 o4 : Option Addr) (c1 c2 c3 c4 : Nat) (h : RM w B o1 o2 ss fs) (h' : RM w B o3 o4 tt us) (hB : B ≤ w.heap.size) :
    Calls Tryd.prog 27 #[mV p (.slice o1 ss.length c1) (.slice o2 fs.length c2), mV q (.slice o3 tt.length c3) (.slice o4 us.length c4)] w fun e w' => (∃ o c, e = .returned (.slice o (grps ((ss, fs), p) ((tt, us), q)).length c) ∧ RG w' w'.heap.size o (grps ((ss, fs), p) ((tt, us), q)) ∧ (grps ((ss, fs), p) ((tt, us), q)).length ≤ 95) ∧ Below w.heap.size w w' := by
  obtain ⟨i0, hi, hz0, hz1, hz2⟩ := info_parts infoG
  obtain ⟨w1, hw1⟩ : ∃ w1, w1 = (w.alloc (.cells #[.bool p.e, .int .u64 p.f, .int .u64 p.t, .slice o1 ss.length c1, .slice o2 fs.length c2] 68)).alloc (.cells #[.bool q.e, .int .u64 q.f, .int .u64 q.t, .slice o3 tt.length c3, .slice o4 us.length c4] 68) := ⟨_, rfl⟩
  have HW1 := Lib.hid hw1
  have hs1 : w1.heap.size = w.heap.size + 2 := by rw [hw1]; simp
  have hb1 : Below w.heap.size w w1 := by rw [hw1]; exact below2 _ _ _
  have HB1 := Lib.hid hb1
  have HM1 : Hid (M5 w1 w.heap.size p (.slice o1 ss.length c1) (.slice o2 fs.length c2)) := Lib.hid (by rw [hw1]; exact old_at (top_at _ _ rfl) _)
  have HN1 : Hid (M5 w1 (w.heap.size + 1) q (.slice o3 tt.length c3) (.slice o4 us.length c4)) := Lib.hid (by rw [hw1]; exact top_at _ _ (by simp))
  have HR := Lib.hid h
  have HR' := Lib.hid h'
  have HG0 : Hid (grps ((ss, fs), p) ((tt, us), q) = gAll ((ss, fs), p) ((tt, us), q) (alB.drop 0) []) := Lib.hid rfl
  obtain ⟨RES, hRES⟩ : ∃ RES, RES = grps ((ss, fs), p) ((tt, us), q) := ⟨_, rfl⟩
  rw [← hRES] at HG0 ⊢
  have HO1 : Hid (w1.ownsRow (w.heap.size + 2) 84 3 (.slice none 0 0) ([] : List Gp).length (g3 [])) := Lib.hid ⟨rfl, .inl ⟨rfl, rfl⟩⟩
  have HD0 : Hid (∀ g : Gp, g ∈ ([] : List Gp) → 1 ≤ g.2.2 ∧ g.2.2 ≤ ((0 : Nat) : Int)) := Lib.hid (fun g hg => by simp at hg)
  clear hw1 h h' hb1 hRES
  unfold mV
  go_enter Tryd.func27, Tryd.ntmps27
  go_wp2_with fail
  rw [← HW1.out]
  go_loopg [5, 6] 96 (fun gk va v wr => ∃ (k : Nat) (G : List Gp) (o : Option Addr) (c : Nat), va = .slice o G.length c ∧ v = .int .i64 ((32 + k : Nat) : Int) ∧ k + gk = 96 ∧ k ≤ 95 ∧ G.length ≤ k ∧ Hid (wr.ownsRow (w.heap.size + 2) 84 3 (.slice o G.length c) G.length (g3 G)) ∧ Hid (∀ g : Gp, g ∈ G → 1 ≤ g.2.2 ∧ g.2.2 ≤ (k : Int)) ∧ Hid (RES = gAll ((ss, fs), p) ((tt, us), q) (alB.drop k) G) ∧ Hid (Below (w.heap.size + 2) w1 wr) ∧ w.heap.size + 2 ≤ wr.heap.size)
  case atStart => exact ⟨0, [], none, 0, rfl, rfl, rfl, by omega, Nat.le_refl _, HO1, HD0, HG0, Lib.hid (Below.refl _ _), by omega⟩
  case round =>
    obtain ⟨k, G, o, c, rfl, rfl, hkg, hk, hGk, HO, HD1, HE, HBr, hsr⟩ := hrel
    clear HO1 HD0 HG0
    obtain ⟨w3, hw3⟩ : ∃ w3 : World, w3 = wr := ⟨_, rfl⟩
    subst hw3
    by_cases hlt : k < 95
    · have hltI : ((32 + k : Nat) : Int) ≤ 126 := by omega
      have hwk : IntKind.i64.wrap (((32 + k : Nat) : Int) + 1) = ((32 + (k + 1) : Nat) : Int) := by rw [IntWalk.i64_in _ (by omega)]; omega
      obtain ⟨gh, rfl⟩ : ∃ gh, gk = gh + 1 := ⟨gk - 1, by omega⟩
      obtain ⟨b, hb⟩ : ∃ b, b = 32 + k := ⟨_, rfl⟩
      rw [← hb] at hltI hwk ⊢
      have HH1 := Lib.hid (fun (V : World) (hV : Below w3.heap.size w3 V) => holding_any p ss fs b (by omega) V B o1 o2 ss.length fs.length c1 c2 (HR.out.later ((HB1.out.trans ((HBr.out.trans (hV.mono hsr)).mono (by omega))).mono hB) (Nat.le_refl _)) (by have := hV.size; omega) rfl)
      have HH2 := Lib.hid (fun (V : World) (hV : Below w3.heap.size w3 V) => holding_any q tt us b (by omega) V B o3 o4 tt.length us.length c3 c4 (HR'.out.later ((HB1.out.trans ((HBr.out.trans (hV.mono hsr)).mono (by omega))).mono hB) (Nat.le_refl _)) (by have := hV.size; omega) rfl)
      have HE1 : Hid (RES = gAll ((ss, fs), p) ((tt, us), q) (alB.drop (k + 1)) (gAdd (hldL b 0 ss 0) (hldL b 0 tt 0) G)) := Lib.hid (by rw [HE.out, alB_drop hlt, ← hb]; rfl)
      have HVM : Hid (∀ V, Below w3.heap.size w3 V → (V.cell? ⟨w.heap.size, 0, none⟩ = some (.bool p.e) ∧ V.cell? ⟨w.heap.size, 1, none⟩ = some (.int .u64 p.f) ∧ V.cell? ⟨w.heap.size, 2, none⟩ = some (.int .u64 p.t) ∧ V.cell? ⟨w.heap.size, 3, none⟩ = some (.slice o1 ss.length c1) ∧ V.cell? ⟨w.heap.size, 4, none⟩ = some (.slice o2 fs.length c2)) ∧ (V.cell? ⟨w.heap.size + 1, 0, none⟩ = some (.bool q.e) ∧ V.cell? ⟨w.heap.size + 1, 1, none⟩ = some (.int .u64 q.f) ∧ V.cell? ⟨w.heap.size + 1, 2, none⟩ = some (.int .u64 q.t) ∧ V.cell? ⟨w.heap.size + 1, 3, none⟩ = some (.slice o3 tt.length c3) ∧ V.cell? ⟨w.heap.size + 1, 4, none⟩ = some (.slice o4 us.length c4))) := Lib.hid (fun V hV => ⟨((HM1.out.later HBr.out (by omega)).later hV (by omega)).cells, ((HN1.out.later HBr.out (by omega)).later hV (by omega)).cells⟩)
      have HBW := Lib.hid hb
      generalize hldL b 0 ss 0 = a1 at *
      generalize hldL b 0 tt 0 = a2 at *
      unfold mV at HH1 HH2
      clear HE hb
      obtain ⟨u0, v0⟩ := HVM.out w3.drew (Below.refl _ _).drew
      obtain ⟨u0, u1, u2, u3, u4⟩ := u0
      obtain ⟨v0, v1, v2, v3, v4⟩ := v0
      have HZ0 : Hid (Below w3.heap.size w3 w3.drew) := Lib.hid (Below.refl _ _).drew
      have HK : Hid (∀ (V : World) (o : Obj), Below w3.heap.size w3 V → Below w3.heap.size w3 (V.alloc o)) := Lib.hid (fun V o h => h.alloc h.size o)
      have HD : Hid (∀ (V : World), Below w3.heap.size w3 V → Below w3.heap.size w3 V.drew) := Lib.hid (fun V h => h.drew)
      have HP : Hid (∀ (V : World) (b k : Nat) (u : Value), Below w3.heap.size w3 V → w3.heap.size ≤ b → Below w3.heap.size w3 (V.setCell ⟨b, k, none⟩ u)) := Lib.hid (fun V b k u h hb => h.setCell (p := ⟨b, k, none⟩) hb u)
      go_upto_region 5 with fail
      go_cut [7] (fun s7 wx => ∃ b7 : Nat, s7 = .pointer (some ⟨b7, 0, none⟩) ∧ Hid (G3 wx b7 (a1, a2, 1)) ∧ Hid (Below w3.heap.size w3 wx) ∧ w3.heap.size ≤ b7)
      case first =>
        go_region_held3 (fun V => (V.cell? ⟨w.heap.size, 0, none⟩ = some (.bool p.e) ∧ V.cell? ⟨w.heap.size, 1, none⟩ = some (.int .u64 p.f) ∧ V.cell? ⟨w.heap.size, 2, none⟩ = some (.int .u64 p.t) ∧ V.cell? ⟨w.heap.size, 3, none⟩ = some (.slice o1 ss.length c1) ∧ V.cell? ⟨w.heap.size, 4, none⟩ = some (.slice o2 fs.length c2)) ∧ (V.cell? ⟨w.heap.size + 1, 0, none⟩ = some (.bool q.e) ∧ V.cell? ⟨w.heap.size + 1, 1, none⟩ = some (.int .u64 q.f) ∧ V.cell? ⟨w.heap.size + 1, 2, none⟩ = some (.int .u64 q.t) ∧ V.cell? ⟨w.heap.size + 1, 3, none⟩ = some (.slice o3 tt.length c3) ∧ V.cell? ⟨w.heap.size + 1, 4, none⟩ = some (.slice o4 us.length c4))) (exact HVM.out _ (by repeat' (first | with_reducible exact HZ0.out | with_reducible exact HB6.out | with_reducible exact HB5.out | with_reducible exact Below.refl _ _ | with_reducible refine HK.out _ _ ?_ | with_reducible refine HP.out _ _ _ _ ?_ ?_ | with_reducible refine HD.out _ ?_ | exact Nat.le_refl _ | omega))) (first
          | (have hz := HB5; clear hz; go_simp; go_at_call 35; refine (HH2.out _ (by repeat' (first | with_reducible exact HZ0.out | with_reducible exact HB5.out | with_reducible exact Below.refl _ _ | with_reducible refine HK.out _ _ ?_ | with_reducible refine HD.out _ ?_))).mono ?_; rintro e w6 ⟨rfl, hb6⟩
             have HQ6 := Lib.hid hb6
             have HB6 : Hid (Below w3.heap.size w3 w6) := Lib.hid (Below.trans (by repeat' (first | with_reducible exact HZ0.out | with_reducible exact HB5.out | with_reducible exact Below.refl _ _ | with_reducible refine HK.out _ _ ?_ | with_reducible refine HD.out _ ?_)) (hb6.mono (by have := HB5.out.size; first | omega | (simp; done) | (simp; omega))))
             have hs6 := HB6.out.size
             (first
               | (have hx : G3 w6 w3.heap.size (0, 0, 0) := (HX5.out.later HQ6.out (by have := HX5.out.lt; first | omega | (simp; omega))); have HX := Lib.hid hx; have hxl := hx.lt; obtain ⟨j0, j1, j2⟩ := hx.cells; have jf0 := hx.free 0; have jf1 := hx.free 1; have jf2 := hx.free 2; clear hx)
               | (have hx : G3 w6 w5.heap.size (0, 0, 0) := (HQ6.out.block _ (by first | (simp; done) | (simp; omega))).trans (by exact top_at _ _ rfl); have HX := Lib.hid hx; have hxl := hx.lt; obtain ⟨j0, j1, j2⟩ := hx.cells; have jf0 := hx.free 0; have jf1 := hx.free 1; have jf2 := hx.free 2; clear hx)
               | skip)
             clear hb6
             try dsimp only)
          | (go_simp; go_at_call 35; refine (HH1.out _ (by repeat' (first | with_reducible exact HZ0.out | with_reducible exact Below.refl _ _ | with_reducible refine HK.out _ _ ?_ | with_reducible refine HD.out _ ?_))).mono ?_; rintro e w5 ⟨rfl, hb5⟩
             have HQ5 := Lib.hid hb5
             have HB5 : Hid (Below w3.heap.size w3 w5) := Lib.hid (Below.trans (by repeat' (first | with_reducible exact HZ0.out | with_reducible exact Below.refl _ _ | with_reducible refine HK.out _ _ ?_ | with_reducible refine HD.out _ ?_)) (hb5.mono (by first | omega | (simp; done) | (simp; omega))))
             have hs5 := HB5.out.size
             (first
               | (have hx : G3 w5 w3.heap.size (0, 0, 0) := (HQ5.out.block _ (by first | (simp; done) | (simp; omega))).trans (by exact top_at _ _ rfl); have HX5 := Lib.hid hx; clear hx)
               | skip)
             clear hb5
             try dsimp only))
        all_goals
          go_wp2_with fail
          go_meet
          first
            | exact ⟨_, rfl, Lib.hid (HX.out.set (a1, a2, 1)), Lib.hid (below3s HB6.out (by omega) _ _ _), by omega⟩
            | exact ⟨_, rfl, Lib.hid (top_at _ _ rfl), Lib.hid (HB6.out.trans ((below1 _ _).mono hs6)), hs6⟩
      case rest =>
        obtain ⟨b7, rfl, HG7, HBc, hl7⟩ := hcut
        have hsc := HBc.out.size
        have hb7 := HG7.out.lt
        have HOc : Hid (wc.ownsRow (w.heap.size + 2) 84 3 (.slice o G.length c) G.length (g3 (MixG a1 a2 G 0))) := Lib.hid (by rw [mixG_zero]; exact own_keep HO.out (fun q cur hq _ => below_keep HBc.out hq))
        have HGB : Hid (∀ g, o = some ⟨g, 0, none⟩ → g < w3.heap.size) := Lib.hid (fun g hg => (own_lt HO.out g (by rw [hg]; rfl)).2)
        have HBd := Lib.hid (HBr.out.trans (HBc.out.mono hsr))
        have hlI : (G.length : Int) ≤ 95 := by omega
        clear HO u0 u1 u2 u3 u4 v0 v1 v2 v3 v4 HH1 HH2 HVM HZ0 HK HD HP
        go_wp2_with fail
        go_loopg [8, 9] (G.length + 1) (fun gj va v wr => ∃ i : Nat, va = .bool ((G.take i).any (hitG a1 a2)) ∧ v = .int .i64 (i : Int) ∧ i + gj = G.length + 1 ∧ i ≤ G.length ∧ Hid (wr.ownsRow (w.heap.size + 2) 84 3 (.slice o G.length c) G.length (g3 (MixG a1 a2 G i))) ∧ Hid (G3 wr b7 (a1, a2, 1)) ∧ Hid (Below (w.heap.size + 2) w1 wr) ∧ w3.heap.size ≤ wr.heap.size)
        case atStart => exact ⟨0, rfl, rfl, by omega, Nat.zero_le _, HOc, HG7, HBd, hsc⟩
        case round =>
          obtain ⟨i, rfl, rfl, hij, hil, HOi, HGi, HBi, hsi⟩ := hrel
          clear HOc HG7 HBd
          obtain ⟨k0, k1, k2⟩ := HGi.out.cells
          by_cases hlt2 : i < G.length
          · have hltI2 : (i : Int) < (G.length : Int) := by omega
            have hi0 : (0 : Int) ≤ (i : Int) := by omega
            have hwi : IntKind.i64.wrap ((i : Int) + 1) = ((i + 1 : Nat) : Int) := by rw [IntWalk.i64_in _ (by omega)]; omega
            obtain ⟨gj', rfl⟩ : ∃ gj', gk = gj' + 1 := ⟨gk - 1, by omega⟩
            obtain ⟨gi, hgi⟩ : ∃ gi, G[i]? = some gi := ⟨_, List.getElem?_eq_getElem hlt2⟩
            obtain ⟨g, rfl⟩ : ∃ g, o = some ⟨g, 0, none⟩ := by
              rcases HOi.out.2 with ⟨hv, h0⟩ | ⟨g, cap, cur, hv, _⟩
              · omega
              · cases hv; exact ⟨g, rfl⟩
            have hgb := HGB.out g rfl
            have hmi := mixG_at (a := a1) (b := a2) hgi
            have cc : ∀ (j : Nat) u, j < 3 → ([Value.int .u64 gi.1, .int .u64 gi.2.1, .int .i64 gi.2.2])[j]? = some u → wr.cell? ⟨g, i * 3 + j, none⟩ = some u := fun j u hj hu => by
              have h1 := World.ownsRow.cellAt HOi.out (i * 3 + j) (by omega)
              rw [g3_at _ i gi j u hmi hu] at h1
              exact h1
            have q0 := cc 0 _ (by omega) rfl
            have q1 := cc 1 _ (by omega) rfl
            have q2 := cc 2 _ (by omega) rfl
            rw [Nat.add_zero] at q0
            have qf := World.ownsRow.frozenAt HOi.out (i * 3 + 2)
            have hbd := HD1.out gi (List.mem_of_getElem? hgi)
            have hwg : IntKind.i64.wrap (gi.2.2 + 1) = gi.2.2 + 1 := IntWalk.i64_in _ (by omega)
            have HAN : Hid ((G.take (i + 1)).any (hitG a1 a2) = ((G.take i).any (hitG a1 a2) || hitG a1 a2 gi)) := Lib.hid (any_take _ hgi)
            have HGI := Lib.hid hgi
            have hgne : g ≠ b7 := by omega
            clear cc hmi hgi hbd
            have miss : hitG a1 a2 gi = false → (G.take (i + 1)).any (hitG a1 a2) = (G.take i).any (hitG a1 a2) ∧ g3 (MixG a1 a2 G (i + 1)) = g3 (MixG a1 a2 G i) := fun hh => ⟨by rw [HAN.out, hh, Bool.or_false], by rw [mixG_same HGI.out hh]⟩
            have HMI := Lib.hid miss
            have hit : hitG a1 a2 gi = true → (G.take (i + 1)).any (hitG a1 a2) = true ∧ g3 (MixG a1 a2 G (i + 1)) = (g3 (MixG a1 a2 G i)).set (i * 3 + 2) (.int .i64 (gi.2.2 + 1)) := fun hh => ⟨by rw [HAN.out, hh, Bool.or_true], by
              rw [mixG_succ HGI.out, g3_set _ i gi _ (mixG_at HGI.out)]
              unfold inc
              rw [if_pos hh]⟩
            have HHI := Lib.hid hit
            clear miss hit HAN
            rw [hit_iff] at HMI HHI
            generalize (G.take i).any (hitG a1 a2) = fnd at *
            cases e1 : gi.1 == a1
            · rw [e1, Bool.false_and] at HMI
              obtain ⟨r1, r2⟩ := HMI.out rfl
              have R1 := Lib.hid r1
              have R2 := Lib.hid r2
              clear HHI HMI r1 r2
              go_wp2_with fail
              go_region
              all_goals
                go_wp2_with fail
                go_roundg gj'
                case measure => omega
                case rel => exact ⟨i + 1, by rw [R1.out], by first | rfl | go_num, by omega, hlt2, Lib.hid (by rw [R2.out]; exact HOi.out), HGi, Lib.hid HBi.out.drew, hsi⟩
            · cases e2 : gi.2.1 == a2
              · rw [e1, e2, Bool.and_false] at HMI
                obtain ⟨r1, r2⟩ := HMI.out rfl
                have R1 := Lib.hid r1
                have R2 := Lib.hid r2
                clear HHI HMI r1 r2
                go_wp2_with fail
                go_region
                all_goals
                  go_wp2_with fail
                  go_roundg gj'
                  case measure => omega
                  case rel => exact ⟨i + 1, by rw [R1.out], by first | rfl | go_num, by omega, hlt2, Lib.hid (by rw [R2.out]; exact HOi.out), HGi, Lib.hid HBi.out.drew, hsi⟩
              · rw [e1, e2, Bool.and_true] at HHI
                obtain ⟨r1, r2⟩ := HHI.out rfl
                have R1 := Lib.hid r1
                have R2 := Lib.hid r2
                clear HHI HMI r1 r2
                go_wp2_with fail
                go_region
                all_goals
                  go_wp2_with fail
                  go_roundg gj'
                  case measure => omega
                  case rel => exact ⟨i + 1, by rw [R1.out], by first | rfl | go_num, by omega, hlt2, Lib.hid (by rw [R2.out]; exact (World.ownsRow.stored HOi.out (i * 3 + 2) _).1), Lib.hid ((Below.heap_setCell _ _ _ _ (by show b7 ≠ g; omega)).trans HGi.out), Lib.hid (HBi.out.setCell (p := ⟨g, i * 3 + 2, none⟩) (own_lt HOi.out g rfl).1 _).drew, by show w3.heap.size ≤ (wr.setCell _ _).heap.size; rw [World.size_setCell]; exact hsi⟩
          · have hltI2 : ¬ ((i : Int) < (G.length : Int)) := by omega
            have hiG : i = G.length := by omega
            subst hiG
            have HLe := Lib.hid (gAdd_len a1 a2 G)
            have HBdn : Hid (∀ g, g ∈ gAdd a1 a2 G → 1 ≤ g.2.2 ∧ g.2.2 ≤ ((k + 1 : Nat) : Int)) := Lib.hid (fun g hg => gAdd_bd (k := (k : Int)) (by omega) HD1.out g hg)
            obtain ⟨fnd, hfnd⟩ : ∃ f, (G.take G.length).any (hitG a1 a2) = f := ⟨_, rfl⟩
            rw [hfnd]
            rw [List.take_length] at hfnd
            cases fnd
            · have hf := hfnd
              clear hfnd
              have HEQ : Hid (gAdd a1 a2 G = G ++ [(a1, a2, 1)]) := Lib.hid (by rw [gAdd_eq, hf]; rfl)
              have HOw : Hid ((wr.alloc (.cells #[.int .u64 a1, .int .u64 a2, .int .i64 1] 84)).ownsRow (w.heap.size + 2) 84 3 (.slice o G.length c) G.length (g3 G)) := Lib.hid (by
                have h := HOi.out
                rw [mixG_full, inc_none hf] at h
                exact own_keep h (fun q cur hq _ => below_keep (below1 _ _) hq))
              clear hf
              go_wp2_with (at_builtin; refine app_src rfl _ _ 80 84 rfl (w.heap.size + 2) i0 _ 3 24 Tryd.underlying80 hi hz0 hz1 hz2 rfl (by decide) (by decide) _ G.length (g3 G) rfl HOw.out _ 1 1 rfl (g3 [(a1, a2, 1)]) rfl (src_one (cs := #[.int .u64 a1, .int .u64 a2, .int .i64 1]) (t := 84) (top_at _ _ rfl)) (g3_one _) ?d2 ?d3 ?_)
              case d2 => omega
              case d3 => first | omega | (simp; done) | (simp; omega)
              intro v9 w9 hown9 hg9
              obtain ⟨o9, cap9, rfl⟩ := own_form hown9
              have hb9 := below_grownS (HBi.out.trans ((below1 wr _).mono (by omega))) (by first | omega | (simp; done) | (simp; omega)) HOw.out hg9
              have HO9 : Hid (w9.ownsRow (w.heap.size + 2) 84 3 (.slice o9 (G.length + 1) cap9) (gAdd a1 a2 G).length (g3 (gAdd a1 a2 G))) := Lib.hid (by
                rw [HEQ.out, g3_app, List.length_append, List.length_singleton]
                exact hown9)
              have HB9 := Lib.hid hb9
              have hs9 := hb9.size
              have HGL : Hid ((gAdd a1 a2 G).length = G.length + 1) := Lib.hid (by rw [HEQ.out, List.length_append, List.length_singleton])
              clear hown9 hg9 hb9
              go_wp2_with fail
              go_roundg gh
              case measure => omega
              case rel => exact ⟨k + 1, gAdd a1 a2 G, o9, cap9, by rw [HGL.out], by first | rfl | (have := HBW.out; go_num), by omega, by omega, by have := HGL.out; omega, by rw [HGL.out] at HO9; exact Lib.hid (by rw [HGL.out]; exact HO9.out), HBdn, HE1, HB9, by omega⟩
            · have hf := hfnd
              clear hfnd
              have HEQ : Hid (gAdd a1 a2 G = G.map (inc a1 a2)) := Lib.hid (by rw [gAdd_eq, hf]; rfl)
              have HO9 : Hid (wr.ownsRow (w.heap.size + 2) 84 3 (.slice o G.length c) G.length (g3 (gAdd a1 a2 G))) := Lib.hid (by
                have h := HOi.out
                rw [mixG_full] at h
                rw [HEQ.out]
                exact h)
              have HGL : Hid ((gAdd a1 a2 G).length = G.length) := Lib.hid (by rw [HEQ.out, List.length_map])
              clear hf
              go_wp2_with fail
              go_roundg gh
              case measure => omega
              case rel => exact ⟨k + 1, gAdd a1 a2 G, o, c, by rw [HGL.out], by first | rfl | (have := HBW.out; go_num), by omega, by omega, by have := HGL.out; omega, Lib.hid (by rw [HGL.out]; exact HO9.out), HBdn, HE1, HBi, by omega⟩
    · have hltI : ¬ (((32 + k : Nat) : Int) ≤ 126) := by omega
      obtain rfl : k = 95 := by omega
      have hR : RES = G := by
        rw [HE.out, List.drop_of_length_le (by unfold alB; simp)]
        rfl
      subst hR
      have HRG := Lib.hid (RG.of_own HO.out).2
      have HBf := Lib.hid (HB1.out.trans (HBr.out.mono (by omega)))
      clear HO HE
      go_wp2_with fail
      go_ret
      exact ⟨⟨o, ⟨c, rfl⟩, HRG.out⟩, HBf.out⟩
end

end Go.Proofs.YtaipaddfehpmgaaDoor
