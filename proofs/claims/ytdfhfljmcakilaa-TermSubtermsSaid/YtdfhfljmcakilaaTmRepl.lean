/-
  Replace of the program. Nothing is assumed.
-/
import Derived.Test.YtdfhfljmcakilaaTmAt
namespace Go.Proofs.Ytdfhfljmcakilaa
open Go.RowKit

theorem Place.later {w w' : World} {b o b2 o2 : Nat} {v x : T} {p : List Int} (h : Place w b o v p b2 o2 x) (hb : Below w.heap.size w w') : Place w' b o v p b2 o2 x := by
  induction h with
  | here b o v => exact .here _ _ _
  | step b o b1 off cap v u x i p b2 o2 hc hu h ih =>
    have hlt : b < w.heap.size := by
      have := World.block_lt_of_cell? _ _ hc
      simpa using this
    exact .step b o b1 off cap v u x i p b2 o2 ((hb.cell (p := ⟨b, o + 1, none⟩) hlt).trans hc) hu ih
theorem At.later {w w' : World} {B C b o : Nat} {u : T} (h : At w B b o u) (hb : Below C w w') (hC : b < C) (hBC : B ≤ C) : At w' B b o u := by
  obtain ⟨oe, ce, c0, c1, hr⟩ := h
  exact ⟨oe, ce, (hb.cell (p := ⟨b, o, none⟩) hC).trans c0, (hb.cell (p := ⟨b, o + 1, none⟩) hC).trans c1, hr.later (hb.mono hBC)⟩
theorem FN.frozen {w : World} {b o b2 o2 : Nat} {v y : T} {p : List Int} (hpl : Place w b o v p b2 o2 y) : ∀ {P : Nat → Prop}, FN w P b o v → (∀ q : Nat, w.frozen? ⟨b, q, none⟩ = false) → ∀ q : Nat, w.frozen? ⟨b2, q, none⟩ = false := by
  induction hpl with
  | here b o v => intro P _ hz; exact hz
  | step b o b1 off cap v u y i p b2 o2 hc hu hpl ih =>
    intro P hn hz
    obtain ⟨sl, c0, c1, hF, hnb⟩ := hn
    rw [hc] at c1
    cases c1
    have hi : i < v.l.length := (List.getElem?_eq_some_iff.1 hu).1
    generalize hsv : Value.slice (some ⟨b1, off, none⟩) v.l.length cap = sv at hF
    generalize hlv : v.l = lv at hF
    cases hF with
    | empty _ oa cap' => rw [hlv] at hi; simp at hi
    | arr _ b1' off' cap' l sl Q g1 g2 g3 g4 g5 g6 g7 g8 =>
      have e1 : b1 = b1' ∧ off = off' ∧ cap = cap' := by
        rw [hlv] at hsv
        simp at hsv
        exact ⟨hsv.1.1, hsv.1.2, hsv.2⟩
      obtain ⟨rfl, rfl, rfl⟩ := e1
      subst hlv
      obtain ⟨d0, d1⟩ := g4 i u hu
      exact ih (P := Q i) ⟨sl i, d0, d1, g6 i u hu, fun h => (g7 i hi b1 h).2 rfl⟩ g5
theorem FN.within {w : World} {b o b2 o2 : Nat} {v y : T} {p : List Int} (hpl : Place w b o v p b2 o2 y) : ∀ {P : Nat → Prop}, FN w P b o v → b2 = b ∨ P b2 := by
  induction hpl with
  | here b o v => intro P _; exact .inl rfl
  | step b o b1 off cap v u y i p b2 o2 hc hu hpl ih =>
    intro P hn
    obtain ⟨sl, c0, c1, hF, hnb⟩ := hn
    rw [hc] at c1
    cases c1
    have hi : i < v.l.length := (List.getElem?_eq_some_iff.1 hu).1
    generalize hsv : Value.slice (some ⟨b1, off, none⟩) v.l.length cap = sv at hF
    generalize hlv : v.l = lv at hF
    cases hF with
    | empty _ oa cap' => rw [hlv] at hi; simp at hi
    | arr _ b1' off' cap' l sl Q g1 g2 g3 g4 g5 g6 g7 g8 =>
      have e1 : b1 = b1' ∧ off = off' ∧ cap = cap' := by
        rw [hlv] at hsv
        simp at hsv
        exact ⟨hsv.1.1, hsv.1.2, hsv.2⟩
      obtain ⟨rfl, rfl, rfl⟩ := e1
      subst hlv
      obtain ⟨d0, d1⟩ := g4 i u hu
      rcases ih (P := Q i) ⟨sl i, d0, d1, g6 i u hu, fun h => (g7 i hi b1 h).2 rfl⟩ with h | h
      · exact .inr (h ▸ g1)
      · exact .inr (g7 i hi _ h).1
theorem FN.later {w w' : World} {P : Nat → Prop} {b o B : Nat} {v : T} (h : FN w P b o v) (hb : Below B w w') (hP : ∀ k, P k → k < B) (hB : b < B) : FN w' P b o v := by
  obtain ⟨sl, c0, c1, hF, hn⟩ := h
  exact ⟨sl, (hb.cell (p := ⟨b, o, none⟩) hB).trans c0, (hb.cell (p := ⟨b, o + 1, none⟩) hB).trans c1, hF.later hb hP, hn⟩
theorem set2_cell (w : World) (g a : Nat) (x y : Value) (q : Nat) (h0 : q ≠ a) (h1 : q ≠ a + 1) : ((w.setCell ⟨g, a, none⟩ x).setCell ⟨g, a + 1, none⟩ y).cell? ⟨g, q, none⟩ = w.cell? ⟨g, q, none⟩ := by
  rw [World.cell?_setCell_other _ _ _ _ (by simp <;> omega), World.cell?_setCell_other _ _ _ _ (by simp <;> omega)]
theorem set2_frozen (w : World) (g a c : Nat) (x y : Value) (q : Addr) : ((w.setCell ⟨g, a, none⟩ x).setCell ⟨g, c, none⟩ y).frozen? q = w.frozen? q := by
  rw [World.frozen?_setCell, World.frozen?_setCell]
theorem set2_at (w : World) (g a : Nat) (x y : Value) (h0 : (w.cell? ⟨g, a, none⟩).isSome = true) (h1 : (w.cell? ⟨g, a + 1, none⟩).isSome = true) :
    ((w.setCell ⟨g, a, none⟩ x).setCell ⟨g, a + 1, none⟩ y).cell? ⟨g, a, none⟩ = some x ∧ ((w.setCell ⟨g, a, none⟩ x).setCell ⟨g, a + 1, none⟩ y).cell? ⟨g, a + 1, none⟩ = some y := by
  have hne : (w.setCell ⟨g, a, none⟩ x).cell? ⟨g, a + 1, none⟩ = w.cell? ⟨g, a + 1, none⟩ := World.cell?_setCell_other _ _ _ _ (by simp)
  exact ⟨by rw [World.cell?_setCell_other _ _ _ _ (by simp)]; exact World.cell?_setCell_same' _ _ _ h0, World.cell?_setCell_same' _ _ _ (by rw [hne]; exact h1)⟩

def replO (x v : T) (p : List Int) : Option T := (v.follow p).map fun _ => T.repl x v p
theorem replO_none {x v : T} {p : List Int} (h : v.follow p = none) : replO x v p = none := by unfold replO; rw [h]; rfl
theorem replO_some {x v u : T} {p : List Int} (h : v.follow p = some u) : replO x v p = some (T.repl x v p) := by unfold replO; rw [h]; rfl

set_option maxRecDepth 100000 in
set_option maxHeartbeats 3200000 in
theorem replace_any (v x : T) (sl slx y : Value) (p : List Int) (w : World) (B : Nat) (hrep : Rep w B sl v.l) (hrx : Rep w B slx x.l) (hB : B ≤ w.heap.size) (hy : HoldsI w B y p) (hsz : v.size ≤ 1000) (hsx : x.size ≤ 1000) :
    Calls Try.prog 22 #[.agg #[.int .i64 v.r, sl], y, .agg #[.int .i64 x.r, slx]] w fun e w' => RetA w w' (replO x v p) e ∧ Below w.heap.size w w' := by
  obtain ⟨oa, ca, rfl, _, _⟩ := hrep.form
  obtain ⟨ox, cx, rfl, _, _⟩ := hrx.form
  obtain ⟨oy, cy, rfl, _, _⟩ : ∃ oa cap, y = .slice oa p.length cap ∧ p.length ≤ cap ∧ cap ≤ 9223372036854775807 := by obtain ⟨a, b, c, d, e, _⟩ := hy; exact ⟨a, b, c, d, e⟩
  have HBB : Below w.heap.size w (((w.alloc (.cells #[.int .i64 v.r, .slice oa v.l.length ca] 24)).alloc (.cells #[.int .i64 x.r, .slice ox x.l.length cx] 24)).alloc (.cells #[.int .i64 0, .slice none 0 0] 24)) := below3 _ _ _ _
  have HBT : Box (((w.alloc (.cells #[.int .i64 v.r, .slice oa v.l.length ca] 24)).alloc (.cells #[.int .i64 x.r, .slice ox x.l.length cx] 24)).alloc (.cells #[.int .i64 0, .slice none 0 0] 24)) w.heap.size v (.slice oa v.l.length ca) := ((Box.new v _ _ rfl).later (below1 _ _) (by simp)).later (below1 _ _) (by simp; omega)
  have HBX : Box (((w.alloc (.cells #[.int .i64 v.r, .slice oa v.l.length ca] 24)).alloc (.cells #[.int .i64 x.r, .slice ox x.l.length cx] 24)).alloc (.cells #[.int .i64 0, .slice none 0 0] 24)) (w.heap.size + 1) x (.slice ox x.l.length cx) := (Box.new x _ _ (by simp)).later (below1 _ _) (by simp)
  have HBR : Box (((w.alloc (.cells #[.int .i64 v.r, .slice oa v.l.length ca] 24)).alloc (.cells #[.int .i64 x.r, .slice ox x.l.length cx] 24)).alloc (.cells #[.int .i64 0, .slice none 0 0] 24)) (w.heap.size + 2) (.mk 0 []) (.slice none 0 0) := Box.new (.mk 0 []) _ _ (by simp)
  have hfr : ∀ o : Nat, (((w.alloc (.cells #[.int .i64 v.r, .slice oa v.l.length ca] 24)).alloc (.cells #[.int .i64 x.r, .slice ox x.l.length cx] 24)).alloc (.cells #[.int .i64 0, .slice none 0 0] 24)).frozen? ⟨w.heap.size + 2, o, none⟩ = false := by
    intro o
    have h := frozen_new ((w.alloc (.cells #[.int .i64 v.r, .slice oa v.l.length ca] 24)).alloc (.cells #[.int .i64 x.r, .slice ox x.l.length cx] 24)) #[.int .i64 0, .slice none 0 0] 24 o
    rw [World.size_alloc, World.size_alloc] at h
    exact h
  have hzz : (((w.alloc (.cells #[.int .i64 v.r, .slice oa v.l.length ca] 24)).alloc (.cells #[.int .i64 x.r, .slice ox x.l.length cx] 24)).alloc (.cells #[.int .i64 0, .slice none 0 0] 24)).heap.size = w.heap.size + 3 := by simp
  have HR := Lib.hid (hrep.later (HBB.mono hB))
  have HRX := Lib.hid (hrx.later (HBB.mono hB))
  have HY := Lib.hid (hy.later (HBB.mono hB))
  clear hrep hrx hy
  go_enter Try.func22, Try.ntmps22
  go_wp2_with fail
  generalize ((w.alloc (.cells #[.int .i64 v.r, .slice oa v.l.length ca] 24)).alloc (.cells #[.int .i64 x.r, .slice ox x.l.length cx] 24)).alloc (.cells #[.int .i64 0, .slice none 0 0] 24) = W at *
  refine (follow_any w.heap.size 0 v _ p W B ⟨oa, ca, HBT.1, HBT.2, HR.out⟩ HY.out).mono ?_
  rintro e w1 ⟨hw1, ⟨hF, rfl⟩ | ⟨b2, o2, u, hF, rfl, hP, hA⟩⟩
  · obtain rfl := hw1.symm
    have HF := Lib.hid hF
    obtain ⟨r0, r1⟩ := HBR
    have f0 := hfr 0
    have f1 := hfr 1
    clear hF
    go_wp2_with fail
    refine bodyPost_ret (v := .tuple #[.agg #[.int .i64 0, .slice none 0 0], .int .i64 7]) (by simp [results, Try.results22, go_sem, *]) rfl ?_
    exact ⟨RetA.none (replO_none HF.out) rfl, HBB.trans (((Below.refl _ _).setCell (p := ⟨w.heap.size + 2, _, none⟩) (by simp) _).setCell (p := ⟨w.heap.size + 2, _, none⟩) (by simp) _)⟩
  · obtain rfl := hw1.symm
    have HF := Lib.hid hF
    have HC := Lib.hid (clone_any v _ W B HR.out (by omega) hsz)
    obtain ⟨t0, t1⟩ := HBT
    clear hF hP hA hw1
    go_wp2_with fail
    refine HC.out.mono ?_
    rintro e w3 ⟨⟨sl3, rfl, hf3⟩, hb3⟩
    obtain ⟨o3, cc3, rfl, _, _⟩ := hf3.form
    have hs3 := hb3.size
    obtain ⟨W5, hW5⟩ : ∃ W5, W5 = w3.alloc (.cells #[.int .i64 v.r, .slice o3 v.l.length cc3] 24) := ⟨_, rfl⟩
    have hb5 : Below W.heap.size W W5 := by rw [hW5]; exact hb3.trans ((below1 w3 _).mono hs3)
    have hB35 : Below w3.heap.size w3 W5 := by rw [hW5]; exact below1 w3 _
    have hs5 : W5.heap.size = w3.heap.size + 1 := by rw [hW5]; simp
    have HBC : Box W5 w3.heap.size v (.slice o3 v.l.length cc3) := by rw [hW5]; exact Box.new v _ _ rfl
    have hfc : ∀ o : Nat, W5.frozen? ⟨w3.heap.size, o, none⟩ = false := fun o => by rw [hW5]; exact frozen_new _ _ _ _
    have HF5 := Lib.hid (hf3.later hB35 (fun q hq => hq.2))
    have HFN : Hid (FN W5 (fun k => W.heap.size ≤ k ∧ k < w3.heap.size) w3.heap.size 0 v) := Lib.hid ⟨_, HBC.1, HBC.2, HF5.out, fun h => by omega⟩
    obtain ⟨x0, x1⟩ := HBX.later hb5 (by omega)
    have HY5 := Lib.hid (HY.out.later (hb5.mono (by omega)))
    have HRX5 := Lib.hid (HRX.out.later (hb5.mono (by omega)))
    have HR5 : Hid (Rep W5 W5.heap.size (.slice o3 v.l.length cc3) v.l) := Lib.hid (HF5.out.rep (fun q hq => by omega))
    have HFO : Hid (∀ W' : World, Below W5.heap.size W5 W' → Calls Try.prog 38 #[.pointer (some ⟨w3.heap.size, 0, none⟩), .slice oy p.length cy] W' fun e w' => w' = W' ∧ ∃ b2 o2 u, e = .returned (.pointer (some ⟨b2, o2, none⟩)) ∧ Place W' w3.heap.size 0 v p b2 o2 u ∧ At W' W5.heap.size b2 o2 u) := Lib.hid (fun W' hb => by
      have h := follow_any w3.heap.size 0 v (.slice oy p.length cy) p W' W5.heap.size ⟨o3, cc3, (HBC.later hb (by omega)).1, (HBC.later hb (by omega)).2, HR5.out.later hb⟩ ((HY5.out.mono (by omega)).later hb)
      refine h.mono ?_
      rintro e w' ⟨hw, ⟨hn, _⟩ | ⟨b2, o2, u, _, h1, h2, h3⟩⟩
      · rw [HF.out] at hn; cases hn
      · exact ⟨hw, b2, o2, u, h1, h2, h3⟩)
    have HKEEP : Hid (∀ w', Below W5.heap.size W5 w' → w'.cell? ⟨w.heap.size + 1, 0, none⟩ = some (.int .i64 x.r) ∧ w'.cell? ⟨w.heap.size + 1, 1, none⟩ = some (.slice ox x.l.length cx)) :=
      Lib.hid (fun w' hb => ⟨((HBX.later hb5 (by omega)).later hb (by omega)).1, ((HBX.later hb5 (by omega)).later hb (by omega)).2⟩)
    have HCX : Hid (∀ w', Below W5.heap.size W5 w' → Calls Try.prog 39 #[.agg #[.int .i64 x.r, .slice ox x.l.length cx]] w' fun e w2 => RetN w' w2 x e ∧ Below w'.heap.size w' w2) :=
      Lib.hid (fun w' hb => clone_any x _ w' B (HRX5.out.later (hb.mono (by omega))) (Nat.le_trans (by omega) hb.size) hsx)
    clear hf3 t0 t1 hb3
    go_wp2_with fail
    rw [← hW5]
    clear hW5
    have h0 : Below W5.heap.size W5 W5.drew := (Below.refl _ _).drew
    go_region_held_law (fun w' => w'.cell? ⟨w.heap.size + 1, 0, none⟩ = some (.int .i64 x.r) ∧ w'.cell? ⟨w.heap.size + 1, 1, none⟩ = some (.slice ox x.l.length cx))
      (first | exact HKEEP.out _ (by assumption) | exact HK8.out _ _ _ _)
      (first
        | (go_simp; go_at_call 38; (with_reducible refine (HFO.out _ (by assumption)).mono ?_); rintro e w6 ⟨hw6, b2, o2, u2, rfl, hP, hA⟩
           subst hw6
           have HP6 := Lib.hid hP
           have HA6 := Lib.hid hA
           clear hP hA)
        | (go_simp; go_at_call 39; (with_reducible refine (HCX.out _ (by assumption)).mono ?_); rintro e w7 ⟨⟨sl7, rfl, hf7⟩, hb7⟩
           obtain ⟨o7, cc7, rfl, _, _⟩ := hf7.form
           have h7 : Below W5.heap.size W5 w7 := h0.trans hb7
           have HP7 := Lib.hid (HP6.out.later hb7)
           have HF7 : Hid (FR w7 (fun k => W5.heap.size ≤ k ∧ k < w7.heap.size) (.slice o7 x.l.length cc7) x.l) := Lib.hid hf7
           obtain ⟨oe, ce, cc0, cc1, _⟩ := HA6.out
           have hlt2 := World.block_lt_of_cell? _ _ cc0
           have c70 := (hb7.cell (p := ⟨b2, o2, none⟩) hlt2).trans cc0
           have c71 := (hb7.cell (p := ⟨b2, o2 + 1, none⟩) hlt2).trans cc1
           have HN7 := Lib.hid (HFN.out.later h7 (fun q hq => by omega) (by omega))
           have hz7 := FN.frozen HP7.out HN7.out (fun q => (h7.frozen (p := ⟨w3.heap.size, q, none⟩) (by simp; omega)).trans (hfc q))
           have z70 := hz7 o2
           have z71 := hz7 (o2 + 1)
           have hwi : W.heap.size ≤ b2 ∧ b2 ≤ w3.heap.size := by
             rcases FN.within HP7.out HN7.out with h | h
             · omega
             · have := h.1; have := h.2; omega
           obtain ⟨k70, k71⟩ := HKEEP.out _ h7
           have HK8 := Lib.hid (fun (a c : Nat) (X Y : Value) => (⟨(World.cell?_of_block (w := w7) (a := ⟨w.heap.size + 1, 0, none⟩) (set2_other w7 b2 a c X Y (w.heap.size + 1) (by omega))).trans k70, (World.cell?_of_block (w := w7) (a := ⟨w.heap.size + 1, 1, none⟩) (set2_other w7 b2 a c X Y (w.heap.size + 1) (by omega))).trans k71⟩ : ((w7.setCell ⟨b2, a, none⟩ X).setCell ⟨b2, c, none⟩ Y).cell? ⟨w.heap.size + 1, 0, none⟩ = some (.int .i64 x.r) ∧ ((w7.setCell ⟨b2, a, none⟩ X).setCell ⟨b2, c, none⟩ Y).cell? ⟨w.heap.size + 1, 1, none⟩ = some (.slice ox x.l.length cx)))
           clear h0 hb7 hf7 cc0 cc1 hlt2 hz7 k70 k71))
    have hsm : ∀ k, k ≠ b2 → ((w7.setCell ⟨b2, o2, none⟩ (.int .i64 x.r)).setCell ⟨b2, o2 + 1, none⟩ (.slice o7 x.l.length cc7)).heap[k]? = w7.heap[k]? := fun k hk => set2_other _ _ _ _ _ _ _ hk
    have hw7s := h7.size
    have hat8 := set2_at w7 b2 o2 (.int .i64 x.r) (.slice o7 x.l.length cc7) (by rw [c70]; rfl) (by rw [c71]; rfl)
    have HST := Lib.hid (FN.store (w' := (w7.setCell ⟨b2, o2, none⟩ (.int .i64 x.r)).setCell ⟨b2, o2 + 1, none⟩ (.slice o7 x.l.length cc7)) (x := x) (slx := .slice o7 x.l.length cc7) (P' := fun k => W5.heap.size ≤ k ∧ k < w7.heap.size) HP7.out HN7.out (fun k hk hk' => by omega) (fun h => by omega) hsm (fun q h0 h1 => set2_cell _ _ _ _ _ _ h0 h1) (fun q => set2_frozen _ _ _ _ _ _ _) hat8.1 hat8.2 (HF7.out.keep (fun q hq => hsm q (by omega)))).1
    have hb8 : Below W.heap.size W ((w7.setCell ⟨b2, o2, none⟩ (.int .i64 x.r)).setCell ⟨b2, o2 + 1, none⟩ (.slice o7 x.l.length cc7)) := ((hb5.trans (h7.mono (by omega))).setCell (p := ⟨b2, o2, none⟩) hwi.1 _).setCell (p := ⟨b2, o2 + 1, none⟩) hwi.1 _
    have hs8 : ((w7.setCell ⟨b2, o2, none⟩ (.int .i64 x.r)).setCell ⟨b2, o2 + 1, none⟩ (.slice o7 x.l.length cc7)).heap.size = w7.heap.size := set2_size _ _ _ _ _ _
    generalize (w7.setCell ⟨b2, o2, none⟩ (.int .i64 x.r)).setCell ⟨b2, o2 + 1, none⟩ (.slice o7 x.l.length cc7) = w8 at *
    obtain ⟨sl8, d0, d1, hF8, _⟩ := HST.out
    obtain ⟨o8, cc8, rfl, _, _⟩ := hF8.form
    have HF8 := Lib.hid hF8
    obtain ⟨r0, r1⟩ := HBR.later hb8 (by omega)
    have f0 := (hb8.frozen (p := ⟨w.heap.size + 2, 0, none⟩) (by simp; omega)).trans (hfr 0)
    have f1 := (hb8.frozen (p := ⟨w.heap.size + 2, 1, none⟩) (by simp; omega)).trans (hfr 1)
    clear hF8 c70 c71 z70 z71 hsm hat8
    go_wp2_with fail
    refine bodyPost_ret (v := .tuple #[.agg #[.int .i64 (x.repl v p).r, .slice o8 (x.repl v p).l.length cc8], .int .i64 0]) (by simp [results, Try.results22, go_sem, *]) rfl ?_
    refine ⟨RetA.some (replO_some HF.out) rfl ((HF8.out.keep (fun q hq => set2_other _ _ _ _ _ _ _ (by omega))).mono (fun q hq => ⟨by omega, by rw [set2_size]; omega⟩)), HBB.trans (((hb8.mono (by omega)).setCell (p := ⟨w.heap.size + 2, _, none⟩) (by simp) _).setCell (p := ⟨w.heap.size + 2, _, none⟩) (by simp) _)⟩

end Go.Proofs.Ytdfhfljmcakilaa
