/-
  Peek, Stats of the cache. Nothing is assumed.
-/
import Derived.Test.YtbimpfciadbnjaaCaSt
import Derived.WalkKit
namespace Go.Proofs.Ytbimpfciadbnjaa
open Go.RowKit

/-- What Get and Peek return: a new term, or none. -/
def RetO (w w' : World) (o : Option T) (e : Ending) : Prop :=
  match o with
  | some t => ∃ sl, e = .returned (.tuple #[.agg #[.int .i64 t.r, sl], .bool true]) ∧ FR w' (fun b => w.heap.size ≤ b ∧ b < w'.heap.size) sl t.l
  | none => e = .returned (.tuple #[.agg #[.int .i64 0, .slice none 0 0], .bool false])
theorem RetO.none {w w' : World} {o : Option T} (h : o = none) : RetO w w' o (.returned (.tuple #[.agg #[.int .i64 0, .slice none 0 0], .bool false])) := by subst h; rfl
theorem RetO.some {w w' : World} {o : Option T} {t : T} {sl : Value} (h : o = some t) (hf : FR w' (fun b => w.heap.size ≤ b ∧ b < w'.heap.size) sl t.l) : RetO w w' o (.returned (.tuple #[.agg #[.int .i64 t.r, sl], .bool true])) := by subst h; exact ⟨sl, rfl, hf⟩

theorem zbox (w : World) : (w.alloc (.cells #[.int .i64 0, .slice none 0 0] 36)).cell? ⟨w.heap.size, 0, none⟩ = some (.int .i64 0) ∧ (w.alloc (.cells #[.int .i64 0, .slice none 0 0] 36)).cell? ⟨w.heap.size, 1, none⟩ = some (.slice none 0 0) ∧
    (w.alloc (.cells #[.int .i64 0, .slice none 0 0] 36)).frozen? ⟨w.heap.size, 0, none⟩ = false ∧ (w.alloc (.cells #[.int .i64 0, .slice none 0 0] 36)).frozen? ⟨w.heap.size, 1, none⟩ = false :=
  ⟨cell_at _ _ _ _ _ rfl, cell_at _ _ _ _ _ rfl, frozen_newC _ _ _ _, frozen_newC _ _ _ _⟩

set_option maxRecDepth 100000 in
set_option maxHeartbeats 1600000 in
theorem peek_any {w : World} {F : Nat → Prop} {n cap z h m r : Nat} {q : List Ent} (H : CaS w F n cap z q h m r) (k : ByteArray) (hk : k.size ≤ 60) :
    Calls Try.prog 17 #[ptr n, .string k] w fun e w' => RetO w w' (fnd q k) e ∧ Below w.heap.size w w' := by
  obtain ⟨P, e0, mb, l, rfl, h2, h3, h4, h5, h6, HH, HC⟩ := H
  have HB1 := below1 w (.cells #[.int .i64 0, .slice none 0 0] 36)
  obtain ⟨b0, b1, f0, f1⟩ := zbox w
  have hsz : (w.alloc (.cells #[.int .i64 0, .slice none 0 0] 36)).heap.size = w.heap.size + 1 := by simp
  have hlt := HC.lt
  have HC1 : CaC (w.alloc (.cells #[.int .i64 0, .slice none 0 0] 36)) F P n e0 mb (l.map Nd.b) l z := HC.keep (fun k hf _ => HB1.block k (hlt k hf)) (fun _ h => h) (fun k hf => by have := hlt k hf; omega)
  have HH1 := HH.keep (HB1.block n HH.lt)
  obtain ⟨c0, _, _, c3, _⟩ := HH1.cells
  have HBH := Lib.hid HB1
  clear HC HH h2 h3 h4 h5 h6 HB1 hlt
  rcases split_of l k with ⟨e1, e2⟩ | ⟨A, x, C, e1, e2, e3, _⟩
  · have hq := HC1.mp.ask_no hk e2
    clear HC1 HH1 e2
    go_enter Try.func17, Try.ntmps17
    go_wp2_with fail
    generalize w.alloc (.cells #[.int .i64 0, .slice none 0 0] 36) = W at *
    refine (made_yes c0).mono ?_
    rintro e w9 ⟨rfl, h9⟩
    subst w9
    go_wp2_with fail
    refine bodyPost_ret (v := .tuple #[.agg #[.int .i64 0, .slice none 0 0], .bool false]) (by simp [results, Try.results17, go_sem, *]) rfl ?_
    exact ⟨RetO.none e1, (HBH.out.setCell (p := ⟨w.heap.size, _, none⟩) (Nat.le_refl _) _).setCell (p := ⟨w.heap.size, _, none⟩) (Nat.le_refl _) _⟩
  · have hxl : x ∈ l := by rw [e1]; simp
    obtain ⟨s1, s2⟩ := HC1.sm x hxl
    have hq := HC1.mp.ask_yes hxl s1
    rw [e2] at hq
    obtain ⟨sl, hE, hR⟩ := HC1.nodes x hxl
    obtain ⟨oa, ca, rfl, _, _⟩ := hR.form
    obtain ⟨_, x1, x2, _⟩ := hE.cells
    have HC := Lib.hid (clone_any x.t (.slice oa x.t.l.length ca) _ _ (hR.rep fun k hp => HC1.lt k (HC1.fp k hp)) (Nat.le_refl _) (by omega))
    have E3 := Lib.hid e3
    clear HC1 HH1 hE hR e1 e2 e3 hxl
    go_enter Try.func17, Try.ntmps17
    go_wp2_with fail
    generalize w.alloc (.cells #[.int .i64 0, .slice none 0 0] 36) = W at *
    refine (made_yes c0).mono ?_
    rintro e w9 ⟨rfl, h9⟩
    subst w9
    go_wp2_with fail
    refine HC.out.mono ?_
    rintro e w3 ⟨⟨sl3, rfl, hf3⟩, hb3⟩
    obtain ⟨o3, c3', rfl, _, _⟩ := hf3.form
    have d0 := (hb3.cell (p := ⟨w.heap.size, 0, none⟩) (by show w.heap.size < W.heap.size; omega)).trans b0
    have d1 := (hb3.cell (p := ⟨w.heap.size, 1, none⟩) (by show w.heap.size < W.heap.size; omega)).trans b1
    have g0 := (hb3.frozen (p := ⟨w.heap.size, 0, none⟩) (by show w.heap.size < W.heap.size; omega)).trans f0
    have g1 := (hb3.frozen (p := ⟨w.heap.size, 1, none⟩) (by show w.heap.size < W.heap.size; omega)).trans f1
    have HF3 := Lib.hid hf3
    have HB3 := Lib.hid hb3
    clear HC hq c0 c3 x1 x2 b0 b1 f0 f1 hf3 hb3
    go_wp2_with fail
    refine bodyPost_ret (v := .tuple #[.agg #[.int .i64 x.t.r, .slice o3 x.t.l.length c3'], .bool true]) (by simp [results, Try.results17, go_sem, *]) rfl ?_
    refine ⟨RetO.some E3.out ?_, ((HBH.out.trans (HB3.out.mono (by omega))).setCell (p := ⟨w.heap.size, _, none⟩) (Nat.le_refl _) _).setCell (p := ⟨w.heap.size, _, none⟩) (Nat.le_refl _) _⟩
    refine (HF3.out.keep fun k hk => set2_other _ _ _ _ _ _ k (by have := hk.1; omega)).mono fun k hk => ?_
    rw [set2_size]
    exact ⟨by omega, hk.2⟩

set_option maxHeartbeats 800000 in
theorem stats_any {w : World} {F : Nat → Prop} {n cap z h m r : Nat} {q : List Ent} (H : CaS w F n cap z q h m r) :
    Calls Try.prog 23 #[ptr n] w fun e w' => e = .returned (.tuple #[.int .i64 h, .int .i64 m, .int .i64 r]) ∧ Below w.heap.size w w' ∧ w'.heap.size = w.heap.size := by
  obtain ⟨P, e0, mb, l, rfl, h2, h3, h4, h5, h6, HH, HC⟩ := H
  obtain ⟨c0, _, _, _, c4, c5, c6, _⟩ := HH.cells
  clear HC HH h2 h3 h4 h5 h6
  go_enter Try.func23, Try.ntmps23
  go_wp2_with fail
  refine (made_yes c0).mono ?_
  rintro e w9 ⟨rfl, h9⟩
  subst w9
  go_wp2_with fail
  go_quiet (fail)
  go_wp2_with fail
  refine bodyPost_ret (v := .tuple #[.int .i64 h, .int .i64 m, .int .i64 r]) (by simp [results, Try.results23, go_sem, *]) rfl ?_
  exact ⟨rfl, below_drewN _ _ _, rfl⟩

end Go.Proofs.Ytbimpfciadbnjaa
