/-
  Same of package pattern. Nothing is assumed.
-/
import Derived.Test.YtaipaddfehpmgaaDoorPaExpP
import Derived.Test.YtaipaddfehpmgaaDoorPtAcc
import Derived.Test.YtaipaddfehpmgaaDoorGlD
import Derived.Laws.EntriesVeiled
import Derived.Deep.Cut
import Derived.Deep.DeepCutAuto
namespace Go.Proofs.YtaipaddfehpmgaaDoor
open Go.RowKit

def accQ (last x : Int) : Bool := decide (bits BinOp.and IntKind.u64 x last ≠ 0)
/-- Do two machines accept alike in all pairs of states? -/
def alikeL (l l' : Int) (F : List P2) : Bool := F.all fun x => accQ l x.1 == accQ l' x.2
/-- The answer of Same, and the error. -/
def sameT (t u : PT) : Bool × Int := match exL (stepP (buildT t).1 (buildT u).1) 4098 [((1 : Int), (1 : Int))] [] with
  | none => (false, 10)
  | some (F, _) => (alikeL (buildT t).2 (buildT u).2 F, 0)
theorem stepP_u (ps qs : List Ps) (p : P2) : (∀ y, y ∈ stepP ps qs p → UP y) ∧ (stepP ps qs p).length = 95 := ⟨fun y hy => by
  unfold stepP at hy
  have h := List.of_mem_zip hy
  refine ⟨?_, ?_⟩
  · have := h.1
    unfold stepL at this
    obtain ⟨r, _, hr⟩ := List.mem_map.1 this
    rw [← hr]
    exact and_u _ _
  · have := h.2
    unfold stepL at this
    obtain ⟨r, _, hr⟩ := List.mem_map.1 this
    rw [← hr]
    exact and_u _ _, stepP_len ps qs p⟩

/-- A box of a function in a block. -/
def BoxF (w : World) (b : Nat) (v : Value) : Prop := w.heap[b]? = some (.cells #[v] 47 (0, 0))
theorem BoxF.lt {w : World} {b : Nat} {v : Value} (h : BoxF w b v) : b < w.heap.size := (Array.getElem?_eq_some_iff.1 h).1
theorem BoxF.carry {w w' : World} {b : Nat} {v : Value} (h : BoxF w b v) (hb : Below w.heap.size w w') : BoxF w' b v := (hb.block _ h.lt).trans h
theorem BoxF.cell {w : World} {b : Nat} {v : Value} (h : BoxF w b v) : w.cell? ⟨b, 0, none⟩ = some v := by unfold World.cell?; rw [h]; rfl
theorem BoxF.free {w : World} {b : Nat} {v : Value} (h : BoxF w b v) : w.frozen? ⟨b, 0, none⟩ = false := by unfold World.frozen?; rw [h]; simp
theorem BoxF.facts {w : World} {b : Nat} {v : Value} (h : BoxF w b v) : w.cell? ⟨b, 0, none⟩ = some v ∧ w.frozen? ⟨b, 0, none⟩ = false ∧ (∀ X, (w.alloc X).cell? ⟨b, 0, none⟩ = some v) ∧ (∀ X, (w.alloc X).frozen? ⟨b, 0, none⟩ = false) ∧ (∀ X Y, ((w.alloc X).alloc Y).cell? ⟨b, 0, none⟩ = some v) ∧ ∀ X Y, ((w.alloc X).alloc Y).frozen? ⟨b, 0, none⟩ = false :=
  ⟨h.cell, h.free, fun X => (h.carry (below1 w X)).cell, fun X => (h.carry (below1 w X)).free, fun X Y => (h.carry (below2 w X Y)).cell, fun X Y => (h.carry (below2 w X Y)).free⟩
theorem BoxF.new (w : World) (v : Value) : BoxF (w.alloc (.cells #[v] 47)) w.heap.size v := new_at w _
theorem bx1 {V W : World} {v : Value} (hb : Below (V.alloc (.cells #[v] 47)).heap.size (V.alloc (.cells #[v] 47)) W) : BoxF W V.heap.size v := (BoxF.new V v).carry hb
theorem bx2a {V W : World} {v : Value} {Y : Obj} (hb : Below ((V.alloc (.cells #[v] 47)).alloc Y).heap.size ((V.alloc (.cells #[v] 47)).alloc Y) W) : BoxF W V.heap.size v := ((BoxF.new V v).carry (below1 _ Y)).carry hb
theorem bx1d {V W : World} {v : Value} (hb : Below (V.alloc (.cells #[v] 47)).drew.heap.size (V.alloc (.cells #[v] 47)).drew W) : BoxF W V.heap.size v := bx1 ((Below.refl _ _).drew.trans hb)
theorem bx2b {V W : World} {v : Value} {X : Obj} (hb : Below ((V.alloc X).alloc (.cells #[v] 47)).heap.size ((V.alloc X).alloc (.cells #[v] 47)) W) : BoxF W (V.heap.size + 1) v := by
  have h := (BoxF.new (V.alloc X) v).carry hb
  rwa [World.size_alloc] at h
theorem bx2ad {V W : World} {v : Value} {Y : Obj} (hb : Below ((V.alloc (.cells #[v] 47)).alloc Y).drew.heap.size ((V.alloc (.cells #[v] 47)).alloc Y).drew W) : BoxF W V.heap.size v := bx2a ((Below.refl _ _).drew.trans hb)
theorem bx2bd {V W : World} {v : Value} {X : Obj} (hb : Below ((V.alloc X).alloc (.cells #[v] 47)).drew.heap.size ((V.alloc X).alloc (.cells #[v] 47)).drew W) : BoxF W (V.heap.size + 1) v := bx2b ((Below.refl _ _).drew.trans hb)
theorem BoxF.put {w : World} {b : Nat} {v : Value} (h : BoxF w b v) (u : Value) : BoxF (w.setCell ⟨b, 0, none⟩ u) b u := by
  unfold BoxF at *
  simp [World.setCell, Array.getElem?_modify, h]
theorem BoxF.far {w : World} {b c : Nat} {v : Value} (h : BoxF w b v) (hc : b ≠ c) (u : Value) : BoxF (w.setCell ⟨c, 0, none⟩ u) b v := (Below.heap_setCell _ _ _ _ hc).trans h

theorem HQ.put {w : World} {S : Nat → Prop} {x : Value} {l : List Ps} {b : Nat} (h : HQ w S x l) (hb : BoxF w b .nilFunc) (u : Value) : HQ (w.setCell ⟨b, 0, none⟩ u) S x l := by
  obtain ⟨oa, cap, rfl, hm, hel⟩ := h
  refine ⟨oa, cap, rfl, hm, fun i p hp => ?_⟩
  obtain ⟨b2, off, h1, h2, h3⟩ := hel i p hp
  refine ⟨b2, off, h1, h2, fun j v hj => ?_⟩
  have h4 := h3 j v hj
  have hne : b2 ≠ b := by
    rintro rfl
    have h5 := h3 0 _ rfl
    unfold World.cell? at h5
    rw [hb] at h5
    have h6 : (#[Value.nilFunc])[off + i * 5 + 0]? = some (.int .u64 p.s.a) := h5
    rcases Nat.eq_zero_or_pos (off + i * 5 + 0) with h0 | h0
    · rw [h0] at h6; cases h6
    · rw [Array.getElem?_eq_none (by show 1 ≤ _; omega)] at h6; cases h6
  rw [World.cell?_setCell_other]
  · exact h4
  · intro e; exact hne (congrArg (·.block) e).symm
theorem IsSt.put {w : World} {N bm br gr g cap capr b : Nat} {ps : List Ps} {last : Int} (h : IsSt w N bm br gr g cap capr ps last) (hb : BoxF w b .nilFunc) (u : Value) : IsSt (w.setCell ⟨b, 0, none⟩ u) N bm br gr g cap capr ps last where
  mach := (Below.heap_setCell _ _ _ _ (by
    rintro rfl
    have h1 := h.mach
    unfold MB at h1
    rw [hb] at h1
    cases h1)).trans h.mach
  reads := (Below.heap_setCell _ _ _ _ (by
    rintro rfl
    have h1 := h.reads
    rw [hb] at h1
    cases h1)).trans h.reads
  row := fun k x hx => by
    have hne : gr ≠ b := by
      rintro rfl
      obtain ⟨y, hy⟩ : ∃ y, (rdL ps)[0]? = some y := ⟨_, List.getElem?_eq_getElem (by rw [rdL_len]; omega)⟩
      have h1 := h.row 0 y hy
      rw [hb.cell] at h1
      cases h1
    rw [World.cell?_setCell_other]
    · exact h.row k x hx
    · intro e; exact hne (congrArg (·.block) e).symm
  pos := h.pos.put hb u
  lm := h.lm
  lr := h.lr
  lg := h.lg
  ln := by rw [World.size_setCell]; exact h.ln
theorem IsSt.wide {w : World} {N M bm br gr g cap capr : Nat} {ps : List Ps} {last : Int} (h : IsSt w N bm br gr g cap capr ps last) (hM : N ≤ M) (hs : M ≤ w.heap.size) : IsSt w M bm br gr g cap capr ps last where
  mach := h.mach
  reads := h.reads
  row := h.row
  pos := h.pos.later (fun _ hb => Nat.lt_of_lt_of_le hb hM) (fun _ _ _ => rfl)
  lm := Nat.lt_of_lt_of_le h.lm hM
  lr := Nat.lt_of_lt_of_le h.lr hM
  lg := Nat.lt_of_lt_of_le h.lg hM
  ln := hs
theorem IsSt.up {w w' : World} {N bm br gr g cap capr : Nat} {ps : List Ps} {last : Int} (h : IsSt w N bm br gr g cap capr ps last) (hb : Below w.heap.size w w') : IsSt w' w'.heap.size bm br gr g cap capr ps last :=
  (h.later (hb.mono h.ln)).wide (Nat.le_trans h.ln hb.size) (Nat.le_refl _)

section
variable {w4 w6 : World} {bm br gr g cap capr bm' br' gr' g' cap' capr' : Nat} {ps qs : List Ps} {last last' : Int}
/-- The end of a region that makes both boxes. -/
def EndS (w4 wx : World) (bA bB bm br gr g cap capr bm' br' gr' g' cap' capr' : Nat) (ps qs : List Ps) (last last' : Int) : Prop :=
  IsP wx wx.heap.size bA bB bm br gr g cap capr bm' br' gr' g' cap' capr' ps qs last last' ∧ Below w4.heap.size w4 wx
theorem fin_of {wx : World} {bA bB : Nat} (h1 : IsSt wx wx.heap.size bm br gr g cap capr ps last) (h2 : IsSt wx wx.heap.size bm' br' gr' g' cap' capr' qs last') (hA : BoxF wx bA (stV bm br)) (hB : BoxF wx bB (stV bm' br')) (hb : Below w4.heap.size w4 wx) : EndS w4 wx bA bB bm br gr g cap capr bm' br' gr' g' cap' capr' ps qs last last' :=
  ⟨⟨h1, h2, hA, hB, hA.lt, hB.lt⟩, hb⟩
theorem fin1 (h1 : IsSt w6 w6.heap.size bm br gr g cap capr ps last) (h2 : IsSt w6 w6.heap.size bm' br' gr' g' cap' capr' qs last') (hb : Below w4.heap.size w4 w6) :
    EndS w4 ((w6.alloc (.cells #[stV bm br] 47)).alloc (.cells #[stV bm' br'] 47)) w6.heap.size (w6.heap.size + 1) bm br gr g cap capr bm' br' gr' g' cap' capr' ps qs last last' :=
  fin_of (h1.up (below2 w6 _ _)) (h2.up (below2 w6 _ _)) ((BoxF.new w6 _).carry (below1 _ _)) (by have := BoxF.new (w6.alloc (.cells #[stV bm br] 47)) (stV bm' br'); rwa [World.size_alloc] at this) (hb.trans ((below2 w6 _ _).mono hb.size))
theorem fin2 (h1 : IsSt w6 w6.heap.size bm br gr g cap capr ps last) (h2 : IsSt w6 w6.heap.size bm' br' gr' g' cap' capr' qs last') (hb : Below w4.heap.size w4 w6) :
    EndS w4 ((w6.alloc (.cells #[stV bm' br'] 47)).alloc (.cells #[stV bm br] 47)) (w6.heap.size + 1) w6.heap.size bm br gr g cap capr bm' br' gr' g' cap' capr' ps qs last last' :=
  fin_of (h1.up (below2 w6 _ _)) (h2.up (below2 w6 _ _)) (by have := BoxF.new (w6.alloc (.cells #[stV bm' br'] 47)) (stV bm br); rwa [World.size_alloc] at this) ((BoxF.new w6 _).carry (below1 _ _)) (hb.trans ((below2 w6 _ _).mono hb.size))
theorem below_put {V : World} {b : Nat} (h : Below w4.heap.size w4 V) (hb : w4.heap.size ≤ b) (u : Value) : Below w4.heap.size w4 (V.setCell ⟨b, 0, none⟩ u) := h.setCell (p := ⟨b, 0, none⟩) hb u
theorem IsSt.putS {w : World} {bm br gr g cap capr b : Nat} {ps : List Ps} {last : Int} (h : IsSt w w.heap.size bm br gr g cap capr ps last) (hb : BoxF w b .nilFunc) (u : Value) : IsSt (w.setCell ⟨b, 0, none⟩ u) (w.setCell ⟨b, 0, none⟩ u).heap.size bm br gr g cap capr ps last := by
  rw [World.size_setCell]
  exact h.put hb u
theorem fin3 {a : Nat} (h1 : IsSt w6 w6.heap.size bm br gr g cap capr ps last) (h2 : IsSt w6 w6.heap.size bm' br' gr' g' cap' capr' qs last') (hb : Below w4.heap.size w4 w6) (ha : BoxF w6 a .nilFunc) (hl : w4.heap.size ≤ a) :
    EndS w4 ((w6.setCell ⟨a, 0, none⟩ (stV bm br)).alloc (.cells #[stV bm' br'] 47)) a w6.heap.size bm br gr g cap capr bm' br' gr' g' cap' capr' ps qs last last' := by
  have h3 := BoxF.new (w6.setCell ⟨a, 0, none⟩ (stV bm br)) (stV bm' br')
  rw [World.size_setCell] at h3
  have h4 := below_put hb hl (stV bm br)
  exact fin_of ((h1.putS ha _).up (below1 _ _)) ((h2.putS ha _).up (below1 _ _)) ((ha.put _).carry (below1 _ _)) h3 (h4.trans ((below1 _ _).mono h4.size))
theorem fin4 {a : Nat} (h1 : IsSt w6 w6.heap.size bm br gr g cap capr ps last) (h2 : IsSt w6 w6.heap.size bm' br' gr' g' cap' capr' qs last') (hb : Below w4.heap.size w4 w6) (ha : BoxF w6 a .nilFunc) (hl : w4.heap.size ≤ a) :
    EndS w4 ((w6.setCell ⟨a, 0, none⟩ (stV bm' br')).alloc (.cells #[stV bm br] 47)) w6.heap.size a bm br gr g cap capr bm' br' gr' g' cap' capr' ps qs last last' := by
  have h3 := BoxF.new (w6.setCell ⟨a, 0, none⟩ (stV bm' br')) (stV bm br)
  rw [World.size_setCell] at h3
  have h4 := below_put hb hl (stV bm' br')
  exact fin_of ((h1.putS ha _).up (below1 _ _)) ((h2.putS ha _).up (below1 _ _)) h3 ((ha.put _).carry (below1 _ _)) (h4.trans ((below1 _ _).mono h4.size))
theorem fin5 {a b : Nat} (h1 : IsSt w6 w6.heap.size bm br gr g cap capr ps last) (h2 : IsSt w6 w6.heap.size bm' br' gr' g' cap' capr' qs last') (hb : Below w4.heap.size w4 w6) (ha : BoxF w6 a .nilFunc) (hl : w4.heap.size ≤ a) (hbx : BoxF w6 b .nilFunc) (hl2 : w4.heap.size ≤ b) (hab : a ≠ b) :
    EndS w4 ((w6.setCell ⟨a, 0, none⟩ (stV bm br)).setCell ⟨b, 0, none⟩ (stV bm' br')) a b bm br gr g cap capr bm' br' gr' g' cap' capr' ps qs last last' :=
  fin_of ((h1.putS ha _).putS (hbx.far (Ne.symm hab) _) _) ((h2.putS ha _).putS (hbx.far (Ne.symm hab) _) _) ((ha.put _).far hab _) ((hbx.far (Ne.symm hab) _).put _) (below_put (below_put hb hl _) hl2 _)
end

set_option maxRecDepth 100000 in
set_option maxHeartbeats 6400000 in
theorem same_pat (p q : ByteArray) (t u : PT) (ht : TP p t) (hu : TP q u) (w : World) (hA : AL w) :
    Calls Tryd.prog 6 #[.string p, .string q] w fun e w' => e = .returned (.tuple #[.bool (sameT t u).1, .int .i64 (sameT t u).2]) ∧ Below w.heap.size w w' := by
  have HC := Lib.hid (compile_any p w hA)
  have HTP := Lib.hid ht
  have HTQ := Lib.hid hu
  have HA := Lib.hid hA
  have HW0 : Hid (sameT t u = match exL (stepP (buildT t).1 (buildT u).1) 4098 [((1 : Int), (1 : Int))] [] with
    | none => (false, 10)
    | some (F, _) => (alikeL (buildT t).2 (buildT u).2 F, 0)) := Lib.hid rfl
  obtain ⟨RR, hRR⟩ : ∃ RR, RR = sameT t u := ⟨_, rfl⟩
  rw [← hRR] at HW0 ⊢
  clear ht hu hA hRR
  go_enter Tryd.func6, Tryd.ntmps6
  go_wp2_with fail
  refine HC.out.mono ?_
  rintro e w1 ⟨⟨hne, _⟩ | ⟨t', m, g, cap, _, hq, rfl, hQ⟩, hb1⟩
  · exact absurd HTP.out.err hne
  have htt : t' = t := by
    obtain ⟨m', hm'⟩ := HTP.out.parse
    rw [hq] at hm'
    cases hm'
    rfl
  subst htt
  generalize (buildT t').1 = ps at *
  generalize (buildT t').2 = last at *
  obtain ⟨w2, hw2⟩ : ∃ w2, w2 = w1.alloc (.cells #[.slice (some ⟨g, 0, none⟩) ps.length cap, .int .u64 last] 44) := ⟨_, rfl⟩
  have HW2 := Lib.hid hw2
  have hb2 : Below w1.heap.size w1 w2 := by rw [hw2]; exact below1 _ _
  have hs2 : w2.heap.size = w1.heap.size + 1 := by rw [hw2]; simp
  have HM2 : Hid (MB w2 w1.heap.size (.slice (some ⟨g, 0, none⟩) ps.length cap) last) := Lib.hid (by rw [hw2]; exact MB.new _ _ _)
  have HQ2 : Hid (HQ w2 (· < w1.heap.size) (.slice (some ⟨g, 0, none⟩) ps.length cap) ps) := Lib.hid (hQ.below hb2 (Nat.le_refl _))
  have HB2 : Hid (Below w.heap.size w w2) := Lib.hid (hb1.trans (hb2.mono hb1.size))
  have hs1 := hb1.size
  have HC2 := Lib.hid (compile_any q w2 (HA.out.later HB2.out))
  clear hq hQ hb1 HC hw2 hb2
  go_wp2_with fail
  rw [← HW2.out]
  refine HC2.out.mono ?_
  rintro e w3 ⟨⟨hne, _⟩ | ⟨u', m', g', cap', _, hq, rfl, hQ⟩, hb3⟩
  · exact absurd HTQ.out.err hne
  have htt : u' = u := by
    obtain ⟨m', hm'⟩ := HTQ.out.parse
    rw [hq] at hm'
    cases hm'
    rfl
  subst htt
  generalize (buildT u').1 = qs at *
  generalize (buildT u').2 = last' at *
  obtain ⟨w4, hw4⟩ : ∃ w4, w4 = w3.alloc (.cells #[.slice (some ⟨g', 0, none⟩) qs.length cap', .int .u64 last'] 44) := ⟨_, rfl⟩
  have HW4 := Lib.hid hw4
  have hb4 : Below w3.heap.size w3 w4 := by rw [hw4]; exact below1 _ _
  have hs4 : w4.heap.size = w3.heap.size + 1 := by rw [hw4]; simp
  have hs3 := hb3.size
  have HM4 : Hid (MB w4 w1.heap.size (.slice (some ⟨g, 0, none⟩) ps.length cap) last) := Lib.hid ((HM2.out.below hb3).below hb4)
  have HN4 : Hid (MB w4 w3.heap.size (.slice (some ⟨g', 0, none⟩) qs.length cap') last') := Lib.hid (by rw [hw4]; exact MB.new _ _ _)
  have HQ4 : Hid (HQ w4 (· < w1.heap.size) (.slice (some ⟨g, 0, none⟩) ps.length cap) ps) := Lib.hid (HQ2.out.below ((hb3.trans (hb4.mono hs3)).mono (by omega)) (Nat.le_refl _))
  have HR4 : Hid (HQ w4 (· < w3.heap.size) (.slice (some ⟨g', 0, none⟩) qs.length cap') qs) := Lib.hid (hQ.below hb4 (Nat.le_refl _))
  have HB4 : Hid (Below w.heap.size w w4) := Lib.hid (HB2.out.trans ((hb3.trans (hb4.mono hs3)).mono (by omega)))
  have HCM : Hid (∀ V, Below w4.heap.size w4 V → V.cell? ⟨w1.heap.size, 0, none⟩ = some (.slice (some ⟨g, 0, none⟩) ps.length cap) ∧ V.cell? ⟨w1.heap.size, 1, none⟩ = some (.int .u64 last) ∧ V.cell? ⟨w3.heap.size, 0, none⟩ = some (.slice (some ⟨g', 0, none⟩) qs.length cap') ∧ V.cell? ⟨w3.heap.size, 1, none⟩ = some (.int .u64 last')) := Lib.hid (fun V hV => by
    obtain ⟨a0, a1⟩ := (HM4.out.below hV).cells
    obtain ⟨b0, b1⟩ := (HN4.out.below hV).cells
    exact ⟨a0, a1, b0, b1⟩)
  have HS1 := Lib.hid (fun V (hV : Below w4.heap.size w4 V) => (stepper_any V w1.heap.size g cap ps last (HQ4.out.below (hV.mono (by omega)) (Nat.le_refl _)) (by have := hV.size; omega)).mono (fun _ _ h => (⟨h.1, h.2, hV.trans (h.2.mono hV.size)⟩ : _ ∧ Below _ _ _ ∧ Below w4.heap.size w4 _)))
  have HS2 := Lib.hid (fun V (hV : Below w4.heap.size w4 V) => (stepper_any V w3.heap.size g' cap' qs last' (HR4.out.below (hV.mono (by omega)) (Nat.le_refl _)) (by have := hV.size; omega)).mono (fun _ _ h => (⟨h.1, h.2, hV.trans (h.2.mono hV.size)⟩ : _ ∧ Below _ _ _ ∧ Below w4.heap.size w4 _)))
  obtain ⟨k0, k1, k2, k3⟩ := HCM.out w4.drew (Below.refl _ _).drew
  unfold stV at HS1 HS2
  have HSZ := Lib.hid hs4
  clear hs4
  clear hq hQ hb3 HC2 hw4 hb4
  go_upto_region 7 with fail
  rw [← HW4.out]
  have HZ0 : Hid (Below w4.heap.size w4 w4.drew) := Lib.hid (Below.refl _ _).drew
  have hz0 : w4.heap.size ≤ w4.drew.heap.size := Nat.le_refl _
  have HK : Hid (∀ (V : World) (o : Obj), Below w4.heap.size w4 V → Below w4.heap.size w4 (V.alloc o)) := Lib.hid (fun V o h => h.alloc h.size o)
  have HP : Hid (∀ (V : World) (b : Nat) (u : Value), Below w4.heap.size w4 V → w4.heap.size ≤ b → Below w4.heap.size w4 (V.setCell ⟨b, 0, none⟩ u)) := Lib.hid (fun V b u h hb => h.setCell (p := ⟨b, 0, none⟩) hb u)
  go_cut [9, 10] (fun s9 s10 wx => ∃ bA bB bm br gr capr bm' br' gr' capr' : Nat, s9 = .pointer (some ⟨bA, 0, none⟩) ∧ s10 = .pointer (some ⟨bB, 0, none⟩) ∧ Hid (EndS w4 wx bA bB bm br gr g cap capr bm' br' gr' g' cap' capr' ps qs last last'))
  case first =>
    go_region_held_law (fun V => V.cell? ⟨w1.heap.size, 0, none⟩ = some (.slice (some ⟨g, 0, none⟩) ps.length cap) ∧ V.cell? ⟨w1.heap.size, 1, none⟩ = some (.int .u64 last) ∧ V.cell? ⟨w3.heap.size, 0, none⟩ = some (.slice (some ⟨g', 0, none⟩) qs.length cap') ∧ V.cell? ⟨w3.heap.size, 1, none⟩ = some (.int .u64 last')) (exact HCM.out _ (by repeat' (first | exact HZ0.out | exact HB6.out | exact HB5.out | exact Below.refl _ _ | refine HK.out _ _ ?_ | refine HP.out _ _ _ ?_ ?_ | refine Below.drew ?_ | exact Nat.le_refl _ | omega))) (first
        | (have hz5 := HB5; clear hz5; go_simp; go_at_call 17; refine (HS2.out _ (by repeat' (first | exact HZ0.out | exact HB5.out | exact Below.refl _ _ | refine HK.out _ _ ?_ | refine HP.out _ _ _ ?_ ?_ | refine Below.drew ?_ | exact Nat.le_refl _ | omega))).mono ?_; rintro e w6 ⟨⟨bm', br', gr', capr', rfl, hi6⟩, hb6, hq6⟩
           have HQ56 := Lib.hid hb6
           have HI6 := Lib.hid hi6
           have HB6 := Lib.hid hq6
           have HE56 : Hid (Below w5.heap.size w5 w6) := Lib.hid (by first | exact hb6 | exact (below1 w5 _).trans (hb6.mono (by simp)) | exact (below2 w5 _ _).trans (hb6.mono (by simp; omega)))
           have hs56 := HE56.out.size
           (first
             | (have hx1 := hx1.carry HE56.out; have hx2 := hx2.carry HE56.out; obtain ⟨k11, k12, k13, k14, k15, k16⟩ := hx1.facts; obtain ⟨k21, k22, k23, k24, k25, k26⟩ := hx2.facts; have HX1 := Lib.hid hx1; have HX2 := Lib.hid hx2; have hl1 := hx1.lt; have hl2 := hx2.lt; clear hx1 hx2)
             | (have hx1 := hx1.carry HE56.out; obtain ⟨k11, k12, k13, k14, k15, k16⟩ := hx1.facts; have HX1 := Lib.hid hx1; have hl1 := hx1.lt; clear hx1)
             | skip)
           (first
             | (have hy1 := bx2a (V := w5) (v := .nilFunc) (Y := (.cells #[.nilFunc] 47)) HQ56.out; have hy2 := bx2b (V := w5) (v := .nilFunc) (X := (.cells #[.nilFunc] 47)) HQ56.out; obtain ⟨k31, k32, k33, k34, k35, k36⟩ := hy1.facts; obtain ⟨k41, k42, k43, k44, k45, k46⟩ := hy2.facts; have HY1 := Lib.hid hy1; have HY2 := Lib.hid hy2; have hl3 := hy1.lt; have hl4 := hy2.lt; clear hy1 hy2)
             | (have hy1 := bx1 (V := w5) (v := .nilFunc) HQ56.out; obtain ⟨k31, k32, k33, k34, k35, k36⟩ := hy1.facts; have HY1 := Lib.hid hy1; have hl3 := hy1.lt; clear hy1)
             | skip)
           have n1 : ∀ (v : Value) (Y : Obj), ((w6.alloc (.cells #[v] 47)).alloc Y).cell? ⟨w6.heap.size, 0, none⟩ = some v := fun v Y => ((BoxF.new w6 v).carry (below1 _ Y)).cell
           have n2 : ∀ (v : Value) (Y : Obj), ((w6.alloc (.cells #[v] 47)).alloc Y).frozen? ⟨w6.heap.size, 0, none⟩ = false := fun v Y => ((BoxF.new w6 v).carry (below1 _ Y)).free
           clear hb6 hq6 hi6
           try dsimp only)
        | (go_simp; go_at_call 17; refine (HS1.out _ (by repeat' (first | exact HZ0.out | exact Below.refl _ _ | refine HK.out _ _ ?_ | refine HP.out _ _ _ ?_ ?_ | refine Below.drew ?_ | exact Nat.le_refl _ | omega))).mono ?_; rintro e w5 ⟨⟨bm, br, gr, capr, rfl, hi5⟩, hb5, hq5⟩
           have HQ45 := Lib.hid hb5
           have HI5 := Lib.hid hi5
           have HB5 := Lib.hid hq5
           have hs45 := hq5.size
           (first
             | (have hx1 := bx2ad (V := w4) (v := .nilFunc) (Y := (.cells #[.nilFunc] 47)) HQ45.out; have hx2 := bx2bd (V := w4) (v := .nilFunc) (X := (.cells #[.nilFunc] 47)) HQ45.out; have hl0 := hx1.lt; have hl9 := hx2.lt)
             | (have hx1 := bx1d (V := w4) (v := .nilFunc) HQ45.out; have hl0 := hx1.lt)
             | (have hx1 := bx2a (V := w4.drew) (v := .nilFunc) (Y := (.cells #[.nilFunc] 47)) HQ45.out; have hx2 := bx2b (V := w4.drew) (v := .nilFunc) (X := (.cells #[.nilFunc] 47)) HQ45.out; have hl0 := hx1.lt; have hl9 := hx2.lt)
             | (have hx1 := bx1 (V := w4.drew) (v := .nilFunc) HQ45.out; have hl0 := hx1.lt)
             | skip)
           clear hb5 hq5 hi5
           try dsimp only))
    all_goals
      have h15 := HI5.out.up HE56.out
      have h26 := HI6.out
      have h46 := HB6.out
      go_wp2_with fail
      go_meet
      refine ⟨_, _, bm, br, gr, capr, bm', br', gr', capr', rfl, rfl, Lib.hid ?_⟩
      first
        | exact fin1 h15 h26 h46
        | exact fin2 h15 h26 h46
        | exact fin3 h15 h26 h46 HY1.out hs45
        | exact fin4 h15 h26 h46 HY1.out hs45
        | exact fin3 h15 h26 h46 HX1.out (Nat.le_refl _)
        | exact fin4 h15 h26 h46 HX1.out (Nat.le_refl _)
        | exact fin5 h15 h26 h46 HY1.out hs45 HY2.out (by omega) (by omega)
        | exact fin5 h15 h26 h46 HY2.out (by omega) HY1.out hs45 (by omega)
        | exact fin5 h15 h26 h46 HX1.out (Nat.le_refl _) HX2.out (by omega) (by omega)
        | exact fin5 h15 h26 h46 HX2.out (by omega) HX1.out (Nat.le_refl _) (by omega)
        | exact fin5 h15 h26 h46 HX1.out (Nat.le_refl _) HY1.out hs45 (by omega)
        | exact fin5 h15 h26 h46 HY1.out hs45 HX1.out (Nat.le_refl _) (by omega)
  case rest =>
    obtain ⟨bA, bB, bm, br, gr, capr, bm', br', gr', capr', rfl, rfl, HEN⟩ := hcut
    obtain ⟨hIP, hbc⟩ := HEN.out
    have hsc := hbc.size
    have HX := Lib.hid (exploreP_any wc wc.heap.size bA bB (fun V => IsP V wc.heap.size bA bB bm br gr g cap capr bm' br' gr' g' cap' capr' ps qs last last') (fun _ _ h hb => h.later hb) (Nat.le_refl _) hIP (stepP ps qs) (stepP_u ps qs) (fun W p hW _ => pair_any W wc.heap.size bA bB bm br gr g cap capr bm' br' gr' g' cap' capr' ps qs last last' p hW))
    generalize hex : exL (stepP ps qs) 4098 [((1 : Int), (1 : Int))] [] = EX at *
    have HINV : Hid (∀ F E, EX = some (F, E) → ExI UP 95 F E) := Lib.hid (fun F E h => by
      rw [h] at hex
      exact (exL_inv (fun x _ => stepP_u ps qs x) 4098 _ _ _ _ ⟨fun x hx => by rw [List.mem_singleton.1 hx]; exact ⟨⟨by decide, by decide⟩, ⟨by decide, by decide⟩⟩, Nat.zero_le _, by decide, by simp, fun _ _ hi => by cases hi⟩ hex).1)
    have HBc := Lib.hid (HB4.out.trans (hbc.mono HB4.out.size))
    have HCc : Hid (∀ V, Below wc.heap.size wc V → V.cell? ⟨w1.heap.size, 0, none⟩ = some (.slice (some ⟨g, 0, none⟩) ps.length cap) ∧ V.cell? ⟨w1.heap.size, 1, none⟩ = some (.int .u64 last) ∧ V.cell? ⟨w3.heap.size, 0, none⟩ = some (.slice (some ⟨g', 0, none⟩) qs.length cap') ∧ V.cell? ⟨w3.heap.size, 1, none⟩ = some (.int .u64 last')) := Lib.hid (fun V hV => HCM.out V (hbc.trans (hV.mono hsc)))
    clear hIP hbc hsc hex HEN k0 k1 k2 k3 HS1 HS2 HCM HSZ HM2 HQ2 HM4 HN4 HQ4 HR4 HB4
    unfold prF at HX
    go_wp2_with fail
    refine HX.out.mono ?_
    cases EX with
    | none =>
      rintro e w5 ⟨hd, hb5⟩
      obtain rfl : e = .returned (.tuple #[.slice none 0 0, .slice none 0 0, .int .i64 10]) := hd
      have HB5 := Lib.hid (HBc.out.trans (hb5.mono HBc.out.size))
      clear hb5
      go_wp2_with fail
      go_ret2
      exact ⟨by rw [HW0.out]; rfl, HB5.out⟩
    | some FE =>
      obtain ⟨F, E⟩ := FE
      rintro e w5 ⟨⟨gf, cf, ge, ce, rfl, hgf, hF, hE⟩, hb5⟩
      have hXI := HINV.out F E rfl
      have hF1 : F.length ≤ 4096 := hXI.lm
      have HFc : Hid (∀ V, Below w5.heap.size w5 V → ∀ (k : Nat) (x : P2), F[k]? = some x → V.cell? ⟨gf, k * 2, none⟩ = some (.int .u64 x.1) ∧ V.cell? ⟨gf, k * 2 + 1, none⟩ = some (.int .u64 x.2)) := Lib.hid (fun V hV k x hx => by
        obtain ⟨q1, q2⟩ := hF k x hx
        exact ⟨(hV.cell (p := ⟨gf, k * 2, none⟩) hgf).trans q1, (hV.cell (p := ⟨gf, k * 2 + 1, none⟩) hgf).trans q2⟩)
      have HB5 := Lib.hid hb5
      have hs5 := hb5.size
      have HRR : Hid (RR = (alikeL last last' F, 0)) := Lib.hid HW0.out
      have HZ : Hid (Below w5.heap.size w5 w5) := Lib.hid (Below.refl _ _)
      have hsb := HBc.out.size
      clear hF hE hb5 hXI HINV HX HW0
      go_wp2_with fail
      go_loopw [47] (fun v wr => ∃ k : Nat, v = .int .i64 (k : Int) ∧ k ≤ F.length ∧ Hid ((F.take k).all (fun x => accQ last x.1 == accQ last' x.2) = true) ∧ Hid (Below w5.heap.size w5 wr) ∧ w5.heap.size ≤ wr.heap.size) (fun v _ => F.length - (intOf v).toNat)
      case atStart => exact ⟨0, rfl, Nat.zero_le _, Lib.hid rfl, HZ, Nat.le_refl _⟩
      case round =>
        obtain ⟨k, rfl, hk, HAl, HBr, hsr⟩ := hrel
        clear HZ
        by_cases hlt : k < F.length
        · have hltI : (k : Int) < (F.length : Int) := by omega
          have hk0 : (0 : Int) ≤ (k : Int) := by omega
          have hwk : IntKind.i64.wrap ((k : Int) + 1) = ((k + 1 : Nat) : Int) := by rw [IntWalk.i64_in _ (by omega)]; omega
          obtain ⟨⟨x, y⟩, hx⟩ : ∃ x, F[k]? = some x := ⟨_, List.getElem?_eq_getElem hlt⟩
          obtain ⟨c0, c1⟩ := HFc.out wr HBr.out k (x, y) hx
          have HTk : Hid (F.take (k + 1) = F.take k ++ [(x, y)]) := Lib.hid (by rw [List.take_add_one, hx]; rfl)
          have HMem : Hid ((x, y) ∈ F) := Lib.hid (List.mem_of_getElem? hx)
          obtain ⟨wv, hwv⟩ : ∃ wv, wv = wr.alloc (.cells #[.int .u64 x, .int .u64 y] 54) := ⟨_, rfl⟩
          have HWV := Lib.hid hwv
          have hbv : Below wr.heap.size wr wv := by rw [hwv]; exact below1 _ _
          have HPV : Hid (wv.heap[wr.heap.size]? = some (.cells #[.int .u64 x, .int .u64 y] 54 (0, 0))) := Lib.hid (by rw [hwv]; exact new_at wr _)
          have hsv : wv.heap.size = wr.heap.size + 1 := by rw [hwv]; simp
          have HSV := Lib.hid hsv
          have HBv : Hid (Below w5.heap.size w5 wv) := Lib.hid (HBr.out.trans (hbv.mono hsr))
          have HC : Hid (∀ V, Below wv.heap.size wv V → V.cell? ⟨w1.heap.size, 0, none⟩ = some (.slice (some ⟨g, 0, none⟩) ps.length cap) ∧ V.cell? ⟨w1.heap.size, 1, none⟩ = some (.int .u64 last) ∧ V.cell? ⟨w3.heap.size, 0, none⟩ = some (.slice (some ⟨g', 0, none⟩) qs.length cap') ∧ V.cell? ⟨w3.heap.size, 1, none⟩ = some (.int .u64 last') ∧ V.cell? ⟨wr.heap.size, 0, none⟩ = some (.int .u64 x) ∧ V.cell? ⟨wr.heap.size, 1, none⟩ = some (.int .u64 y)) := Lib.hid (fun V hV => by
            obtain ⟨q0, q1, q2, q3⟩ := HCc.out V ((HB5.out.trans (HBv.out.mono hs5)).trans (hV.mono (by omega)))
            have hp : V.heap[wr.heap.size]? = some (.cells #[.int .u64 x, .int .u64 y] 54 (0, 0)) := (hV.block _ (by omega)).trans HPV.out
            refine ⟨q0, q1, q2, q3, ?_, ?_⟩
            · unfold World.cell?; rw [hp]; rfl
            · unfold World.cell?; rw [hp]; rfl)
          have HA1 := Lib.hid (fun V => accepts_any V (some ⟨g, 0, none⟩) ps.length cap last x)
          have HA2 := Lib.hid (fun V => accepts_any V (some ⟨g', 0, none⟩) qs.length cap' last' y)
          obtain ⟨k0, k1, k2, k3, k4, k5⟩ := HC.out wv.drew (Below.refl _ _).drew
          have hsw : w5.heap.size ≤ wv.heap.size := by omega
          have e1 : accQ last x = decide (bits BinOp.and IntKind.u64 x last ≠ 0) := rfl
          have e2 : accQ last' y = decide (bits BinOp.and IntKind.u64 y last' ≠ 0) := rfl
          rw [← e1] at HA1
          rw [← e2] at HA2
          have HEQ : Hid ((accQ last x == accQ last' y) = false → alikeL last last' F = false) := Lib.hid (fun h => by
            unfold alikeL
            rw [List.all_eq_false]
            exact ⟨(x, y), HMem.out, by show ¬ (accQ last x == accQ last' y) = true; rw [h]; decide⟩)
          have HAN : Hid ((accQ last x == accQ last' y) = true → (F.take (k + 1)).all (fun x => accQ last x.1 == accQ last' x.2) = true) := Lib.hid (fun h => by
            rw [HTk.out, List.all_append, HAl.out]
            simp only [List.all_cons, List.all_nil, Bool.and_true, Bool.true_and]
            exact h)
          clear hx hwv hbv e1 e2 hsv
          generalize accQ last x = ba at *
          generalize accQ last' y = bb at *
          go_wp2_with fail
          rw [← HWV.out]
          go_region_held_law (fun V => V.cell? ⟨w1.heap.size, 0, none⟩ = some (.slice (some ⟨g, 0, none⟩) ps.length cap) ∧ V.cell? ⟨w1.heap.size, 1, none⟩ = some (.int .u64 last) ∧ V.cell? ⟨w3.heap.size, 0, none⟩ = some (.slice (some ⟨g', 0, none⟩) qs.length cap') ∧ V.cell? ⟨w3.heap.size, 1, none⟩ = some (.int .u64 last') ∧ V.cell? ⟨wr.heap.size, 0, none⟩ = some (.int .u64 x) ∧ V.cell? ⟨wr.heap.size, 1, none⟩ = some (.int .u64 y)) (first | exact ⟨k0, k1, k2, k3, k4, k5⟩ | exact k6 | exact k7) (first
            | (have hz5 := HV5; clear hz5; go_simp; go_at_call 20; refine (HA2.out v5).mono ?_; rintro e v6 ⟨rfl, hb6⟩
               have hq6 : Below wv.heap.size wv v6 := HV5.out.trans (hb6.mono HV5.out.size)
               have k7 := HC.out v6 hq6
               have HV6 := Lib.hid hq6
               clear hb6 hq6
               try dsimp only)
            | (go_simp; go_at_call 20; refine (HA1.out wv.drew).mono ?_; rintro e v5 ⟨rfl, hb5⟩
               have hq5 : Below wv.heap.size wv v5 := (Below.refl _ _).drew.trans hb5
               have k6 := HC.out v5 hq5
               have HV5 := Lib.hid hq5
               clear hb5 hq5
               try dsimp only))
          all_goals
            have HB6 : Hid (Below w5.heap.size w5 v6) := Lib.hid (HBv.out.trans (HV6.out.mono hsw))
            have hs6 : w5.heap.size ≤ v6.heap.size := HB6.out.size
            clear k0 k1 k2 k3 k4 k5 k6 k7 HA1 HA2 HC c0 c1
            cases hbb : ba == bb
            · have hbx : (ba != bb) = true := by rw [bne, hbb]; rfl
              have HFin : Hid (RR = (false, 0)) := Lib.hid (by rw [HRR.out, HEQ.out hbb])
              have HBf := Lib.hid (HBc.out.trans ((HB5.out.trans (HB6.out.mono hs5)).mono hsb))
              clear HEQ HAN hbb
              go_wp2_with fail
              go_ret2
              exact ⟨by rw [HFin.out]; rfl, HBf.out⟩
            · have hbx : (ba != bb) = false := by rw [bne, hbb]; rfl
              have HA6 := Lib.hid (HAN.out hbb)
              clear HEQ HAN hbb
              go_wp2_with fail
              go_roundw
              case rel => exact ⟨k + 1, by first | rfl | go_num, hlt, HA6, HB6, hs6⟩
              case measure => simp [intOf]; omega
        · have hltI : ¬ ((k : Int) < (F.length : Int)) := by omega
          have HFin : Hid (RR = (true, 0)) := Lib.hid (by
            have h := HAl.out
            rw [List.take_of_length_le (by omega)] at h
            rw [HRR.out]
            unfold alikeL
            rw [h])
          have HBf := Lib.hid (HBc.out.trans ((HB5.out.trans (HBr.out.mono hs5)).mono hsb))
          go_wp2_with fail
          go_ret2
          exact ⟨by rw [HFin.out]; rfl, HBf.out⟩
end Go.Proofs.YtaipaddfehpmgaaDoor
