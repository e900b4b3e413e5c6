/-
  Subterms of the program, from what the sorted list is. Nothing is assumed.
-/
import Derived.Test.YtdfhfljmcakilaaTmComp
import Derived.Test.YtdfhfljmcakilaaTmRSub
namespace Go.Proofs.Ytdfhfljmcakilaa
open Go.RowKit

theorem RowL.widen {w : World} {P : Nat → Prop} {g : Nat} {l : List T} (h : RowL w P g l) : RowL w (fun q => q < w.heap.size ∧ q ≠ g) g l :=
  ⟨fun i u hu => (h.1 i u hu).keep rfl fun k hk => ⟨h.2.2.1 k hk, rfl⟩, h.2.1, fun _ hk => hk, h.2.2.2⟩
theorem RowL.on {w w' : World} {g : Nat} {l : List T} (h : RowL w (fun q => q < w.heap.size ∧ q ≠ g) g l) (hb : Below w.heap.size w w') : RowL w' (fun q => q < w'.heap.size ∧ q ≠ g) g l := (h.below hb).widen
theorem RowL.rep {w : World} {P : Nat → Prop} {g cap : Nat} {l : List T} (h : RowL w P g l) (hc : l.length ≤ cap) (hl : l.length ≤ 1000) : Rep w w.heap.size (.slice (some ⟨g, 0, none⟩) l.length cap) l := by
  have hs : ∀ i : Nat, ∃ s : Value, ∀ u, l[i]? = some u → w.cell? ⟨g, i * 2, none⟩ = some (.int .i64 u.r) ∧ w.cell? ⟨g, i * 2 + 1, none⟩ = some s ∧ Rep w w.heap.size s u.l := fun i => by
    cases hu : l[i]? with
    | none => exact ⟨.nilIface, fun u h => by cases h⟩
    | some u =>
      obtain ⟨o, c, h1, h2, h3⟩ := h.1 i u hu
      exact ⟨_, fun u' h' => by cases h'; exact ⟨h1, h2, h3.rep fun q hq => (h.2.2.1 q hq).1⟩⟩
  refine .arr g 0 cap l (fun i => (hs i).choose) h.2.2.2 hc (by omega) (fun i u hu => ?_) (fun i u hu => ((hs i).choose_spec u hu).2.2)
  obtain ⟨h1, h2, _⟩ := (hs i).choose_spec u hu
  rw [Nat.zero_add]
  exact ⟨h1, h2⟩

/-- What SortedFunc gives for the preorder of a term. -/
def SortedOf (v : T) (sl : Value) : Prop := ∀ (w1 : World) (bx : Nat), w1.heap[bx]? = some (.cells #[.int .i64 v.r, sl] 24 (0, 0)) → Rep w1 w1.heap.size sl v.l → v.size ≤ 900 →
  Calls Try.prog 41 #[.func (.func 55) #[] #[.pointer (some ⟨bx, 0, none⟩)], .func (.func 19) #[] #[]] w1 fun e w' =>
    ∃ (g cap : Nat) (l : List T), l.Perm v.pre ∧ l.Pairwise (fun a b => a.cmp b ≤ 0) ∧ e = .returned (.slice (some ⟨g, 0, none⟩) l.length cap) ∧ l.length ≤ cap ∧ RowL w' (fun q => q < w1.heap.size) g l ∧ w1.heap.size ≤ g ∧ Below w1.heap.size w1 w'

theorem pre_size (v : T) : ∀ x, x ∈ v.pre → x.size ≤ v.size := by
  induction v using T.ind with
  | h v ih =>
    intro x hx
    rw [T.pre_eq] at hx
    rcases List.mem_cons.1 hx with rfl | hx
    · exact Nat.le_refl _
    have key : ∀ l : List T, (∀ y, y ∈ l → y ∈ v.l) → ∀ x, x ∈ T.pres l → x.size ≤ T.sizes l := by
      intro l
      induction l with
      | nil => intro _ x hx; rw [T.pres_nil] at hx; cases hx
      | cons a l ihl =>
        intro hl x hx
        rw [T.pres_cons] at hx
        rw [T.sizes_cons]
        rcases List.mem_append.1 hx with h | h
        · have := ih a (hl a (List.mem_cons_self ..)) x h; omega
        · have := ihl (fun y hy => hl y (List.mem_cons_of_mem _ hy)) x h; omega
    have := key v.l (fun _ h => h) x hx
    rw [v.size_eq]
    omega

set_option maxRecDepth 100000 in
set_option maxHeartbeats 3200000 in
theorem subterms_any (v : T) (sl : Value) (w : World) (hrep : Rep w w.heap.size sl v.l) (hsz : v.size ≤ 900) (hS : SortedOf v sl) :
    Calls Try.prog 24 #[.agg #[.int .i64 v.r, sl]] w fun e w' => (∃ K : List T, RetL w' K e ∧ K.map T.key = v.sub.map T.key ∧ (∀ x, x ∈ K → x.size ≤ v.size) ∧ K.length ≤ v.size ∧ 0 < K.length) ∧ Below w.heap.size w w' := by
  obtain ⟨oa, ca, rfl, _, _⟩ := hrep.form
  have HBB : Below w.heap.size w ((w.alloc (.cells #[.int .i64 v.r, .slice oa v.l.length ca] 24)).alloc (.cells #[.int .i64 v.r, .slice oa v.l.length ca] 24)) := below2 _ _ _
  have HZZ := Lib.hid (show ((w.alloc (.cells #[.int .i64 v.r, .slice oa v.l.length ca] 24)).alloc (.cells #[.int .i64 v.r, .slice oa v.l.length ca] 24)).heap.size = w.heap.size + 2 by simp)
  have HC := Lib.hid (hS ((w.alloc (.cells #[.int .i64 v.r, .slice oa v.l.length ca] 24)).alloc (.cells #[.int .i64 v.r, .slice oa v.l.length ca] 24)) (w.heap.size + 1) (by simpa using World.alloc_heap_new (w.alloc (.cells #[.int .i64 v.r, .slice oa v.l.length ca] 24)) (.cells #[.int .i64 v.r, .slice oa v.l.length ca] 24)) (hrep.on HBB) hsz)
  have HP : Hid (∀ (w1 : World), Calls Try.prog 42 #[.agg #[.int .i64 v.r, .slice oa v.l.length ca]] w1 fun e w' => e = .returned (.func (.func 55) #[] #[.pointer (some ⟨w1.heap.size, 0, none⟩)]) ∧ w' = w1.alloc (.cells #[.int .i64 v.r, .slice oa v.l.length ca] 24)) := Lib.hid (fun w1 => by
    go_enter Try.func42, Try.ntmps42
    go_wp2_with fail
    go_ret
    exact ⟨rfl, rfl⟩)
  clear hS hrep
  go_enter Try.func24, Try.ntmps24
  go_wp2_with fail
  refine (HP.out _).mono ?_
  rintro e w2 ⟨rfl, hw2⟩
  subst hw2
  go_wp2_with fail
  refine HC.out.mono ?_
  rintro e w3 ⟨g, cap, l, hperm, hsort, rfl, hlc, hrow, hgs, hb3⟩
  have hll : l.length = v.size := hperm.length_eq
  obtain ⟨hck, hcm⟩ := cpt_sub v l hperm hsort
  have hlm : ∀ u, u ∈ l → u.size ≤ v.size := fun u hu => pre_size v u (hperm.mem_iff.1 hu)
  have hpos := v.size_pos
  have HB3 := Lib.hid hb3
  have hs3 := hb3.size
  have HZ := HZZ.out
  have HC2 := Lib.hid (compact_any l g cap w3 _ (w.heap.size + 2) (by omega) (by omega) hlc hrow (fun u hu => by have := hlm u hu; omega) (by omega) (by omega))
  have HK : Hid ((cpt l l.length).map T.key = v.sub.map T.key ∧ (∀ x, x ∈ cpt l l.length → x.size ≤ v.size) ∧ (cpt l l.length).length ≤ v.size ∧ 0 < (cpt l l.length).length) := Lib.hid (by
    have h1 := cpt_len l l.length
    refine ⟨hck, fun x hx => hlm x (hcm x hx), by omega, ?_⟩
    have h2 := congrArg List.length hck
    simp at h2
    obtain ⟨l0, hl0⟩ := v.sub_last
    rw [h2, hl0]
    simp)
  have HLC : Hid ((cpt l l.length).length ≤ cap) := Lib.hid (by have := cpt_len l l.length; omega)
  have hwz : w.heap.size + 2 ≤ w3.heap.size := by omega
  have HB03 : Hid (Below (w.heap.size) w w3) := Lib.hid (HBB.trans (hb3.mono (by omega)))
  have hgw : w.heap.size + 2 ≤ g := by omega
  clear hperm hsort hrow hgs hb3 hck hcm hlm hll hpos HZ
  go_wp2_with fail
  refine HC2.out.mono ?_
  rintro e w4 ⟨rfl, hrow4, hbut4, hb4⟩
  generalize cpt l l.length = K at *
  have HR4 := Lib.hid hrow4.widen
  have HB4 : Hid (Below w.heap.size w w4) := Lib.hid (HB03.out.trans (hb4.mono (by omega)))
  have hs4 : w.heap.size + 2 ≤ w4.heap.size := Nat.le_trans hwz hbut4.1
  clear hrow4 hbut4 hb4
  go_wp2_with fail
  have hK9 : K.length ≤ 900 := by have := HK.out.2.2.1; omega
  go_loopw [13] (fun i wr => ∃ k : Nat, k ≤ K.length ∧ i = .int .i64 k ∧ Hid (RowL wr (fun q => q < wr.heap.size ∧ q ≠ g) g K) ∧ Hid (Below w.heap.size w wr)) (fun i _ => K.length - (intOf i).toNat)
  case atStart => exact ⟨0, Nat.zero_le _, rfl, HR4, HB4⟩
  case round =>
    obtain ⟨k, hk, rfl, HRW, HBW⟩ := hrel
    by_cases hlt : k < K.length
    · have q0 : (0 : Int) ≤ (k : Int) := by omega
      have q1 : (k : Int) < (K.length : Int) := by omega
      have HKX := Lib.hid (List.getElem?_eq_getElem hlt)
      obtain ⟨ox, cx, c0, c1, hr⟩ := HRW.out.1 k _ HKX.out
      have hgr := HRW.out.2.2.2
      have hx9 : K[k].size ≤ 1000 := by have := HK.out.2.1 _ (List.getElem_mem hlt); omega
      generalize K[k] = x at *
      have hrp := hr.rep (fun q (hq : q < wr.heap.size ∧ q ≠ g) => hq.1)
      have HCL := Lib.hid (fun (W : World) (hb : Below wr.heap.size wr W) => clone_any x _ W W.heap.size (hrp.on hb) (Nat.le_refl _) hx9)
      have HB1 : Hid (Below wr.heap.size wr (wr.alloc (.cells #[.int .i64 x.r, .slice ox x.l.length cx] 24))) := Lib.hid (below1 wr _)
      clear hr hrp
      go_wp2_with fail
      refine (HCL.out _ HB1.out).mono ?_
      rintro e w5 ⟨⟨s5, rfl, hf5⟩, hb5⟩
      obtain ⟨o5, c5, rfl, _, _⟩ := hf5.form
      have hb15 : Below wr.heap.size wr w5 := HB1.out.trans (hb5.mono HB1.out.size)
      have HR5 := Lib.hid (HRW.out.on hb15)
      have hgA : g < (wr.alloc (.cells #[.int .i64 x.r, .slice ox x.l.length cx] 24)).heap.size := Nat.lt_of_lt_of_le hgr HB1.out.size
      have HF5 : Hid (RepP w5 (fun q => q < w5.heap.size ∧ q ≠ g) (.slice o5 x.l.length c5) x.l) := Lib.hid (RepP.of_fr hf5 fun q hq => ⟨hq.2, by omega⟩)
      have HB5 : Hid (Below w.heap.size w w5) := Lib.hid (HBW.out.trans (hb15.mono HBW.out.size))
      obtain ⟨_, _, d0, d1, _⟩ := HR5.out.1 k _ HKX.out
      have fz0 := HR5.out.2.1 (k * 2)
      have fz1 := HR5.out.2.1 (k * 2 + 1)
      have HST : Hid (RowL ((w5.setCell ⟨g, k * 2, none⟩ (.int .i64 x.r)).setCell ⟨g, k * 2 + 1, none⟩ (.slice o5 x.l.length c5)) (fun q => q < w5.heap.size ∧ q ≠ g) g K) := Lib.hid (by
        refine ⟨fun i u hu => ?_, fun o => ?_, fun q hq => ?_, ?_⟩
        · by_cases e : i = k
          · subst e
            rw [HKX.out] at hu
            cases hu
            exact (HR5.out.1 i _ HKX.out).store (fun q hq => hq.2) HF5.out
          · exact (HR5.out.1 i u hu).other e (fun q hq => hq.2)
        · rw [World.frozen?_setCell, World.frozen?_setCell]; exact HR5.out.2.1 o
        · rw [World.size_setCell, World.size_setCell]; exact hq
        · rw [World.size_setCell, World.size_setCell]; exact HR5.out.2.2.2)
      have HBT : Hid (Below w.heap.size w ((w5.setCell ⟨g, k * 2, none⟩ (.int .i64 x.r)).setCell ⟨g, k * 2 + 1, none⟩ (.slice o5 x.l.length c5))) := Lib.hid ((HB5.out.setCell (p := ⟨g, _, none⟩) (by show w.heap.size ≤ g; omega) _).setCell (p := ⟨g, _, none⟩) (by show w.heap.size ≤ g; omega) _)
      clear hf5 hb5 hb15 c0 c1 hgA
      go_wp2_with fail
      go_roundw
      case rel => exact ⟨k + 1, hlt, by go_num, Lib.hid HST.out.widen, HBT⟩
      case measure => simp [intOf]; omega
    · have hkk : k = K.length := by omega
      have HQ := Lib.hid hkk
      clear hkk
      go_wp2_with fail
      go_ret
      exact ⟨⟨K, RetL.mk (HRW.out.rep HLC.out (by have := HK.out.2.2.1; omega)) rfl, HK.out⟩, HBW.out⟩

end Go.Proofs.Ytdfhfljmcakilaa
