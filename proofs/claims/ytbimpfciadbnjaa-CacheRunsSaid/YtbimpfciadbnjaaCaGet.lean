/-
  Get of the cache. Nothing is assumed.
-/
import Derived.Test.YtbimpfciadbnjaaCaPeek
namespace Go.Proofs.Ytbimpfciadbnjaa
open Go.RowKit

theorem Hd.set4 {w : World} {n cap e0 mb h m r : Nat} (H : Hd w n cap e0 mb h m r) : Hd (w.setCell ⟨n, 4, none⟩ (.int .i64 ((h : Int) + 1))) n cap e0 mb (h + 1) m r := heap_setCell_same _ _ _ _ _ _ H
theorem Hd.set5 {w : World} {n cap e0 mb h m r : Nat} (H : Hd w n cap e0 mb h m r) : Hd (w.setCell ⟨n, 5, none⟩ (.int .i64 ((m : Int) + 1))) n cap e0 mb h (m + 1) r := heap_setCell_same _ _ _ _ _ _ H
theorem Hd.set6 {w : World} {n cap e0 mb h m r : Nat} (H : Hd w n cap e0 mb h m r) : Hd (w.setCell ⟨n, 6, none⟩ (.int .i64 ((r : Int) + 1))) n cap e0 mb h m (r + 1) := heap_setCell_same _ _ _ _ _ _ H
theorem CaC.atN {w : World} {F P : Nat → Prop} {n e0 mb : Nat} {bs : List Nat} {l : List Nd} {z : Nat} (h : CaC w F P n e0 mb bs l z) (o : Nat) (v : Value) : CaC (w.setCell ⟨n, o, none⟩ v) F P n e0 mb bs l z :=
  h.keep (fun _ _ hk => heap_setCell_other _ _ _ _ hk) (fun _ h => h) (fun k hk => by rw [World.size_setCell]; exact h.lt k hk)
theorem CaC.mono {w : World} {F P : Nat → Prop} {n e0 mb : Nat} {bs : List Nat} {l l' : List Nd} {z z' : Nat} (h : CaC w F P n e0 mb bs l z) (hz : z ≤ z') (hm : ∀ x, x ∈ l' ↔ x ∈ l) (hl : l'.length = l.length) : CaC w F P n e0 mb bs l' z' :=
  { h with nodes := fun x hx => h.nodes x ((hm x).1 hx), mp := (h.mp.same hm hl).mono hz, sm := fun x hx => h.sm x ((hm x).1 hx), fb := fun x hx => h.fb x ((hm x).1 hx), xn := fun x hx => h.xn x ((hm x).1 hx), sx := fun k hk x hx => h.sx k hk x ((hm x).1 hx) }
theorem wrap_one {a z : Nat} (h : a ≤ z) (hz : z ≤ 1000000) : wrap64 ((a : Int) + 1) = (a : Int) + 1 := by unfold wrap64; omega

theorem useQ_none {q : List Ent} {k : ByteArray} (h : fnd q k = none) : useQ q k = q := by unfold useQ; rw [h]
theorem useQ_some {q : List Ent} {k : ByteArray} {t : T} (h : fnd q k = some t) : useQ q k = (k, t) :: del q k := by unfold useQ; rw [h]
theorem useQ_len (q : List Ent) (k : ByteArray) : (useQ q k).length = q.length := by
  unfold useQ
  split
  · rename_i t h; have := del_len h; simp; omega
  · rfl
theorem useQ_nodup {q : List Ent} (hn : (q.map Prod.fst).Nodup) (k : ByteArray) : ((useQ q k).map Prod.fst).Nodup := by
  unfold useQ
  split
  · rw [List.map_cons, List.nodup_cons]
    refine ⟨fun hm => ?_, del_nodup hn⟩
    obtain ⟨e, he, h2⟩ := List.mem_map.1 hm
    exact del_not hn e he h2
  · exact hn

/-- The counters behind Get. -/
def hitN (q : List Ent) (k : ByteArray) (h : Nat) : Nat := if (fnd q k).isSome then h + 1 else h
def misN (q : List Ent) (k : ByteArray) (m : Nat) : Nat := if (fnd q k).isSome then m else m + 1
theorem CaS.box {w w' : World} {F : Nat → Prop} {n cap z h m r g : Nat} {q : List Ent} (H : CaS w F n cap z q h m r) (hg : ∀ k, F k → k < g) (hk : ∀ k, k < g → w'.heap[k]? = w.heap[k]?) (hs : w.heap.size ≤ w'.heap.size) : CaS w' F n cap z q h m r :=
  H.keep (fun k hf => hk k (hg k hf)) (fun _ h => h) (fun k hf => Nat.lt_of_lt_of_le (H.lt k hf) hs)
theorem On.box {F : Nat → Prop} {w W W' Z : World} (hb : Below w.heap.size w W) (ho : On F W W') (hk : Below 0 W' Z) (hZ : ∀ k, k < w.heap.size → Z.heap[k]? = W'.heap[k]?) : On F w Z :=
  ⟨((hb.mono (Nat.zero_le _)).trans ho.kp).trans hk, fun k hk hf => (hZ k hk).trans ((ho.ot k (Nat.lt_of_lt_of_le hk hb.size) hf).trans (hb.block k hk))⟩
theorem set2_below (w : World) (g a b : Nat) (x y : Value) : Below 0 w ((w.setCell ⟨g, a, none⟩ x).setCell ⟨g, b, none⟩ y) := ((Below.refl 0 w).setCell (p := ⟨g, a, none⟩) (Nat.zero_le _) x).setCell (p := ⟨g, b, none⟩) (Nat.zero_le _) y

set_option maxRecDepth 100000 in
set_option maxHeartbeats 1600000 in
theorem get_any {w : World} {F : Nat → Prop} {n cap z h m r : Nat} {q : List Ent} (H : CaS w F n cap z q h m r) (hz : z ≤ 1000000) (k : ByteArray) (hk : k.size ≤ 60) :
    Calls Try.prog 14 #[ptr n, .string k] w fun e w' => RetO w w' (fnd q k) e ∧ CaS w' F n cap (z + 1) (useQ q k) (hitN q k h) (misN q k m) r ∧ On F w w' := by
  obtain ⟨P, e0, mb, l, rfl, h2, h3, h4, h5, h6, HH, HC⟩ := H
  have HB1 := below1 w (.cells #[.int .i64 0, .slice none 0 0] 36)
  obtain ⟨b0, b1, f0, f1⟩ := zbox w
  have hsz : (w.alloc (.cells #[.int .i64 0, .slice none 0 0] 36)).heap.size = w.heap.size + 1 := by simp
  have hlt := HC.lt
  have HC1 : CaC (w.alloc (.cells #[.int .i64 0, .slice none 0 0] 36)) F P n e0 mb (l.map Nd.b) l z := HC.keep (fun k hf _ => HB1.block k (hlt k hf)) (fun _ h => h) (fun k hf => by have := hlt k hf; omega)
  have HH1 := HH.keep (HB1.block n HH.lt)
  have HFN := Lib.hid HC.fn
  have HLT := Lib.hid hlt
  have hnw : w.heap.size ≠ n := by have := HH.lt; omega
  obtain ⟨c0, _, c2, c3, c4, c5, _, fn⟩ := HH1.cells
  have fn4 := fn 4
  have fn5 := fn 5
  have HBH := Lib.hid HB1
  have H2 := Lib.hid h2
  have H3 := Lib.hid h3
  have H456 := Lib.hid (And.intro h4 (And.intro h5 h6))
  have hwm := wrap_one h5 hz
  have hwh := wrap_one h4 hz
  have HSP := Lib.hid (split_of l k)
  clear HC HH h2 h3 HB1 hlt fn h4 h5 h6
  rcases HSP.out with ⟨e1, e2⟩ | ⟨A, x, C, e1, e2, e3, e4⟩
  · have hq := HC1.mp.ask_no hk e2
    have HC2 := Lib.hid (HC1.atN 5 (.int .i64 ((m : Int) + 1)))
    have HH2 := Lib.hid HH1.set5
    have E1 := Lib.hid e1
    clear HC1 HH1 e1 e2 HSP
    go_enter Try.func14, Try.ntmps14
    go_wp2_with fail
    generalize w.alloc (.cells #[.int .i64 0, .slice none 0 0] 36) = W at *
    refine (made_yes c0).mono ?_
    rintro e w9 ⟨rfl, h9⟩
    subst w9
    go_wp2_with fail
    refine bodyPost_ret (v := .tuple #[.agg #[.int .i64 0, .slice none 0 0], .bool false]) (by simp [results, Try.results14, go_sem, *]) rfl ?_
    obtain ⟨p4, p5, p6⟩ := H456.out
    refine ⟨RetO.none E1.out, ?_, On.box HBH.out (On.set W (p := ⟨n, 5, none⟩) HFN.out _) (set2_below _ _ _ _ _ _) fun k hk => set2_other _ _ _ _ _ _ k (by omega)⟩
    have e5 : hitN (l.map Nd.e) k h = h := by unfold hitN; rw [E1.out]; rfl
    have e6 : misN (l.map Nd.e) k m = m + 1 := by unfold misN; rw [E1.out]; rfl
    rw [useQ_none E1.out, e5, e6]
    exact CaS.box (w := W.setCell ⟨n, 5, none⟩ (.int .i64 ((m : Int) + 1))) (g := w.heap.size) ⟨P, e0, mb, l, rfl, H2.out, H3.out, by omega, by omega, by omega, HH2.out, HC2.out.mono (Nat.le_succ _) (fun _ => Iff.rfl) rfl⟩ HLT.out (fun k hk => set2_other _ _ _ _ _ _ k (by omega)) (by simp)
  · have hxl : x ∈ l := by rw [e1]; simp
    obtain ⟨s1, s2⟩ := HC1.sm x hxl
    have hq := HC1.mp.ask_yes hxl s1
    rw [e2] at hq
    have HC2 := HC1.atN 4 (.int .i64 ((h : Int) + 1))
    have HH2 := HH1.set4
    have hrg := HC2.ring
    rw [e1, List.map_append, List.map_cons] at hrg
    have HRM := Lib.hid (remove_any hrg)
    have HC2 := Lib.hid HC2
    have HH2 := Lib.hid HH2
    have E1 := Lib.hid e1
    have E2 := Lib.hid e2
    have E3 := Lib.hid e3
    have E4 := Lib.hid e4
    have HXL := Lib.hid hxl
    clear HC1 HH1 e1 e2 e3 e4 hxl hrg HSP
    go_enter Try.func14, Try.ntmps14
    go_wp2_with fail
    generalize w.alloc (.cells #[.int .i64 0, .slice none 0 0] 36) = W at *
    refine (made_yes c0).mono ?_
    rintro e w9 ⟨rfl, h9⟩
    subst w9
    go_wp2_with fail
    refine HRM.out.mono ?_
    rintro e w3 ⟨rfl, hr3, hl3, hs3⟩
    have hab : ∀ b, b ∈ (A ++ C).map Nd.b → b ∈ l.map Nd.b := fun b hb => by
      rw [E1.out]
      rw [List.map_append] at hb ⊢
      rcases List.mem_append.1 hb with hb | hb
      · exact List.mem_append_left _ hb
      · exact List.mem_append_right _ (List.mem_cons_of_mem _ hb)
    have HL : Hid (∀ b, b ∈ e0 :: (A.map Nd.b ++ x.b :: C.map Nd.b) → IsEl (W.setCell ⟨n, 4, none⟩ (.int .i64 ((h : Int) + 1))) b ∧ ∀ p, P p → p ≠ b) := Lib.hid (fun b hb => by
      have e : A.map Nd.b ++ x.b :: C.map Nd.b = l.map Nd.b := by rw [E1.out, List.map_append, List.map_cons]
      rw [e] at hb
      exact ⟨HC2.out.ring.el b hb, fun p hp => HC2.out.sr p hp b hb⟩)
    rw [← List.map_append] at hr3
    have HC3 := HC2.out.turned hl3 HL.out hr3 (fun b hb => ⟨HC2.out.fr b (hab b hb), HC2.out.rn b (List.mem_cons_of_mem _ (hab b hb)), fun p hp => HC2.out.sr p hp b (List.mem_cons_of_mem _ (hab b hb))⟩)
    have HH3 := HH2.out.lk hl3 (fun b hb => (HL.out b hb).1)
    have hxr : x.b ∉ e0 :: (A ++ C).map Nd.b := by
      have h1 := HC2.out.ring.nd
      rw [E1.out, List.map_append, List.map_cons, ← List.cons_append] at h1
      have h2 := not_mid h1
      rw [List.map_append]
      exact h2
    have hx3 : IsEl w3 x.b := by
      obtain ⟨sl, he, _⟩ := HC3.nodes x HXL.out
      exact ⟨_, _, _, he⟩
    have HPF := Lib.hid (putFirst_any HC3.ring hxr hx3)
    obtain ⟨_, _, c23, _⟩ := HH3.cells
    have HO3 : Hid (On F W w3) := Lib.hid ((On.set W (p := ⟨n, 4, none⟩) HFN.out _).trans (On.lk hl3 (fun b _ hb => by
      rcases List.mem_cons.1 hb with rfl | hb
      · exact HC2.out.fe
      · exact HC2.out.fr b (by rw [E1.out, List.map_append, List.map_cons]; exact hb))))
    have HR3 : Hid (∀ k, k < W.heap.size → ¬ F k → w3.heap[k]? = W.heap[k]?) := Lib.hid HO3.out.ot
    have HC3 := Lib.hid HC3
    have HH3 := Lib.hid HH3
    have HL3 := Lib.hid hl3
    have HXE := Lib.hid hx3
    have HXR := Lib.hid hxr
    clear hr3 hl3 hab hx3 hxr c0 c2 c3 c4 c5 fn4 fn5 hq HRM
    have HZ3 := Lib.hid hs3
    clear hs3
    go_wp2_with fail
    refine HPF.out.mono ?_
    rintro e w4 ⟨rfl, hr4, hl4⟩
    have HC4 := HC3.out.turned hl4 (fun b hb => by
      rcases hb with rfl | hb
      · exact ⟨HXE.out, fun p hp => HC3.out.sx p hp x HXL.out⟩
      · exact ⟨HC3.out.ring.el b hb, fun p hp => HC3.out.sr p hp b hb⟩) hr4 (fun b hb => by
      rcases List.mem_cons.1 hb with rfl | hb
      · exact ⟨HC3.out.fb x HXL.out, HC3.out.xn x HXL.out, fun p hp => HC3.out.sx p hp x HXL.out⟩
      · exact ⟨HC3.out.fr b hb, HC3.out.rn b (List.mem_cons_of_mem _ hb), fun p hp => HC3.out.sr p hp b (List.mem_cons_of_mem _ hb)⟩)
    have HH4 := HH3.out.lk hl4 (fun b hb => by
      rcases hb with rfl | hb
      · exact HXE.out
      · exact HC3.out.ring.el b hb)
    have HO4 : Hid (On F W w4) := Lib.hid (HO3.out.trans (On.lk hl4 (fun b _ hb => by
      rcases hb with rfl | hb
      · exact HC3.out.fb x HXL.out
      · rcases List.mem_cons.1 hb with rfl | hb
        · exact HC3.out.fe
        · exact HC3.out.fr b hb)))
    obtain ⟨sl, hE, hR⟩ := HC4.nodes x HXL.out
    obtain ⟨oa, ca, rfl, _, _⟩ := hR.form
    obtain ⟨_, x1, x2, _⟩ := hE.cells
    have HCL := Lib.hid (clone_any x.t (.slice oa x.t.l.length ca) w4 _ (hR.rep fun k hp => HC4.lt k (HC4.fp k hp)) (Nat.le_refl _) (by omega))
    have HC4 := Lib.hid HC4
    have HH4 := Lib.hid HH4
    have hs4 := HO4.out.kp.size
    have k0 : w4.heap[w.heap.size]? = W.heap[w.heap.size]? := HO4.out.ot _ (by omega) (fun hf => by have := HLT.out _ hf; omega)
    have B0 := (World.cell?_of_block (w := W) (a := ⟨w.heap.size, 0, none⟩) k0).trans b0
    have B1 := (World.cell?_of_block (w := W) (a := ⟨w.heap.size, 1, none⟩) k0).trans b1
    have G0 := (World.frozen?_of_block (w := W) (a := ⟨w.heap.size, 0, none⟩) k0).trans f0
    have G1 := (World.frozen?_of_block (w := W) (a := ⟨w.heap.size, 1, none⟩) k0).trans f1
    have HZ4 := Lib.hid hs4
    clear hr4 hl4 hE hR b0 b1 f0 f1 k0 c23 hs4
    go_wp2_with fail
    refine HCL.out.mono ?_
    rintro e w5 ⟨⟨sl5, rfl, hf5⟩, hb5⟩
    obtain ⟨o5, c5', rfl, _, _⟩ := hf5.form
    have hz4 : w.heap.size < w4.heap.size := by have := HZ4.out; omega
    have d0 := (hb5.cell (p := ⟨w.heap.size, 0, none⟩) hz4).trans B0
    have d1 := (hb5.cell (p := ⟨w.heap.size, 1, none⟩) hz4).trans B1
    have g0 := (hb5.frozen (p := ⟨w.heap.size, 0, none⟩) hz4).trans G0
    have g1 := (hb5.frozen (p := ⟨w.heap.size, 1, none⟩) hz4).trans G1
    have HF5 := Lib.hid hf5
    have HB5 := Lib.hid hb5
    clear HCL x1 x2 B0 B1 G0 G1 hf5 hb5
    go_wp2_with fail
    refine bodyPost_ret (v := .tuple #[.agg #[.int .i64 x.t.r, .slice o5 x.t.l.length c5'], .bool true]) (by simp [results, Try.results14, go_sem, *]) rfl ?_
    obtain ⟨p4, p5, p6⟩ := H456.out
    refine ⟨RetO.some E3.out ?_, ?_, On.box HBH.out (HO4.out.trans (On.below HB5.out)) (set2_below _ _ _ _ _ _) fun k hk => set2_other _ _ _ _ _ _ k (by omega)⟩
    · refine (HF5.out.keep fun k hk => set2_other _ _ _ _ _ _ k (by have := hk.1; omega)).mono fun k hk => ?_
      rw [set2_size]
      exact ⟨by omega, hk.2⟩
    · have e5 : hitN (l.map Nd.e) k h = h + 1 := by unfold hitN; rw [E3.out]; rfl
      have e6 : misN (l.map Nd.e) k m = m := by unfold misN; rw [E3.out]; rfl
      have hmem : ∀ y, y ∈ x :: (A ++ C) ↔ y ∈ l := fun y => by rw [E1.out]; simp; constructor <;> (intro h; rcases h with h | h | h <;> simp [h])
      have hlen : (x :: (A ++ C)).length = l.length := by rw [E1.out]; simp; omega
      have hqq : useQ (l.map Nd.e) k = (x :: (A ++ C)).map Nd.e := by rw [useQ_some E3.out, E4.out, List.map_cons, Nd.e, E2.out]
      have hn := useQ_nodup H2.out k
      have hl := useQ_len (l.map Nd.e) k
      rw [e5, e6]
      refine CaS.box (w := w4) (g := w.heap.size) ⟨P, e0, mb, x :: (A ++ C), hqq.symm, hn, by rw [hl]; exact H3.out, by omega, by omega, by omega, HH4.out, HC4.out.mono (Nat.le_succ _) hmem hlen⟩ HLT.out (fun k hk => (set2_other _ _ _ _ _ _ k (by omega)).trans (HB5.out.block k (by omega))) (by rw [set2_size]; exact HB5.out.size)

end Go.Proofs.Ytbimpfciadbnjaa
