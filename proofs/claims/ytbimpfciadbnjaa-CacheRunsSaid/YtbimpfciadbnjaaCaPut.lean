/-
  Put of the cache. Nothing is assumed.
-/
import Derived.Test.YtbimpfciadbnjaaCaNew
import Derived.Deep.RegionLaw
import Derived.Deep.AppendLies
namespace Go.Proofs.Ytbimpfciadbnjaa
open Go.RowKit

theorem lstB_snoc (p : Nat) (l : List Nat) (x : Nat) : lstB p (l ++ [x]) = x := by
  induction l generalizing p with
  | nil => rfl
  | cons b l ih => exact ih b

set_option maxRecDepth 100000 in
set_option maxHeartbeats 1600000 in
theorem removeLast_any {w : World} {F P : Nat → Prop} {n cap z h m r e0 mb : Nat} {A : List Nd} {x : Nd} (HH : Hd w n cap e0 mb h m r) (HC : CaC w F P n e0 mb ((A ++ [x]).map Nd.b) (A ++ [x]) z) (hks : ((A ++ [x]).map Nd.k).Nodup) (hrz : r ≤ z) (hz : z ≤ 1000000) :
    Calls Try.prog 28 #[ptr n] w fun e w' => e = .returned (.tuple #[]) ∧ Hd w' n cap e0 mb h m (r + 1) ∧ CaC w' F P n e0 mb (A.map Nd.b) A z ∧ On F w w' := by
  have hxm : x ∈ A ++ [x] := by simp
  obtain ⟨s1, s2⟩ := HC.sm x hxm
  have HB1 := below1 w (.cells #[ptr e0] 57)
  have hsz : (w.alloc (.cells #[ptr e0] 57)).heap.size = w.heap.size + 1 := by simp
  have hlt := HC.lt
  have HC1 := HC.keep (F' := F) (w' := w.alloc (.cells #[ptr e0] 57)) (fun k hf _ => HB1.block k (hlt k hf)) (fun _ h => h) (fun k hf => by have := hlt k hf; omega)
  have HH1 := HH.keep (HB1.block n HH.lt)
  have hrg := HC1.ring
  rw [List.map_append, List.map_cons, List.map_nil] at hrg
  have HRM := Lib.hid (remove_any hrg)
  have HLA := last_any HC.ring
  rw [List.map_append, List.map_cons, List.map_nil, lstB_snoc] at HLA
  obtain ⟨_, _, c2, _⟩ := HH.cells
  have HC1 := Lib.hid HC1
  have HH1 := Lib.hid HH1
  have HO1 : Hid (On F w (w.alloc (.cells #[ptr e0] 57))) := Lib.hid (On.below HB1)
  have hwr := wrap_one hrz hz
  clear HC HH hlt hsz HB1 hrg
  go_enter Try.func28, Try.ntmps28
  go_wp2_with fail
  refine HLA.mono ?_
  rintro e w1 ⟨rfl, h1⟩
  subst w1
  generalize w.alloc (.cells #[ptr e0] 57) = W at *
  clear c2 HLA
  go_wp2_with fail
  refine HRM.out.mono ?_
  rintro e w3 ⟨rfl, hr3, hl3, _⟩
  rw [List.append_nil] at hr3
  have hlA : A.map Nd.b ++ [x.b] = (A ++ [x]).map Nd.b := by rw [List.map_append, List.map_cons, List.map_nil]
  have HL : Hid (∀ b, b ∈ e0 :: (A.map Nd.b ++ [x.b]) → IsEl W b ∧ ∀ p, P p → p ≠ b) := Lib.hid (fun b hb => by
    rw [hlA] at hb
    exact ⟨HC1.out.ring.el b hb, fun p hp => HC1.out.sr p hp b hb⟩)
  have hab : ∀ b, b ∈ A.map Nd.b → b ∈ (A ++ [x]).map Nd.b := fun b hb => by rw [← hlA]; exact List.mem_append_left _ hb
  have HC3 := HC1.out.turned hl3 HL.out hr3 (fun b hb => ⟨HC1.out.fr b (hab b hb), HC1.out.rn b (List.mem_cons_of_mem _ (hab b hb)), fun p hp => HC1.out.sr p hp b (List.mem_cons_of_mem _ (hab b hb))⟩)
  have HH3 := HH1.out.lk hl3 (fun b hb => (HL.out b hb).1)
  have HO3 : Hid (On F w w3) := Lib.hid (HO1.out.trans (On.lk hl3 (fun b _ hb => by
    rcases List.mem_cons.1 hb with rfl | hb
    · exact HC1.out.fe
    · exact HC1.out.fr b (by rw [← hlA]; exact hb))))
  obtain ⟨_, _, _, c33, _⟩ := HH3.cells
  obtain ⟨sl, hE, _⟩ := HC3.nodes x hxm
  obtain ⟨x0, _⟩ := hE.cells
  have hM3 : MapE w3.drew mb z (A ++ [x]) := HC3.mp.keep rfl
  obtain ⟨w4, hdel, hM4, hg4, hz4⟩ := hM3.drop_last s1 hks 0
  have HM4 := Lib.hid hM4
  have HG4 := Lib.hid hg4
  have HC3 := Lib.hid HC3
  have HH3 := Lib.hid HH3
  clear hr3 hl3 HRM hE hM4 hg4 hM3 hz4 hab
  go_wp2_with fail
  go_region
  have HH4 : Hd w4 n cap e0 mb h m r := (HH3.out.keep (w' := w3.drew) rfl).grown HG4.out HC3.out.mn
  obtain ⟨_, _, _, _, _, _, c46, f4⟩ := HH4.cells
  have f46 := f4 6
  have HC4 : CaC w4 F P n e0 mb (A.map Nd.b) A z := (HC3.out.keep (w' := w3.drew) (F' := F) (fun _ _ _ => rfl) (fun _ h => h) HC3.out.lt).nodes' HG4.out HM4.out
    (fun y hy => by
      have hy' : y ∈ A ++ [x] := List.mem_append_left _ hy
      obtain ⟨sl, he, hr⟩ := HC3.out.nodes y hy'
      exact ⟨⟨sl, he.keep rfl, hr.keep (fun _ _ => rfl) fun _ h => h⟩, (HC3.out.sm y hy').1, (HC3.out.sm y hy').2, HC3.out.fb y hy', HC3.out.xn y hy'⟩)
    (fun k hk => ⟨HC3.out.fp k hk, HC3.out.sn k hk, HC3.out.sm' k hk, HC3.out.sr k hk, fun y hy => HC3.out.sx k hk y (List.mem_append_left _ hy)⟩)
  have HO4 : Hid (On F w w4) := Lib.hid ((HO3.out.trans (On.drew _)).trans (On.grown HG4.out HC3.out.fm))
  have HH5 := Lib.hid HH4.set6
  have HC5 := Lib.hid (HC4.atN 6 (.int .i64 ((r : Int) + 1)))
  have HFN := Lib.hid HC4.fn
  clear HH4 HC4 f4
  go_wp2_with fail
  go_end0
  exact ⟨rfl, HH5.out, HC5.out, HO4.out.trans (On.set _ (p := ⟨n, 6, none⟩) HFN.out _)⟩

-- put_any: printed by gen/caput.py
theorem On.lkTo {F R : Nat → Prop} {w a b : World} (h : On F w a) (l : Lk R a b) (hR : ∀ k, k < w.heap.size → R k → F k) : On F w b :=
  ⟨h.kp.trans l.kp, fun k hk hf => (l.ot k (Nat.lt_of_lt_of_le hk h.kp.size) (fun hr => hf (hR k hk hr))).trans (h.ot k hk hf)⟩
/-- What stands when the element of Put has been laid into the map. -/
theorem put_step {w w3 w4 w6 : World} {F P : Nat → Prop} {n e0 mb z cap h m r : Nat} {l3 l' : List Nd} {k : ByteArray} {t : T} {sl : Value} (hs3 : w.heap.size < w3.heap.size) (HC : CaC w3 F P n e0 mb (l'.map Nd.b) l3 z) (HH : Hd w3 n cap e0 mb h m r) (hsub : ∀ y ∈ l', y ∈ l3) (hk : k.size ≤ 60) (ht : t.size ≤ 20)
    (hf : FR w4 (fun b => w3.heap.size ≤ b ∧ b < w4.heap.size) sl t.l) (hb : Below w3.heap.size w3 w4) (hm : MapE w6 mb (z + 1) (⟨w4.heap.size, k, t⟩ :: l')) (hg : (w4.alloc (.cells #[.string k, .int .i64 t.r, sl, .pointer none, .pointer none] 67)).grownBy w6 (some mb)) (hz : w6.heap.size = (w4.alloc (.cells #[.string k, .int .i64 t.r, sl, .pointer none, .pointer none] 67)).heap.size) :
    Hd w6 n cap e0 mb h m r ∧ CaC w6 (fun b => F b ∨ w.heap.size ≤ b ∧ b < w6.heap.size) (fun b => P b ∨ w3.heap.size ≤ b ∧ b < w4.heap.size) n e0 mb (l'.map Nd.b) (⟨w4.heap.size, k, t⟩ :: l') (z + 1) ∧ IsEl w6 w4.heap.size ∧ w4.heap.size ∉ e0 :: l'.map Nd.b := by
  have h34 := hb.size
  have h5 : (w4.alloc (.cells #[.string k, .int .i64 t.r, sl, .pointer none, .pointer none] 67)).heap.size = w4.heap.size + 1 := by simp
  have hk5 : ∀ b, b < w3.heap.size → (w4.alloc (.cells #[.string k, .int .i64 t.r, sl, .pointer none, .pointer none] 67)).heap[b]? = w3.heap[b]? := fun b hb' => (Below.heap_alloc _ _ _ (by omega)).trans (hb.block b hb')
  have hmn := HC.mn
  have hn := HC.lt _ HC.fn
  have hmb := HC.lt _ HC.fm
  have H5 := HH.keep (w' := w4.alloc (.cells #[.string k, .int .i64 t.r, sl, .pointer none, .pointer none] 67)) (hk5 n hn)
  have C5 := HC.keep (w' := w4.alloc (.cells #[.string k, .int .i64 t.r, sl, .pointer none, .pointer none] 67)) (F' := fun b => F b ∨ w.heap.size ≤ b ∧ b < w6.heap.size) (fun b hf _ => hk5 b (HC.lt b hf)) (fun _ h => .inl h) (fun b hb' => by
    rcases hb' with hb' | hb'
    · have := HC.lt b hb'; omega
    · have := hb'.2; omega)
  have hE : El (w4.alloc (.cells #[.string k, .int .i64 t.r, sl, .pointer none, .pointer none] 67)) w4.heap.size (.string k) (.int .i64 t.r) sl := El.new _ _ _ _ _ _
  have hr : ∀ b ∈ e0 :: l'.map Nd.b, b < w3.heap.size := fun b hb' => by
    obtain ⟨_, _, _, he⟩ := HC.ring.el b hb'
    exact he.lt
  have hx : ∀ y ∈ l3, y.b < w3.heap.size := fun y hy => HC.lt _ (HC.fb y hy)
  refine ⟨H5.grown hg hmn, C5.nodes' hg hm (fun y hy => ?_) (fun b hp => ?_), ⟨_, _, _, hE.keep (hg.block _ (by omega) (fun e => ?_))⟩, fun hm => ?_⟩
  · rcases List.mem_cons.1 hy with rfl | hy
    · exact ⟨⟨sl, hE, (RP.fr hf).keep (fun b hb' => Below.heap_alloc _ _ _ hb'.2) fun b hb' => .inr hb'⟩, hk, ht, .inr ⟨by show w.heap.size ≤ w4.heap.size; omega, by show w4.heap.size < _; omega⟩, by show w4.heap.size ≠ n; omega⟩
    · obtain ⟨sl', he, hrp⟩ := C5.nodes y (hsub y hy)
      exact ⟨⟨sl', he, hrp.mono fun _ h => .inl h⟩, (HC.sm y (hsub y hy)).1, (HC.sm y (hsub y hy)).2, .inl (HC.fb y (hsub y hy)), HC.xn y (hsub y hy)⟩
  · rcases hp with hp | hp
    · refine ⟨.inl (HC.fp b hp), HC.sn b hp, HC.sm' b hp, HC.sr b hp, fun y hy => ?_⟩
      rcases List.mem_cons.1 hy with rfl | hy
      · have := HC.lt b (HC.fp b hp)
        show b ≠ w4.heap.size
        omega
      · exact HC.sx b hp y (hsub y hy)
    · refine ⟨.inr ⟨by omega, by omega⟩, by omega, by omega, fun c hc => by have := hr c hc; omega, fun y hy => ?_⟩
      rcases List.mem_cons.1 hy with rfl | hy
      · show b ≠ w4.heap.size
        omega
      · have := hx y (hsub y hy); omega
  · have : w4.heap.size = mb := by cases e; rfl
    omega
  · have := hr _ hm; omega
theorem putQ_nodup {cap : Nat} {q : List Ent} (hn : (q.map Prod.fst).Nodup) (k : ByteArray) (t : T) : ((putQ cap q k t).map Prod.fst).Nodup := by
  unfold putQ
  split
  · rw [List.map_cons, List.nodup_cons]
    refine ⟨fun hm => ?_, del_nodup hn⟩
    obtain ⟨e, he, h2⟩ := List.mem_map.1 hm
    exact del_not hn e he h2
  · rename_i hx
    have hno := fnd_none.1 (by simpa using hx)
    split
    · rw [List.map_cons, List.nodup_cons]
      refine ⟨fun hm => ?_, hn.sublist ((List.dropLast_sublist q).map _)⟩
      obtain ⟨e, he, h2⟩ := List.mem_map.1 hm
      exact hno e (List.dropLast_subset q he) h2
    · rw [List.map_cons, List.nodup_cons]
      refine ⟨fun hm => ?_, hn⟩
      obtain ⟨e, he, h2⟩ := List.mem_map.1 hm
      exact hno e he h2
theorem putQ_len {cap : Nat} {q : List Ent} (hl : q.length ≤ cap) (hc : 1 ≤ cap) (k : ByteArray) (t : T) : (putQ cap q k t).length ≤ cap := by
  unfold putQ
  split
  · rename_i h
    obtain ⟨v, hv⟩ := Option.isSome_iff_exists.1 h
    have := del_len hv
    simp
    omega
  · split
    · simp; omega
    · simp; omega

set_option maxRecDepth 100000 in
set_option maxHeartbeats 3200000 in
theorem put_any {w : World} {F : Nat → Prop} {n cap z h m r : Nat} {q : List Ent} (H : CaS w F n cap z q h m r) (hz : z ≤ 1000000) (hcap : 1 ≤ cap) (k : ByteArray) (hk : k.size ≤ 60) (t : T) (sl : Value) (G : Nat → Prop) (hR : RP w G sl t.l) (hG : ∀ b, G b → b < w.heap.size ∧ ¬ F b) (ht : t.size ≤ 20) :
    Calls Try.prog 12 #[ptr n, .string k, .agg #[.int .i64 t.r, sl]] w fun e w' => e = .returned (.int .i64 0) ∧ CaS w' (gF F w w') n cap (z + 1) (putQ cap q k t) h m (r + outQ cap q k) ∧ On F w w' := by
  obtain ⟨P, e0, mb, l, rfl, h2, h3, h4, h5, h6, HH, HC⟩ := H
  obtain ⟨oa, ca, rfl, _, _⟩ := hR.form
  have HB1 := below1 w (.cells #[.int .i64 t.r, .slice oa t.l.length ca] 36)
  have b0 : (w.alloc (.cells #[.int .i64 t.r, .slice oa t.l.length ca] 36)).cell? ⟨w.heap.size, 0, none⟩ = some (.int .i64 t.r) := cell_at _ _ _ _ _ rfl
  have b1 : (w.alloc (.cells #[.int .i64 t.r, .slice oa t.l.length ca] 36)).cell? ⟨w.heap.size, 1, none⟩ = some (.slice oa t.l.length ca) := cell_at _ _ _ _ _ rfl
  have hsz : (w.alloc (.cells #[.int .i64 t.r, .slice oa t.l.length ca] 36)).heap.size = w.heap.size + 1 := by simp
  have hlt := HC.lt
  have HC1 : CaC (w.alloc (.cells #[.int .i64 t.r, .slice oa t.l.length ca] 36)) F P n e0 mb (l.map Nd.b) l z := HC.keep (fun k hf _ => HB1.block k (hlt k hf)) (fun _ h => h) (fun k hf => by have := hlt k hf; omega)
  have HH1 := HH.keep (HB1.block n HH.lt)
  have HRP := Lib.hid (hR.keep (P' := G) (fun b hb => HB1.block b (hG b hb).1) fun _ h => h)
  have HGG := Lib.hid hG
  have HLT := Lib.hid hlt
  obtain ⟨c0, c1, c2, c3, _⟩ := HH1.cells
  have HBH := Lib.hid HB1
  have H2 := Lib.hid h2
  have H3 := Lib.hid h3
  have H456 := Lib.hid (And.intro h4 (And.intro h5 h6))
  have HSP := Lib.hid (split_of l k)
  have hzm : z < maxLen := by unfold maxLen; omega
  have HB0 := Lib.hid (And.intro b0 b1)
  have HNS := Lib.hid (show (l.map Nd.k) = (l.map Nd.e).map Prod.fst by rw [List.map_map]; rfl)
  clear HC HH h2 h3 HB1 hlt h4 h5 h6 b0 b1 hR hG
  rcases HSP.out with ⟨e1, e2⟩ | ⟨A, x, C, e1, e2, e3, e4⟩
  case inr =>
    have hxl : x ∈ l := by rw [e1]; simp
    obtain ⟨s1, s2⟩ := HC1.sm x hxl
    have hq := HC1.mp.ask_yes hxl s1
    rw [e2] at hq
    have hrg := HC1.ring
    rw [e1, List.map_append, List.map_cons] at hrg
    have HRM := Lib.hid (remove_any hrg)
    have HC2 := Lib.hid HC1
    have HH2 := Lib.hid HH1
    have E1 := Lib.hid e1
    have E2 := Lib.hid e2
    have E3 := Lib.hid e3
    have E4 := Lib.hid e4
    clear HC1 HH1 e1 e2 e3 e4 hxl hrg HSP c1 c2
    go_enter Try.func12, Try.ntmps12
    go_wp2_with fail
    generalize w.alloc (.cells #[.int .i64 t.r, .slice oa t.l.length ca] 36) = W at *
    refine (made_yes c0).mono ?_
    rintro e w9 ⟨rfl, h9⟩
    subst w9
    go_wp2_with fail
    refine HRM.out.mono ?_
    rintro e w3 ⟨rfl, hr3, hl3, _⟩
    have hab : ∀ b, b ∈ (A ++ C).map Nd.b → b ∈ l.map Nd.b := fun b hb => by
      rw [E1.out]
      rw [List.map_append] at hb ⊢
      rcases List.mem_append.1 hb with hb | hb
      · exact List.mem_append_left _ hb
      · exact List.mem_append_right _ (List.mem_cons_of_mem _ hb)
    have HL : Hid (∀ b, b ∈ e0 :: (A.map Nd.b ++ x.b :: C.map Nd.b) → IsEl W b ∧ ∀ p, P p → p ≠ b) := Lib.hid (fun b hb => by
      have e : A.map Nd.b ++ x.b :: C.map Nd.b = l.map Nd.b := by rw [E1.out, List.map_append, List.map_cons]
      rw [e] at hb
      exact ⟨HC2.out.ring.el b hb, fun p hp => HC2.out.sr p hp b hb⟩)
    rw [← List.map_append] at hr3
    have HC3 := Lib.hid (HC2.out.turned hl3 HL.out hr3 (fun b hb => ⟨HC2.out.fr b (hab b hb), HC2.out.rn b (List.mem_cons_of_mem _ (hab b hb)), fun p hp => HC2.out.sr p hp b (List.mem_cons_of_mem _ (hab b hb))⟩))
    have HH3 := Lib.hid (HH2.out.lk hl3 (fun b hb => (HL.out b hb).1))
    have HO3 : Hid (On F W w3) := Lib.hid (On.lk hl3 (fun b _ hb => by
      rcases List.mem_cons.1 hb with rfl | hb
      · exact HC2.out.fe
      · exact HC2.out.fr b (by rw [E1.out, List.map_append, List.map_cons]; exact hb)))
    have HUP : Hid (∀ (w5 : World) (b : Nat), w5.heap[mb]? = w3.heap[mb]? → ∃ w', (Instr.mapUpdate 58 (.map (some mb)) (.string k) (ptr b)).run Try.prog w5 = .ok () w' ∧ MapE w' mb (z + 1) (⟨b, k, t⟩ :: (A ++ C)) ∧ w5.grownBy w' (some mb) ∧ w'.heap.size = w5.heap.size) := Lib.hid (fun w5 b hb => by
      have hm := HC3.out.mp.keep hb
      rw [E1.out] at hm
      have hn := H2.out
      rw [← HNS.out, E1.out] at hn
      have h := hm.put_old hzm s1 hn b t
      rw [E2.out] at h
      exact h)
    have HQ : Hid (putQ cap (l.map Nd.e) k t = (k, t) :: (A ++ C).map Nd.e) := Lib.hid (by unfold putQ; rw [E3.out, if_pos (show (some x.t).isSome = true from rfl), E4.out])
    have HO : Hid (r + outQ cap (l.map Nd.e) k = r) := Lib.hid (by unfold outQ; rw [E3.out, if_pos (show (some x.t).isSome = true from rfl)]; rfl)
    have HRB : Hid (r + outQ cap (l.map Nd.e) k ≤ z + 1) := Lib.hid (by rw [HO.out]; have := H456.out.2.2; omega)
    have HSUB : Hid (∀ y ∈ A ++ C, y ∈ l) := Lib.hid (fun y hy => by
      rw [E1.out]
      rcases List.mem_append.1 hy with hy | hy
      · exact List.mem_append_left _ hy
      · exact List.mem_append_right _ (List.mem_cons_of_mem _ hy))
    clear hr3 hl3 hab hq HRM c0 c3
    have hs3 := HO3.out.kp.size
    have hw3 : w.heap.size < w3.heap.size := by omega
    have hbx : ∀ b, b < W.heap.size → ¬ F b → w3.heap[b]? = W.heap[b]? := HO3.out.ot
    have kx := hbx w.heap.size (by omega) (fun hf => by have := HLT.out _ hf; omega)
    have B0 := (World.cell?_of_block (w := W) (a := ⟨w.heap.size, 0, none⟩) kx).trans HB0.out.1
    have B1 := (World.cell?_of_block (w := W) (a := ⟨w.heap.size, 1, none⟩) kx).trans HB0.out.2
    have HCL := Lib.hid (clone_any t (.slice oa t.l.length ca) w3 w3.heap.size ((HRP.out.keep (P' := G) (fun b hb => hbx b (by have := (HGG.out b hb).1; omega) (HGG.out b hb).2) fun _ h => h).rep fun b hb => by have := (HGG.out b hb).1; omega) (Nat.le_refl _) (by omega))
    have HW3 := Lib.hid hw3
    have HS3 := Lib.hid hs3
    clear kx hbx hs3 hw3
    go_wp2_with fail
    refine HCL.out.mono ?_
    rintro e w4 ⟨⟨sl4, rfl, hf4⟩, hb4⟩
    obtain ⟨o4, c4', rfl, _, _⟩ := hf4.form
    have hk5 : ∀ b, b < w3.heap.size → (w4.alloc (.cells #[.string k, .int .i64 t.r, .slice o4 t.l.length c4', .pointer none, .pointer none] 67)).heap[b]? = w3.heap[b]? := fun b hb' => (Below.heap_alloc _ _ _ (by have := hb4.size; omega)).trans (hb4.block b hb')
    obtain ⟨w6, hup, hm6, hg6, hz6⟩ := HUP.out (w4.alloc (.cells #[.string k, .int .i64 t.r, .slice o4 t.l.length c4', .pointer none, .pointer none] 67)) w4.heap.size (hk5 mb (HC3.out.lt _ HC3.out.fm))
    obtain ⟨_, _, _, d3, _⟩ := (HH3.out.keep (hk5 n HH3.out.lt)).cells
    obtain ⟨HH6, HC6, hE6, hN6⟩ := put_step HW3.out HC3.out HH3.out HSUB.out hk ht hf4 hb4 hm6 hg6 hz6
    obtain ⟨_, _, d2, _⟩ := HH6.cells
    have HPF := Lib.hid (putFirst_any HC6.ring hN6 hE6)
    have HO6 : Hid (On F w w6) := Lib.hid (((((On.below HBH.out).trans HO3.out).trans (On.below hb4)).trans (On.below (below1 _ _))).trans (On.grown hg6 HC3.out.fm))
    have HC6 := Lib.hid HC6
    have HH6 := Lib.hid HH6
    have HE6 := Lib.hid hE6
    have HB4 := Lib.hid hb4
    have HZ6 := Lib.hid hz6
    clear HCL B0 B1 hf4 hb4 hk5 hm6 hg6 hz6 hE6 hN6
    go_wp2_with fail
    refine HPF.out.mono ?_
    rintro e w7 ⟨rfl, hr7, hl7⟩
    have hz7 := hl7.kp.size
    have hEL : ∀ b, (b = w4.heap.size ∨ b ∈ e0 :: ((A ++ C)).map Nd.b) → IsEl w6 b ∧ ∀ p, (P p ∨ w3.heap.size ≤ p ∧ p < w4.heap.size) → p ≠ b := fun b hb => by
      rcases hb with rfl | hb
      · exact ⟨HE6.out, fun p hp => HC6.out.sx p hp ⟨w4.heap.size, k, t⟩ (List.mem_cons_self ..)⟩
      · exact ⟨HC6.out.ring.el b hb, fun p hp => HC6.out.sr p hp b hb⟩
    have HC7 := HC6.out.turned hl7 hEL hr7 (fun b hb => by
      rcases List.mem_cons.1 hb with rfl | hb
      · exact ⟨HC6.out.fb ⟨w4.heap.size, k, t⟩ (List.mem_cons_self ..), HC6.out.xn ⟨w4.heap.size, k, t⟩ (List.mem_cons_self ..), fun p hp => HC6.out.sx p hp ⟨w4.heap.size, k, t⟩ (List.mem_cons_self ..)⟩
      · exact ⟨HC6.out.fr b hb, HC6.out.rn b (List.mem_cons_of_mem _ hb), fun p hp => HC6.out.sr p hp b (List.mem_cons_of_mem _ hb)⟩)
    have HH7 := HH6.out.lk hl7 (fun b hb => (hEL b hb).1)
    have HO7 : Hid (On F w w7) := Lib.hid (HO6.out.lkTo hl7 (fun b hb hr => by
      rcases hr with rfl | hr
      · have := HW3.out; have := HB4.out.size; omega
      · rcases List.mem_cons.1 hr with rfl | hr
        · exact HC3.out.fe
        · exact HC3.out.fr b hr))
    have HC7 := Lib.hid HC7
    have HH7 := Lib.hid HH7
    have HZ7 := Lib.hid hz7
    clear hr7 hl7 hEL hz7 d2 d3 hup
    go_wp2_with fail
    go_ret
    obtain ⟨p4, p5, p6⟩ := H456.out
    refine ⟨rfl, ⟨_, e0, mb, ⟨w4.heap.size, k, t⟩ :: (A ++ C), ?_, putQ_nodup H2.out k t, putQ_len H3.out hcap k t, by omega, by omega, HRB.out, ?_, HC7.out.keep (fun _ _ _ => rfl) (fun b hb => ?_) (fun b hb => ?_)⟩, HO7.out⟩
    · rw [HQ.out, List.map_cons]; rfl
    · rw [HO.out]; exact HH7.out
    · rcases hb with hb | hb
      · exact .inl hb
      · exact .inr ⟨hb.1, Nat.lt_of_lt_of_le hb.2 HZ7.out⟩
    · rcases hb with hb | hb
      · have := HLT.out b hb; have := HO7.out.kp.size; omega
      · exact hb.2
  have hq := HC1.mp.ask_no hk e2
  have E1 := Lib.hid e1
  have E2 := Lib.hid e2
  have hlen : ∀ q ty, (Builtin.len_ #[58] ty #[.map (some mb)]).run Try.prog ((w.alloc (.cells #[.int .i64 t.r, .slice oa t.l.length ca] 36)).drewN q) = .ok (.int .i64 l.length) ((w.alloc (.cells #[.int .i64 t.r, .slice oa t.l.length ca] 36)).drewN q) := fun q ty => (HC1.mp.keep (w' := (w.alloc (.cells #[.int .i64 t.r, .slice oa t.l.length ca] 36)).drewN q) rfl).len ty
  have HC2 := Lib.hid HC1
  have HH2 := Lib.hid HH1
  by_cases hfull : l.length = cap
  case pos =>
    have hcq : ((l.length : Int) == (cap : Int)) = true := by rw [hfull]; simp
    have HF := Lib.hid hfull
    obtain ⟨A, x, hAx⟩ : ∃ A x, l = A ++ [x] := ⟨l.dropLast, l.getLast (by intro e; rw [e] at hfull; simp at hfull; omega), (List.dropLast_concat_getLast _).symm⟩
    have EA := Lib.hid hAx
    clear HC1 HH1 e1 e2 HSP c2 hfull hAx
    go_enter Try.func12, Try.ntmps12
    go_wp2_with fail
    generalize w.alloc (.cells #[.int .i64 t.r, .slice oa t.l.length ca] 36) = W at *
    refine (made_yes c0).mono ?_
    rintro e w9 ⟨rfl, h9⟩
    subst w9
    go_wp2_with fail
    go_quiet (fail)
    have HCD : CaC (W.drewN nq) F P n e0 mb ((A ++ [x]).map Nd.b) (A ++ [x]) z := by rw [← EA.out]; exact HC2.out.keep (fun _ _ _ => rfl) (fun _ h => h) HC2.out.lt
    have HHD : Hd (W.drewN nq) n cap e0 mb h m r := HH2.out.keep rfl
    have hks : ((A ++ [x]).map Nd.k).Nodup := by rw [← EA.out, HNS.out]; exact H2.out
    have HRL := Lib.hid (removeLast_any HHD HCD hks H456.out.2.2 hz)
    clear HCD HHD hks
    go_wp2_with fail
    refine HRL.out.mono ?_
    rintro e w3 ⟨rfl, hh3, hc3, ho3⟩
    have HC3 := Lib.hid hc3
    have HH3 := Lib.hid hh3
    have HO3 : Hid (On F W w3) := Lib.hid ((On.below (below_drewN W _ nq)).trans ho3)
    have HNO : Hid (∀ y ∈ A, y.k ≠ k) := Lib.hid (fun y hy => E2.out y (by rw [EA.out]; exact List.mem_append_left _ hy))
    have HUP : Hid (∀ (w5 : World) (b : Nat), w5.heap[mb]? = w3.heap[mb]? → ∃ w', (Instr.mapUpdate 58 (.map (some mb)) (.string k) (ptr b)).run Try.prog w5 = .ok () w' ∧ MapE w' mb (z + 1) (⟨b, k, t⟩ :: A) ∧ w5.grownBy w' (some mb) ∧ w'.heap.size = w5.heap.size) := Lib.hid (fun w5 b hb => (HC3.out.mp.keep hb).put_new hzm hk HNO.out b t)
    have HQ : Hid (putQ cap (l.map Nd.e) k t = (k, t) :: A.map Nd.e) := Lib.hid (by unfold putQ; rw [E1.out, if_neg (by simp), if_pos (by rw [List.length_map]; exact HF.out), EA.out, List.map_append, List.map_cons, List.map_nil, List.dropLast_concat])
    have HO : Hid (r + outQ cap (l.map Nd.e) k = r + 1) := Lib.hid (by unfold outQ; rw [E1.out, if_neg (by simp), if_pos (by rw [List.length_map]; exact HF.out)])
    have HRB : Hid (r + outQ cap (l.map Nd.e) k ≤ z + 1) := Lib.hid (by rw [HO.out]; have := H456.out.2.2; omega)
    have HSUB : Hid (∀ y ∈ A, y ∈ A) := Lib.hid (fun _ h => h)
    clear hh3 hc3 ho3 hq hlen HRL c0 c1 c3
    have hs3 := HO3.out.kp.size
    have hw3 : w.heap.size < w3.heap.size := by omega
    have hbx : ∀ b, b < W.heap.size → ¬ F b → w3.heap[b]? = W.heap[b]? := HO3.out.ot
    have kx := hbx w.heap.size (by omega) (fun hf => by have := HLT.out _ hf; omega)
    have B0 := (World.cell?_of_block (w := W) (a := ⟨w.heap.size, 0, none⟩) kx).trans HB0.out.1
    have B1 := (World.cell?_of_block (w := W) (a := ⟨w.heap.size, 1, none⟩) kx).trans HB0.out.2
    have HCL := Lib.hid (clone_any t (.slice oa t.l.length ca) w3 w3.heap.size ((HRP.out.keep (P' := G) (fun b hb => hbx b (by have := (HGG.out b hb).1; omega) (HGG.out b hb).2) fun _ h => h).rep fun b hb => by have := (HGG.out b hb).1; omega) (Nat.le_refl _) (by omega))
    have HW3 := Lib.hid hw3
    have HS3 := Lib.hid hs3
    clear kx hbx hs3 hw3
    go_wp2_with fail
    refine HCL.out.mono ?_
    rintro e w4 ⟨⟨sl4, rfl, hf4⟩, hb4⟩
    obtain ⟨o4, c4', rfl, _, _⟩ := hf4.form
    have hk5 : ∀ b, b < w3.heap.size → (w4.alloc (.cells #[.string k, .int .i64 t.r, .slice o4 t.l.length c4', .pointer none, .pointer none] 67)).heap[b]? = w3.heap[b]? := fun b hb' => (Below.heap_alloc _ _ _ (by have := hb4.size; omega)).trans (hb4.block b hb')
    obtain ⟨w6, hup, hm6, hg6, hz6⟩ := HUP.out (w4.alloc (.cells #[.string k, .int .i64 t.r, .slice o4 t.l.length c4', .pointer none, .pointer none] 67)) w4.heap.size (hk5 mb (HC3.out.lt _ HC3.out.fm))
    obtain ⟨_, _, _, d3, _⟩ := (HH3.out.keep (hk5 n HH3.out.lt)).cells
    obtain ⟨HH6, HC6, hE6, hN6⟩ := put_step HW3.out HC3.out HH3.out HSUB.out hk ht hf4 hb4 hm6 hg6 hz6
    obtain ⟨_, _, d2, _⟩ := HH6.cells
    have HPF := Lib.hid (putFirst_any HC6.ring hN6 hE6)
    have HO6 : Hid (On F w w6) := Lib.hid (((((On.below HBH.out).trans HO3.out).trans (On.below hb4)).trans (On.below (below1 _ _))).trans (On.grown hg6 HC3.out.fm))
    have HC6 := Lib.hid HC6
    have HH6 := Lib.hid HH6
    have HE6 := Lib.hid hE6
    have HB4 := Lib.hid hb4
    have HZ6 := Lib.hid hz6
    clear HCL B0 B1 hf4 hb4 hk5 hm6 hg6 hz6 hE6 hN6
    go_wp2_with fail
    refine HPF.out.mono ?_
    rintro e w7 ⟨rfl, hr7, hl7⟩
    have hz7 := hl7.kp.size
    have hEL : ∀ b, (b = w4.heap.size ∨ b ∈ e0 :: (A).map Nd.b) → IsEl w6 b ∧ ∀ p, (P p ∨ w3.heap.size ≤ p ∧ p < w4.heap.size) → p ≠ b := fun b hb => by
      rcases hb with rfl | hb
      · exact ⟨HE6.out, fun p hp => HC6.out.sx p hp ⟨w4.heap.size, k, t⟩ (List.mem_cons_self ..)⟩
      · exact ⟨HC6.out.ring.el b hb, fun p hp => HC6.out.sr p hp b hb⟩
    have HC7 := HC6.out.turned hl7 hEL hr7 (fun b hb => by
      rcases List.mem_cons.1 hb with rfl | hb
      · exact ⟨HC6.out.fb ⟨w4.heap.size, k, t⟩ (List.mem_cons_self ..), HC6.out.xn ⟨w4.heap.size, k, t⟩ (List.mem_cons_self ..), fun p hp => HC6.out.sx p hp ⟨w4.heap.size, k, t⟩ (List.mem_cons_self ..)⟩
      · exact ⟨HC6.out.fr b hb, HC6.out.rn b (List.mem_cons_of_mem _ hb), fun p hp => HC6.out.sr p hp b (List.mem_cons_of_mem _ hb)⟩)
    have HH7 := HH6.out.lk hl7 (fun b hb => (hEL b hb).1)
    have HO7 : Hid (On F w w7) := Lib.hid (HO6.out.lkTo hl7 (fun b hb hr => by
      rcases hr with rfl | hr
      · have := HW3.out; have := HB4.out.size; omega
      · rcases List.mem_cons.1 hr with rfl | hr
        · exact HC3.out.fe
        · exact HC3.out.fr b hr))
    have HC7 := Lib.hid HC7
    have HH7 := Lib.hid HH7
    have HZ7 := Lib.hid hz7
    clear hr7 hl7 hEL hz7 d2 d3 hup
    go_wp2_with fail
    go_ret
    obtain ⟨p4, p5, p6⟩ := H456.out
    refine ⟨rfl, ⟨_, e0, mb, ⟨w4.heap.size, k, t⟩ :: A, ?_, putQ_nodup H2.out k t, putQ_len H3.out hcap k t, by omega, by omega, HRB.out, ?_, HC7.out.keep (fun _ _ _ => rfl) (fun b hb => ?_) (fun b hb => ?_)⟩, HO7.out⟩
    · rw [HQ.out, List.map_cons]; rfl
    · rw [HO.out]; exact HH7.out
    · rcases hb with hb | hb
      · exact .inl hb
      · exact .inr ⟨hb.1, Nat.lt_of_lt_of_le hb.2 HZ7.out⟩
    · rcases hb with hb | hb
      · have := HLT.out b hb; have := HO7.out.kp.size; omega
      · exact hb.2
  have hcq : ((l.length : Int) == (cap : Int)) = false := by rw [beq_eq_false_iff_ne]; omega
  have HF := Lib.hid hfull
  clear HC1 HH1 e1 e2 HSP c2 hfull
  go_enter Try.func12, Try.ntmps12
  go_wp2_with fail
  generalize w.alloc (.cells #[.int .i64 t.r, .slice oa t.l.length ca] 36) = W at *
  refine (made_yes c0).mono ?_
  rintro e w9 ⟨rfl, h9⟩
  subst w9
  go_wp2_with fail
  go_quiet (fail)
  obtain ⟨w3, hw3e⟩ : ∃ w3, w3 = W.drewN nq := ⟨_, rfl⟩
  have HC3 : Hid (CaC w3 F P n e0 mb (l.map Nd.b) l z) := Lib.hid (by rw [hw3e]; exact HC2.out.keep (fun _ _ _ => rfl) (fun _ h => h) HC2.out.lt)
  have HH3 : Hid (Hd w3 n cap e0 mb h m r) := Lib.hid (by rw [hw3e]; exact HH2.out.keep rfl)
  have HO3 : Hid (On F W w3) := Lib.hid (by rw [hw3e]; exact On.below (below_drewN W _ nq))
  rw [← hw3e]
  have HUP : Hid (∀ (w5 : World) (b : Nat), w5.heap[mb]? = w3.heap[mb]? → ∃ w', (Instr.mapUpdate 58 (.map (some mb)) (.string k) (ptr b)).run Try.prog w5 = .ok () w' ∧ MapE w' mb (z + 1) (⟨b, k, t⟩ :: l) ∧ w5.grownBy w' (some mb) ∧ w'.heap.size = w5.heap.size) := Lib.hid (fun w5 b hb => (HC3.out.mp.keep hb).put_new hzm hk E2.out b t)
  have HQ : Hid (putQ cap (l.map Nd.e) k t = (k, t) :: l.map Nd.e) := Lib.hid (by unfold putQ; rw [E1.out, if_neg (by simp), if_neg (by rw [List.length_map]; exact HF.out)])
  have HO : Hid (r + outQ cap (l.map Nd.e) k = r) := Lib.hid (by unfold outQ; rw [E1.out, if_neg (by simp), if_neg (by rw [List.length_map]; exact HF.out)]; rfl)
  have HRB : Hid (r + outQ cap (l.map Nd.e) k ≤ z + 1) := Lib.hid (by rw [HO.out]; have := H456.out.2.2; omega)
  have HSUB : Hid (∀ y ∈ l, y ∈ l) := Lib.hid (fun _ h => h)
  clear hw3e hq hlen c0 c1 c3
  have hs3 := HO3.out.kp.size
  have hw3 : w.heap.size < w3.heap.size := by omega
  have hbx : ∀ b, b < W.heap.size → ¬ F b → w3.heap[b]? = W.heap[b]? := HO3.out.ot
  have kx := hbx w.heap.size (by omega) (fun hf => by have := HLT.out _ hf; omega)
  have B0 := (World.cell?_of_block (w := W) (a := ⟨w.heap.size, 0, none⟩) kx).trans HB0.out.1
  have B1 := (World.cell?_of_block (w := W) (a := ⟨w.heap.size, 1, none⟩) kx).trans HB0.out.2
  have HCL := Lib.hid (clone_any t (.slice oa t.l.length ca) w3 w3.heap.size ((HRP.out.keep (P' := G) (fun b hb => hbx b (by have := (HGG.out b hb).1; omega) (HGG.out b hb).2) fun _ h => h).rep fun b hb => by have := (HGG.out b hb).1; omega) (Nat.le_refl _) (by omega))
  have HW3 := Lib.hid hw3
  have HS3 := Lib.hid hs3
  clear kx hbx hs3 hw3
  go_wp2_with fail
  refine HCL.out.mono ?_
  rintro e w4 ⟨⟨sl4, rfl, hf4⟩, hb4⟩
  obtain ⟨o4, c4', rfl, _, _⟩ := hf4.form
  have hk5 : ∀ b, b < w3.heap.size → (w4.alloc (.cells #[.string k, .int .i64 t.r, .slice o4 t.l.length c4', .pointer none, .pointer none] 67)).heap[b]? = w3.heap[b]? := fun b hb' => (Below.heap_alloc _ _ _ (by have := hb4.size; omega)).trans (hb4.block b hb')
  obtain ⟨w6, hup, hm6, hg6, hz6⟩ := HUP.out (w4.alloc (.cells #[.string k, .int .i64 t.r, .slice o4 t.l.length c4', .pointer none, .pointer none] 67)) w4.heap.size (hk5 mb (HC3.out.lt _ HC3.out.fm))
  obtain ⟨_, _, _, d3, _⟩ := (HH3.out.keep (hk5 n HH3.out.lt)).cells
  obtain ⟨HH6, HC6, hE6, hN6⟩ := put_step HW3.out HC3.out HH3.out HSUB.out hk ht hf4 hb4 hm6 hg6 hz6
  obtain ⟨_, _, d2, _⟩ := HH6.cells
  have HPF := Lib.hid (putFirst_any HC6.ring hN6 hE6)
  have HO6 : Hid (On F w w6) := Lib.hid (((((On.below HBH.out).trans HO3.out).trans (On.below hb4)).trans (On.below (below1 _ _))).trans (On.grown hg6 HC3.out.fm))
  have HC6 := Lib.hid HC6
  have HH6 := Lib.hid HH6
  have HE6 := Lib.hid hE6
  have HB4 := Lib.hid hb4
  have HZ6 := Lib.hid hz6
  clear HCL B0 B1 hf4 hb4 hk5 hm6 hg6 hz6 hE6 hN6
  go_wp2_with fail
  refine HPF.out.mono ?_
  rintro e w7 ⟨rfl, hr7, hl7⟩
  have hz7 := hl7.kp.size
  have hEL : ∀ b, (b = w4.heap.size ∨ b ∈ e0 :: (l).map Nd.b) → IsEl w6 b ∧ ∀ p, (P p ∨ w3.heap.size ≤ p ∧ p < w4.heap.size) → p ≠ b := fun b hb => by
    rcases hb with rfl | hb
    · exact ⟨HE6.out, fun p hp => HC6.out.sx p hp ⟨w4.heap.size, k, t⟩ (List.mem_cons_self ..)⟩
    · exact ⟨HC6.out.ring.el b hb, fun p hp => HC6.out.sr p hp b hb⟩
  have HC7 := HC6.out.turned hl7 hEL hr7 (fun b hb => by
    rcases List.mem_cons.1 hb with rfl | hb
    · exact ⟨HC6.out.fb ⟨w4.heap.size, k, t⟩ (List.mem_cons_self ..), HC6.out.xn ⟨w4.heap.size, k, t⟩ (List.mem_cons_self ..), fun p hp => HC6.out.sx p hp ⟨w4.heap.size, k, t⟩ (List.mem_cons_self ..)⟩
    · exact ⟨HC6.out.fr b hb, HC6.out.rn b (List.mem_cons_of_mem _ hb), fun p hp => HC6.out.sr p hp b (List.mem_cons_of_mem _ hb)⟩)
  have HH7 := HH6.out.lk hl7 (fun b hb => (hEL b hb).1)
  have HO7 : Hid (On F w w7) := Lib.hid (HO6.out.lkTo hl7 (fun b hb hr => by
    rcases hr with rfl | hr
    · have := HW3.out; have := HB4.out.size; omega
    · rcases List.mem_cons.1 hr with rfl | hr
      · exact HC3.out.fe
      · exact HC3.out.fr b hr))
  have HC7 := Lib.hid HC7
  have HH7 := Lib.hid HH7
  have HZ7 := Lib.hid hz7
  clear hr7 hl7 hEL hz7 d2 d3 hup
  go_wp2_with fail
  go_ret
  obtain ⟨p4, p5, p6⟩ := H456.out
  refine ⟨rfl, ⟨_, e0, mb, ⟨w4.heap.size, k, t⟩ :: l, ?_, putQ_nodup H2.out k t, putQ_len H3.out hcap k t, by omega, by omega, HRB.out, ?_, HC7.out.keep (fun _ _ _ => rfl) (fun b hb => ?_) (fun b hb => ?_)⟩, HO7.out⟩
  · rw [HQ.out, List.map_cons]; rfl
  · rw [HO.out]; exact HH7.out
  · rcases hb with hb | hb
    · exact .inl hb
    · exact .inr ⟨hb.1, Nat.lt_of_lt_of_le hb.2 HZ7.out⟩
  · rcases hb with hb | hb
    · have := HLT.out b hb; have := HO7.out.kp.size; omega
    · exact hb.2

end Go.Proofs.Ytbimpfciadbnjaa
