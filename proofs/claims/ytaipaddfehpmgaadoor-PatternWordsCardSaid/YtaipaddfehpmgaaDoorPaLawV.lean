/-
  The walk of PatternWords. Nothing is assumed.
-/
import Derived.Test.YtaipaddfehpmgaaDoorRsT
import Derived.Test.YtaipaddfehpmgaaDoorRsN
import Derived.Test.YtaipaddfehpmgaaDoorPaWords
import Derived.Lib.QuietBelow
import Derived.Test.YtaipaddfehpmgaaDoorPaAwake
import Derived.Test.YtaipaddfehpmgaaDoorRsZ
namespace Go.Proofs.YtaipaddfehpmgaaDoor

section
open Go.RowKit
open Go.Sort (grow)

theorem plusR_bd {a b : Int} (ha : 0 ≤ a) (hb : 0 ≤ b) : 0 ≤ plusR a b ∧ plusR a b ≤ 1152921504606846977 := by unfold plusR capI; omega
theorem timesR_bd {a b : Int} (ha : 1 ≤ a) (hb : 0 ≤ b) : 0 ≤ timesR a b ∧ timesR a b ≤ 1152921504606846977 := by
  unfold timesR capI
  split
  · decide
  · rename_i h
    have h1 : ¬ 1152921504606846976 / a < b := fun hh => h ⟨by omega, hh⟩
    have h2 : b * a ≤ 1152921504606846976 := (Int.le_ediv_iff_mul_le (by omega)).1 (by omega)
    have h3 : 0 ≤ a * b := Int.mul_nonneg (by omega) hb
    rw [Int.mul_comm a b] at *
    omega
theorem rowR_bd {C : List Int} (h : bdL C) : ∀ (G : List Gp) (tt : List Nat) (s : Int), (∀ g, g ∈ G → 1 ≤ g.2.2) → 0 ≤ s ∧ s ≤ 1152921504606846977 → 0 ≤ rowR C G tt s ∧ rowR C G tt s ≤ 1152921504606846977
  | [], _, s, _, hs => by rw [rowR]; exact hs; all_goals simp
  | g :: G, [], s, _, hs => by rw [rowR]; exact hs; all_goals simp
  | g :: G, k :: tt, s, hg, hs => by
    rw [rowR]
    have hx : 0 ≤ (C[k]?).getD 0 := by
      cases hc : C[k]? with
      | none => exact Int.le_refl _
      | some y => exact (h k y hc).1
    exact rowR_bd h G tt _ (fun x hx => hg x (List.mem_cons_of_mem _ hx)) (plusR_bd hs.1 (timesR_bd (hg g (List.mem_cons_self ..)) hx).1)
theorem longR_len (C : List Int) (G : List Gp) (E : List (List Nat)) : (longR C G E).length = E.length := by unfold longR; rw [List.length_map]
theorem longR_bd {C : List Int} (h : bdL C) {G : List Gp} (hg : ∀ g, g ∈ G → 1 ≤ g.2.2) (E : List (List Nat)) : bdL (longR C G E) := fun k x hx => by
  unfold longR at hx
  rw [List.getElem?_map, Option.map_eq_some_iff] at hx
  obtain ⟨tt, _, rfl⟩ := hx
  exact rowR_bd h G tt 0 hg ⟨Int.le_refl _, by decide⟩
theorem iterR_bd {C : List Int} (h : bdL C) {G : List Gp} (hg : ∀ g, g ∈ G → 1 ≤ g.2.2) (E : List (List Nat)) : ∀ n, bdL (iterR G E C n)
  | 0 => h
  | n + 1 => longR_bd (iterR_bd h hg E n) hg E
theorem iterR_len {C : List Int} {G : List Gp} {E : List (List Nat)} (h : E.length = C.length) : ∀ n, (iterR G E C n).length = C.length
  | 0 => rfl
  | n + 1 => by rw [iterR, longR_len, h]
/-- One for each pair that accepts. -/
def accZ0 (pa : Pa) (F : List P2) : List Int := F.map fun z => if accR pa z.1 = true then 1 else 0
theorem accZ0_bd (pa : Pa) (F : List P2) : bdL (accZ0 pa F) := fun k x hx => by
  unfold accZ0 at hx
  rw [List.getElem?_map, Option.map_eq_some_iff] at hx
  obtain ⟨tt, _, rfl⟩ := hx
  split <;> decide
set_option maxRecDepth 100000 in
theorem plus_any (a b : Int) (ha : 0 ≤ a ∧ a ≤ 1152921504606846977) (hb : 0 ≤ b ∧ b ≤ 1152921504606846977) (w : World) :
    Calls Tryd.prog 28 #[.int .i64 a, .int .i64 b] w fun e w' => e = .returned (.int .i64 (plusR a b)) ∧ w' = w := by
  have hw : IntKind.i64.wrap (a + b) = a + b := IntWalk.i64_in _ (by omega)
  unfold plusR capI
  go_enter Tryd.func28, Tryd.ntmps28
  go_wp2_with fail
  go_ret
  exact ⟨rfl, rfl⟩
set_option maxRecDepth 100000 in
theorem times_any (a b : Int) (ha : 1 ≤ a) (hb : 0 ≤ b ∧ b ≤ 1152921504606846977) (w : World) :
    Calls Tryd.prog 29 #[.int .i64 a, .int .i64 b] w fun e w' => e = .returned (.int .i64 (timesR a b)) ∧ w' = w := by
  have h0 : (0 : Int) < a := by omega
  have hne : ¬ a = 0 := by omega
  have hd0 : 0 ≤ 1152921504606846976 / a := Int.ediv_nonneg (by decide) (by omega)
  have hd1 : 1152921504606846976 / a ≤ 1152921504606846976 := Int.ediv_le_self _ (by decide)
  have hq : IntKind.i64.wrap (1152921504606846976 / a) = 1152921504606846976 / a := IntWalk.i64_in _ (by omega)
  by_cases h : 1152921504606846976 / a < b
  · have e : timesR a b = 1152921504606846977 := by unfold timesR capI; rw [if_pos ⟨by omega, h⟩]
    rw [e]
    go_enter Tryd.func29, Tryd.ntmps29
    go_wp2_with fail
    go_ret
    exact ⟨rfl, rfl⟩
  · have e : timesR a b = a * b := by unfold timesR; rw [if_neg (fun hh => h hh.2)]
    have h2 : b * a ≤ 1152921504606846976 := (Int.le_ediv_iff_mul_le (by omega)).1 (by omega)
    have h3 : 0 ≤ a * b := Int.mul_nonneg (by omega) hb.1
    rw [Int.mul_comm] at h2
    have hm : IntKind.i64.wrap (a * b) = a * b := IntWalk.i64_in _ (by omega)
    rw [e]
    go_enter Tryd.func29, Tryd.ntmps29
    go_wp2_with fail
    go_ret
    exact ⟨rfl, rfl⟩
theorem own_drew {W : World} {base e size n : Nat} {v : Value} {xs : List Value} (h : W.ownsRow base e size v n xs) : W.drew.ownsRow base e size v n xs := h
/-- The machine of the tree without texts is made. -/
theorem of_none (V : World) : Calls Tryd.prog 22 #[.agg #[.int .i64 1, .int .u64 0, .int .u64 0, .int .u64 0, .int .u64 0, .slice none 0 0]] V fun e w' => (∃ o1 c1 o2 c2, e = .returned (.agg #[.bool false, .int .u64 0, .int .u64 0, .slice o1 0 c1, .slice o2 0 c2]) ∧ RM w' w'.heap.size o1 o2 [] []) ∧ Below V.heap.size V w' := by
  have h := of_any (.mk 1 .zero []) rfl ⟨S4.zero_ok, trivial⟩ (by decide) V none 0 HT.nil
  have e : rOf (.mk 1 .zero []) = (([], []), .zero) := rNo_eq
  unfold OfR at h
  rw [e] at h
  exact h
set_option maxRecDepth 100000 in
set_option maxHeartbeats 12800000 in
theorem rwords_any (p : ByteArray) (t : PT) (ht : TP p t) (nn : Nat) (hnn : nn ≤ 64) (w : World) :
    Calls Tryd.prog 9 #[.string p, .int .i64 (nn : Int)] w fun e w' => e = .returned (.tuple #[.int .i64 (rWords (rOf t) nn).1, .int .i64 (rWords (rOf t) nn).2]) ∧ Below w.heap.size w w' := by
  have HP := Lib.hid (rparse_tp ht w)
  have HOt := Lib.hid (fun (V : World) (oe : Option Addr) (ce : Nat) (h : HT V (· < V.heap.size) (.slice oe t.l.length ce) t.l) => of_any t ht.fit ht.sok (tp_lv ht) V oe ce h)
  clear ht
  unfold PT.val at HP HOt
  unfold OfR mV at HOt
  generalize rOf t = r at *
  obtain ⟨⟨ra, ri⟩, hR⟩ : ∃ z, z = rWords r nn := ⟨_, rfl⟩
  rw [← hR]
  dsimp only
  unfold rWords at hR
  obtain ⟨⟨ss, fs⟩, pa⟩ := r
  dsimp only at HOt hR
  have hsr := searchR (nextR ((ss, fs), pa) rNo (grps ((ss, fs), pa) rNo)) (begZ, begZ)
  have HG1 : Hid (∀ g, g ∈ grps ((ss, fs), pa) rNo → 1 ≤ g.2.2) := Lib.hid (gAll_spec (r := ((ss, fs), pa)) (r' := rNo) alB [] List.Pairwise.nil (fun g hg => by simp at hg)).2.1
  rw [rNo_eq] at hR hsr HG1
  have HGR := Lib.hid (fun (V : World) (o1 o2 o3 o4 : Option Addr) (c1 c2 c3 c4 : Nat) (h : RM V V.heap.size o1 o2 ss fs) (h' : RM V V.heap.size o3 o4 [] []) => groups_any pa .zero ss [] fs [] V V.heap.size o1 o2 o3 o4 c1 c2 c3 c4 h h' (Nat.le_refl _))
  have HRE := Lib.hid (fun (V : World) (o1 o2 o3 o4 : Option Addr) (c1 c2 c3 c4 : Nat) (h : RM V V.heap.size o1 o2 ss fs) (h' : RM V V.heap.size o3 o4 [] []) => reached_any pa .zero ss [] fs [] V V.heap.size o1 o2 o3 o4 c1 c2 c3 c4 h h' (Nat.le_refl _))
  generalize grps ((ss, fs), pa) (([], []), .zero) = G at *
  have HNX : Hid (∀ z, (nextR ((ss, fs), pa) (([], []), .zero) G z).length = G.length) := Lib.hid (fun z => by unfold nextR; rw [List.length_map])
  generalize nextR ((ss, fs), pa) (([], []), .zero) G = NX at *
  generalize exR NX 4098 [(begZ, begZ)] [] = X at *
  obtain ⟨F, E⟩ := X
  dsimp only at hR hsr HRE
  have HR := Lib.hid hR
  have HSR := Lib.hid hsr
  clear hR hsr
  unfold mV Pa.zero at HGR HRE
  dsimp only [List.length_nil] at HGR HRE
  have hn64 : (nn : Int) ≤ 64 := by omega
  go_enter Tryd.func9, Tryd.ntmps9
  go_wp2_with fail
  refine HP.out.mono ?_
  rintro e w1 ⟨⟨oe, ce, rfl, hT1⟩, hb1⟩
  obtain ⟨w2, hw2⟩ : ∃ w2, w2 = w1.alloc (.cells #[.int .i64 t.k, .int .u64 t.s.a, .int .u64 t.s.b, .int .u64 t.s.c, .int .u64 t.s.d, .slice oe t.l.length ce] 60) := ⟨_, rfl⟩
  have HW2 := Lib.hid hw2
  have hb2 : Below w1.heap.size w1 w2 := by rw [hw2]; exact below1 _ _
  have HB2 := Lib.hid (hb1.trans (hb2.mono hb1.size))
  have HT2 : Hid (HT w2 (· < w2.heap.size) (.slice oe t.l.length ce) t.l) := Lib.hid (hT1.later (fun b h => by show b < w2.heap.size; have : b < w1.heap.size := h; have := hb2.size; omega) (fun b hb o => hb2.cell (p := ⟨b, o, none⟩) hb))
  have HC := Lib.hid (HOt.out w2 oe ce HT2.out)
  clear hT1 hb1 hb2 hw2 HP HOt HT2
  go_wp2_with fail
  rw [← HW2.out]
  refine HC.out.mono ?_
  rintro e w3 ⟨⟨o1, c1, o2, c2, rfl, hm3⟩, hb3⟩
  obtain ⟨w4, hw4⟩ : ∃ w4, w4 = w3.alloc (.cells #[.bool pa.e, .int .u64 pa.f, .int .u64 pa.t, .slice o1 ss.length c1, .slice o2 fs.length c2] 68) := ⟨_, rfl⟩
  have HW4 := Lib.hid hw4
  have hb4 : Below w3.heap.size w3 w4 := by rw [hw4]; exact below1 _ _
  have HM4 : Hid (M5 w4 w3.heap.size pa (.slice o1 ss.length c1) (.slice o2 fs.length c2)) := Lib.hid (by rw [hw4]; exact M5.new _ _ _ _)
  have HR4 : Hid (RM w4 w4.heap.size o1 o2 ss fs) := Lib.hid (hm3.later hb4 hb4.size)
  have HB4 : Hid (Below w.heap.size w w4) := Lib.hid (HB2.out.trans ((hb3.trans (hb4.mono hb3.size)).mono HB2.out.size))
  have hs4 : w4.heap.size = w3.heap.size + 1 := by rw [hw4]; simp
  have hlt3 : w3.heap.size < w4.heap.size := by omega
  have HN := Lib.hid (of_none w4)
  clear hm3 hb3 hb4 hw4 HB2 HC hs4
  go_wp2_with fail
  rw [← HW4.out]
  refine HN.out.mono ?_
  rintro e w5 ⟨⟨o3, c3, o4, c4, rfl, hm5⟩, hb5⟩
  obtain ⟨w6, hw6⟩ : ∃ w6, w6 = w5.alloc (.cells #[.bool false, .int .u64 0, .int .u64 0, .slice o3 0 c3, .slice o4 0 c4] 68) := ⟨_, rfl⟩
  have HW6 := Lib.hid hw6
  have hb6 : Below w5.heap.size w5 w6 := by rw [hw6]; exact below1 _ _
  have hb46 : Below w4.heap.size w4 w6 := hb5.trans (hb6.mono hb5.size)
  have HM6 : Hid (M5 w6 w3.heap.size pa (.slice o1 ss.length c1) (.slice o2 fs.length c2)) := Lib.hid (HM4.out.later hb46 hlt3)
  have HN6 : Hid (M5 w6 w5.heap.size .zero (.slice o3 0 c3) (.slice o4 0 c4)) := Lib.hid (by rw [hw6]; exact M5.new _ .zero _ _)
  have HR6 : Hid (RM w6 w6.heap.size o1 o2 ss fs) := Lib.hid (HR4.out.later hb46 hb46.size)
  have HS6 : Hid (RM w6 w6.heap.size o3 o4 [] []) := Lib.hid (hm5.later hb6 hb6.size)
  have HB6 : Hid (Below w.heap.size w w6) := Lib.hid (HB4.out.trans (hb46.mono HB4.out.size))
  have hlt6 : w3.heap.size < w6.heap.size := HM6.out.lt
  have hlt5 : w5.heap.size < w6.heap.size := HN6.out.lt
  have HGC := Lib.hid (HGR.out w6 o1 o2 o3 o4 c1 c2 c3 c4 HR6.out HS6.out)
  obtain ⟨m0, m1, m2, m3, m4⟩ := HM6.out.cells
  obtain ⟨n0, n1, n2, n3, n4⟩ := HN6.out.cells
  clear hm5 hb5 hb6 hb46 hw6 HM4 HR4 HB4 HN hlt3 HGR
  go_upto_region 8 with fail
  rw [← HW6.out]
  unfold Pa.zero at n0 n1 n2
  go_wp2_with fail
  refine HGC.out.mono ?_
  rintro e w7 ⟨⟨oG, cG, rfl, hG7, hG95⟩, hb7⟩
  have HG7 := Lib.hid hG7
  have HM7 := Lib.hid (HM6.out.later hb7 hlt6)
  have HN7 := Lib.hid (HN6.out.later hb7 hlt5)
  have HB7 := Lib.hid (HB6.out.trans (hb7.mono HB6.out.size))
  have HRC := Lib.hid (HRE.out w7 o1 o2 o3 o4 c1 c2 c3 c4 (HR6.out.later hb7 hb7.size) (HS6.out.later hb7 hb7.size))
  have hlt7 : w3.heap.size < w7.heap.size := HM7.out.lt
  have hlt8 : w5.heap.size < w7.heap.size := HN7.out.lt
  clear m0 m1 m2 m3 m4 n0 n1 n2 n3 n4 hG7 hb7 HM6 HN6 HR6 HS6 HB6 HGC HRE hlt6 hlt5
  obtain ⟨m0, m1, m2, m3, m4⟩ := HM7.out.cells
  obtain ⟨n0, n1, n2, n3, n4⟩ := HN7.out.cells
  unfold Pa.zero at n0 n1 n2
  go_wp2_with fail
  refine HRC.out.mono ?_
  rintro e w8 ⟨⟨oF, cF, ve, rfl, hF8, base, hE8⟩, hb8⟩
  have HM8 := Lib.hid (HM7.out.later hb8 hlt7)
  have HB8 := Lib.hid (HB7.out.trans (hb8.mono HB7.out.size))
  have HG8 : Hid (RG w8 w8.heap.size oG G) := Lib.hid (HG7.out.later hb8 hb8.size)
  have HF8 := Lib.hid hF8
  have HE8 := Lib.hid hE8
  have HAC := Lib.hid (fun (x : Int) (V : World) => accepts5_any pa x (.slice o1 ss.length c1) (.slice o2 fs.length c2) V)
  unfold mV at HAC
  clear m0 m1 m2 m3 m4 n0 n1 n2 n3 n4 hF8 hE8 hb8 HM7 HN7 HB7 HG7 HRC hlt7 hlt8 HW2 HW4 HW6
  by_cases hbig : 4096 < F.length
  · have hbI : (F.length : Int) > 4096 := by omega
    have hr := HR.out
    rw [if_pos hbig] at hr
    cases hr
    clear hbig
    go_wp2_with fail
    go_ret2
    exact ⟨rfl, HB8.out⟩
  · have hbI : ¬ ((F.length : Int) > 4096) := by omega
    have hr := HR.out
    rw [if_neg hbig] at hr
    have hW : Whole NX (begZ, begZ) F E := by
      rcases HSR.out with ⟨h, _⟩ | ⟨_, h⟩
      · exact absurd h hbig
      · exact h
    have HEF := Lib.hid hW.el
    have HF0 : Hid (0 < F.length) := Lib.hid (by have := (List.getElem?_eq_some_iff.1 hW.g.hd).1; omega)
    have HED : Hid (∀ (i : Nat) tt, E[i]? = some tt → tt.length = G.length ∧ ∀ (j k : Nat), tt[j]? = some k → k < F.length) := Lib.hid (fun i tt hi => by
      have hil := (List.getElem?_eq_some_iff.1 hi).1
      obtain ⟨x, hx⟩ : ∃ x, F[i]? = some x := ⟨_, List.getElem?_eq_getElem (by rw [← hW.el]; exact hil)⟩
      obtain ⟨tt', e1, e2, e3⟩ := hW.g.ed i x hil hx
      rw [hi] at e1
      cases e1
      refine ⟨by rw [e2, HNX.out], fun j k hj => ?_⟩
      have h4 := e3 j k hj
      have hjl := (List.getElem?_eq_some_iff.1 hj).1
      rw [e2] at hjl
      rw [List.getElem?_eq_getElem hjl] at h4
      exact (List.getElem?_eq_some_iff.1 h4).1)
    clear hW
    obtain ⟨C, hC⟩ : ∃ C, C = accZ0 pa F := ⟨_, rfl⟩
    have HBd : Hid (bdL C) := Lib.hid (by rw [hC]; exact accZ0_bd _ _)
    have HCl : Hid (C.length = F.length) := Lib.hid (by rw [hC]; unfold accZ0; rw [List.length_map])
    have HCd : Hid (∀ (k : Nat) (z : P2), F[k]? = some z → C[k]? = some (if accR pa z.1 = true then 1 else 0)) := Lib.hid (fun k z hz => by rw [hC]; unfold accZ0; rw [List.getElem?_map, hz]; rfl)
    have HRR : Hid ((ra, ri) = if 1152921504606846976 < hd0 (iterR G E C nn) then (0, 11) else (hd0 (iterR G E C nn), 0)) := Lib.hid (by rw [hC]; exact hr)
    have HFc : Hid (∀ (V : World), Below w8.heap.size w8 V → ∀ (k : Nat) (z : P2), F[k]? = some z → ∃ g, oF = some ⟨g, 0, none⟩ ∧ V.cell? ⟨g, k * 2, none⟩ = some (.int .u64 z.1)) := Lib.hid (fun V hV k z hz => by
      obtain ⟨g, h1, h2, h3, _⟩ := HF8.out k z hz
      exact ⟨g, h1, (hV.cell (p := ⟨g, k * 2, none⟩) h2).trans h3⟩)
    obtain ⟨i0, hi0, hz0, hz1, hz2⟩ := info_parts infoN
    have hFI : (F.length : Int) ≤ 4096 := by omega
    have hF4 : F.length ≤ 4096 := by omega
    have HRI : Hid (RP w8 w8.heap.size oF F) := HF8
    generalize hnF : F.length = nF at *
    have HNF := Lib.hid hnF
    clear hbig hr hC HR HSR hnF HF8 HNX
    go_wp2_with (at_make; refine wpList_make_full _ rfl _ _ 78 rfl w8.heap.size 2 i0 _ 1 Tryd.underlying78 hi0 hz0 hz1 _ _ _ _ nF rfl rfl rfl rfl ?b2 ?b3 (Nat.le_refl _) ?_)
    case b2 => rw [hz2]; omega
    case b3 => unfold maxLen; omega
    intro w9 hown9 hgrow9
    have hb9 : Below w8.heap.size w8 w9 := (Below.refl _ _).grown hgrow9 (Nat.le_refl _) (fun k h => by cases h)
    have HO9 : Hid (w9.ownsRow w8.heap.size 2 1 (.slice (some ⟨w8.heap.size, 0, none⟩) nF nF) nF ((fillI C 0).map (Value.int .i64))) := Lib.hid (by
      rw [fillI_zero, HCl.out, List.map_replicate, ← toList_madeCells_one]
      exact hown9)
    have HB9 := Lib.hid hb9
    have hs9 : w8.heap.size ≤ w9.heap.size := hb9.size
    clear hown9 hgrow9 hb9
    go_wp2_with fail
    obtain ⟨gF, rfl⟩ : ∃ gF, oF = some ⟨gF, 0, none⟩ := by
      obtain ⟨g, h1, _⟩ := HRI.out 0 (F[0]'(by rw [HNF.out]; exact HF0.out)) (List.getElem?_eq_getElem _)
      exact ⟨g, h1⟩
    obtain ⟨ge, ce, rfl, HEc⟩ : ∃ ge ce, ve = .slice (some ⟨ge, 0, none⟩) nF ce ∧ Hid (∀ (V : World), Below w8.heap.size w8 V → ∀ (i : Nat) tt, E[i]? = some tt → ∃ gi ci, V.cell? ⟨ge, i, none⟩ = some (.slice (some ⟨gi, 0, none⟩) tt.length ci) ∧ ∀ (j x : Nat), tt[j]? = some x → V.cell? ⟨gi, j, none⟩ = some (.int .i64 (x : Int))) := by
      obtain ⟨vs, h1, h2⟩ := HE8.out
      obtain ⟨o, c, rfl⟩ := own_form h1
      obtain ⟨ge, rfl⟩ : ∃ ge, o = some ⟨ge, 0, none⟩ := by
        rcases h1.2 with ⟨hv, h0⟩ | ⟨g, cap, cur, hv, _⟩
        · have := HF0.out; rw [HEF.out] at h0; omega
        · cases hv; exact ⟨g, rfl⟩
      refine ⟨ge, c, by rw [HEF.out], Lib.hid fun V hV i tt hi => ?_⟩
      obtain ⟨gi, ci, cur, q1, q2, q3, q4⟩ := h2 i tt hi
      refine ⟨gi, ci, ?_, fun j x hj => ?_⟩
      · rw [hV.cell (p := ⟨ge, i, none⟩) (own_lt h1 ge rfl).2, World.ownsRow.cellAt h1 i (by have := (List.getElem?_eq_some_iff.1 hi).1; omega)]
        exact q1
      · rw [hV.cell (p := ⟨gi, j, none⟩) q2]
        exact cell_block q3 (q4 j x hj)
    obtain ⟨gG, HGc⟩ : ∃ gG, Hid (∀ (k : Nat) g, G[k]? = some g → oG = some ⟨gG, 0, none⟩ ∧ ∀ (V : World), Below w8.heap.size w8 V → V.cell? ⟨gG, k * 3 + 2, none⟩ = some (.int .i64 g.2.2)) := by
      cases G with
      | nil => exact ⟨0, Lib.hid fun k g hg => by simp at hg⟩
      | cons g0 G =>
        obtain ⟨gG, h1, h2, h3⟩ := HG8.out.at_ (k := 0) (s := g0) rfl
        refine ⟨gG, Lib.hid fun k g hg => ⟨h1, fun V hV => ?_⟩⟩
        obtain ⟨gG', h4, h5, h6⟩ := HG8.out.at_ hg
        rw [h1] at h4
        cases h4
        rw [hV.cell (p := ⟨gG, k * 3 + 2, none⟩) h5]
        exact h6 2 _ rfl
    go_loopw [15] (fun v wr => ∃ k : Nat, v = .int .i64 (k : Int) ∧ k ≤ nF ∧ Hid (wr.ownsRow w8.heap.size 2 1 (.slice (some ⟨w8.heap.size, 0, none⟩) nF nF) nF ((fillI C k).map (Value.int .i64))) ∧ Hid (Below w8.heap.size w8 wr) ∧ w8.heap.size ≤ wr.heap.size) (fun v _ => nF - (intOf v).toNat)
    case atStart => exact ⟨0, rfl, Nat.zero_le _, HO9, HB9, hs9⟩
    case round =>
      obtain ⟨k, rfl, hk, HOr, HBr, hsr⟩ := hrel
      clear HO9 HB9 hs9
      obtain ⟨wi, hwi⟩ : ∃ wi : World, wi = wr := ⟨_, rfl⟩
      subst hwi
      by_cases hlt : k < nF
      · have hltI : (k : Int) < (nF : Int) := by omega
        have hk0 : (0 : Int) ≤ (k : Int) := by omega
        have hwk : IntKind.i64.wrap ((k : Int) + 1) = ((k + 1 : Nat) : Int) := by rw [IntWalk.i64_in _ (by omega)]; omega
        obtain ⟨z, hz⟩ : ∃ z, F[k]? = some z := ⟨_, List.getElem?_eq_getElem (by rw [HNF.out]; exact hlt)⟩
        obtain ⟨g', hg', hz0c⟩ := HFc.out wi HBr.out k z hz
        cases hg'
        have hCk := HCd.out k z hz
        have hkC : k < C.length := (List.getElem?_eq_some_iff.1 hCk).1
        have HSe : Hid ((fillI C k).set k (if accR pa z.1 = true then 1 else 0) = fillI C (k + 1)) := Lib.hid (by
          have h1 := fillI_set C k hkC
          rw [(List.getElem?_eq_some_iff.1 hCk).2] at h1
          exact h1)
        have HSz := Lib.hid (fillI_set0 C k hkC)
        have HAT := Lib.hid (fillI_at C k hkC)
        obtain ⟨m0, m1, m2, m3, m4⟩ := (HM8.out.later HBr.out HM8.out.lt).cells
        have p0 := fun d os => cell_regrown m0 d os
        have p1 := fun d os => cell_regrown m1 d os
        have p2 := fun d os => cell_regrown m2 d os
        have p3 := fun d os => cell_regrown m3 d os
        have p4 := fun d os => cell_regrown m4 d os
        have q0 := fun d os => cell_regrown hz0c d os
        have E1 := fun d os => Calls.regrown_of (HAC.out z.1 (grow (redrawn wi d) os))
        have HBG : Hid (∀ d os, Below wi.heap.size wi (grow (redrawn wi d) os)) := Lib.hid (fun d os => below_regrown wi d os)
        generalize accR pa z.1 = ac at E1 HSe
        clear m0 m1 m2 m3 m4 hCk hz hz0c
        cases ac
        all_goals
          go_wp2_with fail
          refine wp_region_quiet_below (by kernel_rfl) (by kernel_rfl) ?_
          repeat (quiet_step (first | with_reducible exact E1 _ _))
          refine wpQuiet_nil ?_
          intro w' hw'
          obtain ⟨pw, rfl⟩ := hw'
          obtain ⟨wC, hwC⟩ : ∃ wC, wC = grow (redrawn wi pw.d) pw.os := ⟨_, rfl⟩
          have hbC : Below wi.heap.size wi wC := by rw [hwC]; exact HBG.out pw.d pw.os
          rw [← hwC]
          have HO6 : Hid (wC.ownsRow w8.heap.size 2 1 (.slice (some ⟨w8.heap.size, 0, none⟩) nF nF) nF ((fillI C k).map (Value.int .i64))) := Lib.hid (own_keep HOr.out (fun q cur hq _ => below_keep hbC hq))
          have HB6 := Lib.hid (HBr.out.trans (hbC.mono hsr))
          have hs6 : w8.heap.size ≤ wC.heap.size := Nat.le_trans hsr hbC.size
          clear hwC hbC p0 p1 p2 p3 p4 q0 E1 HBG HOr HBr
        · have HO7 : Hid (wC.ownsRow w8.heap.size 2 1 (.slice (some ⟨w8.heap.size, 0, none⟩) nF nF) nF ((fillI C (k + 1)).map (Value.int .i64))) := Lib.hid (by rw [← HSe.out, if_neg (by decide), HSz.out]; exact HO6.out)
          clear HO6
          go_wp2_with fail
          go_roundw
          case rel => exact ⟨k + 1, by first | rfl | go_num, hlt, HO7, HB6, hs6⟩
          case measure => simp [intOf]; omega
        · have c6 : wC.cell? ⟨w8.heap.size, k, none⟩ = some (.int .i64 0) := by
            rw [World.ownsRow.cellAt HO6.out k (by omega), List.getElem?_map, HAT.out]
            rfl
          have f6 := World.ownsRow.frozenAt HO6.out k
          have HO7 : Hid ((wC.setCell ⟨w8.heap.size, k, none⟩ (.int .i64 1)).ownsRow w8.heap.size 2 1 (.slice (some ⟨w8.heap.size, 0, none⟩) nF nF) nF ((fillI C (k + 1)).map (Value.int .i64))) := Lib.hid (by
            rw [← HSe.out]
            first | rw [if_pos rfl, List.map_set] | rw [if_pos trivial, List.map_set]
            exact (World.ownsRow.stored HO6.out k _).1)
          have HB7 : Hid (Below w8.heap.size w8 (wC.setCell ⟨w8.heap.size, k, none⟩ (.int .i64 1))) := Lib.hid (HB6.out.setCell (p := ⟨w8.heap.size, k, none⟩) (Nat.le_refl _) _)
          have hs7 : w8.heap.size ≤ (wC.setCell ⟨w8.heap.size, k, none⟩ (.int .i64 1)).heap.size := HB7.out.size
          clear HO6 HB6
          go_wp2_with fail
          go_roundw
          case rel => exact ⟨k + 1, by first | rfl | go_num, hlt, HO7, HB7, hs7⟩
          case measure => simp [intOf]; omega
      · have hltI : ¬ ((k : Int) < (nF : Int)) := by omega
        obtain rfl : k = nF := by omega
        have HCI : Hid (CI wi wi.heap.size w8.heap.size (iterR G E C 0)) := Lib.hid (by
          have h := HOr.out
          have e : fillI C k = C := by rw [← HCl.out]; exact fillI_all C
          rw [e] at h
          refine ⟨(World.ownsRow.lt h _ rfl).2, fun j x hx => ?_⟩
          rw [iterR] at hx
          have hj := (List.getElem?_eq_some_iff.1 hx).1
          rw [HCl.out] at hj
          rw [World.ownsRow.cellAt h j (by omega), List.getElem?_map, hx]
          rfl)
        clear HOr HFc HM8 HCd HAC
        go_wp2_with fail
        have HBn0 : Hid (w8.heap.size ≤ wi.heap.size) := Lib.hid hsr
        go_loopg [14, 16] (nn + 1) (fun gk v14 v16 wr => ∃ (i gc cc : Nat), v14 = .slice (some ⟨gc, 0, none⟩) k cc ∧ v16 = .int .i64 (i : Int) ∧ i + gk = nn + 1 ∧ i ≤ nn ∧ Hid (CI wr wr.heap.size gc (iterR G E C i)) ∧ Hid (Below w8.heap.size w8 wr) ∧ w8.heap.size ≤ wr.heap.size)
        case atStart => exact ⟨0, w8.heap.size, k, rfl, rfl, by omega, Nat.zero_le _, HCI, HBr, hsr⟩
        case round =>
          obtain ⟨i, gc, cc, rfl, rfl, hig, hin, HCr, HBx, hsx⟩ := hrel
          clear HCI HBr hsr HBn0
          obtain ⟨wo, hwo⟩ : ∃ wo : World, wo = wr := ⟨_, rfl⟩
          subst hwo
          have hil : (iterR G E C i).length = k := by rw [iterR_len (by rw [HEF.out, HCl.out]), HCl.out]
          by_cases hlt : i < nn
          · have hltI : (i : Int) < (nn : Int) := by omega
            have hi0' : (0 : Int) ≤ (i : Int) := by omega
            have hwi : IntKind.i64.wrap ((i : Int) + 1) = ((i + 1 : Nat) : Int) := by rw [IntWalk.i64_in _ (by omega)]; omega
            obtain ⟨gh, rfl⟩ : ∃ gh, gk = gh + 1 := ⟨gk - 1, by omega⟩
            have HCn := Lib.hid (iterR_bd HBd.out HG1.out E i)
            obtain ⟨R, hR⟩ : ∃ R, R = longR (iterR G E C i) G E := ⟨_, rfl⟩
            have HRD : Hid (iterR G E C (i + 1) = R) := Lib.hid (by rw [hR, iterR])
            have HRL : Hid (R.length = k) := Lib.hid (by rw [hR, longR_len, HEF.out])
            have HRT : Hid (∀ (j : Nat) tt, E[j]? = some tt → R[j]? = some (rowR (iterR G E C i) G tt 0)) := Lib.hid (fun j tt hj => by rw [hR]; unfold longR; rw [List.getElem?_map, hj]; rfl)
            have HIL := Lib.hid hil
            generalize iterR G E C i = D at *
            clear hR hil
            go_wp2_with (at_make; refine wpList_make_full _ rfl _ _ 78 rfl wo.heap.size 2 i0 _ 1 Tryd.underlying78 hi0 hz0 hz1 _ _ _ _ k rfl rfl rfl rfl ?b2 ?b3 (Nat.le_refl _) ?_)
            case b2 => rw [hz2]; omega
            case b3 => unfold maxLen; omega
            intro w10 hown10 hgrow10
            have hb10 : Below wo.heap.size wo w10 := (Below.refl _ _).grown hgrow10 (Nat.le_refl _) (fun k h => by cases h)
            have HO10 : Hid (w10.ownsRow wo.heap.size 2 1 (.slice (some ⟨wo.heap.size, 0, none⟩) k k) k ((fillI R 0).map (Value.int .i64))) := Lib.hid (by
              rw [fillI_zero, HRL.out, List.map_replicate, ← toList_madeCells_one]
              exact hown10)
            have HB10 := Lib.hid hb10
            have hs10 : wo.heap.size ≤ w10.heap.size := hb10.size
            clear hown10 hgrow10 hb10
            go_wp2_with fail
            go_loopw [18] (fun v wr => ∃ j : Nat, v = .int .i64 (j : Int) ∧ j ≤ k ∧ Hid (wr.ownsRow wo.heap.size 2 1 (.slice (some ⟨wo.heap.size, 0, none⟩) k k) k ((fillI R j).map (Value.int .i64))) ∧ Hid (Below wo.heap.size wo wr) ∧ wo.heap.size ≤ wr.heap.size) (fun v _ => k - (intOf v).toNat)
            case atStart => exact ⟨0, rfl, Nat.zero_le _, HO10, HB10, hs10⟩
            case round =>
              obtain ⟨j, rfl, hjk, HOj, HBj, hsj⟩ := hrel
              clear HO10 HB10 hs10
              obtain ⟨wp, hwp⟩ : ∃ wp : World, wp = wr := ⟨_, rfl⟩
              subst hwp
              by_cases hltj : j < k
              · have hltjI : (j : Int) < (k : Int) := by omega
                have hj0 : (0 : Int) ≤ (j : Int) := by omega
                have hwj : IntKind.i64.wrap ((j : Int) + 1) = ((j + 1 : Nat) : Int) := by rw [IntWalk.i64_in _ (by omega)]; omega
                obtain ⟨tt, htt⟩ : ∃ tt, E[j]? = some tt := ⟨_, List.getElem?_eq_getElem (by rw [HEF.out]; exact hltj)⟩
                have HTT := Lib.hid htt
                obtain ⟨httl, httk⟩ := HED.out j tt htt
                have HTL := Lib.hid httl
                have HTK := Lib.hid httk
                have HRj := Lib.hid (HRT.out j tt htt)
                have hjR : j < R.length := by rw [HRL.out]; exact hltj
                have HM0 : Hid ((fillI R j).set j 0 = fillI R j) := Lib.hid (fillI_set0 R j hjR)
                have HM1 : Hid ((fillI R j).set j (rowR D G tt 0) = fillI R (j + 1)) := Lib.hid (by
                  have h1 := fillI_set R j hjR
                  rw [(List.getElem?_eq_some_iff.1 HRj.out).2] at h1
                  exact h1)
                have hFl : (fillI R j).length = k := by rw [fillI_len R j (by omega), HRL.out]
                have HFL := Lib.hid hFl
                have HO0 : Hid (wp.ownsRow wo.heap.size 2 1 (.slice (some ⟨wo.heap.size, 0, none⟩) k k) k (((fillI R j).set j 0).map (Value.int .i64))) := Lib.hid (by rw [HM0.out]; exact HOj.out)
                have HS0 : Hid (rowR D G tt 0 = rowR D (G.drop 0) (tt.drop 0) 0) := Lib.hid (by rw [List.drop_zero, List.drop_zero])
                generalize fillI R j = M at *
                clear htt httl httk hFl hjR
                go_wp2_with fail
                go_loopg [19] (G.length + 1) (fun gq v wr => ∃ (q : Nat) (s : Int), v = .int .i64 (q : Int) ∧ q + gq = G.length + 1 ∧ q ≤ G.length ∧ Hid (0 ≤ s ∧ s ≤ 1152921504606846977) ∧ Hid (rowR D G tt 0 = rowR D (G.drop q) (tt.drop q) s) ∧ Hid (wr.ownsRow wo.heap.size 2 1 (.slice (some ⟨wo.heap.size, 0, none⟩) k k) k ((M.set j s).map (Value.int .i64))) ∧ Hid (Below wo.heap.size wo wr) ∧ wo.heap.size ≤ wr.heap.size)
                case atStart => exact ⟨0, 0, rfl, by omega, Nat.zero_le _, Lib.hid (by decide), HS0, HO0, HBj, hsj⟩
                case round =>
                  obtain ⟨q, s, rfl, hqg, hqG, HSB, HRS, HOq, HBq, hsq⟩ := hrel
                  clear HO0 HS0 HOj HBj hsj
                  obtain ⟨wq, hwq⟩ : ∃ wq : World, wq = wr := ⟨_, rfl⟩
                  subst hwq
                  by_cases hltq : q < G.length
                  · have hltqI : (q : Int) < (G.length : Int) := by omega
                    have hq0 : (0 : Int) ≤ (q : Int) := by omega
                    have hwq : IntKind.i64.wrap ((q : Int) + 1) = ((q + 1 : Nat) : Int) := by rw [IntWalk.i64_in _ (by omega)]; omega
                    obtain ⟨gj, rfl⟩ : ∃ gj, gk = gj + 1 := ⟨gk - 1, by omega⟩
                    obtain ⟨g, hg⟩ : ∃ g, G[q]? = some g := ⟨_, List.getElem?_eq_getElem hltq⟩
                    have hqt : q < tt.length := by rw [HTL.out]; exact hltq
                    have hqtI : (q : Int) < (tt.length : Int) := by omega
                    obtain ⟨x, hx⟩ : ∃ x, tt[q]? = some x := ⟨_, List.getElem?_eq_getElem hqt⟩
                    have hxk : x < k := HTK.out q x hx
                    have hx0 : (0 : Int) ≤ (x : Int) := by omega
                    have hxI : (x : Int) < (k : Int) := by omega
                    obtain ⟨y, hy⟩ : ∃ y, D[x]? = some y := ⟨_, List.getElem?_eq_getElem (by rw [HIL.out]; exact hxk)⟩
                    obtain ⟨hoG, hGV⟩ := HGc.out q g hg
                    have HBW : Hid (Below w8.heap.size w8 wq) := Lib.hid (HBx.out.trans (HBq.out.mono hsx))
                    have a2 := hGV wq HBW.out
                    obtain ⟨gi, ci, a3, a4f⟩ := HEc.out wq HBW.out j tt HTT.out
                    have a4 := a4f q x hx
                    clear a4f
                    have a5 := (HCr.out.later HBq.out).2 x y hy
                    have a1 : wq.cell? ⟨wo.heap.size, j, none⟩ = some (.int .i64 s) := by
                      rw [World.ownsRow.cellAt HOq.out j (by omega), List.getElem?_map, List.getElem?_set_self (by rw [HFL.out]; exact hltj)]
                      rfl
                    have f1 := World.ownsRow.frozenAt HOq.out j
                    have hg1 := HG1.out g (List.mem_of_getElem? hg)
                    have hyb := HCn.out x y hy
                    have HT := Lib.hid (fun V => times_any g.2.2 y hg1 hyb V)
                    have htb := timesR_bd hg1 hyb.1
                    have HPl := Lib.hid (fun V => plus_any s (timesR g.2.2 y) HSB.out htb V)
                    have HSB2 : Hid (0 ≤ plusR s (timesR g.2.2 y) ∧ plusR s (timesR g.2.2 y) ≤ 1152921504606846977) := Lib.hid (plusR_bd HSB.out.1 htb.1)
                    have HRS2 : Hid (rowR D G tt 0 = rowR D (G.drop (q + 1)) (tt.drop (q + 1)) (plusR s (timesR g.2.2 y))) := Lib.hid (by
                      rw [HRS.out, List.drop_eq_getElem_cons hltq, List.drop_eq_getElem_cons hqt, (List.getElem?_eq_some_iff.1 hg).2, (List.getElem?_eq_some_iff.1 hx).2, rowR, hy, Option.getD_some])
                    have HOS : Hid ((wq.setCell ⟨wo.heap.size, j, none⟩ (.int .i64 (plusR s (timesR g.2.2 y)))).drew.ownsRow wo.heap.size 2 1 (.slice (some ⟨wo.heap.size, 0, none⟩) k k) k ((M.set j (plusR s (timesR g.2.2 y))).map (Value.int .i64))) := Lib.hid (by
                      have h1 := (World.ownsRow.stored HOq.out j (.int .i64 (plusR s (timesR g.2.2 y)))).1
                      rw [← List.map_set, List.set_set] at h1
                      exact own_drew h1)
                    have HBS : Hid (Below wo.heap.size wo (wq.setCell ⟨wo.heap.size, j, none⟩ (.int .i64 (plusR s (timesR g.2.2 y)))).drew) := Lib.hid (HBq.out.setCell (p := ⟨wo.heap.size, j, none⟩) (Nat.le_refl _) _).drew
                    subst hoG
                    generalize timesR g.2.2 y = tv at *
                    generalize plusR s tv = pv at *
                    clear hg hx hy hGV hg1 hyb htb HRS HSB
                    go_wp2_with fail
                    go_region_law (first
                      | (go_simp; go_at_call 29; refine (HT.out _).mono ?_; rintro e wx ⟨rfl, hx⟩; obtain rfl := hx.symm)
                      | (go_simp; go_at_call 28; refine (HPl.out _).mono ?_; rintro e wx ⟨rfl, hx⟩; obtain rfl := hx.symm))
                    all_goals
                      clear HT HPl a1 a2 a3 a4 a5 f1
                      go_wp2_with fail
                      go_roundg gj
                      case measure => omega
                      case rel => exact ⟨q + 1, pv, by first | rfl | go_num, by omega, hltq, HSB2, HRS2, HOS, HBS, HBS.out.size⟩
                  · have hltqI : ¬ ((q : Int) < (G.length : Int)) := by omega
                    have HSE : Hid (rowR D G tt 0 = s) := Lib.hid (by rw [HRS.out, List.drop_eq_nil_of_le (show G.length ≤ q by omega), rowR]; all_goals simp)
                    have HO2 : Hid (wq.ownsRow wo.heap.size 2 1 (.slice (some ⟨wo.heap.size, 0, none⟩) k k) k ((fillI R (j + 1)).map (Value.int .i64))) := Lib.hid (by rw [← HM1.out, HSE.out]; exact HOq.out)
                    clear HRS HOq
                    go_wp2_with fail
                    go_roundw
                    case rel => exact ⟨j + 1, by first | rfl | go_num, hltj, HO2, HBq, hsq⟩
                    case measure => simp [intOf]; omega
              · have hltjI : ¬ ((j : Int) < (k : Int)) := by omega
                obtain rfl : j = k := by omega
                have HCN : Hid (CI wp wp.heap.size wo.heap.size (iterR G E C (i + 1))) := Lib.hid (by
                  have h := HOj.out
                  have e : fillI R j = R := by rw [← HRL.out]; exact fillI_all R
                  rw [e] at h
                  refine ⟨(World.ownsRow.lt h _ rfl).2, fun a x hx => ?_⟩
                  rw [HRD.out] at hx
                  have ha := (List.getElem?_eq_some_iff.1 hx).1
                  rw [HRL.out] at ha
                  rw [World.ownsRow.cellAt h a (by omega), List.getElem?_map, hx]
                  rfl)
                have HBN := Lib.hid (HBx.out.trans (HBj.out.mono hsx))
                have hsn : w8.heap.size ≤ wp.heap.size := HBN.out.size
                clear HOj HBj
                go_wp2_with fail
                go_roundg gh
                case measure => omega
                case rel => exact ⟨i + 1, wo.heap.size, j, rfl, by first | rfl | go_num, by omega, by omega, HCN, HBN, hsn⟩
          · have hltI : ¬ ((i : Int) < (nn : Int)) := by omega
            obtain rfl : i = nn := by omega
            obtain ⟨y, hy⟩ : ∃ y, (iterR G E C i)[0]? = some y := ⟨_, List.getElem?_eq_getElem (by have := HF0.out; omega)⟩
            have c7 := HCr.out.2 0 y hy
            have hhd : hd0 (iterR G E C i) = y := by unfold hd0; rw [hy]; rfl
            have hr := HRR.out
            rw [hhd] at hr
            have HBf := Lib.hid (HB8.out.trans (HBx.out.mono HB8.out.size))
            have hkI : (0 : Int) < (k : Int) := by have := HF0.out; omega
            clear hy hhd hil HCr HRR
            by_cases hby : 1152921504606846976 < y
            · rw [if_pos hby] at hr
              have hbyI : y > 1152921504606846976 := hby
              cases hr
              go_wp2_with fail
              go_ret2
              exact ⟨rfl, HBf.out⟩
            · rw [if_neg hby] at hr
              have hbyI : ¬ (y > 1152921504606846976) := hby
              cases hr
              go_wp2_with fail
              go_ret2
              exact ⟨rfl, HBf.out⟩
end

section
open Go.RowKit

set_option maxRecDepth 100000 in
set_option maxHeartbeats 1600000 in
theorem words_bad (p : ByteArray) (n : Int) (w : World) (hA : AL w) (h0 : errP p ≠ 0) :
    Calls Tryd.prog 8 #[.string p, .int .i64 n] w fun e w' => e = .returned (.tuple #[.int .i64 0, .int .i64 (errP p)]) ∧ Below w.heap.size w w' := by
  have HC := Lib.hid (compile_any p w hA)
  have H0 := Lib.hid h0
  have hne : ((errP p != 0) : Bool) = true := by rw [bne_iff_ne]; exact h0
  clear hA h0
  go_enter Tryd.func8, Tryd.ntmps8
  go_wp2_with fail
  refine HC.out.mono ?_
  rintro e w1 ⟨⟨_, rfl⟩ | ⟨t, m, g, cap, h, _⟩, hb1⟩
  · have hb2 := hb1.trans ((below1 w1 (.cells #[.slice none 0 0, .int .u64 0] 44)).mono hb1.size)
    clear hb1
    go_wp2_with fail
    go_ret2
    exact ⟨rfl, hb2⟩
  · exact absurd h H0.out
set_option maxRecDepth 100000 in
set_option maxHeartbeats 1600000 in
theorem shortest_bad (p : ByteArray) (w : World) (hA : AL w) (h0 : errP p ≠ 0) :
    Calls Tryd.prog 10 #[.string p] w fun e w' => e = .returned (.tuple #[.string ⟨#[]⟩, .int .i64 (errP p)]) ∧ Below w.heap.size w w' := by
  have HC := Lib.hid (compile_any p w hA)
  have H0 := Lib.hid h0
  have hne : ((errP p != 0) : Bool) = true := by rw [bne_iff_ne]; exact h0
  clear hA h0
  go_enter Tryd.func10, Tryd.ntmps10
  go_wp2_with fail
  refine HC.out.mono ?_
  rintro e w1 ⟨⟨_, rfl⟩ | ⟨t, m, g, cap, h, _⟩, hb1⟩
  · have hb2 := hb1.trans ((below1 w1 (.cells #[.slice none 0 0, .int .u64 0] 44)).mono hb1.size)
    clear hb1
    go_wp2_with fail
    go_ret2
    exact ⟨rfl, hb2⟩
  · exact absurd h H0.out
set_option maxRecDepth 100000 in
set_option maxHeartbeats 1600000 in
theorem rwords_bad (p : ByteArray) (n : Int) (w : World) (h0 : errP p ≠ 0) :
    Calls Tryd.prog 9 #[.string p, .int .i64 n] w fun e w' => e = .returned (.tuple #[.int .i64 0, .int .i64 (errP p)]) ∧ Below w.heap.size w w' := by
  have HC := Lib.hid (rParse_any p w)
  have H0 := Lib.hid h0
  have hne : ((errP p != 0) : Bool) = true := by rw [bne_iff_ne]; exact h0
  clear h0
  go_enter Tryd.func9, Tryd.ntmps9
  go_wp2_with fail
  refine HC.out.mono ?_
  rintro e w1 ⟨⟨_, m, rfl, _⟩ | ⟨h, _⟩, hb1⟩
  · have hb2 := hb1.trans ((below1 w1 (.cells #[.int .i64 0, .int .u64 0, .int .u64 0, .int .u64 0, .int .u64 0, .slice none 0 0] 60)).mono hb1.size)
    clear hb1
    unfold zeroR
    go_wp2_with fail
    go_ret2
    exact ⟨rfl, hb2⟩
  · exact absurd h H0.out
set_option maxRecDepth 100000 in
set_option maxHeartbeats 1600000 in
theorem rshortest_bad (p : ByteArray) (w : World) (h0 : errP p ≠ 0) :
    Calls Tryd.prog 11 #[.string p] w fun e w' => e = .returned (.tuple #[.string ⟨#[]⟩, .int .i64 (errP p)]) ∧ Below w.heap.size w w' := by
  have HC := Lib.hid (rParse_any p w)
  have H0 := Lib.hid h0
  have hne : ((errP p != 0) : Bool) = true := by rw [bne_iff_ne]; exact h0
  clear h0
  go_enter Tryd.func11, Tryd.ntmps11
  go_wp2_with fail
  refine HC.out.mono ?_
  rintro e w1 ⟨⟨_, m, rfl, _⟩ | ⟨h, _⟩, hb1⟩
  · have hb2 := hb1.trans ((below1 w1 (.cells #[.int .i64 0, .int .u64 0, .int .u64 0, .int .u64 0, .int .u64 0, .slice none 0 0] 60)).mono hb1.size)
    clear hb1
    unfold zeroR
    go_wp2_with fail
    go_ret2
    exact ⟨rfl, hb2⟩
  · exact absurd h H0.out
set_option maxRecDepth 100000 in
set_option maxHeartbeats 1600000 in
theorem rwords_range (p : ByteArray) (t : PT) (ht : TP p t) (n : Int) (hn : n < 0 ∨ 64 < n) (w : World) :
    Calls Tryd.prog 9 #[.string p, .int .i64 n] w fun e w' => e = .returned (.tuple #[.int .i64 0, .int .i64 1]) ∧ Below w.heap.size w w' := by
  have HC := Lib.hid (rparse_tp ht w)
  have hn2 : n < 0 ∨ (¬ n < 0 ∧ n > 64) := by omega
  clear ht hn
  unfold PT.val at HC
  go_enter Tryd.func9, Tryd.ntmps9
  go_wp2_with fail
  refine HC.out.mono ?_
  rintro e w1 ⟨⟨oe, ce, rfl, _⟩, hb1⟩
  have HB2 := Lib.hid (hb1.trans ((below1 w1 (.cells #[.int .i64 t.k, .int .u64 t.s.a, .int .u64 t.s.b, .int .u64 t.s.c, .int .u64 t.s.d, .slice oe t.l.length ce] 60)).mono hb1.size))
  clear hb1 HC
  rcases hn2 with h1 | ⟨h1, h2⟩
  · go_wp2_with fail
    go_ret2
    exact ⟨rfl, HB2.out⟩
  · go_wp2_with fail
    go_ret2
    exact ⟨rfl, HB2.out⟩
/-- What Words returns, on both sides. -/
theorem words_both (p : ByteArray) (n : Int) : ∃ b m : Int,
    (∀ V : World, AL V → Calls Tryd.prog 8 #[.string p, .int .i64 n] V fun e w' => e = .returned (.tuple #[.int .i64 b, .int .i64 m]) ∧ Below V.heap.size V w') ∧
    ∀ V : World, Calls Tryd.prog 9 #[.string p, .int .i64 n] V fun e w' => e = .returned (.tuple #[.int .i64 b, .int .i64 m]) ∧ Below V.heap.size V w' := by
  by_cases h0 : errP p = 0
  · obtain ⟨t, ht⟩ := TP.of h0
    obtain ⟨k, hk⟩ := ht.parse
    refine ⟨(wordsR t n).1, (wordsR t n).2, fun V hV => words_any p t ht n V hV, fun V => ?_⟩
    unfold wordsR
    by_cases hn : n < 0 ∨ 64 < n
    · rw [if_pos hn]
      exact rwords_range p t ht n hn V
    · rw [if_neg hn, ← rwords_eq ht.al ht.fit (tp_lv ht)]
      have h := rwords_any p t ht n.toNat (by omega) V
      rw [show ((n.toNat : Nat) : Int) = n by omega] at h
      exact h
  · exact ⟨0, errP p, fun V hV => words_bad p n V hV h0, fun V => rwords_bad p n V h0⟩
/-- What Shortest returns, on both sides. -/
theorem shortest_both (p : ByteArray) : ∃ (s : ByteArray) (m : Int),
    (∀ V : World, AL V → Calls Tryd.prog 10 #[.string p] V fun e w' => e = .returned (.tuple #[.string s, .int .i64 m]) ∧ Below V.heap.size V w') ∧
    ∀ V : World, Calls Tryd.prog 11 #[.string p] V fun e w' => e = .returned (.tuple #[.string s, .int .i64 m]) ∧ Below V.heap.size V w' := by
  by_cases h0 : errP p = 0
  · obtain ⟨t, ht⟩ := TP.of h0
    obtain ⟨k, hk⟩ := ht.parse
    have e := rshort_eq ht.al ht.fit (tp_lv ht) ht.ne
    obtain ⟨s, m, hs⟩ : ∃ s m, shortT t = .tuple #[.string s, .int .i64 m] := by
      unfold shortT
      cases distL (buildT t).1 65 (buildT t).2 0 [] with
      | none => exact ⟨_, _, rfl⟩
      | some lay => exact ⟨_, _, rfl⟩
    refine ⟨s, m, fun V hV => ?_, fun V => ?_⟩
    · rw [← hs]
      exact shortest_any p t ht V hV
    · have h := rshortest_any p t ht V
      rw [e, hs] at h
      exact h
  · exact ⟨⟨#[]⟩, errP p, fun V hV => shortest_bad p V hV h0, fun V => rshortest_bad p V h0⟩

set_option maxRecDepth 100000 in
set_option maxHeartbeats 3200000 in
theorem law_pwords (p : ByteArray) (n : Int) (w : World) (hA : AL w) : Calls Tryd.prog 4 #[.string p, .int .i64 n] w fun e w' => e = .returned (.bool true) ∧ Below w.heap.size w w' := by
  by_cases hbigp : 14 < p.size
  · have HA := Lib.hid (awake_any w hA)
    have hbI : (p.size : Int) > 14 := by omega
    clear hbigp
    go_enter Tryd.func4, Tryd.ntmps4
    go_wp2_with fail
    refine HA.out.mono ?_
    rintro e w1 ⟨rfl, hb⟩
    go_wp2_with fail
    go_ret
    exact ⟨rfl, hb⟩
  have hpI : ¬ (p.size : Int) > 14 := by omega
  obtain ⟨b, m, h1, h2⟩ := words_both p n
  obtain ⟨s, q, h3, h4⟩ := shortest_both p
  have HAI := Lib.hid hA
  have HAW := Lib.hid (fun (V : World) (hV : AL V) => awake_any V hV)
  have H1 := Lib.hid (h1 w hA)
  have H2 := Lib.hid h2
  have H3 := Lib.hid h3
  have H4 := Lib.hid h4
  clear hA hbigp h1 h2 h3 h4
  go_enter Tryd.func4, Tryd.ntmps4
  go_wp2_with fail
  refine H1.out.mono ?_
  rintro e w1 ⟨rfl, hb1⟩
  have HB1 := Lib.hid hb1
  clear hb1 H1
  go_wp2_with fail
  refine (H2.out w1).mono ?_
  rintro e w2 ⟨rfl, hb2⟩
  have HB2 := Lib.hid (HB1.out.trans (hb2.mono HB1.out.size))
  clear hb2 H2
  go_wp2_with fail
  refine (H3.out w2 (HAI.out.later HB2.out)).mono ?_
  rintro e w3 ⟨rfl, hb3⟩
  have HB3 := Lib.hid (HB2.out.trans (hb3.mono HB2.out.size))
  clear hb3 H3
  go_wp2_with fail
  refine (H4.out w3).mono ?_
  rintro e w4 ⟨rfl, hb4⟩
  have HB4 := Lib.hid (HB3.out.trans (hb4.mono HB3.out.size))
  clear hb4 H4
  go_wp2_with fail
  refine (HAW.out w4 (HAI.out.later HB4.out)).mono ?_
  rintro e w5 ⟨rfl, hb5⟩
  have HB5 := Lib.hid (HB4.out.trans (hb5.mono HB4.out.size))
  clear hb5 HAW
  go_wp2_with fail
  go_ret
  exact ⟨rfl, HB5.out⟩
end

end Go.Proofs.YtaipaddfehpmgaaDoor
