/-
  What Parse of the specification makes, and how two machines come to lie. Nothing is assumed.
-/
import Derived.Test.YtaipaddfehpmgaaDoorRsE
import Derived.Deep.RegionHeld3
import Derived.Deep.DeepCutAuto
import Derived.Test.YtaipaddfehpmgaaDoorRfH
import Derived.Test.YtaipaddfehpmgaaDoorPaTxt
namespace Go.Proofs.YtaipaddfehpmgaaDoor

section
open Go.RowKit

section
/-- append of another slice onto a row of the call's own. -/
theorem app_big {w : World} {ops : Array Oper} {rest : List Oper} {o : Oper} {a : Act} {Q : Exit → Act → World → Prop} (hgd : o.guard = none) (s x : Operand) (t e : TypeId)
    (ho : o.op = .call { callee := .builtin .append, args := #[s, x], argTypes := #[t, t] }) (H : Nat) (i : TypeInfo) (z : Value) (size bytes : Nat) (ht : Tryd.prog.underlying t = some (.slice e)) (hi : Tryd.prog.info? e = some i) (hz : i.zero = some z)
    (hsize : i.size = size) (hby : i.bytes = bytes) (hzs : z.cells.size = size) (hsz : 0 < size) (hb : bytes ≤ 1000) (v : Value) (n : Nat) (xs : List Value) (hs : a.eval s = v) (hown : w.ownsRow H e size v n xs)
    (oa : Option Addr) (m c : Nat) (hx : a.eval x = .slice oa m c) (news : List Value) (hm : news.length = m * size) (hn : ∀ (j : Nat) u, news[j]? = some u → ∃ ad, oa = some ad ∧ w.cell? (ad.add j) = some u) (h1 : ∀ u ∈ news, u.oneCell' = true)
    (hlen : n + m ≤ 100000) (hH : H ≤ w.heap.size) (h : ∀ v' w', w'.ownsRow H e size v' (n + m) (xs ++ news) → w.grownBy w' v.ownBlock → wpList Tryd.prog ops Q rest (a.put o.dst v') w') : wpList Tryd.prog ops Q (o :: rest) a w := by
  cases oa with
  | none =>
    have hnil : news = [] := by
      cases news with
      | nil => rfl
      | cons z r =>
        obtain ⟨ad, he, _⟩ := hn 0 z rfl
        cases he
    subst hnil
    obtain rfl : m = 0 := by
      rcases Nat.eq_zero_or_pos m with h0 | h0
      · exact h0
      · have := Nat.mul_pos h0 hsz
        simp at hm
        omega
    refine wpList_plain hgd fun K hK => ?_
    have hrun : (Builtin.append_ #[t, t] o.type #[v, .slice none 0 c]).run Tryd.prog w = .ok v w := by
      rcases hown.2 with ⟨rfl, h0⟩ | ⟨g, cap, cur, rfl, _, _, hnc, _⟩
      · simp [Builtin.append_, run_underlying ht, sizeOf, typeInfo, hi, Builtin.lenOf, Builtin.firstCells]
      · simp [Builtin.append_, run_underlying ht, sizeOf, typeInfo, hi, Builtin.lenOf, Builtin.firstCells, hnc, storeCells]
    unfold Oper.wp
    simp [execOp, ho, resolve, invoke, builtin, hs, hx, hrun, Result.andThen]
    exact hK _ _ (h v w (by simpa using hown) (World.grownBy.refl w _))
  | some ad =>
    have hbb : (n + m) * bytes ≤ 140737488355328 := Nat.le_trans (Nat.mul_le_mul hlen hb) (by decide)
    exact wpList_append_own w hgd s x t ho H e i z size bytes ht hi hz hsize hby hzs hsz v n xs hs hown ad m c news hx hm (fun j u hu => by
        obtain ⟨ad', he, hc⟩ := hn j u hu
        cases he
        exact hc)
      h1 (by unfold maxLen; omega) hbb hH fun v' w' k1 k2 _ => h v' w' k1 k2
end
theorem infoPr : (Tryd.prog.info? 75).map (fun i => (i.zero, i.size, i.bytes)) = some (some (.agg #[.int .u64 0, .int .u64 0]), 2, 16) := by kernel_rfl
/-- The cells of pairs. -/
def cP2 (F : List P2) : List Value := F.flatMap fun z => [Value.int .u64 z.1, .int .u64 z.2]
theorem p2_cons (z : P2) (F : List P2) : cP2 (z :: F) = [Value.int .u64 z.1, .int .u64 z.2] ++ cP2 F := by unfold cP2; rw [List.flatMap_cons]
theorem p2_len (F : List P2) : (cP2 F).length = F.length * 2 := by
  induction F with
  | nil => rfl
  | cons g G ih => rw [p2_cons, List.length_append, ih, List.length_cons]; simp; omega
theorem p2_app (F H : List P2) : cP2 (F ++ H) = cP2 F ++ cP2 H := by unfold cP2; rw [List.flatMap_append]
theorem p2_at : ∀ (F : List P2) (k : Nat) (z : P2) (j : Nat) (u : Value), F[k]? = some z → ([Value.int .u64 z.1, .int .u64 z.2])[j]? = some u → (cP2 F)[k * 2 + j]? = some u
  | [], k, z, j, u, h, _ => by simp at h
  | a :: F, 0, z, j, u, h, hu => by
    cases h
    rw [p2_cons, Nat.zero_mul, Nat.zero_add, List.getElem?_append_left (by have := (List.getElem?_eq_some_iff.1 hu).1; simpa using this)]
    exact hu
  | a :: F, k + 1, z, j, u, h, hu => by
    have ih := p2_at F k z j u (by simpa using h) hu
    rw [p2_cons, List.getElem?_append_right (by simp; omega), show (k + 1) * 2 + j - [Value.int .u64 a.1, .int .u64 a.2].length = k * 2 + j by simp; omega]
    exact ih
theorem p2_one (F : List P2) : ∀ u ∈ cP2 F, u.oneCell' = true := fun u hu => by
  unfold cP2 at hu
  rw [List.mem_flatMap] at hu
  obtain ⟨s, _, h⟩ := hu
  simp at h
  rcases h with rfl | rfl <;> rfl
/-- A pair in a box. -/
def B2 (w : World) (b : Nat) (z : P2) : Prop := w.heap[b]? = some (.cells #[.int .u64 z.1, .int .u64 z.2] 75 (0, 0))
theorem B2.cells {w : World} {b : Nat} {z : P2} (h : B2 w b z) : w.cell? ⟨b, 0, none⟩ = some (.int .u64 z.1) ∧ w.cell? ⟨b, 1, none⟩ = some (.int .u64 z.2) := by
  unfold World.cell?
  rw [h]
  exact ⟨rfl, rfl⟩
theorem B2.free {w : World} {b : Nat} {z : P2} (h : B2 w b z) (k : Nat) : w.frozen? ⟨b, k, none⟩ = false := by unfold World.frozen?; rw [h]; simp
theorem B2.lt {w : World} {b : Nat} {z : P2} (h : B2 w b z) : b < w.heap.size := (Array.getElem?_eq_some_iff.1 h).1
theorem B2.later {w w' : World} {b B : Nat} {z : P2} (h : B2 w b z) (hb : Below B w w') (hn : b < B) : B2 w' b z := (hb.block b hn).trans h
theorem B2.set {w : World} {b : Nat} {z : P2} (h : B2 w b z) (k : P2) : B2 ((w.setCell ⟨b, 0, none⟩ (.int .u64 k.1)).setCell ⟨b, 1, none⟩ (.int .u64 k.2)) b k := by
  unfold B2 at *
  simp [World.setCell, Array.getElem?_modify, h]
/-- Pairs that are read, below a block. -/
def RP (w : World) (B : Nat) (o : Option Addr) (F : List P2) : Prop := ∀ (k : Nat) (z : P2), F[k]? = some z → ∃ g, o = some ⟨g, 0, none⟩ ∧ g < B ∧ w.cell? ⟨g, k * 2, none⟩ = some (.int .u64 z.1) ∧ w.cell? ⟨g, k * 2 + 1, none⟩ = some (.int .u64 z.2)
theorem RP.of_own {w : World} {base : Nat} {o : Option Addr} {n c : Nat} {F : List P2} (h : w.ownsRow base 75 2 (.slice o n c) F.length (cP2 F)) : RP w w.heap.size o F := fun k z hz => by
  have hk := (List.getElem?_eq_some_iff.1 hz).1
  rcases h.2 with ⟨hv, h0⟩ | ⟨g, cap, cur, hv, hg, hh, hcap, _, hsz, htk⟩
  · omega
  · cases hv
    refine ⟨g, rfl, (Array.getElem?_eq_some_iff.1 hh).1, ?_, ?_⟩
    · have hc := World.ownsRow.cellAt h (k * 2) (by omega)
      rw [hc]
      exact p2_at F k z 0 _ hz rfl
    · have hc := World.ownsRow.cellAt h (k * 2 + 1) (by omega)
      rw [hc]
      exact p2_at F k z 1 _ hz rfl
theorem RP.later {w w' : World} {B C : Nat} {o : Option Addr} {F : List P2} (h : RP w B o F) (hb : Below B w w') (hC : B ≤ C) : RP w' C o F := fun k z hz => by
  obtain ⟨g, h1, h2, h3, h4⟩ := h k z hz
  exact ⟨g, h1, by omega, (hb.cell (p := ⟨g, k * 2, none⟩) h2).trans h3, (hb.cell (p := ⟨g, k * 2 + 1, none⟩) h2).trans h4⟩
/-- Where a pair is looked for: not among the first j, or found. -/
def Lk (F : List P2) (y : P2) (at_ : Int) (j : Nat) : Prop := (at_ = -1 ∧ ∀ i, i < j → F[i]? ≠ some y) ∨ ∃ k : Nat, at_ = (k : Int) ∧ idxL F y = some k
theorem idx_of {F : List P2} {y : P2} {k : Nat} (hk : F[k]? = some y) (hn : ∀ i, i < k → F[i]? ≠ some y) : idxL F y = some k := by
  induction F generalizing k with
  | nil => simp at hk
  | cons a F ih =>
    rw [idxL]
    by_cases he : a = y
    · rw [if_pos he]
      cases k with
      | zero => rfl
      | succ k => exact absurd (by rw [he]; rfl) (hn 0 (by omega))
    · rw [if_neg he]
      cases k with
      | zero => exact absurd (Option.some.inj hk) he
      | succ k =>
        rw [ih (k := k) (by simpa using hk) (fun i hi h => hn (i + 1) (by omega) (by simpa using h))]
        rfl
theorem idx_none_of {F : List P2} {y : P2} (hn : ∀ i, i < F.length → F[i]? ≠ some y) : idxL F y = none := by
  cases h : idxL F y with
  | none => rfl
  | some k => exact absurd (idxL_some h) (hn k (idxL_lt h))
set_option maxRecDepth 100000 in
set_option maxHeartbeats 12800000 in
theorem reached_any (p q : Pa) (ss tt : List S4) (fs us : List Int) (w : World) (B : Nat) (o1 o2 o3 o4 : Option Addr) (c1 c2 c3 c4 : Nat) (h : RM w B o1 o2 ss fs) (h' : RM w B o3 o4 tt us) (hB : B ≤ w.heap.size) :
    Calls Tryd.prog 23 #[mV p (.slice o1 ss.length c1) (.slice o2 fs.length c2), mV q (.slice o3 tt.length c3) (.slice o4 us.length c4)] w fun e w' => (∃ of cf ve, e = .returned (.tuple #[.slice of (exR (nextR ((ss, fs), p) ((tt, us), q) (grps ((ss, fs), p) ((tt, us), q))) 4098 [(begZ, begZ)] []).1.length cf, ve]) ∧ RP w' w'.heap.size of (exR (nextR ((ss, fs), p) ((tt, us), q) (grps ((ss, fs), p) ((tt, us), q))) 4098 [(begZ, begZ)] []).1 ∧ ∃ base, EdA w' base w'.heap.size ve (exR (nextR ((ss, fs), p) ((tt, us), q) (grps ((ss, fs), p) ((tt, us), q))) 4098 [(begZ, begZ)] []).2) ∧ Below w.heap.size w w' := by
  obtain ⟨i0, hi, hz0, hz1, hz2⟩ := info_parts infoPr
  obtain ⟨j0, hj, hy0, hy1, hy2⟩ := info_parts infoI
  obtain ⟨l0, hl, hx0, hx1, hx2⟩ := info_parts infoL
  obtain ⟨w1, hw1⟩ : ∃ w1, w1 = (w.alloc (.cells #[.bool p.e, .int .u64 p.f, .int .u64 p.t, .slice o1 ss.length c1, .slice o2 fs.length c2] 68)).alloc (.cells #[.bool q.e, .int .u64 q.f, .int .u64 q.t, .slice o3 tt.length c3, .slice o4 us.length c4] 68) := ⟨_, rfl⟩
  have HW1 := Lib.hid hw1
  have hs1 : w1.heap.size = w.heap.size + 2 := by rw [hw1]; simp
  have hb1 : Below w.heap.size w w1 := by rw [hw1]; exact below2 _ _ _
  have HB1 := Lib.hid hb1
  have HM1 : Hid (M5 w1 w.heap.size p (.slice o1 ss.length c1) (.slice o2 fs.length c2)) := Lib.hid (by rw [hw1]; exact old_at (top_at _ _ rfl) _)
  have HN1 : Hid (M5 w1 (w.heap.size + 1) q (.slice o3 tt.length c3) (.slice o4 us.length c4)) := Lib.hid (by rw [hw1]; exact top_at _ _ (by simp))
  have HR := Lib.hid h
  have HR' := Lib.hid h'
  have hG0 : 0 < (grps ((ss, fs), p) ((tt, us), q)).length := by
    obtain ⟨_, _, h3, _⟩ := gAll_spec (r := ((ss, fs), p)) (r' := ((tt, us), q)) alB [] List.Pairwise.nil (fun g hg => by simp at hg)
    obtain ⟨g, hg, _⟩ := h3 32 (alB_mem.2 (by omega))
    exact List.length_pos_of_mem hg
  have HGC := Lib.hid (groups_any p q ss tt fs us w1 B o1 o2 o3 o4 c1 c2 c3 c4 (h.later (hb1.mono hB) (Nat.le_refl _)) (h'.later (hb1.mono hB) (Nat.le_refl _)) (by omega))
  obtain ⟨m0, m1, m2, m3, m4⟩ := HM1.out.cells
  obtain ⟨n0, n1, n2, n3, n4⟩ := HN1.out.cells
  generalize grps ((ss, fs), p) ((tt, us), q) = G at *
  obtain ⟨NX, hNX⟩ : ∃ NX, NX = nextR ((ss, fs), p) ((tt, us), q) G := ⟨_, rfl⟩
  have HNX := Lib.hid hNX
  rw [← hNX]
  obtain ⟨RES, hRES⟩ : ∃ RES, RES = exR NX 4098 [(begZ, begZ)] [] := ⟨_, rfl⟩
  have HE0 := Lib.hid hRES
  rw [← hRES]
  clear hw1 h h' hb1 hRES hNX
  unfold mV at HGC ⊢
  go_enter Tryd.func23, Tryd.ntmps23
  go_wp2_with fail
  rw [← HW1.out]
  refine HGC.out.mono ?_
  rintro e w2 ⟨⟨og, cg, rfl, hrg, hGl⟩, hb2⟩
  have hs2 := hb2.size
  have HRG := Lib.hid hrg
  have HB2 := Lib.hid hb2
  have HO2 : Hid ((w2.alloc (.cells #[.int .u64 begZ, .int .u64 begZ] 75)).ownsRow w2.heap.size 75 2 (.slice (some ⟨w2.heap.size, 0, none⟩) [((begZ, begZ) : P2)].length 1) [((begZ, begZ) : P2)].length (cP2 [(begZ, begZ)])) := Lib.hid (World.ownsRow_lit w2 #[.int .u64 begZ, .int .u64 begZ] 1 (Nat.le_refl _) (by decide) rfl)
  have HD2 : Hid (EdA (w2.alloc (.cells #[.int .u64 begZ, .int .u64 begZ] 75)) w2.heap.size (w2.alloc (.cells #[.int .u64 begZ, .int .u64 begZ] 75)).heap.size (.slice none 0 0) []) := Lib.hid (EdA.nil _ _ _)
  have HU2 : Hid (∀ z : P2, z ∈ [((begZ, begZ) : P2)] → U6 z.1 ∧ U6 z.2) := Lib.hid (fun z hz => by rw [List.mem_singleton.1 hz]; exact ⟨beg_u, beg_u⟩)
  have hGI : (G.length : Int) ≤ 95 := by omega
  clear hrg hb2 HGC m0 m1 m2 m3 m4 n0 n1 n2 n3 n4
  go_wp2_with fail
  unfold begZ at HO2 HD2
  go_loopg [7, 8, 9] 4100 (fun gk v7 v8 v9 wr => ∃ (F : List P2) (E : List (List Nat)) (o oe : Option Addr) (c ce : Nat), v7 = .slice o F.length c ∧ v8 = .slice oe E.length ce ∧ v9 = .int .i64 (E.length : Int) ∧ E.length + gk = 4100 ∧ E.length ≤ F.length ∧ E.length ≤ 4097 ∧ F.length ≤ 4191 ∧ Hid (RES = exR NX (4098 - E.length) F E) ∧ Hid (wr.ownsRow w2.heap.size 75 2 (.slice o F.length c) F.length (cP2 F)) ∧ Hid (EdA wr w2.heap.size wr.heap.size (.slice oe E.length ce) E) ∧ Hid (∀ z : P2, z ∈ F → U6 z.1 ∧ U6 z.2) ∧ Hid (Below w2.heap.size w2 wr) ∧ w2.heap.size ≤ wr.heap.size)
  case atStart => exact ⟨[(begZ, begZ)], [], some ⟨w2.heap.size, 0, none⟩, none, 1, 0, rfl, rfl, rfl, by simp, by simp, by simp, by simp, HE0, HO2, HD2, HU2, Lib.hid (below1 _ _), by simp⟩
  case round =>
    obtain ⟨F, E, o, oe, c, ce, rfl, rfl, rfl, hgk, hEF, hE4, hF4, HE, HO, HD, HU, HBr, hsr⟩ := hrel
    clear HO2 HD2 HU2 HE0
    obtain ⟨wo, hwo⟩ : ∃ wo : World, wo = wr := ⟨_, rfl⟩
    subst hwo
    by_cases hlt : E.length < F.length
    · have hltI : (E.length : Int) < (F.length : Int) := by omega
      have hi0 : (0 : Int) ≤ (E.length : Int) := by omega
      obtain ⟨z, hz⟩ : ∃ z, F[E.length]? = some z := ⟨_, List.getElem?_eq_getElem hlt⟩
      obtain ⟨gh, rfl⟩ : ∃ gh, gk = gh + 1 := ⟨gk - 1, by omega⟩
      obtain ⟨f, hf⟩ : ∃ f, 4098 - E.length = f + 1 := ⟨4097 - E.length, by omega⟩
      by_cases hbig : 4096 < F.length
      · have hbI : ¬ ((F.length : Int) ≤ 4096) := by omega
        have hR : RES = (F, E) := by rw [HE.out, hf, exR, hz]; dsimp only; rw [if_pos hbig]
        subst hR
        have HRP := Lib.hid (RP.of_own HO.out)
        have HBf := Lib.hid (HB1.out.trans ((HB2.out.trans (HBr.out.mono hs2)).mono (by omega)))
        clear HE HO hz
        go_wp2_with fail
        go_ret2
        exact ⟨⟨o, c, .slice oe E.length ce, rfl, HRP.out, ⟨_, HD.out⟩⟩, HBf.out⟩
      · have hsI : (F.length : Int) ≤ 4096 := by omega
        have HE1 : Hid (RES = exR NX f (addsE F (NX z) []).1 (E ++ [(addsE F (NX z) []).2])) := Lib.hid (by rw [HE.out, hf, exR, hz]; dsimp only; rw [if_neg hbig])
        have HT0 : Hid (OwnI wo wo.heap.size (.slice none 0 0) []) := Lib.hid ⟨rfl, .inl ⟨rfl, rfl⟩⟩
        have HA0 : Hid (addsE F (NX z) [] = addsE F ((NX z).drop 0) []) := Lib.hid (by rw [List.drop_zero])
        have HZ0 := Lib.hid hz
        have HUz := Lib.hid (HU.out z (List.mem_of_getElem? hz))
        have HNL : Hid ((NX z).length = G.length) := Lib.hid (by rw [HNX.out]; unfold nextR; rw [List.length_map])
        have HBo : Hid (Below wo.heap.size wo wo) := Lib.hid (Below.refl _ _)
        clear HE hz
        go_wp2_with fail
        go_loopg [7, 10, 11] (G.length + 1) (fun gk v7 v10 v11 wr => ∃ (k : Nat) (Fc : List P2) (T : List Nat) (ol ot : Option Addr) (cl ct : Nat), v7 = .slice ol Fc.length cl ∧ v10 = .slice ot T.length ct ∧ v11 = .int .i64 (k : Int) ∧ k + gk = G.length + 1 ∧ k ≤ G.length ∧ Hid (T.length = k) ∧ F.length ≤ Fc.length ∧ Fc.length ≤ F.length + k ∧ Hid (Fc[E.length]? = some z) ∧ Hid (addsE F (NX z) [] = addsE Fc ((NX z).drop k) T) ∧ Hid (∀ z : P2, z ∈ Fc → U6 z.1 ∧ U6 z.2) ∧ Hid (wr.ownsRow w2.heap.size 75 2 (.slice ol Fc.length cl) Fc.length (cP2 Fc)) ∧ Hid (OwnI wr wo.heap.size (.slice ot T.length ct) T) ∧ Hid (EdA wr w2.heap.size wo.heap.size (.slice oe E.length ce) E) ∧ Hid (Below w2.heap.size w2 wr) ∧ wo.heap.size ≤ wr.heap.size)
        case atStart => exact ⟨0, F, [], o, none, c, 0, rfl, rfl, rfl, by omega, Nat.zero_le _, Lib.hid rfl, Nat.le_refl _, Nat.le_add_right _ _, HZ0, HA0, HU, HO, HT0, HD, HBr, Nat.le_refl _⟩
        case round =>
          obtain ⟨k, Fc, T, ol, ot, cl, ct, rfl, rfl, rfl, hkk, hkG, HTk, hFc1, hFc2, HZc, HA, HUc, HOc, HTc, HDc, HBc, hsc⟩ := hrel
          clear HT0 HA0 HZ0 HBo
          obtain ⟨w3, hw3⟩ : ∃ w3 : World, w3 = wr := ⟨_, rfl⟩
          subst hw3
          by_cases hlt2 : k < G.length
          · have hltI2 : (k : Int) < (G.length : Int) := by omega
            have hk0 : (0 : Int) ≤ (k : Int) := by omega
            have hwk : IntKind.i64.wrap ((k : Int) + 1) = ((k + 1 : Nat) : Int) := by rw [IntWalk.i64_in _ (by omega)]; omega
            obtain ⟨gj, rfl⟩ : ∃ gj, gk = gj + 1 := ⟨gk - 1, by omega⟩
            have hEc : (E.length : Int) < (Fc.length : Int) := by omega
            have hFcI : (Fc.length : Int) ≤ 4191 := by omega
            obtain ⟨g2, hg2⟩ : ∃ g2, G[k]? = some g2 := ⟨_, List.getElem?_eq_getElem hlt2⟩
            obtain ⟨gl, rfl⟩ : ∃ gl, ol = some ⟨gl, 0, none⟩ := by
              rcases HOc.out.2 with ⟨hv, h0⟩ | ⟨g, cap, cur, hv, _⟩
              · omega
              · cases hv; exact ⟨g, rfl⟩
            have hglt := (own_lt HOc.out gl rfl).2
            obtain ⟨gg, hog, hggB, hgc⟩ := HRG.out.at_ hg2
            obtain ⟨y, hy⟩ : ∃ y : P2, y = (bits BinOp.and IntKind.u64 (nxtR p fs z.1) g2.1, bits BinOp.and IntKind.u64 (nxtR q us z.2) g2.2.1) := ⟨_, rfl⟩
            have hNy : (NX z)[k]? = some y := by
              rw [HNX.out, hy]
              unfold nextR
              rw [List.getElem?_map, hg2]
              rfl
            have hdr : (NX z).drop k = y :: (NX z).drop (k + 1) := by rw [List.drop_eq_getElem_cons (List.getElem?_eq_some_iff.1 hNy).1, (List.getElem?_eq_some_iff.1 hNy).2]
            have HDR := Lib.hid hdr
            have HY := Lib.hid hy
            have HUy : Hid (U6 y.1 ∧ U6 y.2) := Lib.hid (by rw [hy]; exact ⟨and_u _ _, and_u _ _⟩)
            have lat : ∀ V, Below w3.heap.size w3 V → Below w.heap.size w V := fun V hV => HB1.out.trans ((HB2.out.trans ((HBc.out.trans (hV.mono (by omega))).mono hs2)).mono (by omega))
            have HH1 := Lib.hid (fun (V : World) (hV : Below w3.heap.size w3 V) => next_any p ss fs z.1 HUz.out.1 V B o1 o2 ss.length fs.length c1 c2 (HR.out.later ((lat V hV).mono hB) (Nat.le_refl _)) (by have := hV.size; omega) rfl rfl)
            have HH2 := Lib.hid (fun (V : World) (hV : Below w3.heap.size w3 V) => next_any q tt us z.2 HUz.out.2 V B o3 o4 tt.length us.length c3 c4 (HR'.out.later ((lat V hV).mono hB) (Nat.le_refl _)) (by have := hV.size; omega) rfl rfl)
            have HVM : Hid (∀ V, Below w3.heap.size w3 V → ((V.cell? ⟨w.heap.size, 0, none⟩ = some (.bool p.e) ∧ V.cell? ⟨w.heap.size, 1, none⟩ = some (.int .u64 p.f) ∧ V.cell? ⟨w.heap.size, 2, none⟩ = some (.int .u64 p.t) ∧ V.cell? ⟨w.heap.size, 3, none⟩ = some (.slice o1 ss.length c1) ∧ V.cell? ⟨w.heap.size, 4, none⟩ = some (.slice o2 fs.length c2)) ∧ (V.cell? ⟨w.heap.size + 1, 0, none⟩ = some (.bool q.e) ∧ V.cell? ⟨w.heap.size + 1, 1, none⟩ = some (.int .u64 q.f) ∧ V.cell? ⟨w.heap.size + 1, 2, none⟩ = some (.int .u64 q.t) ∧ V.cell? ⟨w.heap.size + 1, 3, none⟩ = some (.slice o3 tt.length c3) ∧ V.cell? ⟨w.heap.size + 1, 4, none⟩ = some (.slice o4 us.length c4)) ∧ (V.cell? ⟨gl, E.length * 2, none⟩ = some (.int .u64 z.1) ∧ V.cell? ⟨gl, E.length * 2 + 1, none⟩ = some (.int .u64 z.2) ∧ V.cell? ⟨gg, k * 3, none⟩ = some (.int .u64 g2.1) ∧ V.cell? ⟨gg, k * 3 + 1, none⟩ = some (.int .u64 g2.2.1)))) := Lib.hid (fun V hV => by
              have hl1 : Below w1.heap.size w1 V := HB2.out.trans ((HBc.out.trans (hV.mono (by omega))).mono hs2)
              have hl2 : Below w2.heap.size w2 V := HBc.out.trans (hV.mono (by omega))
              have e0 := World.ownsRow.cellAt HOc.out (E.length * 2) (by omega)
              have e1 := World.ownsRow.cellAt HOc.out (E.length * 2 + 1) (by omega)
              have e0' := p2_at Fc E.length z 0 _ HZc.out rfl
              rw [Nat.add_zero] at e0'
              rw [e0'] at e0
              rw [p2_at Fc E.length z 1 _ HZc.out rfl] at e1
              have f0 := hgc 0 _ rfl
              rw [Nat.add_zero] at f0
              exact ⟨(HM1.out.later hl1 (by omega)).cells, (HN1.out.later hl1 (by omega)).cells, (hV.cell (p := ⟨gl, E.length * 2, none⟩) hglt).trans e0, (hV.cell (p := ⟨gl, E.length * 2 + 1, none⟩) hglt).trans e1, (hl2.cell (p := ⟨gg, k * 3, none⟩) hggB).trans f0, (hl2.cell (p := ⟨gg, k * 3 + 1, none⟩) hggB).trans (hgc 1 _ rfl)⟩)
            have HOG := Lib.hid hog
            subst hog
            generalize hq1 : nxtR p fs z.1 = q1 at *
            generalize hq2 : nxtR q us z.2 = q2 at *
            unfold mV at HH1 HH2
            obtain ⟨u0, v0, x0, x1, x2, x3⟩ := HVM.out w3.drew (Below.refl _ _).drew
            obtain ⟨u0, u1, u2, u3, u4⟩ := u0
            obtain ⟨v0, v1, v2, v3, v4⟩ := v0
            have HZ0 : Hid (Below w3.heap.size w3 w3.drew) := Lib.hid (Below.refl _ _).drew
            have HK : Hid (∀ (V : World) (o : Obj), Below w3.heap.size w3 V → Below w3.heap.size w3 (V.alloc o)) := Lib.hid (fun V o h => h.alloc h.size o)
            have HD' : Hid (∀ (V : World), Below w3.heap.size w3 V → Below w3.heap.size w3 V.drew) := Lib.hid (fun V h => h.drew)
            have HP : Hid (∀ (V : World) (b k : Nat) (u : Value), Below w3.heap.size w3 V → w3.heap.size ≤ b → Below w3.heap.size w3 (V.setCell ⟨b, k, none⟩ u)) := Lib.hid (fun V b k u h hb => h.setCell (p := ⟨b, k, none⟩) hb u)
            clear lat hgc hNy hdr hg2
            go_upto_region 11 with fail
            go_cut [12] (fun s12 wx => ∃ b7 : Nat, s12 = .pointer (some ⟨b7, 0, none⟩) ∧ Hid (B2 wx b7 y) ∧ Hid (Below w3.heap.size w3 wx) ∧ w3.heap.size ≤ b7)
            case first =>
              go_region_held3 (fun V => ((V.cell? ⟨w.heap.size, 0, none⟩ = some (.bool p.e) ∧ V.cell? ⟨w.heap.size, 1, none⟩ = some (.int .u64 p.f) ∧ V.cell? ⟨w.heap.size, 2, none⟩ = some (.int .u64 p.t) ∧ V.cell? ⟨w.heap.size, 3, none⟩ = some (.slice o1 ss.length c1) ∧ V.cell? ⟨w.heap.size, 4, none⟩ = some (.slice o2 fs.length c2)) ∧ (V.cell? ⟨w.heap.size + 1, 0, none⟩ = some (.bool q.e) ∧ V.cell? ⟨w.heap.size + 1, 1, none⟩ = some (.int .u64 q.f) ∧ V.cell? ⟨w.heap.size + 1, 2, none⟩ = some (.int .u64 q.t) ∧ V.cell? ⟨w.heap.size + 1, 3, none⟩ = some (.slice o3 tt.length c3) ∧ V.cell? ⟨w.heap.size + 1, 4, none⟩ = some (.slice o4 us.length c4)) ∧ (V.cell? ⟨gl, E.length * 2, none⟩ = some (.int .u64 z.1) ∧ V.cell? ⟨gl, E.length * 2 + 1, none⟩ = some (.int .u64 z.2) ∧ V.cell? ⟨gg, k * 3, none⟩ = some (.int .u64 g2.1) ∧ V.cell? ⟨gg, k * 3 + 1, none⟩ = some (.int .u64 g2.2.1)))) (exact HVM.out _ (by repeat' (first | with_reducible exact HZ0.out | with_reducible exact HB6.out | with_reducible exact HB5.out | with_reducible exact Below.refl _ _ | with_reducible refine HK.out _ _ ?_ | with_reducible refine HP.out _ _ _ _ ?_ ?_ | with_reducible refine HD'.out _ ?_ | exact Nat.le_refl _ | omega))) (first
                | (have hz := HB5; clear hz; go_simp; go_at_call 34; refine (HH2.out _ (by repeat' (first | with_reducible exact HZ0.out | with_reducible exact HB5.out | with_reducible exact Below.refl _ _ | with_reducible refine HK.out _ _ ?_ | with_reducible refine HD'.out _ ?_))).mono ?_; rintro e w6 ⟨rfl, hb6⟩
                   have HQ6 := Lib.hid hb6
                   have HB6 : Hid (Below w3.heap.size w3 w6) := Lib.hid (Below.trans (by repeat' (first | with_reducible exact HZ0.out | with_reducible exact HB5.out | with_reducible exact Below.refl _ _ | with_reducible refine HK.out _ _ ?_ | with_reducible refine HD'.out _ ?_)) (hb6.mono (by have := HB5.out.size; first | omega | (simp; done) | (simp; omega))))
                   have hs6 := HB6.out.size
                   (first
                     | (have hx : B2 w6 w3.heap.size (0, 0) := (HX5.out.later HQ6.out (by have := HX5.out.lt; first | omega | (simp; omega))); have HX := Lib.hid hx; have hxl := hx.lt; obtain ⟨j0', j1'⟩ := hx.cells; have jf0 := hx.free 0; have jf1 := hx.free 1; clear hx)
                     | (have hx : B2 w6 w5.heap.size (0, 0) := (HQ6.out.block _ (by first | (simp; done) | (simp; omega))).trans (by exact top_at _ _ rfl); have HX := Lib.hid hx; have hxl := hx.lt; obtain ⟨j0', j1'⟩ := hx.cells; have jf0 := hx.free 0; have jf1 := hx.free 1; clear hx)
                     | skip)
                   clear hb6
                   try dsimp only)
                | (go_simp; go_at_call 34; refine (HH1.out _ (by repeat' (first | with_reducible exact HZ0.out | with_reducible exact Below.refl _ _ | with_reducible refine HK.out _ _ ?_ | with_reducible refine HD'.out _ ?_))).mono ?_; rintro e w5 ⟨rfl, hb5⟩
                   have HQ5 := Lib.hid hb5
                   have HB5 : Hid (Below w3.heap.size w3 w5) := Lib.hid (Below.trans (by repeat' (first | with_reducible exact HZ0.out | with_reducible exact Below.refl _ _ | with_reducible refine HK.out _ _ ?_ | with_reducible refine HD'.out _ ?_)) (hb5.mono (by first | omega | (simp; done) | (simp; omega))))
                   have hs5 := HB5.out.size
                   (first
                     | (have hx : B2 w5 w3.heap.size (0, 0) := (HQ5.out.block _ (by first | (simp; done) | (simp; omega))).trans (by exact top_at _ _ rfl); have HX5 := Lib.hid hx; clear hx)
                     | skip)
                   clear hb5
                   try dsimp only))
              all_goals
                go_wp2_with fail
                go_meet
                have hy0 := HY.out
                first
                  | exact ⟨_, rfl, Lib.hid (by rw [hy0]; exact HX.out.set (_, _)), Lib.hid (HP.out _ _ _ _ (HP.out _ _ _ _ HB6.out (by first | omega | (simp; omega) | exact Nat.le_refl _)) (by first | omega | (simp; omega) | exact Nat.le_refl _)), by first | omega | exact Nat.le_refl _⟩
                  | exact ⟨_, rfl, Lib.hid (by rw [hy0]; exact top_at _ _ rfl), Lib.hid (HK.out _ _ HB6.out), hs6⟩
            case rest =>
              obtain ⟨b7, rfl, HB7, HBx, hb7⟩ := hcut
              have hOx := own_keep HOc.out (fun q cur hq _ => below_keep HBx.out hq)
              have HOx := Lib.hid hOx
              have hTx : OwnI wc wo.heap.size (.slice ot T.length ct) T := own_keep HTc.out (fun q cur hq _ => below_keep HBx.out hq)
              have HTx := Lib.hid hTx
              have HDx := Lib.hid (HDc.out.below HBx.out)
              have HBy := Lib.hid (HBc.out.trans (HBx.out.mono (by omega)))
              have hsx : wo.heap.size ≤ wc.heap.size := Nat.le_trans hsc HBx.out.size
              have hglb : gl < b7 := by omega
              have HLk : Hid (Lk Fc y (-1) 0) := Lib.hid (.inl ⟨rfl, fun i hi => absurd hi (Nat.not_lt_zero i)⟩)
              clear HOc HTc HDc HBc HBx u0 u1 u2 u3 u4 v0 v1 v2 v3 v4 x0 x1 x2 x3 HH1 HH2 HVM HZ0 HK HD' HP hOx hTx hq1 hq2 hy HY
              go_wp2_with fail
              go_loopg [13, 14] (Fc.length + 1) (fun gj va v wr => ∃ (at_ : Int) (j : Nat), va = .int .i64 at_ ∧ v = .int .i64 (j : Int) ∧ j + gj = Fc.length + 1 ∧ j ≤ Fc.length ∧ Hid (Lk Fc y at_ j) ∧ Hid (wr.ownsRow w2.heap.size 75 2 (.slice (some ⟨gl, 0, none⟩) Fc.length cl) Fc.length (cP2 Fc)) ∧ Hid (OwnI wr wo.heap.size (.slice ot T.length ct) T) ∧ Hid (EdA wr w2.heap.size wo.heap.size (.slice oe E.length ce) E) ∧ Hid (Below w2.heap.size w2 wr) ∧ Hid (B2 wr b7 y) ∧ wo.heap.size ≤ wr.heap.size)
              case atStart => exact ⟨-1, 0, rfl, rfl, by omega, Nat.zero_le _, HLk, HOx, HTx, HDx, HBy, HB7, hsx⟩
              case round =>
                obtain ⟨at_, j, rfl, rfl, hjg, hjl, HLi, HOi, HTi, HDi, HBi, HYi, hsi⟩ := hrel
                clear HOx HTx HDx HBy HB7 HLk
                obtain ⟨y0, y1⟩ := HYi.out.cells
                have y0' : wr.drew.cell? ⟨b7, 0, none⟩ = some (.int .u64 y.1) := y0
                have y1' : wr.drew.cell? ⟨b7, 1, none⟩ = some (.int .u64 y.2) := y1
                rcases HLi.out with ⟨rfl, hnj⟩ | ⟨m, rfl, hm⟩
                · have HNJ := Lib.hid hnj
                  clear hnj
                  by_cases hlt3 : j < Fc.length
                  · have hltI3 : (j : Int) < (Fc.length : Int) := by omega
                    have hj0 : (0 : Int) ≤ (j : Int) := by omega
                    have hwj : IntKind.i64.wrap ((j : Int) + 1) = ((j + 1 : Nat) : Int) := by rw [IntWalk.i64_in _ (by omega)]; omega
                    obtain ⟨gi', rfl⟩ : ∃ gi', gk = gi' + 1 := ⟨gk - 1, by omega⟩
                    obtain ⟨zj, hzj⟩ : ∃ zj, Fc[j]? = some zj := ⟨_, List.getElem?_eq_getElem hlt3⟩
                    have HZJ := Lib.hid hzj
                    have e0 := World.ownsRow.cellAt HOi.out (j * 2) (by omega)
                    have e1 := World.ownsRow.cellAt HOi.out (j * 2 + 1) (by omega)
                    have e0' := p2_at Fc j zj 0 _ hzj rfl
                    rw [Nat.add_zero] at e0'
                    rw [e0'] at e0
                    rw [p2_at Fc j zj 1 _ hzj rfl] at e1
                    have z0 : wr.drew.cell? ⟨gl, j * 2, none⟩ = some (.int .u64 zj.1) := e0
                    have z1 : wr.drew.cell? ⟨gl, j * 2 + 1, none⟩ = some (.int .u64 zj.2) := e1
                    clear hzj e0'
                    by_cases he : zj = y
                    · subst he
                      go_wp2_with fail
                      go_region
                      all_goals
                        go_wp2_with fail
                        go_roundg gi'
                        case measure => omega
                        case rel => exact ⟨(j : Int), j + 1, by first | rfl | go_num, by first | rfl | go_num, by omega, hlt3, Lib.hid (.inr ⟨j, rfl, idx_of HZJ.out HNJ.out⟩), HOi, HTi, HDi, Lib.hid HBi.out.drew, HYi, hsi⟩
                    · have hne : zj.1 == y.1 → zj.2 == y.2 → False := fun h1 h2 => he (Prod.ext (by simpa using h1) (by simpa using h2))
                      cases e3 : zj.1 == y.1
                      · go_wp2_with fail
                        go_region
                        all_goals
                          go_wp2_with fail
                          go_roundg gi'
                          case measure => omega
                          case rel => exact ⟨-1, j + 1, rfl, by first | rfl | go_num, by omega, hlt3, Lib.hid (.inl ⟨rfl, fun i hi => by
                            rcases Nat.lt_or_ge i j with h | h
                            · exact HNJ.out i h
                            · obtain rfl : i = j := by omega
                              rw [HZJ.out]
                              exact fun h => he (Option.some.inj h)⟩), HOi, HTi, HDi, Lib.hid HBi.out.drew, HYi, hsi⟩
                      · have e4 : (zj.2 == y.2) = false := by
                          cases h : zj.2 == y.2
                          · rfl
                          · exact (hne e3 h).elim
                        go_wp2_with fail
                        go_region
                        all_goals
                          go_wp2_with fail
                          go_roundg gi'
                          case measure => omega
                          case rel => exact ⟨-1, j + 1, rfl, by first | rfl | go_num, by omega, hlt3, Lib.hid (.inl ⟨rfl, fun i hi => by
                            rcases Nat.lt_or_ge i j with h | h
                            · exact HNJ.out i h
                            · obtain rfl : i = j := by omega
                              rw [HZJ.out]
                              exact fun h => he (Option.some.inj h)⟩), HOi, HTi, HDi, Lib.hid HBi.out.drew, HYi, hsi⟩
                  · have hltI3 : ¬ ((j : Int) < (Fc.length : Int)) := by omega
                    have hix : idxL Fc y = none := idx_none_of (fun i hi => HNJ.out i (by omega))
                    have HA2 := Lib.hid (show addsE F (NX z) [] = addsE (Fc ++ [y]) ((NX z).drop (k + 1)) (T ++ [Fc.length]) by rw [HA.out, HDR.out, addsE_none hix])
                    clear hix HA
                    clear y0' y1'
                    have hbp := below1 wr (.cells #[.int .u64 y.1, .int .u64 y.2] 75)
                    have HOw : Hid ((wr.alloc (.cells #[.int .u64 y.1, .int .u64 y.2] 75)).ownsRow w2.heap.size 75 2 (.slice (some ⟨gl, 0, none⟩) Fc.length cl) Fc.length (cP2 Fc)) := Lib.hid (own_keep HOi.out (fun q cur hq _ => below_keep hbp hq))
                    go_wp2_with (at_builtin; refine app_big rfl _ _ 70 75 rfl w2.heap.size i0 _ 2 16 Tryd.underlying70 hi hz0 hz1 hz2 rfl (by decide) (by decide) _ Fc.length (cP2 Fc) rfl HOw.out _ 1 1 rfl (cP2 [y]) rfl (src_one (cs := #[.int .u64 y.1, .int .u64 y.2]) (t := 75) (top_at _ _ rfl)) (p2_one _) ?d2 ?d3 ?_)
                    case d2 => omega
                    case d3 => first | omega | (simp; done) | (simp; omega)
                    intro v9 w9 hown9 hg9
                    obtain ⟨o9, cap9, rfl⟩ := own_form hown9
                    have hk9 : ∀ (q : Nat) (o : Obj), wr.heap[q]? = some o → (Value.slice (some ⟨gl, 0, none⟩) Fc.length cl).ownBlock ≠ some q → w9.heap[q]? = wr.heap[q]? := fun q o hq hne => (grown_keep hg9 ((below_keep hbp hq).trans hq) hne).trans (below_keep hbp hq)
                    have hb9 : Below w2.heap.size wr w9 := below_grownS (hbp.mono (by omega)) (by first | omega | (simp; done) | (simp; omega)) HOw.out hg9
                    have HO9 : Hid (w9.ownsRow w2.heap.size 75 2 (.slice o9 (Fc ++ [y]).length cap9) (Fc ++ [y]).length (cP2 (Fc ++ [y]))) := Lib.hid (by rw [p2_app, List.length_append]; exact hown9)
                    have HT9 : Hid (OwnI w9 wo.heap.size (.slice ot T.length ct) T) := Lib.hid (own_keep HTi.out (fun q cur hq _ => hk9 q _ hq (apart HOi.out hq (by decide))))
                    have HD9 : Hid (EdA w9 w2.heap.size wo.heap.size (.slice oe E.length ce) E) := Lib.hid (HDi.out.keep (fun q cur hq => hk9 q _ hq (apart HOi.out hq (by decide))) (fun q cur hq _ => hk9 q _ hq (apart HOi.out hq (by decide))))
                    have HB9 := Lib.hid (HBi.out.trans hb9)
                    have hs9 : wo.heap.size ≤ w9.heap.size := Nat.le_trans hsi hb9.size
                    have hFl : (Fc ++ [y]).length = Fc.length + 1 := by rw [List.length_append]; rfl
                    have HFL := Lib.hid hFl
                    have HZ9 : Hid ((Fc ++ [y])[E.length]? = some z) := Lib.hid (by rw [List.getElem?_append_left (by omega)]; exact HZc.out)
                    have HU9 : Hid (∀ z : P2, z ∈ Fc ++ [y] → U6 z.1 ∧ U6 z.2) := Lib.hid (fun z hz => by
                      rcases List.mem_append.1 hz with h | h
                      · exact HUc.out z h
                      · rw [List.mem_singleton.1 h]; exact HUy.out)
                    clear hk9 hb9 hown9 hg9 hbp HOw HOi HTi HDi HBi HYi y0 y1 hFl
                    have HTX := Lib.hid HT9.out
                    have hb8 := below1 w9 (.cells #[.int .i64 (Fc.length : Int)] 3)
                    have HTw : Hid (OwnI (w9.alloc (.cells #[.int .i64 (Fc.length : Int)] 3)) wo.heap.size (.slice ot T.length ct) T) := Lib.hid (own_keep HTX.out (fun q cur hq _ => below_keep hb8 hq))
                    go_wp2_with (at_builtin; refine app_big rfl _ _ 85 3 rfl wo.heap.size j0 _ 1 8 Tryd.underlying85 hj hy0 hy1 hy2 rfl (by decide) (by decide) _ T.length (T.map fun k : Nat => Value.int .i64 (k : Int)) rfl HTw.out _ 1 1 rfl [.int .i64 (Fc.length : Int)] rfl (src_one (cs := #[.int .i64 (Fc.length : Int)]) (t := 3) (top_at _ _ rfl)) (by simp [Value.oneCell']) ?d5 ?d6 ?_)
                    case d5 => have := HTk.out; omega
                    case d6 => first | omega | (simp; done) | (simp; omega)
                    intro v11 w11 hown11 hg11
                    obtain ⟨o11, cap11, rfl⟩ := own_form hown11
                    have hk11 : ∀ (q : Nat) (o : Obj), w9.heap[q]? = some o → (Value.slice ot T.length ct).ownBlock ≠ some q → w11.heap[q]? = w9.heap[q]? := fun q o hq hne => (grown_keep hg11 ((below_keep hb8 hq).trans hq) hne).trans (below_keep hb8 hq)
                    have hb11 : Below wo.heap.size w9 w11 := below_grownS (hb8.mono hs9) (by first | omega | (simp; done) | (simp; omega)) HTw.out hg11
                    have HO11 : Hid (w11.ownsRow w2.heap.size 75 2 (.slice o9 (Fc ++ [y]).length cap9) (Fc ++ [y]).length (cP2 (Fc ++ [y]))) := Lib.hid (own_keep HO9.out (fun q cur hq _ => hk11 q _ hq (apart HTX.out hq (by decide))))
                    have HD11 : Hid (EdA w11 w2.heap.size wo.heap.size (.slice oe E.length ce) E) := Lib.hid (HD9.out.keep (fun q cur hq => hk11 q _ hq (apart HTX.out hq (by decide))) (fun q cur hq hlt => hk11 q _ hq (fun e => by have := (own_lt HTX.out q e).1; omega)))
                    have HT11 : Hid (OwnI w11 wo.heap.size (.slice o11 (T ++ [Fc.length]).length cap11) (T ++ [Fc.length])) := Lib.hid (by unfold OwnI; rw [List.length_append, List.map_append]; exact hown11)
                    have HB11 := Lib.hid (HB9.out.trans (hb11.mono (by omega)))
                    have hs11 : wo.heap.size ≤ w11.heap.size := Nat.le_trans hs9 hb11.size
                    have HL11 : Hid ((T ++ [Fc.length]).length = k + 1) := Lib.hid (by rw [List.length_append]; show T.length + 1 = k + 1; rw [HTk.out])
                    clear hk11 hb11 hown11 hg11 HTX hb8 HTw
                    go_wp2_with fail
                    go_roundg gj
                    case measure => omega
                    case rel => exact ⟨k + 1, Fc ++ [y], T ++ [Fc.length], o9, o11, cap9, cap11, by rw [HFL.out], by rw [List.length_append]; rfl, by first | rfl | go_num, by omega, by omega, HL11, by have := HFL.out; omega, by have := HFL.out; omega, HZ9, HA2, HU9, HO11, HT11, HD11, HB11, hs11⟩
                · have hm0 : ¬ ((m : Int) < 0) := by omega
                  have HA2 := Lib.hid (show addsE F (NX z) [] = addsE Fc ((NX z).drop (k + 1)) (T ++ [m]) by rw [HA.out, HDR.out, addsE_some hm])
                  clear hm
                  by_cases hlt3 : (j : Int) < (Fc.length : Int)
                  · have HTX := Lib.hid HTi.out
                    have hb8 := below1 wr (.cells #[.int .i64 (m : Int)] 3)
                    have HTw : Hid (OwnI (wr.alloc (.cells #[.int .i64 (m : Int)] 3)) wo.heap.size (.slice ot T.length ct) T) := Lib.hid (own_keep HTX.out (fun q cur hq _ => below_keep hb8 hq))
                    go_wp2_with (at_builtin; refine app_big rfl _ _ 85 3 rfl wo.heap.size j0 _ 1 8 Tryd.underlying85 hj hy0 hy1 hy2 rfl (by decide) (by decide) _ T.length (T.map fun k : Nat => Value.int .i64 (k : Int)) rfl HTw.out _ 1 1 rfl [.int .i64 (m : Int)] rfl (src_one (cs := #[.int .i64 (m : Int)]) (t := 3) (top_at _ _ rfl)) (by simp [Value.oneCell']) ?d5 ?d6 ?_)
                    case d5 => have := HTk.out; omega
                    case d6 => first | omega | (simp; done) | (simp; omega)
                    intro v11 w11 hown11 hg11
                    obtain ⟨o11, cap11, rfl⟩ := own_form hown11
                    have hk11 : ∀ (q : Nat) (o : Obj), wr.heap[q]? = some o → (Value.slice ot T.length ct).ownBlock ≠ some q → w11.heap[q]? = wr.heap[q]? := fun q o hq hne => (grown_keep hg11 ((below_keep hb8 hq).trans hq) hne).trans (below_keep hb8 hq)
                    have hb11 : Below wo.heap.size wr w11 := below_grownS (hb8.mono hsi) (by first | omega | (simp; done) | (simp; omega)) HTw.out hg11
                    have HO11 : Hid (w11.ownsRow w2.heap.size 75 2 (.slice (some ⟨gl, 0, none⟩) Fc.length cl) Fc.length (cP2 Fc)) := Lib.hid (own_keep HOi.out (fun q cur hq _ => hk11 q _ hq (apart HTX.out hq (by decide))))
                    have HD11 : Hid (EdA w11 w2.heap.size wo.heap.size (.slice oe E.length ce) E) := Lib.hid (HDi.out.keep (fun q cur hq => hk11 q _ hq (apart HTX.out hq (by decide))) (fun q cur hq hlt => hk11 q _ hq (fun e => by have := (own_lt HTX.out q e).1; omega)))
                    have HT11 : Hid (OwnI w11 wo.heap.size (.slice o11 (T ++ [m]).length cap11) (T ++ [m])) := Lib.hid (by unfold OwnI; rw [List.length_append, List.map_append]; exact hown11)
                    have HB11 := Lib.hid (HBi.out.trans (hb11.mono (by omega)))
                    have hs11 : wo.heap.size ≤ w11.heap.size := Nat.le_trans hsi hb11.size
                    have HL11 : Hid ((T ++ [m]).length = k + 1) := Lib.hid (by rw [List.length_append]; show T.length + 1 = k + 1; rw [HTk.out])
                    clear hk11 hb11 hown11 hg11 HTX hb8 HTw
                    go_wp2_with fail
                    go_roundg gj
                    case measure => omega
                    case rel => exact ⟨k + 1, Fc, T ++ [m], some ⟨gl, 0, none⟩, o11, cl, cap11, rfl, by rw [List.length_append]; rfl, by first | rfl | go_num, by omega, by omega, HL11, hFc1, by omega, HZc, HA2, HUc, HO11, HT11, HD11, HB11, hs11⟩
                  · have HTX := Lib.hid HTi.out
                    have hb8 := below1 wr (.cells #[.int .i64 (m : Int)] 3)
                    have HTw : Hid (OwnI (wr.alloc (.cells #[.int .i64 (m : Int)] 3)) wo.heap.size (.slice ot T.length ct) T) := Lib.hid (own_keep HTX.out (fun q cur hq _ => below_keep hb8 hq))
                    go_wp2_with (at_builtin; refine app_big rfl _ _ 85 3 rfl wo.heap.size j0 _ 1 8 Tryd.underlying85 hj hy0 hy1 hy2 rfl (by decide) (by decide) _ T.length (T.map fun k : Nat => Value.int .i64 (k : Int)) rfl HTw.out _ 1 1 rfl [.int .i64 (m : Int)] rfl (src_one (cs := #[.int .i64 (m : Int)]) (t := 3) (top_at _ _ rfl)) (by simp [Value.oneCell']) ?d5 ?d6 ?_)
                    case d5 => have := HTk.out; omega
                    case d6 => first | omega | (simp; done) | (simp; omega)
                    intro v11 w11 hown11 hg11
                    obtain ⟨o11, cap11, rfl⟩ := own_form hown11
                    have hk11 : ∀ (q : Nat) (o : Obj), wr.heap[q]? = some o → (Value.slice ot T.length ct).ownBlock ≠ some q → w11.heap[q]? = wr.heap[q]? := fun q o hq hne => (grown_keep hg11 ((below_keep hb8 hq).trans hq) hne).trans (below_keep hb8 hq)
                    have hb11 : Below wo.heap.size wr w11 := below_grownS (hb8.mono hsi) (by first | omega | (simp; done) | (simp; omega)) HTw.out hg11
                    have HO11 : Hid (w11.ownsRow w2.heap.size 75 2 (.slice (some ⟨gl, 0, none⟩) Fc.length cl) Fc.length (cP2 Fc)) := Lib.hid (own_keep HOi.out (fun q cur hq _ => hk11 q _ hq (apart HTX.out hq (by decide))))
                    have HD11 : Hid (EdA w11 w2.heap.size wo.heap.size (.slice oe E.length ce) E) := Lib.hid (HDi.out.keep (fun q cur hq => hk11 q _ hq (apart HTX.out hq (by decide))) (fun q cur hq hlt => hk11 q _ hq (fun e => by have := (own_lt HTX.out q e).1; omega)))
                    have HT11 : Hid (OwnI w11 wo.heap.size (.slice o11 (T ++ [m]).length cap11) (T ++ [m])) := Lib.hid (by unfold OwnI; rw [List.length_append, List.map_append]; exact hown11)
                    have HB11 := Lib.hid (HBi.out.trans (hb11.mono (by omega)))
                    have hs11 : wo.heap.size ≤ w11.heap.size := Nat.le_trans hsi hb11.size
                    have HL11 : Hid ((T ++ [m]).length = k + 1) := Lib.hid (by rw [List.length_append]; show T.length + 1 = k + 1; rw [HTk.out])
                    clear hk11 hb11 hown11 hg11 HTX hb8 HTw
                    go_wp2_with fail
                    go_roundg gj
                    case measure => omega
                    case rel => exact ⟨k + 1, Fc, T ++ [m], some ⟨gl, 0, none⟩, o11, cl, cap11, rfl, by rw [List.length_append]; rfl, by first | rfl | go_num, by omega, by omega, HL11, hFc1, by omega, HZc, HA2, HUc, HO11, HT11, HD11, HB11, hs11⟩
          · have hltI2 : ¬ ((k : Int) < (G.length : Int)) := by omega
            obtain rfl : k = G.length := by omega
            have HA2 : Hid (addsE F (NX z) [] = (Fc, T)) := Lib.hid (by rw [HA.out, List.drop_eq_nil_of_le (by rw [HNL.out]; exact Nat.le_refl _), addsE])
            have HE2 : Hid (RES = exR NX f Fc (E ++ [T])) := Lib.hid (by rw [HE1.out, HA2.out])
            obtain ⟨gt, rfl⟩ : ∃ gt, ot = some ⟨gt, 0, none⟩ := by
              have := HTk.out
              rcases HTc.out.2 with ⟨hv, h0⟩ | ⟨gl, cq, cur, hv, _⟩
              · omega
              · cases hv; exact ⟨gl, rfl⟩
            obtain ⟨vs, hvs, hvx⟩ := HDc.out
            have HVS := Lib.hid hvs
            have HVX := Lib.hid hvx
            obtain ⟨cur, hc1, hc2⟩ := OwnI.cur HTc.out
            have HC1 := Lib.hid hc1
            have HC2 := Lib.hid hc2
            have hgtl := (own_lt HTc.out gt rfl).2
            have hb6 := below1 w3 (.cells #[.slice (some ⟨gt, 0, none⟩) T.length ct] 85)
            have HV6 : Hid ((w3.alloc (.cells #[.slice (some ⟨gt, 0, none⟩) T.length ct] 85)).ownsRow w2.heap.size 85 1 (.slice oe E.length ce) E.length vs) := Lib.hid (own_keep hvs (fun q cur hq _ => below_keep hb6 hq))
            have hfe : f = 4098 - (E ++ [T]).length := by rw [List.length_append]; show f = 4098 - (E.length + 1); omega
            have HFE := Lib.hid hfe
            clear hvs hvx hc1 hc2 HA hfe
            go_wp2_with (at_builtin; refine app_big rfl _ _ 50 85 rfl w2.heap.size l0 _ 1 24 Tryd.underlying50 hl hx0 hx1 hx2 rfl (by decide) (by decide) _ E.length vs rfl HV6.out _ 1 1 rfl [.slice (some ⟨gt, 0, none⟩) T.length ct] rfl (src_one (cs := #[.slice (some ⟨gt, 0, none⟩) T.length ct]) (t := 85) (top_at _ _ rfl)) (by simp [Value.oneCell']) ?e2 ?e3 ?_)
            case e2 => omega
            case e3 => first | omega | (simp; done) | (simp; omega)
            intro v7 w7 hown7 hgrow7
            obtain ⟨oe7, cap7, rfl⟩ := own_form hown7
            have hk7 : ∀ (q : Nat) (o : Obj), w3.heap[q]? = some o → (Value.slice oe E.length ce).ownBlock ≠ some q → w7.heap[q]? = w3.heap[q]? := fun q o hq hne => (grown_keep hgrow7 ((below_keep hb6 hq).trans hq) hne).trans (below_keep hb6 hq)
            have hb7 : Below w2.heap.size w3 w7 := below_grownS (hb6.mono (by omega)) (by first | omega | (simp; done) | (simp; omega)) HV6.out hgrow7
            have HO7 : Hid (w7.ownsRow w2.heap.size 75 2 (.slice ol Fc.length cl) Fc.length (cP2 Fc)) := Lib.hid (own_keep HOc.out (fun q cur hq _ => hk7 q _ hq (apart HVS.out hq (by decide))))
            have HD7 : Hid (EdA w7 w2.heap.size w7.heap.size (.slice oe7 (E ++ [T]).length cap7) (E ++ [T])) := Lib.hid (by
              have h := EdA.snoc (M := wo.heap.size) (M' := w7.heap.size) («to» := T) (ci := ct) (g := gt) (cur := cur) HV6.out (fun i tv hi => by
                obtain ⟨gi, ci, cu, q1, q2, q3, q4⟩ := HVX.out i tv hi
                exact ⟨gi, ci, cu, q1, q2, (below_keep hb6 q3).trans q3, q4⟩) ((below_keep hb6 HC1.out).trans HC1.out) HC2.out hgrow7 (by have := hb7.size; omega) (by have := hb7.size; omega) hown7
              rw [List.length_append]
              exact h)
            have HB7 := Lib.hid (HBc.out.trans hb7)
            have hs7 : w2.heap.size ≤ w7.heap.size := by have := hb7.size; omega
            have HE3 : Hid (RES = exR NX (4098 - (E ++ [T]).length) Fc (E ++ [T])) := Lib.hid (by rw [← HFE.out]; exact HE2.out)
            have hwE : IntKind.i64.wrap ((E.length : Int) + 1) = ((E.length + 1 : Nat) : Int) := by rw [IntWalk.i64_in _ (by omega)]; omega
            have HEL : Hid ((E ++ [T]).length = E.length + 1) := Lib.hid (by rw [List.length_append]; rfl)
            clear hown7 hgrow7 hk7 hb7 hb6 HV6 HVS HVX HC1 HC2 HTc HDc HOc HBc HO HD HBr HE2
            go_wp2_with fail
            go_roundg gh
            case measure => omega
            case rel => exact ⟨Fc, E ++ [T], ol, oe7, cl, cap7, rfl, by rw [HEL.out], by first | rfl | (rw [HEL.out]; first | rfl | go_num), by have := HEL.out; omega, by have := HEL.out; omega, by have := HEL.out; omega, by omega, HE3, HO7, HD7, HUc, HB7, hs7⟩
    · have hltI : ¬ ((E.length : Int) < (F.length : Int)) := by omega
      have hR : RES = (F, E) := by rw [HE.out, show 4098 - E.length = (4097 - E.length) + 1 by omega, exR, List.getElem?_eq_none (by omega)]
      subst hR
      have HRP := Lib.hid (RP.of_own HO.out)
      have HBf := Lib.hid (HB1.out.trans ((HB2.out.trans (HBr.out.mono hs2)).mono (by omega)))
      clear HE HO
      go_wp2_with fail
      first
        | (go_ret2; exact ⟨⟨o, c, .slice oe E.length ce, rfl, HRP.out, ⟨_, HD.out⟩⟩, HBf.out⟩)
        | (go_ret; exact ⟨⟨o, c, .slice oe E.length ce, rfl, HRP.out, ⟨_, HD.out⟩⟩, HBf.out⟩)
        | (go_ret; exact ⟨⟨o, c, .slice oe E.length ce, rfl⟩, HRP.out, ⟨_, HD.out⟩, HBf.out⟩)
end

section
open Go.RowKit

theorem tp_lv {p : ByteArray} {t : PT} (h : TP p t) : t.lv ≤ 62 := by
  obtain ⟨m, hm⟩ := h.parse
  have h1 := (parse_al hm).2.1
  rw [lt_len] at h1
  by_cases hs : p.size < 1 ∨ 40 < p.size
  · have := h.err
    unfold errP at this
    rw [if_pos hs] at this
    cases this
  · omega
/-- What the specification's Parse makes of a text that parses. -/
theorem rparse_tp {p : ByteArray} {t : PT} (ht : TP p t) (V : World) :
    Calls Tryd.prog 21 #[.string p] V fun e w' => (∃ oe ce, e = .returned (.tuple #[t.val (.slice oe t.l.length ce), .int .i64 0, .int .i64 0]) ∧ HT w' (· < w'.heap.size) (.slice oe t.l.length ce) t.l) ∧ Below V.heap.size V w' :=
  (rParse_any p V).mono fun e w' ⟨h1, h2⟩ => ⟨by
    obtain ⟨m', hm'⟩ := ht.parse
    rcases h1 with ⟨hne, _⟩ | ⟨_, t', m, oe, ce, hq, h3, h4⟩
    · exact absurd ht.err hne
    · rw [hm'] at hq
      cases hq
      exact ⟨oe, ce, h3, h4.later (fun _ h => h.2) (fun _ _ _ => rfl)⟩, h2⟩
section
variable {w w5 : World} {p q : Pa} {o1 o2 o3 o4 : Option Addr} {n1 n2 n3 n4 c1 c2 c3 c4 : Nat} {ss tt : List S4} {fs us : List Int}
/-- Two machines lie in boxes of their own. -/
def Cut2 (w wx : World) (b c : Nat) (p q : Pa) (x y x' y' : Value) (o1 o2 o3 o4 : Option Addr) (ss tt : List S4) (fs us : List Int) : Prop :=
  M5 wx b p x y ∧ M5 wx c q x' y' ∧ RM wx wx.heap.size o1 o2 ss fs ∧ RM wx wx.heap.size o3 o4 tt us ∧ Below w.heap.size w wx ∧ w.heap.size ≤ b ∧ w.heap.size ≤ c
theorem M5.far5 {W : World} {b c : Nat} {p : Pa} {x y : Value} (h : M5 W b p x y) (hc : b ≠ c) (v0 v1 v2 v3 v4 : Value) : M5 (((((W.setCell ⟨c, 0, none⟩ v0).setCell ⟨c, 1, none⟩ v1).setCell ⟨c, 2, none⟩ v2).setCell ⟨c, 3, none⟩ v3).setCell ⟨c, 4, none⟩ v4) b p x y :=
  ((((h.farC hc v0).farC hc v1).farC hc v2).farC hc v3).farC hc v4
theorem twoA {x y x' y' : Value} (hM : RM w5 w5.heap.size o1 o2 ss fs) (hN : RM w5 w5.heap.size o3 o4 tt us) (hb : Below w.heap.size w w5) : Cut2 w ((w5.alloc (.cells #[.bool p.e, .int .u64 p.f, .int .u64 p.t, x, y] 68)).alloc (.cells #[.bool q.e, .int .u64 q.f, .int .u64 q.t, x', y'] 68)) w5.heap.size (w5.heap.size + 1) p q x y x' y' o1 o2 o3 o4 ss tt fs us :=
  ⟨(M5.new w5 _ _ _).later (below1 _ _) (by simp), top_at _ _ (by simp), hM.later (below2 w5 _ _) (by simp; omega), hN.later (below2 w5 _ _) (by simp; omega), hb.trans ((below2 w5 _ _).mono hb.size), hb.size, Nat.le_succ_of_le hb.size⟩
theorem twoB {x y x' y' : Value} (hM : RM w5 w5.heap.size o1 o2 ss fs) (hN : RM w5 w5.heap.size o3 o4 tt us) (hb : Below w.heap.size w w5) : Cut2 w ((w5.alloc (.cells #[.bool q.e, .int .u64 q.f, .int .u64 q.t, x', y'] 68)).alloc (.cells #[.bool p.e, .int .u64 p.f, .int .u64 p.t, x, y] 68)) (w5.heap.size + 1) w5.heap.size p q x y x' y' o1 o2 o3 o4 ss tt fs us :=
  ⟨top_at _ _ (by simp), (M5.new w5 _ _ _).later (below1 _ _) (by simp), hM.later (below2 w5 _ _) (by simp; omega), hN.later (below2 w5 _ _) (by simp; omega), hb.trans ((below2 w5 _ _).mono hb.size), Nat.le_succ_of_le hb.size, hb.size⟩
theorem twoC {b : Nat} {x y x' y' u v : Value} {r : Pa} (hx : M5 w5 b r u v) (hl : w.heap.size ≤ b) (hM : RM w5 w5.heap.size o1 o2 ss fs) (hN : RM w5 w5.heap.size o3 o4 tt us) (hb : Below w.heap.size w w5) : Cut2 w ((((((w5.setCell ⟨b, 0, none⟩ (.bool p.e)).setCell ⟨b, 1, none⟩ (.int .u64 p.f)).setCell ⟨b, 2, none⟩ (.int .u64 p.t)).setCell ⟨b, 3, none⟩ x).setCell ⟨b, 4, none⟩ y).alloc (.cells #[.bool q.e, .int .u64 q.f, .int .u64 q.t, x', y'] 68)) b w5.heap.size p q x y x' y' o1 o2 o3 o4 ss tt fs us := by
  have h1 := hx.set p x y
  have h2 := hM.pu5 hx.ty (.bool p.e) (.int .u64 p.f) (.int .u64 p.t) x y
  have h2' := hN.pu5 hx.ty (.bool p.e) (.int .u64 p.f) (.int .u64 p.t) x y
  have h3 := below5s hb hl (.bool p.e) (.int .u64 p.f) (.int .u64 p.t) x y
  refine ⟨h1.later (below1 _ _) h1.lt, top_at _ _ (by simp only [World.size_setCell]), (h2.later (C := w5.heap.size + 1) ((below1 _ _).mono (by simp only [World.size_setCell]; exact Nat.le_refl _)) (by omega)).later (Below.refl _ _) (by simp), (h2'.later (C := w5.heap.size + 1) ((below1 _ _).mono (by simp only [World.size_setCell]; exact Nat.le_refl _)) (by omega)).later (Below.refl _ _) (by simp), h3.trans ((below1 _ _).mono h3.size), hl, hb.size⟩
theorem twoD {c : Nat} {x y x' y' u v : Value} {r : Pa} (hx : M5 w5 c r u v) (hl : w.heap.size ≤ c) (hM : RM w5 w5.heap.size o1 o2 ss fs) (hN : RM w5 w5.heap.size o3 o4 tt us) (hb : Below w.heap.size w w5) : Cut2 w ((((((w5.setCell ⟨c, 0, none⟩ (.bool q.e)).setCell ⟨c, 1, none⟩ (.int .u64 q.f)).setCell ⟨c, 2, none⟩ (.int .u64 q.t)).setCell ⟨c, 3, none⟩ x').setCell ⟨c, 4, none⟩ y').alloc (.cells #[.bool p.e, .int .u64 p.f, .int .u64 p.t, x, y] 68)) w5.heap.size c p q x y x' y' o1 o2 o3 o4 ss tt fs us := by
  obtain ⟨k1, k2, k3, k4, k5, k6, k7⟩ := twoC (p := q) (q := p) (x := x') (y := y') (x' := x) (y' := y) hx hl hM hN hb
  exact ⟨k2, k1, k3, k4, k5, k7, k6⟩
theorem twoE {b c : Nat} {x y x' y' u v u' v' : Value} {r r' : Pa} (hne : b ≠ c) (hx : M5 w5 b r u v) (hy : M5 w5 c r' u' v') (hl : w.heap.size ≤ b) (hl' : w.heap.size ≤ c) (hM : RM w5 w5.heap.size o1 o2 ss fs) (hN : RM w5 w5.heap.size o3 o4 tt us) (hb : Below w.heap.size w w5) : Cut2 w ((((((((((w5.setCell ⟨b, 0, none⟩ (.bool p.e)).setCell ⟨b, 1, none⟩ (.int .u64 p.f)).setCell ⟨b, 2, none⟩ (.int .u64 p.t)).setCell ⟨b, 3, none⟩ x).setCell ⟨b, 4, none⟩ y).setCell ⟨c, 0, none⟩ (.bool q.e)).setCell ⟨c, 1, none⟩ (.int .u64 q.f)).setCell ⟨c, 2, none⟩ (.int .u64 q.t)).setCell ⟨c, 3, none⟩ x').setCell ⟨c, 4, none⟩ y') b c p q x y x' y' o1 o2 o3 o4 ss tt fs us := by
  have hy1 := hy.far5 hne.symm (.bool p.e) (.int .u64 p.f) (.int .u64 p.t) x y
  have h1 := (hx.set p x y).far5 hne (.bool q.e) (.int .u64 q.f) (.int .u64 q.t) x' y'
  have h2 := hy1.set q x' y'
  have h3 := (hM.pu5 hx.ty (.bool p.e) (.int .u64 p.f) (.int .u64 p.t) x y).pu5 hy1.ty (.bool q.e) (.int .u64 q.f) (.int .u64 q.t) x' y'
  have h4 := (hN.pu5 hx.ty (.bool p.e) (.int .u64 p.f) (.int .u64 p.t) x y).pu5 hy1.ty (.bool q.e) (.int .u64 q.f) (.int .u64 q.t) x' y'
  have h5 := below5s (below5s hb hl (.bool p.e) (.int .u64 p.f) (.int .u64 p.t) x y) hl' (.bool q.e) (.int .u64 q.f) (.int .u64 q.t) x' y'
  exact ⟨h1, h2, h3.later (Below.refl _ _) (by simp only [World.size_setCell]; exact Nat.le_refl _), h4.later (Below.refl _ _) (by simp only [World.size_setCell]; exact Nat.le_refl _), h5, hl, hl'⟩
end
end

end Go.Proofs.YtaipaddfehpmgaaDoor
