/-
  Shortest of the specification. Nothing is assumed.
-/
import Derived.Test.YtaipaddfehpmgaaDoorRsT
import Derived.Test.YtaipaddfehpmgaaDoorRsN
import Derived.Lib.QuietBelow
import Derived.OwnWalk
namespace Go.Proofs.YtaipaddfehpmgaaDoor
open Go.RowKit
open Go.Sort (grow)

/-- 2^n - 1. -/
def allZ (n : Nat) : Int := IntKind.u64.wrap (IntKind.u64.wrap (2 ^ n) - 1)
theorem and_all {n : Nat} (hn : n ≤ 62) {z : Int} (hz : U6 z) (h : ∀ i, bt z i = true → i < n) : bits BinOp.and IntKind.u64 z (allZ n) = z := by
  have h1 : (2 : Int) ^ n = ((2 ^ n : Nat) : Int) := by simp
  have h2 : 2 ^ n ≤ 2 ^ 62 := Nat.pow_le_pow_right (by decide) hn
  have h3 : 0 < 2 ^ n := Nat.pos_of_ne_zero (by simp)
  have e : allZ n = ((2 ^ n - 1 : Nat) : Int) := by
    unfold allZ
    rw [h1, wrap_u ((2 ^ n : Nat) : Int) ⟨by omega, by omega⟩, wrap_u _ ⟨by omega, by omega⟩]
    omega
  refine u_ext (and_u _ _) hz fun i => ?_
  rw [bt_and, e]
  cases hb : bt z i with
  | false => rfl
  | true =>
    have hi := h i hb
    unfold bt
    rw [BitVec.ofInt_natCast, BitVec.getLsbD_ofNat, Nat.testBit_two_pow_sub_one, decide_eq_true hi, decide_eq_true (show i < 64 by omega)]
    rfl
theorem nr_rng (y : Int) (fs : List Int) : ∀ i, bt (nrL y 0 fs 0) i = true → i < fs.length := fun i hi => by
  rcases (nr_bt y i fs 0 0).1 hi with h | ⟨k, x, h1, _, h3, _⟩
  · rw [bt_zero] at h; cases h
  · have := (List.getElem?_eq_some_iff.1 h1).1; omega
theorem nr_u (y : Int) : ∀ (l : List Int) (i : Nat) (a : Int), U6 a → U6 (nrL y i l a)
  | [], _, _, h => h
  | x :: l, i, a, h => by
    rw [nrL]
    refine nr_u y l (i + 1) _ ?_
    split
    · exact h
    · exact or_u _ _
/-- The row of the sets near an end. -/
def nrR (r : (List S4 × List Int) × Pa) (k : Nat) : List Value := (List.range k).map fun j => Value.int .u64 (nearZ r j)
theorem nrR_len (r : (List S4 × List Int) × Pa) (k : Nat) : (nrR r k).length = k := by unfold nrR; rw [List.length_map, List.length_range]
theorem nrR_at (r : (List S4 × List Int) × Pa) {k j : Nat} (h : j < k) : (nrR r k)[j]? = some (.int .u64 (nearZ r j)) := by
  unfold nrR
  rw [List.getElem?_map, List.getElem?_range h]
  rfl
theorem nrR_succ (r : (List S4 × List Int) × Pa) (k : Nat) : nrR r (k + 1) = nrR r k ++ [.int .u64 (nearZ r k)] := by
  unfold nrR
  rw [List.range_succ, List.map_append]
  rfl
set_option maxRecDepth 100000 in
set_option maxHeartbeats 6400000 in
theorem rshortest_any (p : ByteArray) (t : PT) (ht : TP p t) (w : World) :
    Calls Tryd.prog 11 #[.string p] w fun e w' => e = .returned (rShort (rOf t)) ∧ Below w.heap.size w w' := by
  have HP := Lib.hid (rparse_tp ht w)
  have HOt := Lib.hid (fun (V : World) (oe : Option Addr) (ce : Nat) (h : HT V (· < V.heap.size) (.slice oe t.l.length ce) t.l) => of_any t ht.fit ht.sok (tp_lv ht) V oe ce h)
  have HNL : Hid ((rOf t).1.1.length ≤ 62) := Lib.hid (by have := rAdd_len t ([], []); have := tp_lv ht; unfold rOf; simp only [List.length_nil] at *; omega)
  clear ht
  unfold PT.val at HP HOt
  unfold OfR mV at HOt
  generalize rOf t = r at *
  obtain ⟨RES, hRES⟩ : ∃ RES, RES = rShort r := ⟨_, rfl⟩
  have HRES := Lib.hid hRES
  rw [← hRES]
  clear hRES
  obtain ⟨⟨ss, fs⟩, pa⟩ := r
  dsimp only at HOt HNL
  go_enter Tryd.func11, Tryd.ntmps11
  go_wp2_with fail
  refine HP.out.mono ?_
  rintro e w1 ⟨⟨oe, ce, rfl, hT1⟩, hb1⟩
  obtain ⟨w2, hw2⟩ : ∃ w2, w2 = w1.alloc (.cells #[.int .i64 t.k, .int .u64 t.s.a, .int .u64 t.s.b, .int .u64 t.s.c, .int .u64 t.s.d, .slice oe t.l.length ce] 60) := ⟨_, rfl⟩
  have HW2 := Lib.hid hw2
  have hb2 : Below w1.heap.size w1 w2 := by rw [hw2]; exact below1 _ _
  have HB2 := Lib.hid (hb1.trans (hb2.mono hb1.size))
  have HT2 : Hid (HT w2 (· < w2.heap.size) (.slice oe t.l.length ce) t.l) := Lib.hid (hT1.later (fun b h => by show b < w2.heap.size; have : b < w1.heap.size := h; have := hb2.size; omega) (fun b hb o => hb2.cell (p := ⟨b, o, none⟩) hb))
  have HC := Lib.hid (HOt.out w2 oe ce HT2.out)
  have hs12 : w2.heap.size = w1.heap.size + 1 := by rw [hw2]; simp
  have HA2 : Hid (w2.heap[w1.heap.size]? = some (.cells #[.int .i64 t.k, .int .u64 t.s.a, .int .u64 t.s.b, .int .u64 t.s.c, .int .u64 t.s.d, .slice oe t.l.length ce] 60 (0, 0))) := Lib.hid (by rw [hw2]; exact top_at _ _ rfl)
  clear hT1 hb1 hb2 hw2 HP HOt HT2 hs12
  go_wp2_with fail
  rw [← HW2.out]
  refine HC.out.mono ?_
  rintro e w3 ⟨⟨o1, c1, o2, c2, rfl, hm3⟩, hb3⟩
  obtain ⟨W, hW⟩ : ∃ W, W = w3.alloc (.cells #[.bool pa.e, .int .u64 pa.f, .int .u64 pa.t, .slice o1 ss.length c1, .slice o2 fs.length c2] 68) := ⟨_, rfl⟩
  have HWW := Lib.hid hW
  have hbW : Below w3.heap.size w3 W := by rw [hW]; exact below1 _ _
  have HM : Hid (M5 W w3.heap.size pa (.slice o1 ss.length c1) (.slice o2 fs.length c2)) := Lib.hid (by rw [hW]; exact M5.new _ _ _ _)
  have HR : Hid (RM W W.heap.size o1 o2 ss fs) := Lib.hid (hm3.later hbW hbW.size)
  have HB : Hid (Below w.heap.size w W) := Lib.hid (HB2.out.trans ((hb3.trans (hbW.mono hb3.size)).mono HB2.out.size))
  have hlI : (ss.length : Int) ≤ 62 := by have := HNL.out; omega
  have hsW : W.heap.size = w3.heap.size + 1 := by rw [hW]; simp
  have HSW := Lib.hid hsW
  have hlt3 : w3.heap.size < W.heap.size := by omega
  have HLN := Lib.hid hm3.len
  clear hm3 hb3 hW hbW HB2 HC HA2 hsW
  go_upto_region 5 with fail
  rw [← HWW.out]
  obtain ⟨m0, m1, m2, m3, m4⟩ := HM.out.cells
  go_upto_region 7 with fail
  obtain ⟨i0, hi, hz0, hz1, hz2⟩ := info_parts info64
  obtain ⟨ALL, hALL⟩ : ∃ ALL, ALL = allZ ss.length := ⟨_, rfl⟩
  have HALL := Lib.hid hALL
  unfold allZ at hALL
  rw [← hALL]
  have HO0 : Hid ((W.alloc (.cells #[.int .u64 pa.t] 32)).ownsRow W.heap.size 32 1 (.slice (some ⟨W.heap.size, 0, none⟩) (0 + 1) 1) (0 + 1) (nrR ((ss, fs), pa) (0 + 1))) := Lib.hid (World.ownsRow_lit W #[.int .u64 pa.t] 1 (Nat.le_refl _) (by decide) rfl)
  have HBW0 : Hid (Below W.heap.size W (W.alloc (.cells #[.int .u64 pa.t] 32))) := Lib.hid (below1 _ _)
  clear hALL m0 m1 m2 m3 m4
  go_wp2_with fail
  go_loopg [9, 10] (ss.length + 1) (fun gk v9 v10 wr => ∃ (k : Nat) (o : Option Addr) (c : Nat), v9 = .slice o (k + 1) c ∧ v10 = .int .i64 (k : Int) ∧ k + gk = ss.length + 1 ∧ k ≤ ss.length ∧ Hid (wr.ownsRow W.heap.size 32 1 (.slice o (k + 1) c) (k + 1) (nrR ((ss, fs), pa) (k + 1))) ∧ Hid (Below W.heap.size W wr))
  case atStart => exact ⟨0, some ⟨W.heap.size, 0, none⟩, 1, rfl, rfl, by omega, Nat.zero_le _, HO0, HBW0⟩
  case round =>
    obtain ⟨k, o, c, rfl, rfl, hgk, hk, HO, HBr⟩ := hrel
    clear HO0 HBW0
    obtain ⟨wo, hwo⟩ : ∃ wo : World, wo = wr := ⟨_, rfl⟩
    subst hwo
    obtain ⟨m0, m1, m2, m3, m4⟩ := (HM.out.later HBr.out hlt3).cells
    by_cases hlt : k < ss.length
    · have hltI : (k : Int) < (ss.length : Int) := by omega
      have hwk : IntKind.i64.wrap ((k : Int) + 1) = ((k + 1 : Nat) : Int) := by rw [IntWalk.i64_in _ (by omega)]; omega
      obtain ⟨gh, rfl⟩ : ∃ gh, gk = gh + 1 := ⟨gk - 1, by omega⟩
      obtain ⟨gn, rfl⟩ : ∃ gn, o = some ⟨gn, 0, none⟩ := by
        rcases HO.out.2 with ⟨hv, h0⟩ | ⟨g, cap, cur, hv, _⟩
        · omega
        · cases hv; exact ⟨g, rfl⟩
      have hn0 : wo.cell? ⟨gn, k, none⟩ = some (.int .u64 (nearZ ((ss, fs), pa) k)) := (World.ownsRow.cellAt HO.out k (by omega)).trans (nrR_at _ (Nat.lt_succ_self k))
      obtain ⟨y, hy⟩ : ∃ y, y = nearZ ((ss, fs), pa) k := ⟨_, rfl⟩
      have HY := Lib.hid hy
      have HA0 : Hid (nrL y 0 fs 0 = nrL y 0 (fs.drop 0) 0) := Lib.hid (by rw [List.drop_zero])
      rw [← hy] at hn0
      have HF := Lib.hid (HR.out.f.later HBr.out HBr.out.size)
      have hk0 : (0 : Int) ≤ (k : Int) := by omega
      clear hy
      go_wp2_with fail
      go_loopw [11, 12] (fun va v wr => ∃ (i : Nat) (a : Int) (q : Nat), va = .int .u64 a ∧ v = .int .i64 (i : Int) ∧ i ≤ ss.length ∧ wr = wo.drewN q ∧ Hid (nrL y 0 fs 0 = nrL y i (fs.drop i) a)) (fun _ v _ => ss.length - (intOf v).toNat)
      case atStart => exact ⟨0, 0, 0, rfl, rfl, Nat.zero_le _, rfl, HA0⟩
      case round =>
        obtain ⟨i, a, q, rfl, rfl, hil, rfl, HA⟩ := hrel
        clear HA0
        by_cases hlti : i < ss.length
        · have hltiI : (i : Int) < (ss.length : Int) := by omega
          have hi0 : (0 : Int) ≤ (i : Int) := by omega
          have hwi : IntKind.i64.wrap ((i : Int) + 1) = ((i + 1 : Nat) : Int) := by rw [IntWalk.i64_in _ (by omega)]; omega
          have hif : i < fs.length := by rw [HLN.out]; exact hlti
          have hifI : (i : Int) < (fs.length : Int) := by omega
          have hkk : (k : Int) < ((k + 1 : Nat) : Int) := by omega
          obtain ⟨x, hx⟩ : ∃ x, fs[i]? = some x := ⟨_, List.getElem?_eq_getElem hif⟩
          obtain ⟨g, rfl, hgB, q0⟩ := HF.out.at_ hx
          have HA1 : Hid (nrL y 0 fs 0 = nrL y (i + 1) (fs.drop (i + 1)) (if bits BinOp.and IntKind.u64 x y = 0 then a else orS a (oneS i))) := Lib.hid (by rw [HA.out, List.drop_eq_getElem_cons hif, (List.getElem?_eq_some_iff.1 hx).2, nrL])
          clear HA hx
          by_cases hh : bits BinOp.and IntKind.u64 x y = 0
          · have hq : (bits BinOp.and IntKind.u64 x y != 0) = false := by rw [hh]; rfl
            have HA2 : Hid (nrL y 0 fs 0 = nrL y (i + 1) (fs.drop (i + 1)) a) := Lib.hid (by rw [HA1.out, if_pos hh])
            clear HA1 hh
            go_wp2_with fail
            go_quiet (fail)
            go_wp2_with fail
            go_roundw
            case rel => exact ⟨i + 1, a, q + nq, rfl, by first | rfl | go_num, hlti, by first | rfl | (rw [World.drewN_drewN]), HA2⟩
            case measure => simp [intOf]; omega
          · have hq : (bits BinOp.and IntKind.u64 x y != 0) = true := by rw [bne_iff_ne]; exact hh
            have HA2 : Hid (nrL y 0 fs 0 = nrL y (i + 1) (fs.drop (i + 1)) (orS a (oneS i))) := Lib.hid (by rw [HA1.out, if_neg hh])
            clear HA1 hh
            unfold orS oneS at HA2
            rw [Nat.min_eq_left (show i ≤ 64 by omega)] at HA2
            go_wp2_with fail
            go_quiet (fail)
            go_wp2_with fail
            go_roundw
            case rel => exact ⟨i + 1, _, q + nq, rfl, by first | rfl | go_num, hlti, by first | rfl | (rw [World.drewN_drewN]), HA2⟩
            case measure => simp [intOf]; omega
        · have hltiI : ¬ ((i : Int) < (ss.length : Int)) := by omega
          have HRe : Hid (a = nearZ ((ss, fs), pa) (k + 1)) := Lib.hid (by rw [nearZ, ← HY.out, HA.out, List.drop_of_length_le (by rw [HLN.out]; omega), nrL])
          have HAL : Hid (bits BinOp.and IntKind.u64 a ALL = a) := Lib.hid (by
            rw [HRe.out, HALL.out, nearZ]
            exact and_all HNL.out (nr_u _ _ _ _ u_zero6) (fun j hj => by have := nr_rng _ _ j hj; rw [HLN.out] at this; exact this))
          obtain ⟨wd, hwd⟩ : ∃ wd, wd = wo.drewN q := ⟨_, rfl⟩
          have HOd : Hid (wd.ownsRow W.heap.size 32 1 (.slice (some ⟨gn, 0, none⟩) (k + 1) c) (k + 1) (nrR ((ss, fs), pa) (k + 1))) := Lib.hid (by rw [hwd]; exact HO.out)
          have HBd : Hid (Below W.heap.size W wd) := Lib.hid (by rw [hwd]; exact ⟨HBr.out.os, HBr.out.tape, HBr.out.output, HBr.out.size, HBr.out.block⟩)
          rw [← hwd]
          have hbp := below1 wd (.cells #[.int .u64 a] 32)
          have HOw : Hid ((wd.alloc (.cells #[.int .u64 a] 32)).ownsRow W.heap.size 32 1 (.slice (some ⟨gn, 0, none⟩) (k + 1) c) (k + 1) (nrR ((ss, fs), pa) (k + 1))) := Lib.hid (own_keep HOd.out (fun q cur hq _ => below_keep hbp hq))
          have hsd := HBd.out.size
          have md3 : wd.cell? ⟨w3.heap.size, 3, none⟩ = some (.slice o1 ss.length c1) := by rw [hwd]; exact m3
          clear hwd HO HBr m0 m1 m2 m3 m4 hn0
          have hal := HAL.out
          clear HA
          go_wp2_with (at_builtin; refine app_src rfl _ _ 66 32 rfl W.heap.size i0 _ 1 8 Tryd.underlying66 hi hz0 hz1 hz2 rfl (by decide) (by decide) _ (k + 1) _ rfl HOw.out _ 1 1 rfl [Value.int .u64 a] rfl (src_one (cs := #[.int .u64 a]) (t := 32) (top_at _ _ rfl)) ?d1 ?d2 ?d3 ?_)
          case d1 => rfl
          case d2 => omega
          case d3 => first | omega | (simp; done) | (simp; omega)
          intro v6 w6 hown6 hg6
          obtain ⟨o6, cap6, rfl⟩ := own_form hown6
          have HB6 : Hid (Below W.heap.size W w6) := Lib.hid (HBd.out.trans (below_grownS (hbp.mono hsd) (by first | omega | (simp; done) | (simp; omega)) HOw.out hg6))
          have HO6 : Hid (w6.ownsRow W.heap.size 32 1 (.slice o6 (k + 1 + 1) cap6) (k + 1 + 1) (nrR ((ss, fs), pa) (k + 1 + 1))) := Lib.hid (by rw [nrR_succ, ← HRe.out]; exact hown6)
          clear hown6 hg6
          go_wp2_with fail
          go_roundg gh
          case measure => omega
          case rel => exact ⟨k + 1, o6, cap6, rfl, by first | rfl | go_num, by omega, by omega, HO6, HB6⟩
    · have hltI : ¬ ((k : Int) < (ss.length : Int)) := by omega
      obtain rfl : k = ss.length := by omega
      obtain ⟨gn, rfl⟩ : ∃ gn, o = some ⟨gn, 0, none⟩ := by
        rcases HO.out.2 with ⟨hv, h0⟩ | ⟨g, cap, cur, hv, _⟩
        · omega
        · cases hv; exact ⟨g, rfl⟩
      by_cases hnull : pa.e = true
      · have HRE : Hid (RES = .tuple #[.string ⟨#[]⟩, .int .i64 0]) := Lib.hid (by rw [HRES.out]; unfold rShort; dsimp only; rw [if_pos hnull])
        go_wp2_with fail
        go_ret2
        exact ⟨by rw [HRE.out]; rfl, HB.out.trans (HBr.out.mono HB.out.size)⟩
      · have hnull' : pa.e = false := by cases h : pa.e with | false => rfl | true => exact absurd h hnull
        have HRE : Hid (RES = match fstN (rLens ((ss, fs), pa)) ss.length 1 with
          | none => .tuple #[.string ⟨#[]⟩, .int .i64 7]
          | some m => .tuple #[.string ⟨(rGo ((ss, fs), pa) m begZ []).toArray⟩, .int .i64 0]) := Lib.hid (by rw [HRES.out]; unfold rShort; dsimp only; rw [if_neg hnull]; rfl)
        clear hnull HRES
        go_wp2_with fail
        clear hnull'
        obtain ⟨r, hr⟩ : ∃ r, r = (((ss, fs), pa) : (List S4 × List Int) × Pa) := ⟨_, rfl⟩
        have HRR := Lib.hid hr
        rw [← hr] at HRE HO
        have hgn := (own_lt HO.out gn rfl).2
        have HNC : Hid (∀ (V : World), Below wo.heap.size wo V → ∀ j, j ≤ ss.length → V.cell? ⟨gn, j, none⟩ = some (.int .u64 (nearZ r j))) := Lib.hid (fun V hV j hj => (hV.cell (p := ⟨gn, j, none⟩) hgn).trans ((World.ownsRow.cellAt HO.out j (by omega)).trans (nrR_at _ (by omega))))
        have HMC : Hid (∀ (V : World), Below wo.heap.size wo V → M5 V w3.heap.size pa (.slice o1 ss.length c1) (.slice o2 fs.length c2)) := Lib.hid (fun V hV => (HM.out.later HBr.out hlt3).later hV (by have := HBr.out.size; omega))
        have HNX : Hid (∀ (V : World) (st : Int), Below wo.heap.size wo V → U6 st → Calls Tryd.prog 34 #[mV pa (.slice o1 ss.length c1) (.slice o2 fs.length c2), .int .u64 st] V fun e w' => e = .returned (.int .u64 (nxtR pa fs st)) ∧ Below V.heap.size V w') := Lib.hid (fun V st hV hst => next_any pa ss fs st hst V V.heap.size o1 o2 ss.length fs.length c1 c2 (HR.out.later (HBr.out.trans (hV.mono HBr.out.size)) (by have := HBr.out.size; have := hV.size; omega)) (Nat.le_refl _) rfl rfl)
        have HHD : Hid (∀ (V : World) (b : Nat), Below wo.heap.size wo V → b < 256 → Calls Tryd.prog 35 #[mV pa (.slice o1 ss.length c1) (.slice o2 fs.length c2), .int .i64 (b : Int)] V fun e w' => e = .returned (.int .u64 (hldL b 0 ss 0)) ∧ Below V.heap.size V w') := Lib.hid (fun V b hV hb => holding_any pa ss fs b hb V V.heap.size o1 o2 ss.length fs.length c1 c2 (HR.out.later (HBr.out.trans (hV.mono HBr.out.size)) (by have := HBr.out.size; have := hV.size; omega)) (Nat.le_refl _) rfl)
        have HBo : Hid (Below w.heap.size w wo) := Lib.hid (HB.out.trans (HBr.out.mono HB.out.size))
        have hws : w.heap.size ≤ wo.heap.size := HBo.out.size
        have HF0 : Hid (fstN (rLens r) ss.length 1 = fstN (rLens r) (ss.length + 1 - 1) 1) := Lib.hid rfl
        clear hr HM HR HB HO hgk hltI hi hz0 hz1 hz2 HBr hgn HSW hlt3
        go_loopg [13] (ss.length + 1) (fun gk v wr => ∃ (L q : Nat), v = .int .i64 (L : Int) ∧ L + gk = ss.length + 2 ∧ 1 ≤ L ∧ L ≤ ss.length + 1 ∧ wr = wo.drewN q ∧ Hid (fstN (rLens r) ss.length 1 = fstN (rLens r) (ss.length + 1 - L) L))
        case atStart => exact ⟨1, 0, rfl, by omega, Nat.le_refl _, by omega, rfl, HF0⟩
        case round =>
          obtain ⟨L, q, rfl, hLg, hL1, hLn, rfl, HFL⟩ := hrel
          clear HF0
          obtain ⟨wd, hwd⟩ : ∃ wd, wd = wo.drewN q := ⟨_, rfl⟩
          have HBd : Hid (Below wo.heap.size wo wd) := Lib.hid (by rw [hwd]; exact ⟨rfl, rfl, rfl, Nat.le_refl _, fun _ _ => rfl⟩)
          rw [← hwd]
          have HWD := Lib.hid hwd
          clear hwd
          obtain ⟨m0, m1, m2, m3, m4⟩ := (HMC.out wd HBd.out).cells
          by_cases hlt : L ≤ ss.length
          · have hltI : (L : Int) ≤ (ss.length : Int) := by omega
            obtain ⟨L', hL'⟩ : ∃ L', L = L' + 1 := ⟨L - 1, by omega⟩
            have hcl := HNC.out wd HBd.out L' (by omega)
            have hw1 : IntKind.i64.wrap ((L : Int) - 1) = (L' : Int) := by rw [IntWalk.i64_in _ (by omega)]; omega
            have hwl : IntKind.i64.wrap ((L : Int) + 1) = ((L + 1 : Nat) : Int) := by rw [IntWalk.i64_in _ (by omega)]; omega
            have hL0 : (0 : Int) ≤ (L' : Int) := by omega
            have hLI : (L' : Int) < ((ss.length + 1 : Nat) : Int) := by omega
            have HST : Hid (fstN (rLens r) ss.length 1 = if rLens r L = true then some L else fstN (rLens r) (ss.length + 1 - (L + 1)) (L + 1)) := Lib.hid (by rw [HFL.out, show ss.length + 1 - L = (ss.length + 1 - (L + 1)) + 1 by omega, fstN])
            have HLE : Hid (rLens r L = (bits BinOp.and IntKind.u64 pa.f (nearZ r L') != 0)) := Lib.hid (by unfold rLens; rw [hL', Nat.add_sub_cancel, HRR.out])
            have HLL := Lib.hid hL'
            obtain ⟨gh, rfl⟩ : ∃ gh, gk = gh + 1 := ⟨gk - 1, by omega⟩
            clear HFL hL'
            by_cases hh : bits BinOp.and IntKind.u64 pa.f (nearZ r L') = 0
            · have hq : (bits BinOp.and IntKind.u64 pa.f (nearZ r L') == 0) = true := by rw [hh]; rfl
              have HF2 : Hid (fstN (rLens r) ss.length 1 = fstN (rLens r) (ss.length + 1 - (L + 1)) (L + 1)) := Lib.hid (by rw [HST.out, HLE.out, if_neg (by rw [hh]; decide)])
              clear hh HST HLE
              go_wp2_with fail
              go_quiet (fail)
              go_wp2_with fail
              go_roundg gh
              case measure => omega
              case rel => exact ⟨L + 1, q + nq, by first | rfl | go_num, by omega, by omega, by omega, by first | rfl | (rw [HWD.out, World.drewN_drewN]), HF2⟩
            · have hq : (bits BinOp.and IntKind.u64 pa.f (nearZ r L') == 0) = false := by rw [beq_eq_false_iff_ne]; exact hh
              have HRF : Hid (RES = .tuple #[.string ⟨(rGo r L begZ []).toArray⟩, .int .i64 0]) := Lib.hid (by rw [HRE.out, HST.out, HLE.out, if_pos (by rw [bne_iff_ne]; exact hh)])
              clear hh HST HLE HRE
              go_wp2_with fail
              go_quiet (fail)
              go_wp2_with fail
              obtain ⟨wA, hwA⟩ : ∃ wA, wA = wd.drewN nq := ⟨_, rfl⟩
              have HBA : Hid (Below wo.heap.size wo wA) := Lib.hid (by rw [hwA]; exact ⟨HBd.out.os, HBd.out.tape, HBd.out.output, HBd.out.size, HBd.out.block⟩)
              rw [← hwA]
              obtain ⟨RG, hRG⟩ : ∃ RG, RG = rGo r L begZ [] := ⟨_, rfl⟩
              have HRG0 := Lib.hid hRG
              rw [← hRG] at HRF
              have HLn : Hid (L ≤ 62) := Lib.hid (by have := HNL.out; omega)
              have HZ0 : Hid ((L' : Int) = (L : Int) - 1) := Lib.hid (by have := HLL.out; omega)
              clear hwA hRG m0 m1 m2 m3 m4 hcl hq hw1 hwl HWD HBd hLg
              go_loopg [14, 15, 16] L (fun gk v14 v15 v16 wr => ∃ (k : Nat) (acc : List UInt8) (st z : Int), v14 = .string ⟨acc.toArray⟩ ∧ v15 = .int .u64 st ∧ v16 = .int .i64 z ∧ k = gk ∧ Hid (z = (k : Int) - 1) ∧ k ≤ L ∧ Hid (acc.length + k ≤ L) ∧ Hid (U6 st) ∧ Hid (RG = rGo r k st acc) ∧ Hid (Below wo.heap.size wo wr))
              case atStart => exact ⟨L, [], begZ, (L' : Int), rfl, rfl, rfl, rfl, HZ0, Nat.le_refl _, Lib.hid (by simp), Lib.hid beg_u, HRG0, HBA⟩
              case round =>
                obtain ⟨k, acc, st, z, rfl, rfl, rfl, rfl, HZ, hkL, HAC, HST, HGO, HBB⟩ := hrel
                clear HRG0 HBA HZ0
                obtain ⟨wB, hwB⟩ : ∃ wB : World, wB = wr := ⟨_, rfl⟩
                subst hwB
                cases k with
                | zero =>
                  obtain rfl : z = -1 := by have := HZ.out; omega
                  have HRX : Hid (RES = .tuple #[.string ⟨acc.toArray⟩, .int .i64 0]) := Lib.hid (by rw [HRF.out, HGO.out, rGo])
                  go_wp2_with fail
                  go_ret2
                  exact ⟨by rw [HRX.out]; rfl, HBo.out.trans (HBB.out.mono hws)⟩
                | succ k =>
                  obtain rfl : z = (k : Int) := by have := HZ.out; omega
                  have hk0 : (0 : Int) ≤ (k : Int) := by omega
                  have hkI : (k : Int) < ((ss.length + 1 : Nat) : Int) := by omega
                  have hwz : IntKind.i64.wrap ((k : Int) - 1) = (k : Int) - 1 := by rw [IntWalk.i64_in _ (by omega)]
                  obtain ⟨S, hS⟩ : ∃ S : ByteArray, S = ⟨acc.toArray⟩ := ⟨_, rfl⟩
                  have HS := Lib.hid hS
                  have hsz : S.size ≤ 62 := by have h1 := HAC.out; have h2 := HLn.out; rw [hS]; show acc.toArray.size ≤ 62; simp; omega
                  rw [← hS]
                  have HF0 : Hid (fstN (rByte r k st) 95 32 = fstN (rByte r k st) (127 - 32) 32) := Lib.hid rfl
                  clear hS HZ
                  go_wp2_with fail
                  go_loopg [14, 15, 17, 18] 96 (fun gk v14 v15 v17 v18 wi => ∃ b : Nat, v14 = .string S ∧ v15 = .int .u64 st ∧ v17 = .int .i64 (b : Int) ∧ b + gk = 128 ∧ 32 ≤ b ∧ b ≤ 127 ∧ Hid (fstN (rByte r k st) 95 32 = fstN (rByte r k st) (127 - b) b) ∧ Hid (Below wo.heap.size wo wi))
                  case atStart => exact ⟨32, rfl, rfl, rfl, by omega, by omega, by omega, Lib.hid rfl, HBB⟩
                  case round =>
                    obtain ⟨b, rfl, rfl, rfl, hbg, hb1, hb2, HFB, HBi⟩ := hrel
                    clear HF0
                    obtain ⟨wi, hwi⟩ : ∃ wi : World, wi = wr := ⟨_, rfl⟩
                    subst hwi
                    by_cases hb : b ≤ 126
                    · have hbI : (b : Int) ≤ 126 := by omega
                      have hwb : IntKind.i64.wrap ((b : Int) + 1) = ((b + 1 : Nat) : Int) := by rw [IntWalk.i64_in _ (by omega)]; omega
                      have hub : IntKind.u8.wrap (b : Int) = (b : Int) := by rw [IntKind.wrap_u8]; omega
                      obtain ⟨gj, rfl⟩ : ∃ gj, gk = gj + 1 := ⟨gk - 1, by omega⟩
                      obtain ⟨m0, m1, m2, m3, m4⟩ := (HMC.out wi HBi.out).cells
                      have p0 := fun d os => cell_regrown m0 d os
                      have p1 := fun d os => cell_regrown m1 d os
                      have p2 := fun d os => cell_regrown m2 d os
                      have p3 := fun d os => cell_regrown m3 d os
                      have p4 := fun d os => cell_regrown m4 d os
                      have HRG : Hid (∀ d os, Below wo.heap.size wo (grow (redrawn wi d) os)) := Lib.hid (fun d os => HBi.out.trans ((below_regrown wi d os).mono HBi.out.size))
                      have E1 := fun d os => Calls.regrown_of (HNX.out (grow (redrawn wi d) os) st (HRG.out d os) HST.out)
                      have E2 := fun d os => Calls.regrown_of (HHD.out (grow (redrawn wi d) os) b (HRG.out d os) (by omega))
                      unfold mV at E1 E2
                      have HX : Hid (rStep r b st = bits BinOp.and IntKind.u64 (nxtR pa fs st) (hldL b 0 ss 0)) := Lib.hid (by rw [HRR.out]; rfl)
                      generalize nxtR pa fs st = n1 at E1 HX
                      generalize hldL b 0 ss 0 = h1 at E2 HX
                      have HRB : Hid (rByte r k st b = (bits BinOp.and IntKind.u64 (bits BinOp.and IntKind.u64 n1 h1) (nearZ r k) != 0)) := Lib.hid (by unfold rByte; rw [HX.out])
                      have HSTP : Hid (fstN (rByte r k st) 95 32 = if rByte r k st b = true then some b else fstN (rByte r k st) (127 - (b + 1)) (b + 1)) := Lib.hid (by rw [HFB.out, show 127 - b = (127 - (b + 1)) + 1 by omega, fstN])
                      clear m0 m1 m2 m3 m4 HFB
                      go_wp2_with fail
                      refine wp_region_quiet_below (by kernel_rfl) (by kernel_rfl) ?_
                      repeat (quiet_step (first | with_reducible exact E1 _ _ | with_reducible exact E2 _ _))
                      refine wpQuiet_nil ?_
                      intro w' hw'
                      obtain ⟨pw, rfl⟩ := hw'
                      obtain ⟨wC, hwC⟩ : ∃ wC, wC = grow (redrawn wi pw.d) pw.os := ⟨_, rfl⟩
                      have HBC : Hid (Below wo.heap.size wo wC) := Lib.hid (by rw [hwC]; exact HRG.out pw.d pw.os)
                      rw [← hwC]
                      have hcn := HNC.out wC HBC.out k (by omega)
                      clear hwC p0 p1 p2 p3 p4 E1 E2 HRG
                      by_cases hh : bits BinOp.and IntKind.u64 (bits BinOp.and IntKind.u64 n1 h1) (nearZ r k) = 0
                      · have hq : (bits BinOp.and IntKind.u64 (bits BinOp.and IntKind.u64 n1 h1) (nearZ r k) != 0) = false := by rw [hh]; rfl
                        have HF2 : Hid (fstN (rByte r k st) 95 32 = fstN (rByte r k st) (127 - (b + 1)) (b + 1)) := Lib.hid (by rw [HSTP.out, HRB.out, hh, if_neg (by decide)])
                        clear hh HSTP HRB
                        go_wp2_with fail
                        go_roundg gj
                        case measure => omega
                        case rel => exact ⟨b + 1, rfl, rfl, by first | rfl | go_num, by omega, by omega, by omega, HF2, HBC⟩
                      · have hq : (bits BinOp.and IntKind.u64 (bits BinOp.and IntKind.u64 n1 h1) (nearZ r k) != 0) = true := by rw [bne_iff_ne]; exact hh
                        have HFS : Hid (fstN (rByte r k st) 95 32 = some b) := Lib.hid (by rw [HSTP.out, HRB.out, hq, if_pos rfl])
                        have hcv : ∀ V : World, (convert 88 9 (.slice (some ⟨V.heap.size, 0, none⟩) 1 1)).run Tryd.prog (V.alloc (.cells #[.int .u8 (b : Int)] 5)) = .ok (.string ⟨#[UInt8.ofNat b]⟩) (V.alloc (.cells #[.int .u8 (b : Int)] 5)) := fun V =>
                          run_convert_bytes_back (P := Tryd.prog) _ 88 9 5 ⟨V.heap.size, 0, Option.none⟩ 1 [UInt8.ofNat b] Tryd.underlying88 Tryd.underlying5 Tryd.underlying9 (fun j hj => by
                            obtain rfl : j = 0 := by simp only [List.length_singleton] at hj; omega
                            have e : (((UInt8.ofNat b).toNat : Nat) : Int) = (b : Int) := by
                              rw [UInt8.toNat_ofNat']
                              omega
                            have ea : (⟨V.heap.size, 0, Option.none⟩ : Addr).add 0 = ⟨V.heap.size, 0, Option.none⟩ := by simp [Addr.add]
                            rw [ea]
                            show _ = some (Value.int .u8 (((UInt8.ofNat b).toNat : Nat) : Int))
                            rw [e]
                            exact cell_at _ _ _ _ _ rfl)
                        have hadd : ∀ V : World, (Op.stringOp .add S ⟨#[UInt8.ofNat b]⟩).run Tryd.prog V = .ok (.string (S ++ ⟨#[UInt8.ofNat b]⟩)) V := fun V => run_string_add_sum V S ⟨#[UInt8.ofNat b]⟩ (by show S.size + 1 ≤ _; omega)
                        have hcv0 := hcv wC
                        clear hh HSTP HRB
                        go_wp2_with fail
                        have HG2 : Hid (RG = rGo r k (rStep r b st) (acc ++ [UInt8.ofNat b])) := Lib.hid (by rw [HGO.out, rGo, HFS.out])
                        go_roundg k
                        case measure => omega
                        case rel => exact ⟨k, acc ++ [UInt8.ofNat b], rStep r b st, (k : Int) - 1, by rw [HS.out]; exact congrArg Value.string (ByteArray.ext (by simp [ByteArray.data_append])), by rw [HX.out], by first | rfl | go_num, rfl, Lib.hid rfl, by omega, Lib.hid (by have := HAC.out; rw [List.length_append, List.length_singleton]; omega), Lib.hid (by rw [HX.out]; exact and_u _ _), HG2, Lib.hid (HBC.out.trans ((below1 wC _).mono HBC.out.size))⟩
                    · have hbI : ¬ ((b : Int) ≤ 126) := by omega
                      have HFN : Hid (fstN (rByte r k st) 95 32 = none) := Lib.hid (by rw [HFB.out, show 127 - b = 0 by omega, fstN])
                      have HG2 : Hid (RG = rGo r k st acc) := Lib.hid (by rw [HGO.out, rGo, HFN.out])
                      go_wp2_with fail
                      go_roundg k
                      case measure => omega
                      case rel => exact ⟨k, acc, st, (k : Int) - 1, by rw [HS.out], rfl, by first | rfl | go_num, rfl, Lib.hid rfl, by omega, Lib.hid (by have := HAC.out; omega), HST, HG2, HBi⟩
          · have hltI : ¬ ((L : Int) ≤ (ss.length : Int)) := by omega
            have HRF : Hid (RES = .tuple #[.string ⟨#[]⟩, .int .i64 7]) := Lib.hid (by rw [HRE.out, HFL.out, show ss.length + 1 - L = 0 by omega, fstN])
            go_wp2_with fail
            go_ret2
            exact ⟨by rw [HRF.out]; rfl, HBo.out.trans (HBd.out.mono hws)⟩
end Go.Proofs.YtaipaddfehpmgaaDoor
