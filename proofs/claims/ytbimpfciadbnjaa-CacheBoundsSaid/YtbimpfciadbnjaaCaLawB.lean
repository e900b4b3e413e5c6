/-
  The walk of CacheBounds. Nothing is assumed.
-/
import Derived.Test.YtbimpfciadbnjaaCaLawG
namespace Go.Proofs.Ytbimpfciadbnjaa
open Go.RowKit

theorem CaS.rz {w : World} {F : Nat → Prop} {n cap z h m r : Nat} {q : List Ent} (H : CaS w F n cap z q h m r) : r ≤ z := by
  obtain ⟨P, e0, mb, l, h1, h2, h3, h4, h5, h6, _⟩ := H
  exact h6
/-- The term that was put last under a key. -/
def lastP : List Cl → ByteArray → T → T
  | [], _, acc => acc
  | c :: r, k, acc => lastP r k (if c.kd = 0 ∧ c.k = k then c.t else acc)
theorem lastP_snoc (l : List Cl) (c : Cl) (k : ByteArray) : ∀ acc, lastP (l ++ [c]) k acc = if c.kd = 0 ∧ c.k = k then c.t else lastP l k acc := by
  induction l with
  | nil => intro acc; rfl
  | cons a l ih => intro acc; rw [List.cons_append, lastP, ih]; rfl
def z0 : T := .mk 0 []
theorem lastP_next {l : List Cl} {j : Nat} (h : j < l.length) (k : ByteArray) : lastP (l.take (j + 1)) k z0 = if l[j].kd = 0 ∧ l[j].k = k then l[j].t else lastP (l.take j) k z0 := by
  rw [List.take_succ_eq_append_getElem h, lastP_snoc]
/-- Each program was put last under its key. -/
def LastOk (l : List Cl) (k : Nat) (q : List Ent) : Prop := ∀ e ∈ q, lastP (l.take k) e.1 z0 = e.2
theorem LastOk.put {l : List Cl} {k cap : Nat} {q : List Ent} (h : LastOk l k q) (hn : (q.map Prod.fst).Nodup) (hk : k < l.length) (hkd : l[k].kd = 0) : LastOk l (k + 1) (putQ cap q l[k].k l[k].t) := by
  have hsub : ∀ e ∈ putQ cap q l[k].k l[k].t, e = (l[k].k, l[k].t) ∨ (e ∈ q ∧ e.1 ≠ l[k].k) := by
    intro e he
    unfold putQ at he
    split at he
    · rcases List.mem_cons.1 he with he | he
      · exact .inl he
      · exact .inr ⟨(del_sub q _).subset he, del_not hn e he⟩
    · rename_i hx
      have hno := fnd_none.1 (by simpa using hx)
      split at he
      · rcases List.mem_cons.1 he with he | he
        · exact .inl he
        · exact .inr ⟨List.dropLast_subset q he, hno e (List.dropLast_subset q he)⟩
      · rcases List.mem_cons.1 he with he | he
        · exact .inl he
        · exact .inr ⟨he, hno e he⟩
  intro e he
  rw [lastP_next hk]
  rcases hsub e he with rfl | ⟨h1, h2⟩
  · rw [if_pos ⟨hkd, rfl⟩]
  · rw [if_neg (fun h => h2 h.2.symm)]
    exact h e h1
theorem LastOk.use {l : List Cl} {k : Nat} {q : List Ent} (h : LastOk l k q) (hk : k < l.length) (hkd : l[k].kd ≠ 0) (key : ByteArray) : LastOk l (k + 1) (useQ q key) := by
  intro e he
  rw [lastP_next hk, if_neg (fun h => hkd h.1)]
  unfold useQ at he
  split at he
  · rename_i t ht
    rcases List.mem_cons.1 he with rfl | he
    · exact h _ (fnd_mem ht)
    · exact h e ((del_sub q _).subset he)
  · exact h e he
theorem count_put {cap r : Nat} {q : List Ent} (hc : 1 ≤ cap) (k : ByteArray) (t : T) : (putQ cap q k t).length + (r + outQ cap q k) = q.length + r + (if (fnd q k).isSome then 0 else 1) := by
  unfold putQ outQ
  split
  · rename_i h
    obtain ⟨v, hv⟩ := Option.isSome_iff_exists.1 h
    have := del_len hv
    simp
    omega
  · split
    · simp; omega
    · simp; omega
theorem wrapEqC (x : Int) : IntKind.i64.wrap x = wrap64 x := by rw [IntKind.wrap_i64]; unfold wrap64; omega
theorem sub_len {a b c : Nat} (h : a = c + b) (hb : a ≤ 1000) : IntKind.i64.wrap ((a : Int) - (b : Int)) = (c : Int) ∧ wrap64 ((a : Int) - (b : Int)) = (c : Int) := by
  have e : (a : Int) - (b : Int) = (c : Int) := by omega
  have e2 : wrap64 (c : Int) = (c : Int) := by unfold wrap64; omega
  rw [e]
  exact ⟨(wrapEqC _).trans e2, e2⟩

set_option maxRecDepth 100000 in
set_option maxHeartbeats 6400000 in
theorem lawBounds_any (c0 : Int) (x : Value) (l : List Cl) (w : World) (hx : HoldsO w w.heap.size x l) : Calls Try.prog 4 #[.int .i64 c0, x] w fun e w' => e = .returned (.bool true) ∧ Below w.heap.size w w' := by
  have HA : Hid (∀ W, Below w.heap.size w W → Calls Try.prog 9 #[] W fun e w' => e = .returned (.bool true) ∧ Below w.heap.size w w') := Lib.hid (fun W hW => (awake_any W).mono fun e w' ⟨h1, h2⟩ => ⟨h1, hW.trans (h2.mono hW.size)⟩)
  have HX := Lib.hid hx
  have HL := light_any l x w w.heap.size hx (Nat.le_refl _)
  obtain ⟨oa, cx, rfl, _, _⟩ := hx.form
  clear hx
  cases hlt : lightC l with
  | false =>
    rw [hlt] at HL
    clear hlt
    go_enter Try.func4, Try.ntmps4
    go_wp2_with fail
    refine HL.mono ?_
    rintro e w1 ⟨rfl, hb1⟩
    go_wp2_with fail
    refine (HA.out _ hb1).mono ?_
    rintro e w2 ⟨rfl, hb2⟩
    go_wp2_with fail
    go_ret
    exact ⟨rfl, hb2⟩
  | true =>
  rw [hlt] at HL
  have HLT := Lib.hid (light_of hlt)
  clear hlt
  by_cases hc : 1 ≤ c0 ∧ c0 ≤ 100
  case neg =>
    by_cases g1 : c0 < 1
    · clear hc
      go_enter Try.func4, Try.ntmps4
      go_wp2_with fail
      refine HL.mono ?_
      rintro e w1 ⟨rfl, hb1⟩
      go_wp2_with fail
      refine (HA.out _ hb1).mono ?_
      rintro e w2 ⟨rfl, hb2⟩
      go_wp2_with fail
      go_ret
      exact ⟨rfl, hb2⟩
    have g3 : 100 < c0 := by omega
    clear hc
    go_enter Try.func4, Try.ntmps4
    go_wp2_with fail
    refine HL.mono ?_
    rintro e w1 ⟨rfl, hb1⟩
    go_wp2_with fail
    refine (HA.out _ hb1).mono ?_
    rintro e w2 ⟨rfl, hb2⟩
    go_wp2_with fail
    go_ret
    exact ⟨rfl, hb2⟩
  obtain ⟨ca, rfl⟩ : ∃ n : Nat, c0 = n := ⟨c0.toNat, by omega⟩
  have d1 : ¬ (ca : Int) < 1 := by omega
  have d3 : ¬ (100 : Int) < (ca : Int) := by omega
  have HCC : Hid (1 ≤ ca ∧ ca ≤ 100) := Lib.hid (by omega)
  clear hc
  go_enter Try.func4, Try.ntmps4
  go_wp2_with fail
  refine HL.mono ?_
  rintro e w1 ⟨rfl, hb1⟩
  have HB1 := Lib.hid hb1
  have HN1 := Lib.hid (new_any w1 ca (by have := HCC.out; omega) (by have := HCC.out; omega))
  clear hb1 HL
  go_wp2_with fail
  refine HN1.out.mono ?_
  rintro e w2 ⟨rfl, h2, hb2⟩
  have HC2 := Lib.hid (h2 0)
  have HB2 := Lib.hid (HB1.out.trans (hb2.mono HB1.out.size))
  have HF2 : Hid (∀ b, (w1.heap.size ≤ b ∧ b < w2.heap.size) → w.heap.size ≤ b) := Lib.hid (fun b h => by have := h.1; have := HB1.out.size; omega)
  clear h2 hb2 HN1
  go_wp2_with fail
  generalize w1.heap.size = na at *
  clear d1 d3
  go_loopw [7, 8] (fun v i wr => ∃ (k ad : Nat) (F : Nat → Prop) (q : List Ent) (h m r : Nat), k ≤ l.length ∧ v = .int .i64 ad ∧ i = .int .i64 k ∧ Hid (CaS wr F na ca k q h m r ∧ (∀ b, F b → w.heap.size ≤ b) ∧ ad = q.length + r ∧ LastOk l k q) ∧ Below w.heap.size w wr) (fun _ i _ => l.length - (intOf i).toNat)
  case atStart => exact ⟨0, 0, _, [], 0, 0, 0, Nat.zero_le _, rfl, rfl, Lib.hid ⟨HC2.out, HF2.out, rfl, fun e he => absurd he (List.not_mem_nil)⟩, HB2.out⟩
  case round =>
    obtain ⟨k, ad, F, q, h, m, r, hk, rfl, rfl, HI, hbr⟩ := hrel
    obtain ⟨V0, hV0⟩ : ∃ V0 : World, V0 = wr := ⟨_, rfl⟩
    rw [← hV0] at HI hbr ⊢
    clear hV0
    have HBR := Lib.hid hbr
    by_cases hlt : k < l.length
    case neg =>
      go_wp2_with fail
      refine (HA.out _ HBR.out).mono ?_
      rintro e w4 ⟨rfl, hb4⟩
      go_wp2_with fail
      go_ret
      exact ⟨rfl, hb4⟩
    obtain ⟨b, off, os, cs, rfl, hb, s0, s1, s2, s3, hR⟩ := HX.out.at_ (List.getElem?_eq_getElem hlt)
    rw [← hbr.cell (p := ⟨b, _, none⟩) hb] at s0 s1 s2 s3
    obtain ⟨hl40, hsm⟩ := HLT.out
    obtain ⟨hsk, hst⟩ := hsm k _ (List.getElem?_eq_getElem hlt)
    have q0 : (0 : Int) ≤ (k : Int) := by omega
    have q1 : (k : Int) < (l.length : Int) := by omega
    have HRP := Lib.hid hR
    obtain ⟨u, hu⟩ : ∃ u, l[k] = u := ⟨_, rfl⟩
    rw [hu] at s0 s1 s2 s3 hsk hst HRP
    have HU := Lib.hid hu
    have hbx := below1 V0 (.cells #[.int .i64 u.kd, .string u.k, .int .i64 u.t.r, .slice os u.t.l.length cs] 38)
    have o0 : (V0.alloc (.cells #[.int .i64 u.kd, .string u.k, .int .i64 u.t.r, .slice os u.t.l.length cs] 38)).cell? ⟨V0.heap.size, 0, none⟩ = some (.int .i64 u.kd) := cell_at _ _ _ _ _ rfl
    have o1 : (V0.alloc (.cells #[.int .i64 u.kd, .string u.k, .int .i64 u.t.r, .slice os u.t.l.length cs] 38)).cell? ⟨V0.heap.size, 1, none⟩ = some (.string u.k) := cell_at _ _ _ _ _ rfl
    have o2 : (V0.alloc (.cells #[.int .i64 u.kd, .string u.k, .int .i64 u.t.r, .slice os u.t.l.length cs] 38)).cell? ⟨V0.heap.size, 2, none⟩ = some (.int .i64 u.t.r) := cell_at _ _ _ _ _ rfl
    have o3 : (V0.alloc (.cells #[.int .i64 u.kd, .string u.k, .int .i64 u.t.r, .slice os u.t.l.length cs] 38)).cell? ⟨V0.heap.size, 3, none⟩ = some (.slice os u.t.l.length cs) := cell_at _ _ _ _ _ rfl
    have hz4 : (V0.alloc (.cells #[.int .i64 u.kd, .string u.k, .int .i64 u.t.r, .slice os u.t.l.length cs] 38)).heap.size = V0.heap.size + 1 := by simp
    have HB4 := Lib.hid (hbr.trans (hbx.mono hbr.size))
    have HOC := Lib.hid (And.intro o1 (And.intro o2 o3))
    have HNF : Hid (¬ F V0.heap.size) := Lib.hid (fun hF => by have := HI.out.1.lt _ hF; omega)
    have HC4 := Lib.hid (HI.out.1.below hbx)
    have hk40 : k ≤ 40 := by omega
    clear hR hbx hl40 hsm hu hbr
    by_cases hkd : u.kd = 0
    case pos =>
      have hkd' : (u.kd == 0) = true := by rw [hkd]; rfl
      have HPK := Lib.hid (peek_any HC4.out u.k hsk)
      have HKD := Lib.hid hkd
      clear hkd
      go_wp2_with fail
      generalize V0.alloc (.cells #[.int .i64 u.kd, .string u.k, .int .i64 u.t.r, .slice os u.t.l.length cs] 38) = w4 at *
      refine HPK.out.mono ?_
      rintro e w5 ⟨hr5, hb5⟩
      have HB5 := Lib.hid (HB4.out.trans (hb5.mono HB4.out.size))
      have HC5 := Lib.hid (HC4.out.below hb5)
      have p1 := (hb5.cell (p := ⟨V0.heap.size, 1, none⟩) (by show V0.heap.size < w4.heap.size; omega)).trans HOC.out.1
      have p2 := (hb5.cell (p := ⟨V0.heap.size, 2, none⟩) (by show V0.heap.size < w4.heap.size; omega)).trans HOC.out.2.1
      have p3 := (hb5.cell (p := ⟨V0.heap.size, 3, none⟩) (by show V0.heap.size < w4.heap.size; omega)).trans HOC.out.2.2
      have hz5 : V0.heap.size < w5.heap.size := by have := hb5.size; omega
      clear hb5 HPK o0 o1 o2 o3
      cases hfq : fnd q u.k with
      | none =>
        rw [hfq] at hr5
        obtain rfl : e = .returned (.tuple #[.agg #[.int .i64 0, .slice none 0 0], .bool false]) := hr5
        have hbx := below1 w5 (.cells #[.int .i64 0, .slice none 0 0] 36)
        have HB6 := Lib.hid (HB5.out.trans (hbx.mono HB5.out.size))
        have HC6 := Lib.hid (HC5.out.below hbx)
        have p1 := (hbx.cell (p := ⟨V0.heap.size, 1, none⟩) hz5).trans p1
        have p2 := (hbx.cell (p := ⟨V0.heap.size, 2, none⟩) hz5).trans p2
        have p3 := (hbx.cell (p := ⟨V0.heap.size, 3, none⟩) hz5).trans p3
        have HFQ := Lib.hid hfq
        have HPT := Lib.hid (put_any HC6.out (by omega) HCC.out.1 u.k hsk u.t (.slice os u.t.l.length cs) (fun b => b < w.heap.size) ((RP.of (HRP.out.later HB6.out))) (fun b hb => ⟨Nat.lt_of_lt_of_le hb HB6.out.size, fun hf => by have := HI.out.2.1 b hf; omega⟩) hst)
        obtain ⟨a1, ha1⟩ : ∃ a1 : Nat, a1 = ad + 1 := ⟨_, rfl⟩
        have had := wrap_one (a := ad) (z := 1000) (by have := HI.out.2.2.1; have := HI.out.1.nodup.2; have := HI.out.1.rz; have := HCC.out; omega) (by omega)
        rw [show (ad : Int) + 1 = (a1 : Int) by omega] at had
        have had2 : (ad : Int) + 1 = (a1 : Int) := by omega
        have HA1 := Lib.hid ha1
        clear ha1
        clear hbx hfq
        go_wp2_with fail
        refine HPT.out.mono ?_
        rintro e wT ⟨rfl, hT, hoT⟩
        obtain ⟨qT, hqT⟩ : ∃ qT, putQ ca q u.k u.t = qT := ⟨_, rfl⟩
        obtain ⟨rT, hrT⟩ : ∃ rT, r + outQ ca q u.k = rT := ⟨_, rfl⟩
        rw [hqT, hrT] at hT
        have HCT := Lib.hid hT
        have HBT := Lib.hid (HB6.out.trans (hoT.toBelow HB6.out.size HI.out.2.1))
        have HFT : Hid (∀ b, gF F (w5.alloc (.cells #[.int .i64 0, .slice none 0 0] 36)) wT b → w.heap.size ≤ b) := Lib.hid (fun b hb => by
          rcases hb with hb | hb
          · exact HI.out.2.1 b hb
          · exact Nat.le_trans HB6.out.size hb.1)
        have HADT : Hid (a1 = qT.length + rT) := Lib.hid (by rw [← hqT, ← hrT, count_put HCC.out.1, HFQ.out]; have := HI.out.2.2.1; rw [if_neg (by simp)]; have := HA1.out; omega)
        have HRT : Hid (rT ≤ 200) := Lib.hid (by have := HCT.out.rz; omega)
        have HLST : Hid (LastOk l (k + 1) qT) := Lib.hid (by
          rw [← hqT]
          have h1 := HU.out
          have h2 := HI.out.2.2.2.put (cap := ca) HI.out.1.nodup.1 hlt (by rw [h1]; exact HKD.out)
          rw [h1] at h2
          exact h2)
        generalize gF F (w5.alloc (.cells #[.int .i64 0, .slice none 0 0] 36)) wT = FT at *
        clear hT hoT p1 p2 p3 HPT hqT hrT
        have hlen := HCT.out.nodup.2
        have hnd := HCT.out.nodup.1
        have HKY := Lib.hid (keys_any HCT.out (by have := HCC.out; omega))
        clear hlen
        go_wp2_with fail
        refine HKY.out.mono ?_
        rintro e v1 ⟨⟨kv, rfl, hkv⟩, hbv1⟩
        have HCV := Lib.hid (HCT.out.below hbv1)
        have HBV := Lib.hid (HBT.out.trans (hbv1.mono HBT.out.size))
        have HKV := Lib.hid hkv.holds.all
        have HST := Lib.hid (stats_any HCV.out)
        obtain ⟨ok, ck, rfl, _, _⟩ := hkv.holds.form
        clear hkv hbv1 HKY
        go_wp2_with fail
        refine HST.out.mono ?_
        rintro e v2 ⟨rfl, hbv2, _⟩
        have HKV2 := Lib.hid (HKV.out.on hbv2)
        have HBV2 := Lib.hid (HBV.out.trans (hbv2.mono HBV.out.size))
        have HCV2 := Lib.hid (HCV.out.below hbv2)
        obtain ⟨KS, hks⟩ : ∃ KS, qT.map Prod.fst = KS := ⟨_, rfl⟩
        rw [hks] at HKV2 hnd
        have hklen : KS.length = qT.length := by rw [← hks, List.length_map]
        have hsub := sub_len HADT.out (by have := HADT.out; have := HCT.out.nodup.2; have := HCC.out; have := HRT.out; omega)
        rw [← hklen] at hsub
        obtain ⟨hsub1, hsub2⟩ := hsub
        have hcap : ¬ (ca : Int) < (KS.length : Int) := by have := HCT.out.nodup.2; omega
        rw [← hklen]
        have HND := Lib.hid hnd
        have HKN := Lib.hid hklen
        clear hbv2 HST hks hnd hklen HKV HCV HBV
        go_wp2_with fail
        clear hsub1 hsub2 hcap
        go_loopw [20] (fun i vr => ∃ j : Nat, 1 ≤ j ∧ (j ≤ KS.length ∨ j = 1) ∧ i = .int .i64 j ∧ Below v2.heap.size v2 vr) (fun i _ => KS.length - (intOf i).toNat)
        case atStart => exact ⟨1, Nat.le_refl _, .inr rfl, rfl, Below.refl _ _⟩
        case round =>
          obtain ⟨j, hj1, hj2, rfl, hbj⟩ := hrel
          by_cases hjl : j < KS.length
          · have q2 : (j : Int) < (KS.length : Int) := by omega
            have HBJ := Lib.hid hbj
            have HJ2 := Lib.hid hj2
            clear hbj hj2
            obtain ⟨vo, hvo⟩ : ∃ vo : World, vo = wr := ⟨_, rfl⟩
            rw [← hvo] at HBJ ⊢
            clear hvo
            go_wp2_with fail
            go_loopw [21] (fun i vr => ∃ p : Nat, p ≤ j ∧ i = .int .i64 p ∧ Below v2.heap.size v2 vr) (fun i _ => j - (intOf i).toNat)
            case atStart => exact ⟨0, Nat.zero_le _, rfl, HBJ.out⟩
            case round =>
              obtain ⟨p, hp, rfl, hbp⟩ := hrel
              by_cases hpj : p < j
              · have q3 : (p : Int) < (j : Int) := by omega
                have q4 : (0 : Int) ≤ (p : Int) := by omega
                have q5 : (0 : Int) ≤ (j : Int) := by omega
                have q6 : (p : Int) < (KS.length : Int) := by omega
                have hpl : p < KS.length := by omega
                obtain ⟨bk, fk, rfl, hbk, k0⟩ := (HKV2.out.later hbp).at_ (List.getElem?_eq_getElem hpl)
                obtain ⟨bk', fk', ek, _, k1⟩ := (HKV2.out.later hbp).at_ (List.getElem?_eq_getElem hjl)
                cases ek
                have hne := str_ne (show KS[p] ≠ KS[j] from fun e => by
                  have := (List.getElem_inj HND.out).1 e
                  omega)
                have HBP := Lib.hid hbp
                clear hbp hbk
                go_wp2_with fail
                go_quiet (fail)
                go_wp2_with fail
                go_roundw
                case rel => exact ⟨p + 1, hpj, by go_num, HBP.out.trans (below_drewN _ _ _)⟩
                case measure => simp [intOf]; omega
              · have hpp : p = j := by omega
                have HBP := Lib.hid hbp
                clear hbp
                go_wp2_with fail
                go_roundw
                case rel => exact ⟨j + 1, by omega, .inl hjl, by go_num, HBP.out⟩
                case measure => simp [intOf]; omega
          · have q2 : ¬ (j : Int) < (KS.length : Int) := by omega
            have HBJ := Lib.hid hbj
            clear hbj hj2
            go_wp2_with fail
            go_roundw
            case rel => exact ⟨k + 1, a1, FT, qT, h, m, rT, hlt, by go_num, by go_num, Lib.hid ⟨HCV2.out.below HBJ.out, HFT.out, HADT.out, HLST.out⟩, HBV2.out.trans (HBJ.out.mono HBV2.out.size)⟩
            case measure => simp [intOf]; omega
      | some tq =>
        rw [hfq] at hr5
        obtain ⟨sq, he, hf5⟩ := hr5
        obtain ⟨oq, cq, rfl, _, _⟩ := hf5.form
        obtain rfl := he
        clear hf5
        have hbx := below1 w5 (.cells #[.int .i64 tq.r, .slice oq tq.l.length cq] 36)
        have HB6 := Lib.hid (HB5.out.trans (hbx.mono HB5.out.size))
        have HC6 := Lib.hid (HC5.out.below hbx)
        have p1 := (hbx.cell (p := ⟨V0.heap.size, 1, none⟩) hz5).trans p1
        have p2 := (hbx.cell (p := ⟨V0.heap.size, 2, none⟩) hz5).trans p2
        have p3 := (hbx.cell (p := ⟨V0.heap.size, 3, none⟩) hz5).trans p3
        have HFQ := Lib.hid hfq
        have HPT := Lib.hid (put_any HC6.out (by omega) HCC.out.1 u.k hsk u.t (.slice os u.t.l.length cs) (fun b => b < w.heap.size) ((RP.of (HRP.out.later HB6.out))) (fun b hb => ⟨Nat.lt_of_lt_of_le hb HB6.out.size, fun hf => by have := HI.out.2.1 b hf; omega⟩) hst)
        clear hbx hfq
        go_wp2_with fail
        refine HPT.out.mono ?_
        rintro e wT ⟨rfl, hT, hoT⟩
        obtain ⟨qT, hqT⟩ : ∃ qT, putQ ca q u.k u.t = qT := ⟨_, rfl⟩
        obtain ⟨rT, hrT⟩ : ∃ rT, r + outQ ca q u.k = rT := ⟨_, rfl⟩
        rw [hqT, hrT] at hT
        have HCT := Lib.hid hT
        have HBT := Lib.hid (HB6.out.trans (hoT.toBelow HB6.out.size HI.out.2.1))
        have HFT : Hid (∀ b, gF F (w5.alloc (.cells #[.int .i64 tq.r, .slice oq tq.l.length cq] 36)) wT b → w.heap.size ≤ b) := Lib.hid (fun b hb => by
          rcases hb with hb | hb
          · exact HI.out.2.1 b hb
          · exact Nat.le_trans HB6.out.size hb.1)
        have HADT : Hid (ad = qT.length + rT) := Lib.hid (by rw [← hqT, ← hrT, count_put HCC.out.1, HFQ.out]; have := HI.out.2.2.1; rw [if_pos (by simp)]; omega)
        have HRT : Hid (rT ≤ 200) := Lib.hid (by have := HCT.out.rz; omega)
        have HLST : Hid (LastOk l (k + 1) qT) := Lib.hid (by
          rw [← hqT]
          have h1 := HU.out
          have h2 := HI.out.2.2.2.put (cap := ca) HI.out.1.nodup.1 hlt (by rw [h1]; exact HKD.out)
          rw [h1] at h2
          exact h2)
        generalize gF F (w5.alloc (.cells #[.int .i64 tq.r, .slice oq tq.l.length cq] 36)) wT = FT at *
        clear hT hoT p1 p2 p3 HPT hqT hrT
        have hlen := HCT.out.nodup.2
        have hnd := HCT.out.nodup.1
        have HKY := Lib.hid (keys_any HCT.out (by have := HCC.out; omega))
        clear hlen
        go_wp2_with fail
        refine HKY.out.mono ?_
        rintro e v1 ⟨⟨kv, rfl, hkv⟩, hbv1⟩
        have HCV := Lib.hid (HCT.out.below hbv1)
        have HBV := Lib.hid (HBT.out.trans (hbv1.mono HBT.out.size))
        have HKV := Lib.hid hkv.holds.all
        have HST := Lib.hid (stats_any HCV.out)
        obtain ⟨ok, ck, rfl, _, _⟩ := hkv.holds.form
        clear hkv hbv1 HKY
        go_wp2_with fail
        refine HST.out.mono ?_
        rintro e v2 ⟨rfl, hbv2, _⟩
        have HKV2 := Lib.hid (HKV.out.on hbv2)
        have HBV2 := Lib.hid (HBV.out.trans (hbv2.mono HBV.out.size))
        have HCV2 := Lib.hid (HCV.out.below hbv2)
        obtain ⟨KS, hks⟩ : ∃ KS, qT.map Prod.fst = KS := ⟨_, rfl⟩
        rw [hks] at HKV2 hnd
        have hklen : KS.length = qT.length := by rw [← hks, List.length_map]
        have hsub := sub_len HADT.out (by have := HADT.out; have := HCT.out.nodup.2; have := HCC.out; have := HRT.out; omega)
        rw [← hklen] at hsub
        obtain ⟨hsub1, hsub2⟩ := hsub
        have hcap : ¬ (ca : Int) < (KS.length : Int) := by have := HCT.out.nodup.2; omega
        rw [← hklen]
        have HND := Lib.hid hnd
        have HKN := Lib.hid hklen
        clear hbv2 HST hks hnd hklen HKV HCV HBV
        go_wp2_with fail
        clear hsub1 hsub2 hcap
        go_loopw [20] (fun i vr => ∃ j : Nat, 1 ≤ j ∧ (j ≤ KS.length ∨ j = 1) ∧ i = .int .i64 j ∧ Below v2.heap.size v2 vr) (fun i _ => KS.length - (intOf i).toNat)
        case atStart => exact ⟨1, Nat.le_refl _, .inr rfl, rfl, Below.refl _ _⟩
        case round =>
          obtain ⟨j, hj1, hj2, rfl, hbj⟩ := hrel
          by_cases hjl : j < KS.length
          · have q2 : (j : Int) < (KS.length : Int) := by omega
            have HBJ := Lib.hid hbj
            have HJ2 := Lib.hid hj2
            clear hbj hj2
            obtain ⟨vo, hvo⟩ : ∃ vo : World, vo = wr := ⟨_, rfl⟩
            rw [← hvo] at HBJ ⊢
            clear hvo
            go_wp2_with fail
            go_loopw [21] (fun i vr => ∃ p : Nat, p ≤ j ∧ i = .int .i64 p ∧ Below v2.heap.size v2 vr) (fun i _ => j - (intOf i).toNat)
            case atStart => exact ⟨0, Nat.zero_le _, rfl, HBJ.out⟩
            case round =>
              obtain ⟨p, hp, rfl, hbp⟩ := hrel
              by_cases hpj : p < j
              · have q3 : (p : Int) < (j : Int) := by omega
                have q4 : (0 : Int) ≤ (p : Int) := by omega
                have q5 : (0 : Int) ≤ (j : Int) := by omega
                have q6 : (p : Int) < (KS.length : Int) := by omega
                have hpl : p < KS.length := by omega
                obtain ⟨bk, fk, rfl, hbk, k0⟩ := (HKV2.out.later hbp).at_ (List.getElem?_eq_getElem hpl)
                obtain ⟨bk', fk', ek, _, k1⟩ := (HKV2.out.later hbp).at_ (List.getElem?_eq_getElem hjl)
                cases ek
                have hne := str_ne (show KS[p] ≠ KS[j] from fun e => by
                  have := (List.getElem_inj HND.out).1 e
                  omega)
                have HBP := Lib.hid hbp
                clear hbp hbk
                go_wp2_with fail
                go_quiet (fail)
                go_wp2_with fail
                go_roundw
                case rel => exact ⟨p + 1, hpj, by go_num, HBP.out.trans (below_drewN _ _ _)⟩
                case measure => simp [intOf]; omega
              · have hpp : p = j := by omega
                have HBP := Lib.hid hbp
                clear hbp
                go_wp2_with fail
                go_roundw
                case rel => exact ⟨j + 1, by omega, .inl hjl, by go_num, HBP.out⟩
                case measure => simp [intOf]; omega
          · have q2 : ¬ (j : Int) < (KS.length : Int) := by omega
            have HBJ := Lib.hid hbj
            clear hbj hj2
            go_wp2_with fail
            go_roundw
            case rel => exact ⟨k + 1, ad, FT, qT, h, m, rT, hlt, by go_num, by go_num, Lib.hid ⟨HCV2.out.below HBJ.out, HFT.out, HADT.out, HLST.out⟩, HBV2.out.trans (HBJ.out.mono HBV2.out.size)⟩
            case measure => simp [intOf]; omega
    case neg =>
      have hkd' : (u.kd == 0) = false := by rw [beq_eq_false_iff_ne]; exact hkd
      have HGT := Lib.hid (get_any HC4.out (by omega) u.k hsk)
      have HKD := Lib.hid hkd
      clear hkd
      go_wp2_with fail
      generalize V0.alloc (.cells #[.int .i64 u.kd, .string u.k, .int .i64 u.t.r, .slice os u.t.l.length cs] 38) = w4 at *
      refine HGT.out.mono ?_
      rintro e w5 ⟨hr5, h5, ho5⟩
      have HB5 := Lib.hid (HB4.out.trans (ho5.toBelow HB4.out.size HI.out.2.1))
      obtain ⟨qT, hqT⟩ : ∃ qT, useQ q u.k = qT := ⟨_, rfl⟩
      obtain ⟨hT, hhT⟩ : ∃ hT, hitN q u.k h = hT := ⟨_, rfl⟩
      obtain ⟨mT, hmT⟩ : ∃ mT, misN q u.k m = mT := ⟨_, rfl⟩
      rw [hqT, hhT, hmT] at h5
      have HC5 := Lib.hid h5
      have p1 := (ho5.cell (b := V0.heap.size) (by omega) HNF.out 1).trans HOC.out.1
      have HZ5 : Hid (w4.heap.size ≤ w5.heap.size) := Lib.hid ho5.kp.size
      have hz5 : V0.heap.size < w5.heap.size := by have := HZ5.out; omega
      have HFT := Lib.hid HI.out.2.1
      have HADT : Hid (ad = qT.length + r) := Lib.hid (by rw [← hqT, useQ_len]; exact HI.out.2.2.1)
      have HLST : Hid (LastOk l (k + 1) qT) := Lib.hid (by rw [← hqT]; exact HI.out.2.2.2.use hlt (by rw [HU.out]; exact HKD.out) _)
      have HRT : Hid (r ≤ 200) := Lib.hid (by have := HI.out.1.rz; omega)
      clear h5 ho5 HGT o0 o1 o2 o3 hqT hhT hmT
      cases hfq : fnd q u.k with
      | none =>
        rw [hfq] at hr5
        obtain rfl : e = .returned (.tuple #[.agg #[.int .i64 0, .slice none 0 0], .bool false]) := hr5
        have hbx := below1 w5 (.cells #[.int .i64 0, .slice none 0 0] 36)
        have HBT := Lib.hid (HB5.out.trans (hbx.mono HB5.out.size))
        have HCT := Lib.hid (HC5.out.below hbx)
        clear hbx hfq p1
        go_wp2_with fail
        generalize w5.alloc (.cells #[.int .i64 0, .slice none 0 0] 36) = wT at *
        have hlen := HCT.out.nodup.2
        have hnd := HCT.out.nodup.1
        have HKY := Lib.hid (keys_any HCT.out (by have := HCC.out; omega))
        clear hlen
        go_wp2_with fail
        refine HKY.out.mono ?_
        rintro e v1 ⟨⟨kv, rfl, hkv⟩, hbv1⟩
        have HCV := Lib.hid (HCT.out.below hbv1)
        have HBV := Lib.hid (HBT.out.trans (hbv1.mono HBT.out.size))
        have HKV := Lib.hid hkv.holds.all
        have HST := Lib.hid (stats_any HCV.out)
        obtain ⟨ok, ck, rfl, _, _⟩ := hkv.holds.form
        clear hkv hbv1 HKY
        go_wp2_with fail
        refine HST.out.mono ?_
        rintro e v2 ⟨rfl, hbv2, _⟩
        have HKV2 := Lib.hid (HKV.out.on hbv2)
        have HBV2 := Lib.hid (HBV.out.trans (hbv2.mono HBV.out.size))
        have HCV2 := Lib.hid (HCV.out.below hbv2)
        obtain ⟨KS, hks⟩ : ∃ KS, qT.map Prod.fst = KS := ⟨_, rfl⟩
        rw [hks] at HKV2 hnd
        have hklen : KS.length = qT.length := by rw [← hks, List.length_map]
        have hsub := sub_len HADT.out (by have := HADT.out; have := HCT.out.nodup.2; have := HCC.out; have := HRT.out; omega)
        rw [← hklen] at hsub
        obtain ⟨hsub1, hsub2⟩ := hsub
        have hcap : ¬ (ca : Int) < (KS.length : Int) := by have := HCT.out.nodup.2; omega
        rw [← hklen]
        have HND := Lib.hid hnd
        have HKN := Lib.hid hklen
        clear hbv2 HST hks hnd hklen HKV HCV HBV
        go_wp2_with fail
        clear hsub1 hsub2 hcap
        go_loopw [20] (fun i vr => ∃ j : Nat, 1 ≤ j ∧ (j ≤ KS.length ∨ j = 1) ∧ i = .int .i64 j ∧ Below v2.heap.size v2 vr) (fun i _ => KS.length - (intOf i).toNat)
        case atStart => exact ⟨1, Nat.le_refl _, .inr rfl, rfl, Below.refl _ _⟩
        case round =>
          obtain ⟨j, hj1, hj2, rfl, hbj⟩ := hrel
          by_cases hjl : j < KS.length
          · have q2 : (j : Int) < (KS.length : Int) := by omega
            have HBJ := Lib.hid hbj
            have HJ2 := Lib.hid hj2
            clear hbj hj2
            obtain ⟨vo, hvo⟩ : ∃ vo : World, vo = wr := ⟨_, rfl⟩
            rw [← hvo] at HBJ ⊢
            clear hvo
            go_wp2_with fail
            go_loopw [21] (fun i vr => ∃ p : Nat, p ≤ j ∧ i = .int .i64 p ∧ Below v2.heap.size v2 vr) (fun i _ => j - (intOf i).toNat)
            case atStart => exact ⟨0, Nat.zero_le _, rfl, HBJ.out⟩
            case round =>
              obtain ⟨p, hp, rfl, hbp⟩ := hrel
              by_cases hpj : p < j
              · have q3 : (p : Int) < (j : Int) := by omega
                have q4 : (0 : Int) ≤ (p : Int) := by omega
                have q5 : (0 : Int) ≤ (j : Int) := by omega
                have q6 : (p : Int) < (KS.length : Int) := by omega
                have hpl : p < KS.length := by omega
                obtain ⟨bk, fk, rfl, hbk, k0⟩ := (HKV2.out.later hbp).at_ (List.getElem?_eq_getElem hpl)
                obtain ⟨bk', fk', ek, _, k1⟩ := (HKV2.out.later hbp).at_ (List.getElem?_eq_getElem hjl)
                cases ek
                have hne := str_ne (show KS[p] ≠ KS[j] from fun e => by
                  have := (List.getElem_inj HND.out).1 e
                  omega)
                have HBP := Lib.hid hbp
                clear hbp hbk
                go_wp2_with fail
                go_quiet (fail)
                go_wp2_with fail
                go_roundw
                case rel => exact ⟨p + 1, hpj, by go_num, HBP.out.trans (below_drewN _ _ _)⟩
                case measure => simp [intOf]; omega
              · have hpp : p = j := by omega
                have HBP := Lib.hid hbp
                clear hbp
                go_wp2_with fail
                go_roundw
                case rel => exact ⟨j + 1, by omega, .inl hjl, by go_num, HBP.out⟩
                case measure => simp [intOf]; omega
          · have q2 : ¬ (j : Int) < (KS.length : Int) := by omega
            have HBJ := Lib.hid hbj
            clear hbj hj2
            go_wp2_with fail
            go_roundw
            case rel => exact ⟨k + 1, ad, F, qT, hT, mT, r, hlt, by go_num, by go_num, Lib.hid ⟨HCV2.out.below HBJ.out, HFT.out, HADT.out, HLST.out⟩, HBV2.out.trans (HBJ.out.mono HBV2.out.size)⟩
            case measure => simp [intOf]; omega
      | some tq =>
        rw [hfq] at hr5
        obtain ⟨sq, he, hf5⟩ := hr5
        obtain ⟨oq, cq, rfl, _, _⟩ := hf5.form
        obtain rfl := he
        have hbx := below1 w5 (.cells #[.int .i64 tq.r, .slice oq tq.l.length cq] 36)
        have hbx2 := below1 (w5.alloc (.cells #[.int .i64 tq.r, .slice oq tq.l.length cq] 36)) (.cells #[.int .i64 0, .slice none 0 0] 36)
        have hbz := hbx.trans (hbx2.mono hbx.size)
        have hz6 : (w5.alloc (.cells #[.int .i64 tq.r, .slice oq tq.l.length cq] 36)).heap.size = w5.heap.size + 1 := by simp
        have hz7 : ((w5.alloc (.cells #[.int .i64 tq.r, .slice oq tq.l.length cq] 36)).alloc (.cells #[.int .i64 0, .slice none 0 0] 36)).heap.size = w5.heap.size + 2 := by simp
        have a0 := (hbx2.cell (p := ⟨w5.heap.size, 0, none⟩) (by rw [hz6]; show w5.heap.size < _; omega)).trans (cell_at w5 #[.int .i64 tq.r, .slice oq tq.l.length cq] 36 0 (.int .i64 tq.r) rfl)
        have a1 := (hbx2.cell (p := ⟨w5.heap.size, 1, none⟩) (by rw [hz6]; show w5.heap.size < _; omega)).trans (cell_at w5 #[.int .i64 tq.r, .slice oq tq.l.length cq] 36 1 (.slice oq tq.l.length cq) rfl)
        obtain ⟨b0, b1, f0, f1⟩ := zbox (w5.alloc (.cells #[.int .i64 tq.r, .slice oq tq.l.length cq] 36))
        rw [hz6] at b0 b1 f0 f1
        have p1 := (hbz.cell (p := ⟨V0.heap.size, 1, none⟩) hz5).trans p1
        have HB7 := Lib.hid (HB5.out.trans (hbz.mono HB5.out.size))
        have HC7 := Lib.hid (HC5.out.below hbz)
        have HTQ : Hid (tq.size ≤ 20) := Lib.hid (HI.out.1.small hfq)
        have HRQ := Lib.hid ((hf5.rep (B := w5.heap.size) (fun b hb => hb.2)).later hbz)
        have HLQ : Hid (lastP (l.take k) u.k z0 = tq) := Lib.hid (HI.out.2.2.2 _ (fnd_mem hfq))
        have HAA := Lib.hid (And.intro a0 (And.intro a1 p1))
        have HBB := Lib.hid (And.intro b0 (And.intro b1 (And.intro f0 f1)))
        clear hbx hbx2 hbz hf5 hfq p1 a0 a1 b0 b1 f0 f1 hz6
        go_wp2_with fail
        generalize (w5.alloc (.cells #[.int .i64 tq.r, .slice oq tq.l.length cq] 36)).alloc (.cells #[.int .i64 0, .slice none 0 0] 36) = w7 at *
        go_loopw [15] (fun i vr => ∃ (j : Nat) (t' : T) (o' : Option Addr) (c' : Nat), j ≤ k ∧ i = .int .i64 j ∧ Hid (lastP (l.take j) u.k z0 = t' ∧ Rep vr w.heap.size (.slice o' t'.l.length c') t'.l) ∧ Hid (vr.cell? ⟨w5.heap.size + 1, 0, none⟩ = some (.int .i64 t'.r) ∧ vr.cell? ⟨w5.heap.size + 1, 1, none⟩ = some (.slice o' t'.l.length c') ∧ vr.frozen? ⟨w5.heap.size + 1, 0, none⟩ = false ∧ vr.frozen? ⟨w5.heap.size + 1, 1, none⟩ = false) ∧ Hid (Below (w5.heap.size + 1) w7 vr)) (fun i _ => k - (intOf i).toNat)
        case atStart => exact ⟨0, z0, none, 0, Nat.zero_le _, rfl, Lib.hid ⟨by rw [List.take_zero]; rfl, Rep.nil⟩, HBB, Lib.hid (Below.refl _ _)⟩
        case round =>
          obtain ⟨j, t', o', c', hj, rfl, HLJ, HCJ, HBJ⟩ := hrel
          obtain ⟨vo, hvo⟩ : ∃ vo : World, vo = wr := ⟨_, rfl⟩
          rw [← hvo] at HLJ HCJ HBJ ⊢
          clear hvo
          have hbase : w.heap.size ≤ w5.heap.size := HB5.out.size
          by_cases hjk : j < k
          · have hjl : j < l.length := by omega
            have hbw : Below w.heap.size w vo := HB7.out.trans (HBJ.out.mono (by omega))
            obtain ⟨bj, offj, oj, cj, ej, hbj, t0', t1', t2', t3', hRj⟩ := HX.out.at_ (List.getElem?_eq_getElem hjl)
            obtain ⟨rfl, rfl⟩ : bj = b ∧ offj = off := by cases ej; exact ⟨rfl, rfl⟩
            rw [← hbw.cell (p := ⟨bj, _, none⟩) hb] at t0' t1' t2' t3'
            have HRJ := Lib.hid (hRj.later hbw)
            have q3 : (0 : Int) ≤ (j : Int) := by omega
            have q4 : (j : Int) < (k : Int) := by omega
            have q5 : (j : Int) < (l.length : Int) := by omega
            obtain ⟨uj, huj⟩ : ∃ uj, l[j] = uj := ⟨_, rfl⟩
            have HNX := Lib.hid (lastP_next hjl u.k)
            rw [huj] at t0' t1' t2' t3' HRJ HNX
            have p1 := (HBJ.out.cell (p := ⟨V0.heap.size, 1, none⟩) (by show V0.heap.size < w5.heap.size + 1; omega)).trans HAA.out.2.2
            obtain ⟨b0, b1, f0, f1⟩ := HCJ.out
            clear huj hRj hbw ej
            by_cases hm1 : uj.kd = 0
            · have hm1' : (uj.kd == 0) = true := by rw [hm1]; rfl
              by_cases hm2 : uj.k = u.k
              · have hq2 : (uj.k.toList == u.k.toList) = true := by rw [hm2]; simp
                have HM := Lib.hid (show lastP (l.take (j + 1)) u.k z0 = uj.t by rw [HNX.out, if_pos ⟨hm1, hm2⟩])
                clear hm1 hm2
                go_wp2_with fail
                go_quiet (fail)
                go_wp2_with fail
                have hb2 : Below (w5.heap.size + 1) w7 (((vo.drewN nq).setCell ⟨w5.heap.size + 1, 0, none⟩ (.int .i64 uj.t.r)).setCell ⟨w5.heap.size + 1, 1, none⟩ (.slice oj uj.t.l.length cj)) := (HBJ.out.trans (below_drewN _ _ _)).trans (((Below.refl (w5.heap.size + 1) (vo.drewN nq)).setCell (p := ⟨w5.heap.size + 1, 0, none⟩) (Nat.le_refl _) _).setCell (p := ⟨w5.heap.size + 1, 1, none⟩) (Nat.le_refl _) _)
                have hb3 : Below w.heap.size vo (((vo.drewN nq).setCell ⟨w5.heap.size + 1, 0, none⟩ (.int .i64 uj.t.r)).setCell ⟨w5.heap.size + 1, 1, none⟩ (.slice oj uj.t.l.length cj)) := (below_drewN _ _ _).trans (((Below.refl w.heap.size (vo.drewN nq)).setCell (p := ⟨w5.heap.size + 1, 0, none⟩) (by show w.heap.size ≤ w5.heap.size + 1; omega) _).setCell (p := ⟨w5.heap.size + 1, 1, none⟩) (by show w.heap.size ≤ w5.heap.size + 1; omega) _)
                go_roundw
                case rel =>
                  refine ⟨j + 1, uj.t, oj, cj, hjk, by go_num, Lib.hid ⟨HM.out, HRJ.out.later hb3⟩, Lib.hid ⟨?_, ?_, ?_, ?_⟩, Lib.hid hb2⟩
                  · rw [set_far _ _ _ _ _ _ (.inr (by decide)), set_at _ _ _ _ (by show (vo.cell? ⟨w5.heap.size + 1, 0, none⟩).isSome = true; rw [b0]; rfl)]
                  · rw [set_at _ _ _ _ (by rw [set_far _ _ _ _ _ _ (.inr (by decide))]; show (vo.cell? ⟨w5.heap.size + 1, 1, none⟩).isSome = true; rw [b1]; rfl)]
                  · simpa using f0
                  · simpa using f1
                case measure => simp [intOf]; omega
              · have hq2 := str_ne hm2
                have HM := Lib.hid (show lastP (l.take (j + 1)) u.k z0 = t' by rw [HNX.out, if_neg (fun hh => hm2 hh.2)]; exact HLJ.out.1)
                clear hm1 hm2
                go_wp2_with fail
                go_quiet (fail)
                go_wp2_with fail
                go_roundw
                case rel => exact ⟨j + 1, t', o', c', hjk, by go_num, Lib.hid ⟨HM.out, HLJ.out.2.later (below_drewN _ _ _)⟩, Lib.hid ⟨b0, b1, f0, f1⟩, Lib.hid (HBJ.out.trans (below_drewN _ _ _))⟩
                case measure => simp [intOf]; omega
            · have hm1' : (uj.kd == 0) = false := by rw [beq_eq_false_iff_ne]; exact hm1
              have HM := Lib.hid (show lastP (l.take (j + 1)) u.k z0 = t' by rw [HNX.out, if_neg (fun hh => hm1 hh.1)]; exact HLJ.out.1)
              clear hm1
              go_wp2_with fail
              go_quiet (fail)
              go_wp2_with fail
              go_roundw
              case rel => exact ⟨j + 1, t', o', c', hjk, by go_num, Lib.hid ⟨HM.out, HLJ.out.2.later (below_drewN _ _ _)⟩, Lib.hid ⟨b0, b1, f0, f1⟩, Lib.hid (HBJ.out.trans (below_drewN _ _ _))⟩
              case measure => simp [intOf]; omega
          · obtain rfl : k = j := by omega
            obtain rfl : t' = tq := HLJ.out.1.symm.trans HLQ.out
            have b0 := HCJ.out.1
            have b1 := HCJ.out.2.1
            have a0 := (HBJ.out.cell (p := ⟨w5.heap.size, 0, none⟩) (by show w5.heap.size < w5.heap.size + 1; omega)).trans HAA.out.1
            have a1 := (HBJ.out.cell (p := ⟨w5.heap.size, 1, none⟩) (by show w5.heap.size < w5.heap.size + 1; omega)).trans HAA.out.2.1
            have hvz : w5.heap.size + 2 ≤ vo.heap.size := by have := HBJ.out.size; omega
            have HSM := sameTerm_any t' t' (.slice oq t'.l.length cq) (.slice o' t'.l.length c') vo w5.heap.size (HRQ.out.later (HBJ.out.mono (by omega))) (HLJ.out.2.mono hbase) (by omega) (by have := HTQ.out; omega) (by have := HTQ.out; omega)
            rw [same_self] at HSM
            have HSM := Lib.hid HSM
            have HC8 := Lib.hid (HC7.out.keep (w' := vo) (F' := F) (fun b hf => HBJ.out.block b (by have := HC5.out.lt b hf; omega)) (fun _ h => h) (fun b hf => by have := HC5.out.lt b hf; omega))
            have HB8 := Lib.hid (HB7.out.trans (HBJ.out.mono (by omega)))
            clear hvz
            go_wp2_with fail
            refine HSM.out.mono ?_
            rintro e wT ⟨rfl, hbT⟩
            have HCT := Lib.hid (HC8.out.below hbT)
            have HBT := Lib.hid (HB8.out.trans (hbT.mono HB8.out.size))
            clear hbT HSM a0 a1 b0 b1
            have hlen := HCT.out.nodup.2
            have hnd := HCT.out.nodup.1
            have HKY := Lib.hid (keys_any HCT.out (by have := HCC.out; omega))
            clear hlen
            go_wp2_with fail
            refine HKY.out.mono ?_
            rintro e v1 ⟨⟨kv, rfl, hkv⟩, hbv1⟩
            have HCV := Lib.hid (HCT.out.below hbv1)
            have HBV := Lib.hid (HBT.out.trans (hbv1.mono HBT.out.size))
            have HKV := Lib.hid hkv.holds.all
            have HST := Lib.hid (stats_any HCV.out)
            obtain ⟨ok, ck, rfl, _, _⟩ := hkv.holds.form
            clear hkv hbv1 HKY
            go_wp2_with fail
            refine HST.out.mono ?_
            rintro e v2 ⟨rfl, hbv2, _⟩
            have HKV2 := Lib.hid (HKV.out.on hbv2)
            have HBV2 := Lib.hid (HBV.out.trans (hbv2.mono HBV.out.size))
            have HCV2 := Lib.hid (HCV.out.below hbv2)
            obtain ⟨KS, hks⟩ : ∃ KS, qT.map Prod.fst = KS := ⟨_, rfl⟩
            rw [hks] at HKV2 hnd
            have hklen : KS.length = qT.length := by rw [← hks, List.length_map]
            have hsub := sub_len HADT.out (by have := HADT.out; have := HCT.out.nodup.2; have := HCC.out; have := HRT.out; omega)
            rw [← hklen] at hsub
            obtain ⟨hsub1, hsub2⟩ := hsub
            have hcap : ¬ (ca : Int) < (KS.length : Int) := by have := HCT.out.nodup.2; omega
            rw [← hklen]
            have HND := Lib.hid hnd
            have HKN := Lib.hid hklen
            clear hbv2 HST hks hnd hklen HKV HCV HBV
            go_wp2_with fail
            clear hsub1 hsub2 hcap
            go_loopw [20] (fun i vr => ∃ j : Nat, 1 ≤ j ∧ (j ≤ KS.length ∨ j = 1) ∧ i = .int .i64 j ∧ Below v2.heap.size v2 vr) (fun i _ => KS.length - (intOf i).toNat)
            case atStart => exact ⟨1, Nat.le_refl _, .inr rfl, rfl, Below.refl _ _⟩
            case round =>
              obtain ⟨j, hj1, hj2, rfl, hbj⟩ := hrel
              by_cases hjl : j < KS.length
              · have q2 : (j : Int) < (KS.length : Int) := by omega
                have HBJ := Lib.hid hbj
                have HJ2 := Lib.hid hj2
                clear hbj hj2
                obtain ⟨vo, hvo⟩ : ∃ vo : World, vo = wr := ⟨_, rfl⟩
                rw [← hvo] at HBJ ⊢
                clear hvo
                go_wp2_with fail
                go_loopw [21] (fun i vr => ∃ p : Nat, p ≤ j ∧ i = .int .i64 p ∧ Below v2.heap.size v2 vr) (fun i _ => j - (intOf i).toNat)
                case atStart => exact ⟨0, Nat.zero_le _, rfl, HBJ.out⟩
                case round =>
                  obtain ⟨p, hp, rfl, hbp⟩ := hrel
                  by_cases hpj : p < j
                  · have q3 : (p : Int) < (j : Int) := by omega
                    have q4 : (0 : Int) ≤ (p : Int) := by omega
                    have q5 : (0 : Int) ≤ (j : Int) := by omega
                    have q6 : (p : Int) < (KS.length : Int) := by omega
                    have hpl : p < KS.length := by omega
                    obtain ⟨bk, fk, rfl, hbk, k0⟩ := (HKV2.out.later hbp).at_ (List.getElem?_eq_getElem hpl)
                    obtain ⟨bk', fk', ek, _, k1⟩ := (HKV2.out.later hbp).at_ (List.getElem?_eq_getElem hjl)
                    cases ek
                    have hne := str_ne (show KS[p] ≠ KS[j] from fun e => by
                      have := (List.getElem_inj HND.out).1 e
                      omega)
                    have HBP := Lib.hid hbp
                    clear hbp hbk
                    go_wp2_with fail
                    go_quiet (fail)
                    go_wp2_with fail
                    go_roundw
                    case rel => exact ⟨p + 1, hpj, by go_num, HBP.out.trans (below_drewN _ _ _)⟩
                    case measure => simp [intOf]; omega
                  · have hpp : p = j := by omega
                    have HBP := Lib.hid hbp
                    clear hbp
                    go_wp2_with fail
                    go_roundw
                    case rel => exact ⟨j + 1, by omega, .inl hjl, by go_num, HBP.out⟩
                    case measure => simp [intOf]; omega
              · have q2 : ¬ (j : Int) < (KS.length : Int) := by omega
                have HBJ := Lib.hid hbj
                clear hbj hj2
                go_wp2_with fail
                go_roundw
                case rel => exact ⟨k + 1, ad, F, qT, hT, mT, r, hlt, by go_num, by go_num, Lib.hid ⟨HCV2.out.below HBJ.out, HFT.out, HADT.out, HLST.out⟩, HBV2.out.trans (HBJ.out.mono HBV2.out.size)⟩
                case measure => simp [intOf]; omega

end Go.Proofs.Ytbimpfciadbnjaa
