/-
  The walk of CacheGreater. Nothing is assumed.
-/
import Derived.Test.YtbimpfciadbnjaaCaInc
import Derived.Test.YtbimpfciadbnjaaCaLight
import Derived.Test.YtbimpfciadbnjaaCaLawM
namespace Go.Proofs.Ytbimpfciadbnjaa
open Go.RowKit

/-- Two caches beside each other, the smaller one within the greater one. -/
def Two (B na nb ca cb : Nat) (k : Nat) (W : World) : Prop :=
  ∃ (Fa Fb : Nat → Prop) (qa qb : List Ent) (ha ma ra hb mb rb : Nat), CaS W Fa na ca k qa ha ma ra ∧ CaS W Fb nb cb k qb hb mb rb ∧ (∀ b, Fa b → ¬ Fb b) ∧ (∀ b, Fa b → B ≤ b) ∧ (∀ b, Fb b → B ≤ b) ∧ Inc ca qa qb
theorem Two.below {B na nb ca cb k : Nat} {W W' : World} (h : Two B na nb ca cb k W) (hb : Below W.heap.size W W') : Two B na nb ca cb k W' := by
  obtain ⟨Fa, Fb, qa, qb, ha, ma, ra, hb', mb, rb, h1, h2, h3⟩ := h
  exact ⟨Fa, Fb, qa, qb, ha, ma, ra, hb', mb, rb, h1.below hb, h2.below hb, h3⟩
theorem CaS.nodup {w : World} {F : Nat → Prop} {n cap z h m r : Nat} {q : List Ent} (H : CaS w F n cap z q h m r) : (q.map Prod.fst).Nodup ∧ q.length ≤ cap := by
  obtain ⟨P, e0, mb, l, h1, h2, h3, _⟩ := H
  exact ⟨h2, h3⟩
theorem CaS.small {w : World} {F : Nat → Prop} {n cap z h m r : Nat} {q : List Ent} (H : CaS w F n cap z q h m r) {k : ByteArray} {t : T} (hf : fnd q k = some t) : t.size ≤ 20 := by
  obtain ⟨P, e0, mb, l, rfl, _, _, _, _, _, _, h8⟩ := H
  obtain ⟨x, hx, he⟩ := List.mem_map.1 (fnd_mem hf)
  have := (h8.sm x hx).2
  rw [show t = x.t from (congrArg Prod.snd he).symm]
  exact this
/-- The other cache stands. -/
theorem CaS.beside {w w' : World} {F G : Nat → Prop} {n cap z h m r : Nat} {q : List Ent} (H : CaS w F n cap z q h m r) (ho : On G w w') (hd : ∀ b, G b → ¬ F b) : CaS w' F n cap z q h m r :=
  H.keep (fun b hf => ho.ot b (H.lt b hf) fun hg => hd b hg hf) (fun _ h => h) (fun b hf => Nat.lt_of_lt_of_le (H.lt b hf) ho.kp.size)

set_option maxRecDepth 100000 in
set_option maxHeartbeats 3200000 in
theorem lawGreater_any (c0 c1 : Int) (x : Value) (l : List Cl) (w : World) (hx : HoldsO w w.heap.size x l) : Calls Try.prog 5 #[.int .i64 c0, .int .i64 c1, x] w fun e w' => e = .returned (.bool true) ∧ Below w.heap.size w w' := by
  have HA : Hid (∀ W, Below w.heap.size w W → Calls Try.prog 9 #[] W fun e w' => e = .returned (.bool true) ∧ Below w.heap.size w w') := Lib.hid (fun W hW => (awake_any W).mono fun e w' ⟨h1, h2⟩ => ⟨h1, hW.trans (h2.mono hW.size)⟩)
  have HX := Lib.hid hx
  have HL := light_any l x w w.heap.size hx (Nat.le_refl _)
  obtain ⟨oa, cx, rfl, _, _⟩ := hx.form
  clear hx
  cases hlt : lightC l with
  | false =>
    rw [hlt] at HL
    clear hlt
    go_enter Try.func5, Try.ntmps5
    go_wp2_with fail
    refine HL.mono ?_
    rintro e w1 ⟨rfl, hb1⟩
    go_wp2_with fail
    refine (HA.out _ hb1).mono ?_
    rintro e w2 ⟨rfl, hb2⟩
    go_wp2_with fail
    go_ret
    exact ⟨rfl, hb2⟩
  | true =>
  rw [hlt] at HL
  have HLT := Lib.hid (light_of hlt)
  clear hlt
  by_cases hc : 1 ≤ c0 ∧ c0 ≤ c1 ∧ c1 ≤ 100
  case neg =>
    by_cases g1 : c0 < 1
    · clear hc
      go_enter Try.func5, Try.ntmps5
      go_wp2_with fail
      refine HL.mono ?_
      rintro e w1 ⟨rfl, hb1⟩
      go_wp2_with fail
      refine (HA.out _ hb1).mono ?_
      rintro e w2 ⟨rfl, hb2⟩
      go_wp2_with fail
      go_ret
      exact ⟨rfl, hb2⟩
    by_cases g2 : c1 < c0
    · clear hc
      go_enter Try.func5, Try.ntmps5
      go_wp2_with fail
      refine HL.mono ?_
      rintro e w1 ⟨rfl, hb1⟩
      go_wp2_with fail
      refine (HA.out _ hb1).mono ?_
      rintro e w2 ⟨rfl, hb2⟩
      go_wp2_with fail
      go_ret
      exact ⟨rfl, hb2⟩
    have g3 : 100 < c1 := by omega
    clear hc
    go_enter Try.func5, Try.ntmps5
    go_wp2_with fail
    refine HL.mono ?_
    rintro e w1 ⟨rfl, hb1⟩
    go_wp2_with fail
    refine (HA.out _ hb1).mono ?_
    rintro e w2 ⟨rfl, hb2⟩
    go_wp2_with fail
    go_ret
    exact ⟨rfl, hb2⟩
  obtain ⟨ca, rfl⟩ : ∃ n : Nat, c0 = n := ⟨c0.toNat, by omega⟩
  obtain ⟨cb, rfl⟩ : ∃ n : Nat, c1 = n := ⟨c1.toNat, by omega⟩
  have d1 : ¬ (ca : Int) < 1 := by omega
  have d2 : ¬ (cb : Int) < (ca : Int) := by omega
  have d3 : ¬ (100 : Int) < (cb : Int) := by omega
  have HCC : Hid (1 ≤ ca ∧ ca ≤ cb ∧ cb ≤ 100) := Lib.hid (by omega)
  clear hc
  go_enter Try.func5, Try.ntmps5
  go_wp2_with fail
  refine HL.mono ?_
  rintro e w1 ⟨rfl, hb1⟩
  have HB1 := Lib.hid hb1
  have HN1 := Lib.hid (new_any w1 ca (by have := HCC.out; omega) (by have := HCC.out; omega))
  clear hb1 HL
  go_wp2_with fail
  refine HN1.out.mono ?_
  rintro e w2 ⟨rfl, h2, hb2⟩
  have HC2 := Lib.hid (h2 0)
  have HB12 := Lib.hid hb2
  have HB2 := Lib.hid (HB1.out.trans (hb2.mono HB1.out.size))
  have HN2 := Lib.hid (new_any w2 cb (by have := HCC.out; omega) (by have := HCC.out; omega))
  clear h2 hb2 HN1
  go_wp2_with fail
  refine HN2.out.mono ?_
  rintro e w3 ⟨rfl, h3, hb3⟩
  have HT3 : Hid (Two w.heap.size w1.heap.size w2.heap.size ca cb 0 w3) := Lib.hid ⟨_, _, [], [], 0, 0, 0, 0, 0, 0, HC2.out.below hb3, h3 0, fun b h1 h2 => by have := h1.2; have := h2.1; omega, fun b h1 => by have := h1.1; have := HB1.out.size; omega, fun b h1 => by have := h1.1; have := HB2.out.size; omega, Inc.start _⟩
  have HB3 := Lib.hid (HB2.out.trans (hb3.mono HB2.out.size))
  clear h3 hb3 HN2
  go_wp2_with fail
  generalize w1.heap.size = na at *
  generalize w2.heap.size = nb at *
  clear d1 d2 d3
  go_loopw [11] (fun i wr => ∃ k : Nat, k ≤ l.length ∧ i = .int .i64 k ∧ Hid (Two w.heap.size na nb ca cb k wr) ∧ Below w.heap.size w wr) (fun i _ => l.length - (intOf i).toNat)
  case atStart => exact ⟨0, Nat.zero_le _, rfl, HT3, HB3.out⟩
  case round =>
    obtain ⟨k, hk, rfl, HT, hbr⟩ := hrel
    have HBR := Lib.hid hbr
    by_cases hlt : k < l.length
    · obtain ⟨b, off, os, cs, rfl, hb, s0, s1, s2, s3, hR⟩ := HX.out.at_ (List.getElem?_eq_getElem hlt)
      rw [← hbr.cell (p := ⟨b, _, none⟩) hb] at s0 s1 s2 s3
      obtain ⟨hl40, hsm⟩ := HLT.out
      obtain ⟨hsk, hst⟩ := hsm k _ (List.getElem?_eq_getElem hlt)
      have q0 : (0 : Int) ≤ (k : Int) := by omega
      have q1 : (k : Int) < (l.length : Int) := by omega
      have HRP := Lib.hid hR
      obtain ⟨u, hu⟩ : ∃ u, l[k] = u := ⟨_, rfl⟩
      rw [hu] at s0 s1 s2 s3 hsk hst HRP
      have hbx := below1 wr (.cells #[.int .i64 u.kd, .string u.k, .int .i64 u.t.r, .slice os u.t.l.length cs] 38)
      have o0 : (wr.alloc (.cells #[.int .i64 u.kd, .string u.k, .int .i64 u.t.r, .slice os u.t.l.length cs] 38)).cell? ⟨wr.heap.size, 0, none⟩ = some (.int .i64 u.kd) := cell_at _ _ _ _ _ rfl
      have o1 : (wr.alloc (.cells #[.int .i64 u.kd, .string u.k, .int .i64 u.t.r, .slice os u.t.l.length cs] 38)).cell? ⟨wr.heap.size, 1, none⟩ = some (.string u.k) := cell_at _ _ _ _ _ rfl
      have o2 : (wr.alloc (.cells #[.int .i64 u.kd, .string u.k, .int .i64 u.t.r, .slice os u.t.l.length cs] 38)).cell? ⟨wr.heap.size, 2, none⟩ = some (.int .i64 u.t.r) := cell_at _ _ _ _ _ rfl
      have o3 : (wr.alloc (.cells #[.int .i64 u.kd, .string u.k, .int .i64 u.t.r, .slice os u.t.l.length cs] 38)).cell? ⟨wr.heap.size, 3, none⟩ = some (.slice os u.t.l.length cs) := cell_at _ _ _ _ _ rfl
      have hz4 : (wr.alloc (.cells #[.int .i64 u.kd, .string u.k, .int .i64 u.t.r, .slice os u.t.l.length cs] 38)).heap.size = wr.heap.size + 1 := by simp
      have HT4 := Lib.hid (HT.out.below hbx)
      have HB4 := Lib.hid (hbr.trans (hbx.mono hbr.size))
      have HOC := Lib.hid (And.intro o1 (And.intro o2 o3))
      have HNB : Hid (∀ (F : Nat → Prop) {n cap z h m r : Nat} {q : List Ent}, CaS wr F n cap z q h m r → ¬ F wr.heap.size) := Lib.hid (fun F n cap z h m r q H hF => by have := H.lt _ hF; omega)
      obtain ⟨Fa, Fb, qa, qb, ha, ma, ra, hb', mb, rb, g1, g2, g3, g4, g5, g6⟩ := HT.out
      have na1 := HNB.out Fa g1
      have nb1 := HNB.out Fb g2
      have g1 := g1.below hbx
      have g2 := g2.below hbx
      have HG3 := Lib.hid (And.intro g3 (And.intro g4 (And.intro g5 g6)))
      have HNN := Lib.hid (And.intro na1 nb1)
      have hk40 : k ≤ 40 := by omega
      clear hR hbx hl40 hsm g3 g4 g5 g6 HNB na1 nb1 hu hbr
      by_cases hkd : u.kd = 0
      · have hkd' : (u.kd == 0) = true := by rw [hkd]; rfl
        have HP1 := Lib.hid (put_any g1 (by omega) HCC.out.1 u.k hsk u.t (.slice os u.t.l.length cs) (fun b => b < w.heap.size) ((RP.of (HRP.out.later HB4.out))) (fun b hb => ⟨Nat.lt_of_lt_of_le hb HB4.out.size, fun h => by have := HG3.out.2.1 b h; omega⟩) hst)
        have HG1 := Lib.hid g1
        have HG2 := Lib.hid g2
        clear g1 g2 hkd
        go_wp2_with fail
        generalize wr.alloc (.cells #[.int .i64 u.kd, .string u.k, .int .i64 u.t.r, .slice os u.t.l.length cs] 38) = w4 at *
        refine HP1.out.mono ?_
        rintro e w5 ⟨rfl, h5, ho5⟩
        have hdis : ∀ b, Fa b → ¬ Fb b := HG3.out.1
        have HC5b := Lib.hid (HG2.out.beside ho5 hdis)
        have HC5a := Lib.hid h5
        have HB5 := Lib.hid (HB4.out.trans (ho5.toBelow HB4.out.size HG3.out.2.1))
        have p1 := (ho5.cell (b := wr.heap.size) (by omega) HNN.out.1 1).trans HOC.out.1
        have p2 := (ho5.cell (b := wr.heap.size) (by omega) HNN.out.1 2).trans HOC.out.2.1
        have p3 := (ho5.cell (b := wr.heap.size) (by omega) HNN.out.1 3).trans HOC.out.2.2
        have HD5 : Hid (∀ b, Fb b → ¬ gF Fa w4 w5 b) := Lib.hid (fun b h1 h2 => by
          rcases h2 with h2 | h2
          · exact hdis b h2 h1
          · have := HG2.out.lt b h1; omega)
        have HF5 : Hid (∀ b, gF Fa w4 w5 b → w.heap.size ≤ b) := Lib.hid (fun b h => by
          rcases h with h | h
          · exact HG3.out.2.1 b h
          · exact Nat.le_trans HB4.out.size h.1)
        have HP2 := Lib.hid (put_any HC5b.out (by omega) (by have := HCC.out; omega) u.k hsk u.t (.slice os u.t.l.length cs) (fun b => b < w.heap.size) ((RP.of (HRP.out.later HB5.out))) (fun b hb => ⟨Nat.lt_of_lt_of_le hb HB5.out.size, fun h => by have := HG3.out.2.2.1 b h; omega⟩) hst)
        clear h5 ho5 hdis o0 o1 o2 o3 HP1
        go_wp2_with fail
        refine HP2.out.mono ?_
        rintro e w6 ⟨rfl, h6, ho6⟩
        have HC6a := Lib.hid (HC5a.out.beside ho6 HD5.out)
        have HB6 := Lib.hid (HB5.out.trans (ho6.toBelow HB5.out.size HG3.out.2.2.1))
        have HT6 : Hid (Two w.heap.size na nb ca cb (k + 1) w6) := Lib.hid ⟨_, _, _, _, _, _, _, _, _, _, HC6a.out, h6, fun b h1 h2 => by
            rcases h2 with h2 | h2
            · exact HD5.out b h2 h1
            · have := HC5a.out.lt b h1; omega, HF5.out, fun b h => by
            rcases h with h | h
            · exact HG3.out.2.2.1 b h
            · exact Nat.le_trans HB5.out.size h.1, HG3.out.2.2.2.put HG2.out.nodup.1 HCC.out.2.1 HCC.out.1 HG1.out.nodup.2 _ _⟩
        clear h6 ho6 p1 p2 p3 HP2
        go_wp2_with fail
        go_roundw
        case rel => exact ⟨k + 1, hlt, by go_num, HT6, HB6.out⟩
        case measure => simp [intOf]; omega
      · have hkd' : (u.kd == 0) = false := by rw [beq_eq_false_iff_ne]; exact hkd
        have HP1 := Lib.hid (get_any g1 (by omega) u.k hsk)
        have HG1 := Lib.hid g1
        have HG2 := Lib.hid g2
        clear g1 g2 hkd
        go_wp2_with fail
        generalize wr.alloc (.cells #[.int .i64 u.kd, .string u.k, .int .i64 u.t.r, .slice os u.t.l.length cs] 38) = w4 at *
        refine HP1.out.mono ?_
        rintro e w5 ⟨hr5, h5, ho5⟩
        have hdis : ∀ b, Fa b → ¬ Fb b := HG3.out.1
        have HC5b := Lib.hid (HG2.out.beside ho5 hdis)
        have HC5a := Lib.hid h5
        have HB5 := Lib.hid (HB4.out.trans (ho5.toBelow HB4.out.size HG3.out.2.1))
        have p1 := (ho5.cell (b := wr.heap.size) (by omega) HNN.out.1 1).trans HOC.out.1
        have HS45 := Lib.hid ho5.kp.size
        clear h5 ho5 hdis o0 o1 o2 o3 HP1
        cases hfa : fnd qa u.k with
        | none =>
          rw [hfa] at hr5
          obtain rfl : e = .returned (.tuple #[.agg #[.int .i64 0, .slice none 0 0], .bool false]) := hr5
          have hbx := below1 w5 (.cells #[.int .i64 0, .slice none 0 0] 36)
          have HC7a := Lib.hid (HC5a.out.below hbx)
          have HC7b := Lib.hid (HC5b.out.below hbx)
          have HB7 := Lib.hid (HB5.out.trans (hbx.mono HB5.out.size))
          have p1 := (hbx.cell (p := ⟨wr.heap.size, 1, none⟩) (by show wr.heap.size < w5.heap.size; have := HS45.out; omega)).trans p1
          have HP2 := Lib.hid (get_any HC7b.out (by omega) u.k hsk)
          clear hbx hfa
          go_wp2_with fail
          generalize w5.alloc (.cells #[.int .i64 0, .slice none 0 0] 36) = w7 at *
          refine HP2.out.mono ?_
          rintro e w8 ⟨hr8, h8, ho8⟩
          have HC8a := HC7a.out.beside ho8 (fun b h1 h2 => HG3.out.1 b h2 h1)
          have HB8 := Lib.hid (HB7.out.trans (ho8.toBelow HB7.out.size HG3.out.2.2.1))
          have HT8 : Hid (Two w.heap.size na nb ca cb (k + 1) w8) := Lib.hid ⟨_, _, _, _, _, _, _, _, _, _, HC8a, h8, HG3.out.1, HG3.out.2.1, HG3.out.2.2.1, HG3.out.2.2.2.use HG2.out.nodup.1 _⟩
          clear h8 ho8 HC8a p1 HP2
          cases hfb : fnd qb u.k with
          | none =>
            rw [hfb] at hr8
            obtain rfl : e = .returned (.tuple #[.agg #[.int .i64 0, .slice none 0 0], .bool false]) := hr8
            have hbx := below1 w8 (.cells #[.int .i64 0, .slice none 0 0] 36)
            have HT9 := Lib.hid (HT8.out.below hbx)
            have HB9 := Lib.hid (HB8.out.trans (hbx.mono HB8.out.size))
            clear hbx hfb
            go_wp2_with fail
            go_roundw
            case rel => exact ⟨k + 1, hlt, by go_num, HT9, HB9.out⟩
            case measure => simp [intOf]; omega
          | some tb =>
            rw [hfb] at hr8
            obtain ⟨sb, he, hf8⟩ := hr8
            obtain ⟨ob, cb', rfl, _, _⟩ := hf8.form
            obtain rfl := he
            have hbx := below1 w8 (.cells #[.int .i64 tb.r, .slice ob tb.l.length cb'] 36)
            have HT9 := Lib.hid (HT8.out.below hbx)
            have HB9 := Lib.hid (HB8.out.trans (hbx.mono HB8.out.size))
            clear hbx hf8 hfb
            go_wp2_with fail
            go_roundw
            case rel => exact ⟨k + 1, hlt, by go_num, HT9, HB9.out⟩
            case measure => simp [intOf]; omega
        | some ta =>
          have hfb := HG3.out.2.2.2.fnd HG2.out.nodup.1 hfa
          have HTA : Hid (ta.size ≤ 20) := Lib.hid (HG1.out.small hfa)
          rw [hfa] at hr5
          obtain ⟨sa, he, hf5⟩ := hr5
          obtain ⟨oa', ca', rfl, _, _⟩ := hf5.form
          obtain rfl := he
          have hbx := below1 w5 (.cells #[.int .i64 ta.r, .slice oa' ta.l.length ca'] 36)
          have a0 : (w5.alloc (.cells #[.int .i64 ta.r, .slice oa' ta.l.length ca'] 36)).cell? ⟨w5.heap.size, 0, none⟩ = some (.int .i64 ta.r) := cell_at _ _ _ _ _ rfl
          have a1 : (w5.alloc (.cells #[.int .i64 ta.r, .slice oa' ta.l.length ca'] 36)).cell? ⟨w5.heap.size, 1, none⟩ = some (.slice oa' ta.l.length ca') := cell_at _ _ _ _ _ rfl
          have hz7 : (w5.alloc (.cells #[.int .i64 ta.r, .slice oa' ta.l.length ca'] 36)).heap.size = w5.heap.size + 1 := by simp
          have HA7 := Lib.hid (And.intro a0 a1)
          have HZ7 := Lib.hid hz7
          have HC7a := Lib.hid (HC5a.out.below hbx)
          have HC7b := Lib.hid (HC5b.out.below hbx)
          have HB7 := Lib.hid (HB5.out.trans (hbx.mono HB5.out.size))
          have p1 := (hbx.cell (p := ⟨wr.heap.size, 1, none⟩) (by show wr.heap.size < w5.heap.size; have := HS45.out; omega)).trans p1
          have HFR := Lib.hid ((RP.fr hf5).keep (w' := w5.alloc (.cells #[.int .i64 ta.r, .slice oa' ta.l.length ca'] 36)) (fun b hb => Below.heap_alloc _ _ _ hb.2) fun _ h => h)
          have HP2 := Lib.hid (get_any HC7b.out (by omega) u.k hsk)
          have HFB := Lib.hid hfb
          clear hbx hfa hfb hf5 a0 a1 hz7
          go_wp2_with fail
          generalize w5.alloc (.cells #[.int .i64 ta.r, .slice oa' ta.l.length ca'] 36) = w7 at *
          refine HP2.out.mono ?_
          rintro e w8 ⟨hr8, h8, ho8⟩
          have HC8a := HC7a.out.beside ho8 (fun b h1 h2 => HG3.out.1 b h2 h1)
          have HB8 := Lib.hid (HB7.out.trans (ho8.toBelow HB7.out.size HG3.out.2.2.1))
          have HT8 : Hid (Two w.heap.size na nb ca cb (k + 1) w8) := Lib.hid ⟨_, _, _, _, _, _, _, _, _, _, HC8a, h8, HG3.out.1, HG3.out.2.1, HG3.out.2.2.1, HG3.out.2.2.2.use HG2.out.nodup.1 _⟩
          rw [HFB.out] at hr8
          obtain ⟨sb, he, hf8⟩ := hr8
          obtain ⟨ob, cb', rfl, _, _⟩ := hf8.form
          obtain rfl := he
          have hz7 := HZ7.out
          have hnb : ∀ b, w4.heap.size ≤ b → ¬ Fb b := fun b h1 h2 => by have := HG2.out.lt b h2; omega
          have a0 := (ho8.cell (b := w5.heap.size) (by omega) (hnb _ HS45.out) 0).trans HA7.out.1
          have a1 := (ho8.cell (b := w5.heap.size) (by omega) (hnb _ HS45.out) 1).trans HA7.out.2
          have hbx := below1 w8 (.cells #[.int .i64 ta.r, .slice ob ta.l.length cb'] 36)
          have hw58 : w5.heap.size < w8.heap.size := by have := ho8.kp.size; omega
          have a0 := (hbx.cell (p := ⟨w5.heap.size, 0, none⟩) hw58).trans a0
          have a1 := (hbx.cell (p := ⟨w5.heap.size, 1, none⟩) hw58).trans a1
          have b0 : (w8.alloc (.cells #[.int .i64 ta.r, .slice ob ta.l.length cb'] 36)).cell? ⟨w8.heap.size, 0, none⟩ = some (.int .i64 ta.r) := cell_at _ _ _ _ _ rfl
          have b1 : (w8.alloc (.cells #[.int .i64 ta.r, .slice ob ta.l.length cb'] 36)).cell? ⟨w8.heap.size, 1, none⟩ = some (.slice ob ta.l.length cb') := cell_at _ _ _ _ _ rfl
          have HT9 := Lib.hid (HT8.out.below hbx)
          have HB9 := Lib.hid (HB8.out.trans (hbx.mono HB8.out.size))
          have r1 : Rep (w8.alloc (.cells #[.int .i64 ta.r, .slice ob ta.l.length cb'] 36)) w8.heap.size (.slice oa' ta.l.length ca') ta.l := ((HFR.out.keep (P' := fun b => w4.heap.size ≤ b ∧ b < w5.heap.size) (fun b hb => ho8.ot b (by omega) (hnb b hb.1)) fun _ h => h).rep (B := w8.heap.size) (fun b hb => by omega)).later hbx
          have r2 : Rep (w8.alloc (.cells #[.int .i64 ta.r, .slice ob ta.l.length cb'] 36)) w8.heap.size (.slice ob ta.l.length cb') ta.l := (hf8.rep (B := w8.heap.size) (fun b hb => hb.2)).later hbx
          have HSM := sameTerm_any ta ta (.slice oa' ta.l.length ca') (.slice ob ta.l.length cb') _ _ r1 r2 (by simp) (by have := HTA.out; omega) (by have := HTA.out; omega)
          rw [same_self] at HSM
          have HSM := Lib.hid HSM
          clear h8 ho8 HC8a p1 HP2 hf8 hz7 hnb hbx hw58 r1 r2
          go_wp2_with fail
          refine HSM.out.mono ?_
          rintro e w10 ⟨rfl, hb10⟩
          have HT10 := Lib.hid (HT9.out.below hb10)
          have HB10 := Lib.hid (HB9.out.trans (hb10.mono HB9.out.size))
          clear hb10 HSM a0 a1 b0 b1
          go_wp2_with fail
          go_roundw
          case rel => exact ⟨k + 1, hlt, by go_num, HT10, HB10.out⟩
          case measure => simp [intOf]; omega
    · go_wp2_with fail
      refine (HA.out _ HBR.out).mono ?_
      rintro e w4 ⟨rfl, hb4⟩
      go_wp2_with fail
      go_ret
      exact ⟨rfl, hb4⟩

end Go.Proofs.Ytbimpfciadbnjaa
