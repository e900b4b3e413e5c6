/-
  The chapter's examples of the cache. Nothing is assumed.
-/
import Derived.Test.YtbimpfciadbnjaaCaKeys
namespace Go.Proofs.Ytbimpfciadbnjaa
open Go.RowKit

theorem CaS.below {w w' : World} {F : Nat → Prop} {n cap z h m r : Nat} {q : List Ent} (H : CaS w F n cap z q h m r) (hb : Below w.heap.size w w') : CaS w' F n cap z q h m r :=
  H.keep (fun k hf => hb.block k (H.lt k hf)) (fun _ h => h) (fun k hf => Nat.lt_of_lt_of_le (H.lt k hf) hb.size)
/-- A term without arguments is put. -/
theorem put0 {w : World} {F : Nat → Prop} {n cap z h m r : Nat} {q : List Ent} (H : CaS w F n cap z q h m r) (hz : z ≤ 1000000) (hcap : 1 ≤ cap) (k : ByteArray) (hk : k.size ≤ 60) (t : Int) :
    Calls Try.prog 12 #[ptr n, .string k, .agg #[.int .i64 t, .slice none 0 0]] w fun e w' => e = .returned (.int .i64 0) ∧ CaS w' (gF F w w') n cap (z + 1) (putQ cap q k (.mk t [])) h m (r + outQ cap q k) ∧ On F w w' :=
  put_any H hz hcap k hk (.mk t []) (.slice none 0 0) (fun _ => False) (.empty none 0) (fun b hb => hb.elim) (by rw [T.size_eq]; show 1 + T.sizes [] ≤ 20; rw [T.sizes_nil]; omega)

abbrev ka : ByteArray := ⟨#[97]⟩
abbrev kb : ByteArray := ⟨#[98]⟩
abbrev kc : ByteArray := ⟨#[99]⟩
theorem ka_kb : ka ≠ kb := by decide
theorem ka_kc : ka ≠ kc := by decide
theorem kb_kc : kb ≠ kc := by decide
def E0 : List Ent := []
def E1 : List Ent := [(ka, .mk 1 [])]
def E2 : List Ent := [(kb, .mk 2 []), (ka, .mk 1 [])]
def E3 : List Ent := [(ka, .mk 1 []), (kb, .mk 2 [])]
def E4 : List Ent := [(kc, .mk 3 []), (ka, .mk 1 [])]
theorem ex1 : putQ 2 E0 ka (.mk 1 []) = E1 ∧ outQ 2 E0 ka = 0 := by simp [putQ, outQ, fnd, E0, E1]
theorem ex2 : putQ 2 E1 kb (.mk 2 []) = E2 ∧ outQ 2 E1 kb = 0 := by simp [putQ, outQ, fnd, E1, E2]
theorem ex3 : fnd E2 ka = some (.mk 1 []) ∧ useQ E2 ka = E3 ∧ hitN E2 ka 0 = 1 ∧ misN E2 ka 0 = 0 := by simp [useQ, hitN, misN, fnd, del, E2, E3, ka_kb.symm]
theorem ex4 : putQ 2 E3 kc (.mk 3 []) = E4 ∧ outQ 2 E3 kc = 1 := by simp [putQ, outQ, fnd, E3, E4]
theorem ex5 : fnd E4 kb = none ∧ useQ E4 kb = E4 ∧ hitN E4 kb 1 = 1 ∧ misN E4 kb 0 = 1 := by simp [useQ, hitN, misN, fnd, E4, kb_kc.symm]
theorem ex6 : E4.map Prod.fst = [kc, ka] := rfl

theorem On.cell {F : Nat → Prop} {w w' : World} (h : On F w w') {b : Nat} (hb : b < w.heap.size) (hf : ¬ F b) (o : Nat) : w'.cell? ⟨b, o, none⟩ = w.cell? ⟨b, o, none⟩ := World.cell?_of_block (w := w) (a := ⟨b, o, none⟩) (h.ot b hb hf)
theorem not_gF {F : Nat → Prop} {w w' : World} {b : Nat} (hb : b < w.heap.size) (hf : ¬ F b) : ¬ gF F w w' b := fun h => by
  rcases h with h | h
  · exact hf h
  · omega

set_option maxRecDepth 100000 in
set_option maxHeartbeats 3200000 in
theorem awake_any (w : World) : Calls Try.prog 9 #[] w fun e w' => e = .returned (.bool true) ∧ Below w.heap.size w w' := by
  have HN := Lib.hid (new_any w 2 (by omega) (by omega))
  go_enter Try.func9, Try.ntmps9
  go_wp2_with fail
  refine HN.out.mono ?_
  rintro e w1 ⟨rfl, h1, hb1⟩
  have HC1 := Lib.hid (show CaS w1 (fun k => w.heap.size ≤ k ∧ k < w1.heap.size) w.heap.size 2 0 E0 0 0 0 from h1 0)
  have HO1 := Lib.hid hb1
  have HP1 := Lib.hid (put0 HC1.out (by omega) (by omega) ka (by decide) 1)
  obtain ⟨F1, hF1⟩ : ∃ F1 : Nat → Prop, F1 = fun k => w.heap.size ≤ k ∧ k < w1.heap.size := ⟨_, rfl⟩
  rw [← hF1] at HC1 HP1
  have HF1 : Hid (∀ k, F1 k → w.heap.size ≤ k) := Lib.hid (fun k hk => by rw [hF1] at hk; exact hk.1)
  clear h1 hb1 HN hF1
  go_wp2_with fail
  refine HP1.out.mono ?_
  rintro e w2 ⟨rfl, h2, ho2⟩
  rw [ex1.1, ex1.2] at h2
  have HO2 : Hid (Below w.heap.size w w2) := Lib.hid (HO1.out.trans (ho2.toBelow HO1.out.size HF1.out))
  have HF2 : Hid (∀ k, gF F1 w1 w2 k → w.heap.size ≤ k) := Lib.hid (fun k hk => by
    rcases hk with hk | hk
    · exact HF1.out k hk
    · exact Nat.le_trans HO1.out.size hk.1)
  generalize gF F1 w1 w2 = F2 at *
  have HC2 := Lib.hid h2
  have HP2 := Lib.hid (put0 h2 (by omega) (by omega) kb (by decide) 2)
  clear h2 ho2 HP1
  go_wp2_with fail
  refine HP2.out.mono ?_
  rintro e w3 ⟨rfl, h3, ho3⟩
  rw [ex2.1, ex2.2] at h3
  have HO3 : Hid (Below w.heap.size w w3) := Lib.hid (HO2.out.trans (ho3.toBelow HO2.out.size HF2.out))
  have HF3 : Hid (∀ k, gF F2 w2 w3 k → w.heap.size ≤ k) := Lib.hid (fun k hk => by
    rcases hk with hk | hk
    · exact HF2.out k hk
    · exact Nat.le_trans HO2.out.size hk.1)
  generalize gF F2 w2 w3 = F3 at *
  have HC3 := Lib.hid h3
  have HG3 := Lib.hid (get_any h3 (by omega) ka (by decide))
  clear h3 ho3 HP2
  go_wp2_with fail
  refine HG3.out.mono ?_
  rintro e w4 ⟨hr, h4, ho4⟩
  rw [ex3.1] at hr
  obtain ⟨sl4, he4, hf4⟩ := hr
  obtain ⟨o4, c4, rfl, _, _⟩ := hf4.form
  obtain rfl : e = .returned (.tuple #[.agg #[.int .i64 1, .slice o4 0 c4], .bool true]) := he4
  rw [ex3.2.1, ex3.2.2.1, ex3.2.2.2] at h4
  have HO4 : Hid (Below w.heap.size w w4) := Lib.hid (HO3.out.trans (ho4.toBelow HO3.out.size HF3.out))
  have HC4 := Lib.hid h4
  clear h4 ho4 hf4 HG3
  have hbx := below1 w4 (.cells #[.int .i64 1, .slice o4 0 c4] 36)
  have x4 : (w4.alloc (.cells #[.int .i64 1, .slice o4 0 c4] 36)).cell? ⟨w4.heap.size, 0, none⟩ = some (.int .i64 1) := cell_at _ _ _ _ _ rfl
  have HC5 := Lib.hid (HC4.out.below hbx)
  have HN5 : Hid (¬ F3 w4.heap.size) := Lib.hid (fun h => by have := HC4.out.lt _ h; omega)
  have HO5 : Hid (Below w.heap.size w (w4.alloc (.cells #[.int .i64 1, .slice o4 0 c4] 36))) := Lib.hid (HO4.out.trans (hbx.mono HO4.out.size))
  have hs5 : (w4.alloc (.cells #[.int .i64 1, .slice o4 0 c4] 36)).heap.size = w4.heap.size + 1 := by simp
  have HS5 := Lib.hid hs5
  have HX5 := Lib.hid x4
  have HP5 := Lib.hid (put0 HC5.out (by omega) (by omega) kc (by decide) 3)
  clear hbx x4 hs5
  go_wp2_with fail
  generalize hw5 : w4.alloc (.cells #[.int .i64 1, .slice o4 0 c4] 36) = w5 at *
  refine HP5.out.mono ?_
  rintro e w6 ⟨rfl, h6, ho6⟩
  rw [ex4.1, ex4.2] at h6
  have HO6 : Hid (Below w.heap.size w w6) := Lib.hid (HO5.out.trans (ho6.toBelow HO5.out.size HF3.out))
  have HF6 : Hid (∀ k, gF F3 w5 w6 k → w.heap.size ≤ k) := Lib.hid (fun k hk => by
    rcases hk with hk | hk
    · exact HF3.out k hk
    · exact Nat.le_trans HO5.out.size hk.1)
  have HN6 : Hid (¬ gF F3 w5 w6 w4.heap.size) := Lib.hid (not_gF (by rw [HS5.out]; omega) HN5.out)
  have HX6 : Hid (w6.cell? ⟨w4.heap.size, 0, none⟩ = some (.int .i64 1)) := Lib.hid ((ho6.cell (by rw [HS5.out]; omega) HN5.out 0).trans HX5.out)
  have HZ6 : Hid (w4.heap.size < w6.heap.size) := Lib.hid (by have := ho6.kp.size; rw [HS5.out] at this; omega)
  generalize gF F3 w5 w6 = F6 at *
  have HC6 := Lib.hid h6
  have HK6 := Lib.hid (peek_any h6 kb (by decide))
  clear h6 ho6 HP5 hw5
  go_wp2_with fail
  refine HK6.out.mono ?_
  rintro e w7 ⟨hr, hb7⟩
  rw [ex5.1] at hr
  obtain rfl : e = .returned (.tuple #[.agg #[.int .i64 0, .slice none 0 0], .bool false]) := hr
  have hbx := hb7.trans ((below1 w7 (.cells #[.int .i64 0, .slice none 0 0] 36)).mono hb7.size)
  have HC8 := Lib.hid (HC6.out.below hbx)
  have HO8 := Lib.hid (HO6.out.trans (hbx.mono HO6.out.size))
  have HX8 := Lib.hid ((hbx.cell (p := ⟨w4.heap.size, 0, none⟩) HZ6.out).trans HX6.out)
  have HZ8 := Lib.hid (Nat.lt_of_lt_of_le HZ6.out hbx.size)
  have HT8 := Lib.hid (stats_any HC8.out)
  clear hb7 hbx HK6
  go_wp2_with fail
  generalize w7.alloc (.cells #[.int .i64 0, .slice none 0 0] 36) = w8 at *
  refine HT8.out.mono ?_
  rintro e w9 ⟨rfl, hb9, _⟩
  have HC9 := Lib.hid (HC8.out.below hb9)
  have HO9 := Lib.hid (HO8.out.trans (hb9.mono HO8.out.size))
  have HX9 := Lib.hid ((hb9.cell (p := ⟨w4.heap.size, 0, none⟩) HZ8.out).trans HX8.out)
  have HZ9 := Lib.hid (Nat.lt_of_lt_of_le HZ8.out hb9.size)
  have HG9 := Lib.hid (get_any HC9.out (by omega) kb (by decide))
  clear hb9 HT8
  go_wp2_with fail
  refine HG9.out.mono ?_
  rintro e w10 ⟨hr, h10, ho10⟩
  rw [ex5.1] at hr
  obtain rfl : e = .returned (.tuple #[.agg #[.int .i64 0, .slice none 0 0], .bool false]) := hr
  rw [ex5.2.1, ex5.2.2.1, ex5.2.2.2] at h10
  have hbx := below1 w10 (.cells #[.int .i64 0, .slice none 0 0] 36)
  have HC11 := Lib.hid (h10.below hbx)
  have HO11 : Hid (Below w.heap.size w (w10.alloc (.cells #[.int .i64 0, .slice none 0 0] 36))) := Lib.hid ((HO9.out.trans (ho10.toBelow HO9.out.size HF6.out)).trans (hbx.mono (Nat.le_trans HO9.out.size ho10.kp.size)))
  have HZ10 := Lib.hid (Nat.lt_of_lt_of_le HZ9.out ho10.kp.size)
  have HX11 := Lib.hid ((hbx.cell (p := ⟨w4.heap.size, 0, none⟩) HZ10.out).trans ((ho10.cell HZ9.out HN6.out 0).trans HX9.out))
  have HZ11 := Lib.hid (Nat.lt_of_lt_of_le HZ10.out hbx.size)
  have HT11 := Lib.hid (stats_any HC11.out)
  clear h10 ho10 hbx HG9
  go_wp2_with fail
  generalize w10.alloc (.cells #[.int .i64 0, .slice none 0 0] 36) = w11 at *
  refine HT11.out.mono ?_
  rintro e w12 ⟨rfl, hb12, _⟩
  have HC12 := Lib.hid (HC11.out.below hb12)
  have HO12 := Lib.hid (HO11.out.trans (hb12.mono HO11.out.size))
  have HX12 := Lib.hid ((hb12.cell (p := ⟨w4.heap.size, 0, none⟩) HZ11.out).trans HX11.out)
  have HZ12 := Lib.hid (Nat.lt_of_lt_of_le HZ11.out hb12.size)
  have HK12 := Lib.hid (keys_any HC12.out (by decide))
  clear hb12 HT11
  go_wp2_with fail
  refine HK12.out.mono ?_
  rintro e w13 ⟨⟨v, rfl, hv⟩, hb13⟩
  rw [ex6] at hv
  have hh := hv.holds
  obtain ⟨oa, cp, rfl, _, _⟩ := hh.form
  obtain ⟨b0, f0, rfl, _, k0⟩ := hh.at_ (i := 0) (z := kc) rfl
  obtain ⟨b1, f1, e1, _, k1⟩ := hh.at_ (i := 1) (z := ka) rfl
  cases e1
  have xx := (hb13.cell (p := ⟨w4.heap.size, 0, none⟩) HZ12.out).trans HX12.out
  have HO13 := Lib.hid (HO12.out.trans (hb13.mono HO12.out.size))
  clear hh hv hb13 HK12
  simp only [List.length_cons, List.length_nil, Nat.zero_add, Nat.reduceAdd, Nat.add_zero] at k0 k1 ⊢
  trace_state
  go_wp2_with fail
  go_ret
  exact ⟨rfl, HO13.out⟩

end Go.Proofs.Ytbimpfciadbnjaa
