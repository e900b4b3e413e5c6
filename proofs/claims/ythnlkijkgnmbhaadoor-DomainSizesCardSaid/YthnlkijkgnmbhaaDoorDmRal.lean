/-
  All of the reference. Nothing is assumed.
-/
import Derived.Test.YthnlkijkgnmbhaaDoorDmAll
import Derived.Test.YthnlkijkgnmbhaaDoorDmRat
namespace Go.Proofs.YthnlkijkgnmbhaaDoor
open Go.RowKit

theorem at_tup {l : List (List V)} (hp : prodL l ≤ 4096) {k : Nat} (hk : k < prodL l) : atL l (k : Int) = tupL l k := by
  have h : atE l (k : Int) = 0 ∧ atL l (k : Int) = (digs l (k : Int).toNat).1 := by
    rcases szE_cases l with ⟨h1, h2⟩ | ⟨h1, h2⟩
    · exact atE_in h1 (by rw [h2]; omega)
    · exfalso
      unfold szE at h1
      rw [szD_eq, if_pos (show prodL l ≤ 1152921504606846976 by omega)] at h1
      cases h1
  rw [h.2, Int.toNat_natCast]
  rfl

set_option maxRecDepth 100000 in
set_option maxHeartbeats 1600000 in
theorem rall_any (l : List (List V)) (x : Value) (w : World) (B : Nat) (hx : LAx w B x l) (hB : B ≤ w.heap.size) (hl : l.length ≤ 1000) :
    Calls Tryd.prog 12 #[.agg #[x]] w fun e w' => (∃ sl, e = .returned (.tuple #[sl, .int .i64 (allE l)]) ∧ LAx w' w'.heap.size sl (allL l)) ∧ Below w.heap.size w w' := by
  have HX := Lib.hid hx
  obtain ⟨oa, ca, rfl, _, hlm⟩ := hx.form
  have hB0 : Below w.heap.size w (w.alloc (.cells #[.slice oa l.length ca] 24)) := below1 _ _
  have hd : (w.alloc (.cells #[.slice oa l.length ca] 24)).cell? ⟨w.heap.size, 0, none⟩ = some (.slice oa l.length ca) := cell_at _ _ _ _ _ rfl
  have HS := Lib.hid (rsize_any l _ _ B (hx.later (hB0.mono hB)) (by simp; omega))
  have HB0 := Lib.hid hB0
  clear hx hB0
  go_enter Tryd.func12, Tryd.ntmps12
  go_wp2_with fail
  refine HS.out.mono ?_
  rintro e w3 ⟨rfl, hb3⟩
  have HBD := Lib.hid (show Below (w.heap.size + 1) (w.alloc (.cells #[.slice oa l.length ca] 24)) w3 from hb3.mono (by simp))
  have HB3 := Lib.hid (HB0.out.trans (hb3.mono (by simp)))
  have hs3 := hb3.size
  rw [World.size_alloc] at hs3
  clear hd hb3
  have hcases : (szE l = 11 ∧ szN l = 0 ∧ largeD l = true) ∨ (szE l = 0 ∧ szN l = prodL l ∧ 4096 < prodL l ∧ largeD l = true) ∨ (szE l = 0 ∧ szN l = prodL l ∧ prodL l ≤ 4096 ∧ largeD l = false) := by
    unfold largeD
    rcases szE_cases l with ⟨h1, h2⟩ | ⟨h1, h2⟩
    · by_cases h : 4096 < prodL l
      · exact .inr (.inl ⟨h1, h2, h, by simp [h]⟩)
      · exact .inr (.inr ⟨h1, h2, by omega, by simp; omega⟩)
    · refine .inl ⟨h1, h2, ?_⟩
      unfold szE at h1
      rw [szD_eq] at h1
      split at h1
      · cases h1
      · simp; omega
  rcases hcases with ⟨hz, hzn, hlg⟩ | ⟨hz, hzn, hbig, hlg⟩ | ⟨hz, hzn, hsm, hlg⟩
  · have HE := Lib.hid (show allE l = 11 ∧ allL l = [] from ⟨if_pos hlg, if_pos hlg⟩)
    rw [hz, hzn]
    clear hz hzn hlg
    go_wp2_with fail
    go_ret2
    exact ⟨⟨.slice none 0 0, ret_pair rfl (by rw [HE.out.1]; rfl), by rw [HE.out.2]; exact LAx.nil⟩, HB3.out⟩
  · have HE := Lib.hid (show allE l = 11 ∧ allL l = [] from ⟨if_pos hlg, if_pos hlg⟩)
    have hbi : (4096 : Int) < (prodL l : Int) := by omega
    rw [hz, hzn]
    clear hz hzn hlg hbig
    go_wp2_with fail
    go_ret2
    exact ⟨⟨.slice none 0 0, ret_pair rfl (by rw [HE.out.1]; rfl), by rw [HE.out.2]; exact LAx.nil⟩, HB3.out⟩
  · have HE := Lib.hid (show allE l = 0 ∧ allL l = allT l (prodL l) from ⟨if_neg (by rw [hlg]; decide), if_neg (by rw [hlg]; decide)⟩)
    have HP := Lib.hid hsm
    have hbi : ¬ (4096 : Int) < (prodL l : Int) := by omega
    obtain ⟨i0, hi, hz0, hz1, hz2⟩ := info_parts infoList
    obtain ⟨P, hPd⟩ : ∃ P, prodL l = P := ⟨_, rfl⟩
    rw [hz, hzn]
    rw [hPd] at hbi ⊢
    have HPD := Lib.hid hPd
    clear hz hzn hlg hsm hPd
    go_wp2_with fail
    go_loopw [6, 7] (fun v iv wr => ∃ k : Nat, iv = .int .i64 k ∧ Hid (k ≤ P ∧ Acc encA 33 wr B w3.heap.size v (allT l k) ∧ Below (w.heap.size + 1) (w.alloc (.cells #[.slice oa l.length ca] 24)) wr ∧ w3.heap.size ≤ wr.heap.size)) (fun _ i _ => P - (intOf i).toNat)
    case atStart => exact ⟨0, rfl, Lib.hid ⟨Nat.zero_le _, Acc.nil _ _ _ _ _, HBD.out, Nat.le_refl _⟩⟩
    case round =>
      obtain ⟨k, rfl, HI⟩ := hrel
      have HBW := Lib.hid (show Below w.heap.size w wr from HB0.out.trans (HI.out.2.2.1.mono (Nat.le_succ _)))
      obtain ⟨ao, cp, hvf⟩ := HI.out.2.1.form
      rw [allT_len] at hvf
      subst hvf
      by_cases hlt : k < P
      · have hltI : (k : Int) < (P : Int) := by omega
        have HLT := Lib.hid hlt
        have hd5 := dbox HI.out.2.2.1
        have HAT := Lib.hid (rats_any l (.slice oa l.length ca) (k : Int) wr B (HX.out.later (HBW.out.mono hB)) (by have := HBW.out.size; omega) hl)
        rw [at_tup HP.out (by rw [HPD.out]; exact hlt)] at HAT
        clear hlt
        go_wp2_with fail
        refine HAT.out.mono ?_
        clear HAT
        rintro e w5 ⟨⟨sl, rfl, hr5⟩, hb5⟩
        obtain ⟨os, cs, hsf, _⟩ := hr5.form
        obtain ⟨tl, htl⟩ : ∃ tl, (tupL l k).length = tl := ⟨_, rfl⟩
        rw [htl] at hsf
        subst hsf
        have HR5 := Lib.hid hr5
        have HB5 := Lib.hid hb5
        have HTL := Lib.hid htl
        clear hr5 hb5 htl
        have hs5 := HB5.out.size
        have hw3 := HI.out.2.2.2
        have HBW5 := Lib.hid (show Below (w.heap.size + 1) (w.alloc (.cells #[.slice oa l.length ca] 24)) w5 from HI.out.2.2.1.trans (HB5.out.mono (by have := HBW.out.size; omega)))
        have hsb : ∀ b, (b < B ∨ wr.heap.size ≤ b ∧ b < w5.heap.size) → SB B w3.heap.size (w5.heap.size + 1) (Value.slice ao k cp).ownBlock b := fun b hb => by
          have hw := HBW.out.size
          refine ⟨by omega, by omega, fun e => ?_⟩
          have := HI.out.2.1.lt b e
          omega
        have HSB := Lib.hid (show RepS (w5.alloc (.cells #[.slice os tl cs] 33)) (SB B w3.heap.size (w5.alloc (.cells #[.slice os tl cs] 33)).heap.size (Value.slice ao k cp).ownBlock) (.slice os tl cs) (tupL l k) from by
          rw [World.size_alloc]
          exact HR5.out.keep hsb (fun b hb => (below1 w5 _).block b (by have hw := HBW.out.size; rcases hb with hb | ⟨_, hb⟩; omega; exact hb)))
        clear hsb
        obtain ⟨k1, hk1⟩ : ∃ k1 : Nat, k1 = k + 1 := ⟨_, rfl⟩
        have HK1 := Lib.hid hk1
        clear hk1
        go_wp2_with (at_builtin; refine Acc.append (E := encA) (e := 33) Tryd.underlying22 hi hz0 hz1 hz2 rfl (by decide) (by rfl) _ _ (by rfl) B w3.heap.size (.slice ao k cp) (allT l k) (by rfl) ((HI.out.2.1.later HB5.out).later (below1 _ _)) ⟨w5.heap.size, 0, none⟩ 1 (tupL l k) (.slice os tl cs) (by rfl) rfl (fun j u hu => new_cells w5 [.slice os tl cs] _ j u hu) HSB.out (by rw [allT_len]; have := HLT.out; have := HP.out; have := HPD.out; omega) (by simp; omega) ?_; intro v3 w6 hA3 hg3; have HA3 := Lib.hid hA3; have HG3 := Lib.hid hg3; clear hA3 hg3)
        go_roundw
        case rel =>
          refine ⟨k1, by rw [HK1.out]; go_num, Lib.hid ⟨by rw [HK1.out]; exact HLT.out, by rw [HK1.out, allT_succ]; exact HA3.out, ?_, by have := HG3.out.size; simp at this; omega⟩⟩
          exact (HBW5.out.alloc (by omega) _).grown HG3.out (by simp; omega) (fun q e => by have := (HI.out.2.1.lt q e).1; omega)
        case measure => have := HLT.out; have := HK1.out; simp [intOf]; omega
      · have hk : k = P := by have := HI.out.1; omega
        subst hk
        go_wp2_with fail
        go_ret2
        refine ⟨⟨.slice ao k cp, ret_pair rfl (by rw [HE.out.1]; rfl), ?_⟩, HBW.out⟩
        rw [HE.out.2, HPD.out]
        exact HI.out.2.1.axes (by rw [allT_len]; have := HP.out; have := HPD.out; omega)

end Go.Proofs.YthnlkijkgnmbhaaDoor
