/-
  explore of package pattern at states. Nothing is assumed.
-/
import Derived.Test.YtaipaddfehpmgaaDoorPaRows
import Derived.Test.YtaipaddfehpmgaaDoorPaStepr
namespace Go.Proofs.YtaipaddfehpmgaaDoor
open Go.RowKit

/-- What a search returns. -/
def ExR (w' : World) (e : Ending) : Option (List Int × List (List Nat)) → Prop
  | none => e = .returned (.tuple #[.slice none 0 0, .slice none 0 0, .int .i64 10])
  | some (F, E) => ∃ gf cf ge ce, e = .returned (.tuple #[.slice (some ⟨gf, 0, none⟩) F.length cf, .slice (some ⟨ge, 0, none⟩) E.length ce, .int .i64 0]) ∧ gf < w'.heap.size ∧ (∀ (k : Nat) (x : Int), F[k]? = some x → w'.cell? ⟨gf, k, none⟩ = some (.int .u64 x)) ∧ EdH w' w'.heap.size ge E
theorem step_u (ps : List Ps) (st : Int) : (∀ y, y ∈ stepL ps st → UI y) ∧ (stepL ps st).length = 95 := ⟨fun y hy => by
  unfold stepL at hy
  obtain ⟨r, _, rfl⟩ := List.mem_map.1 hy
  exact and_u _ _, stepL_len ps st⟩

set_option maxRecDepth 100000 in
set_option maxHeartbeats 6400000 in
theorem exploreS_any (w : World) (N bm br gr g cap capr : Nat) (ps : List Ps) (last : Int) (h : IsSt w N bm br gr g cap capr ps last) :
    Calls Tryd.prog 25 #[.int .u64 1, stV bm br] w fun e w' => ExR w' e (exL (stepL ps) 4098 [1] []) ∧ Below w.heap.size w w' := by
  obtain ⟨i0, hi, hz0, hz1, hz2⟩ := info_parts infoW
  obtain ⟨j0, hj, hy0, hy1, hy2⟩ := info_parts infoI
  obtain ⟨l0, hl, hx0, hx1, hx2⟩ := info_parts infoL
  have HI := Lib.hid h
  have hN := h.ln
  obtain ⟨R, hR⟩ : ∃ R, R = exL (stepL ps) 4098 [1] [] := ⟨_, rfl⟩
  have HR := Lib.hid hR
  have HST : Hid ((w.alloc (.cells #[.int .u64 1] 42)).ownsRow w.heap.size 42 1 (.slice (some ⟨w.heap.size, 0, none⟩) 1 1) 1 [.int .u64 1]) := Lib.hid (World.ownsRow_lit w #[.int .u64 1] 1 (Nat.le_refl _) (by decide) rfl)
  have HM0 : Hid (MapK (Value.int .u64) UI ((w.alloc (.cells #[.int .u64 1] 42)).alloc (.map #[] 0)) (w.heap.size + 1) (fun _ : Int => none)) := Lib.hid (by have := MapK.made (kv := Value.int .u64) (P := UI) (w.alloc (.cells #[.int .u64 1] 42)); rwa [World.size_alloc] at this)
  have hmm := @run_makeMap Tryd.prog
  rw [← hR]
  unfold stV
  clear h hR
  go_enter Tryd.func25, Tryd.ntmps25
  go_wp2_with (refine insert_k _ keyS rfl _ _ _ rfl (w.heap.size + 1) (fun _ => none) rfl HM0.out 1 0 rfl rfl ⟨by decide, by decide⟩ rfl ?_)
  intro w3 hm3 hg3
  have hb3 : Below (w.heap.size + 1) (w.alloc (.cells #[.int .u64 1] 42)) w3 := by
    have h1 := ((Below.refl (w.heap.size + 1) (w.alloc (.cells #[.int .u64 1] 42))).alloc (by simp) (.map #[] 0)).grown hg3 (by simp) (fun q hq => by cases hq; exact Nat.le_refl _)
    exact h1
  have hs3 : w.heap.size + 2 ≤ w3.heap.size := by have := hg3.size; simpa using this
  have HF3 : Hid (OwnW w3 w.heap.size (.slice (some ⟨w.heap.size, 0, none⟩) 1 1) [1]) := Lib.hid (own_keep HST.out (fun q cur hq _ => hb3.block q (by have := (Array.getElem?_eq_some_iff.1 hq).1; simpa using this)))
  have HM3 : Hid (MapK (Value.int .u64) UI w3 (w.heap.size + 1) (idxL [(1 : Int)])) := Lib.hid (by
    have e : idxL [(1 : Int)] = fun q => if q = 1 then some 0 else none := by
      funext q
      rw [idxL, idxL]
      by_cases h : q = 1
      · subst h; rfl
      · rw [if_neg (fun e => h e.symm), if_neg h]; rfl
    rw [e]; exact hm3)
  have HB3 : Hid (Below w.heap.size w w3) := Lib.hid ((below1 w _).trans (hb3.mono (by omega)))
  have HI3 := Lib.hid (HI.out.later (HB3.out.mono hN))
  have HE3 := Lib.hid (EdA.nil w3 w.heap.size w3.heap.size)
  have HX3 : Hid (ExI UI 95 [(1 : Int)] []) := Lib.hid ⟨fun x hx => by rw [List.mem_singleton.1 hx]; exact ⟨by decide, by decide⟩, Nat.zero_le _, by decide, by simp, fun i to hi => by cases hi⟩
  clear hm3 hg3 hb3 HST HM0 HI hmm
  go_wp2_with fail
  go_loopw [7, 9, 10] (fun v7 v9 v10 wr => ∃ (F : List Int) (E : List (List Nat)) (of : Option Addr) (cf : Nat) (oe : Option Addr) (ce : Nat), v7 = .slice of F.length cf ∧ v9 = .slice oe E.length ce ∧ v10 = .int .i64 (E.length : Int) ∧ Hid (ExI UI 95 F E) ∧ Hid (R = exL (stepL ps) (4098 - E.length) F E) ∧ Hid (OwnW wr w.heap.size (.slice of F.length cf) F) ∧ Hid (EdA wr w.heap.size wr.heap.size (.slice oe E.length ce) E) ∧ Hid (MapK (Value.int .u64) UI wr (w.heap.size + 1) (idxL F)) ∧ Hid (IsSt wr N bm br gr g cap capr ps last) ∧ Hid (Below w.heap.size w wr) ∧ w.heap.size + 2 ≤ wr.heap.size) (fun _ _ v _ => 4097 - (intOf v).toNat)
  case atStart => exact ⟨[1], [], _, 1, none, 0, rfl, rfl, rfl, HX3, HR, HF3, HE3, HM3, HI3, HB3, hs3⟩
  case round =>
    obtain ⟨F, E, of, cf, oe, ce, rfl, rfl, rfl, HX, HE, HF, HD, HM, HI, HB, hsr⟩ := hrel
    clear HX3 HF3 HE3 HM3 HI3 HB3 hs3
    obtain ⟨wo, hwo⟩ : ∃ wo : World, wo = wr := ⟨_, rfl⟩
    subst hwo
    by_cases hlt : E.length < F.length
    · have hltI : (E.length : Int) < (F.length : Int) := by omega
      have hi0 : (0 : Int) ≤ (E.length : Int) := by omega
      have hl4 := HX.out.lm
      obtain ⟨x, hx⟩ : ∃ x, F[E.length]? = some x := ⟨_, List.getElem?_eq_getElem hlt⟩
      have HUx : Hid (UI x) := Lib.hid (HX.out.ok x (List.mem_of_getElem? hx))
      obtain ⟨f, hg4⟩ : ∃ gl, 4098 - E.length = gl + 1 := ⟨4097 - E.length, by omega⟩
      have HE1 : Hid (R = if 4096 < (addsE F (stepL ps x) []).1.length then none else exL (stepL ps) f (addsE F (stepL ps x) []).1 (E ++ [(addsE F (stepL ps x) []).2])) := Lib.hid (by rw [HE.out, hg4, exL_next _ _ hx])
      obtain ⟨gf, rfl⟩ : ∃ gf, of = some ⟨gf, 0, none⟩ := by
        rcases HF.out.2 with ⟨hv, h0⟩ | ⟨gl, cq, cur, hv, _⟩
        · omega
        · cases hv; exact ⟨gl, rfl⟩
      have c1 : wo.cell? ⟨gf, E.length, none⟩ = some (.int .u64 x) := by
        rw [World.ownsRow.cellAt HF.out E.length (by omega), List.getElem?_map, hx]
        rfl
      have HS := Lib.hid (step_any wo N bm br gr g cap capr ps last x HI.out)
      have HNL := Lib.hid (step_u ps x)
      generalize hnx : stepL ps x = NX at *
      clear HE
      go_wp2_with fail
      refine HS.out.mono ?_
      rintro e w4 ⟨⟨gn, rfl, hO4⟩, hb4⟩
      have HO4 : Hid (w4.ownsRow wo.heap.size 42 1 (.slice (some ⟨gn, 0, none⟩) 95 95) 95 (NX.map (Value.int .u64))) := Lib.hid (by
        have h1 := hO4
        unfold OwnW at h1
        rw [HNL.out.2] at h1
        exact h1)
      have HF4 : Hid (OwnW w4 w.heap.size (.slice (some ⟨gf, 0, none⟩) F.length cf) F) := Lib.hid (own_keep HF.out (fun q cur hq _ => below_keep hb4 hq))
      have HD4 : Hid (EdA w4 w.heap.size w4.heap.size (.slice oe E.length ce) E) := Lib.hid ((HD.out.below hb4).mono hb4.size)
      have HM4 := Lib.hid (HM.out.keep (hb4.block _ HM.out.lt))
      have HI4 := Lib.hid (HI.out.later (hb4.mono HI.out.ln))
      have HB4 := Lib.hid (HB.out.trans (hb4.mono (by omega)))
      have HT4 : Hid (OwnI w4 w4.heap.size (.slice none 0 0) []) := Lib.hid ⟨rfl, .inl ⟨rfl, rfl⟩⟩
      have HA4 : Hid (addsE F NX [] = addsE F (NX.drop 0) []) := Lib.hid (by rw [List.drop_zero])
      have HU4 := Lib.hid HX.out.ok
      have hne4 : (Value.slice (some ⟨gf, 0, none⟩) F.length cf).ownBlock ≠ some gn := fun e => by
        have h1 : gf = gn := by simpa [Value.ownBlock] using e
        have h2 := (World.ownsRow.lt HF.out gf rfl).2
        have h3 := (World.ownsRow.lt hO4 gn rfl).1
        omega
      have hs4 : wo.heap.size ≤ w4.heap.size := hb4.size
      have HL4 : Hid (([] : List Nat).length = 0 ∧ F.length ≤ F.length + 0) := Lib.hid ⟨rfl, Nat.le_refl _⟩
      have HNN := Lib.hid hne4
      clear hO4 hb4 HS HF HD HM HI HB c1 hne4
      go_wp2_with fail
      go_loopw [7, 11, 34] (fun v7 v11 v34 wr => ∃ (k : Nat) (G : List Int) (T : List Nat) (og : Option Addr) (cg : Nat) (ot : Option Addr) (ct : Nat), v7 = .slice og G.length cg ∧ v11 = .slice ot T.length ct ∧ v34 = .int .i64 (k : Int) ∧ k ≤ 95 ∧ Hid (T.length = k ∧ G.length ≤ F.length + k) ∧ Hid (addsE F NX [] = addsE G (NX.drop k) T) ∧ Hid (∀ x, x ∈ G → UI x) ∧ Hid (OwnW wr w.heap.size (.slice og G.length cg) G) ∧ Hid (OwnI wr w4.heap.size (.slice ot T.length ct) T) ∧ Hid (EdA wr w.heap.size w4.heap.size (.slice oe E.length ce) E) ∧ Hid (MapK (Value.int .u64) UI wr (w.heap.size + 1) (idxL G)) ∧ Hid (IsSt wr N bm br gr g cap capr ps last) ∧ Hid (wr.ownsRow wo.heap.size 42 1 (.slice (some ⟨gn, 0, none⟩) 95 95) 95 (NX.map (Value.int .u64))) ∧ Hid ((Value.slice og G.length cg).ownBlock ≠ some gn) ∧ Hid (Below w.heap.size w wr) ∧ w4.heap.size ≤ wr.heap.size) (fun _ _ v _ => 95 - (intOf v).toNat)
      case atStart => exact ⟨0, F, [], _, cf, none, 0, rfl, rfl, rfl, Nat.zero_le _, HL4, HA4, HU4, HF4, HT4, HD4, HM4, HI4, HO4, HNN, HB4, Nat.le_refl _⟩
      case round =>
        obtain ⟨k, G, T, og, cg, ot, ct, rfl, rfl, rfl, hk, HL, HA, HU, HF, HT, HD, HM, HI, HO, HN, HB, hsi⟩ := hrel
        clear HF4 HD4 HM4 HI4 HB4 HT4 HA4 HU4 HL4 HO4 HNN
        by_cases hk95 : k < 95
        · have hkI : (k : Int) < (95 : Int) := by omega
          have hk0 : (0 : Int) ≤ (k : Int) := by omega
          have hwk : IntKind.i64.wrap ((k : Int) + 1) = ((k + 1 : Nat) : Int) := by rw [IntWalk.i64_in _ (by omega)]; omega
          obtain ⟨y, hy⟩ : ∃ y, NX[k]? = some y := ⟨_, List.getElem?_eq_getElem (by rw [HNL.out.2]; exact hk95)⟩
          have HUy : Hid (UI y) := Lib.hid (HNL.out.1 y (List.mem_of_getElem? hy))
          have c2 : wr.cell? ⟨gn, k, none⟩ = some (.int .u64 y) := by
            rw [World.ownsRow.cellAt HO.out k (by omega), List.getElem?_map, hy]; rfl
          have HDr : Hid (NX.drop k = y :: NX.drop (k + 1)) := Lib.hid (by
            have hkl := (List.getElem?_eq_some_iff.1 hy).1
            rw [List.drop_eq_getElem_cons hkl, (List.getElem?_eq_some_iff.1 hy).2])
          have hTk := HL.out.1
          have hGl := HL.out.2
          have hTI : T.length ≤ 95 := by omega
          clear hy
          cases hix : idxL G y with
          | some j =>
            have HA2 : Hid (addsE F NX [] = addsE G (NX.drop (k + 1)) (T ++ [j])) := Lib.hid (by rw [HA.out, HDr.out, addsE_some hix])
            have HIX := Lib.hid hix
            have HTX := Lib.hid HT.out
            clear hix hTk HA
            have hb8 := below1 wr (.cells #[.int .i64 (j : Int)] 3)
            have HT8 : Hid (OwnI (wr.alloc (.cells #[.int .i64 (j : Int)] 3)) w4.heap.size (.slice ot T.length ct) T) := Lib.hid (own_keep HTX.out (fun q cur hq _ => below_keep hb8 hq))
            have HNW := Lib.hid (new_at wr (.cells #[.int .i64 (j : Int)] 3))
            go_wp2_with (first | (at_lookup; refine lookup_some _ keyS rfl _ _ rfl (w.heap.size + 1) (idxL G) rfl HM.out y rfl HUy.out j HIX.out ?_) | (at_builtin; refine wpList_append_lies _ rfl _ _ _ rfl w4.heap.size 3 j0 _ 1 8 Tryd.underlying85 hj hy0 hy1 hy2 rfl (by omega) (.slice ot T.length ct) T.length (T.map fun k : Nat => Value.int .i64 (k : Int)) rfl HT8.out ⟨wr.heap.size, 0, none⟩ 1 1 [.int .i64 (j : Int)] rfl rfl (World.news_of_block (cs := #[.int .i64 (j : Int)]) (t := 3) (fr := (0, 0)) HNW.out) (by simp [Value.oneCell']) (by omega) (by unfold maxLen; omega) (by omega) (by simp; omega) (wr.heap.size + 1) (by simp) ?_))
            intro gt cap9 w9 hown9 hgrow9 hat9 hgl9
            have hTk := HL.out.1
            have hk9 : ∀ (q : Nat) (o : Obj), wr.heap[q]? = some o → (Value.slice ot T.length ct).ownBlock ≠ some q → w9.heap[q]? = wr.heap[q]? := fun q o hq hne => (grown_keep hgrow9 ((below_keep hb8 hq).trans hq) hne).trans (below_keep hb8 hq)
            have hb9 : Below w4.heap.size wr w9 := (hb8.mono hsi).grown hgrow9 (by rw [World.size_alloc]; omega) (fun q hq => (own_lt HTX.out q hq).1)
            have HF9 : Hid (OwnW w9 w.heap.size (.slice og G.length cg) G) := Lib.hid (own_keep HF.out (fun q cur hq _ => hk9 q _ hq (apart HTX.out hq (by decide))))
            have HD9 : Hid (EdA w9 w.heap.size w4.heap.size (.slice oe E.length ce) E) := Lib.hid (HD.out.keep (fun q cur hq => hk9 q _ hq (apart HTX.out hq (by decide))) (fun q cur hq hlt => hk9 q _ hq (fun e => by have := (own_lt HTX.out q e).1; omega)))
            have HM9 : Hid (MapK (Value.int .u64) UI w9 (w.heap.size + 1) (idxL G)) := Lib.hid (HM.out.keep (hb9.block _ (by omega)))
            have HI9 := Lib.hid (HI.out.later (hb9.mono (by omega)))
            have HO9 : Hid (w9.ownsRow wo.heap.size 42 1 (.slice (some ⟨gn, 0, none⟩) 95 95) 95 (NX.map (Value.int .u64))) := Lib.hid (own_keep HO.out (fun q cur hq _ => hk9 q _ hq (apart HTX.out hq (by decide))))
            have HB9 := Lib.hid (HB.out.trans (hb9.mono (by omega)))
            have HT9 : Hid (OwnI w9 w4.heap.size (.slice (some ⟨gt, 0, none⟩) (T ++ [j]).length cap9) (T ++ [j])) := Lib.hid (by unfold OwnI; rw [List.length_append, List.map_append]; exact hown9)
            have hs9 : w4.heap.size ≤ w9.heap.size := Nat.le_trans hsi hb9.size
            have HL9 : Hid ((T ++ [j]).length = k + 1 ∧ G.length ≤ F.length + (k + 1)) := Lib.hid ⟨by rw [List.length_append]; show T.length + 1 = k + 1; omega, (by have := HL.out.2; omega)⟩
            clear hk9 hb9 hb8 hown9 hgrow9 hat9 hgl9 HTX HT8 HNW
            go_wp2_with fail
            go_roundw
            case rel => exact ⟨k + 1, G, T ++ [j], og, cg, some ⟨gt, 0, none⟩, cap9, rfl, by rw [List.length_append]; rfl, by first | rfl | go_num, hk95, HL9, HA2, HU, HF9, HT9, HD9, HM9, HI9, HO9, HN, HB9, hs9⟩
            case measure => simp [intOf]; omega
          | none =>
            have HIX := Lib.hid hix
            have HA2 : Hid (addsE F NX [] = addsE (G ++ [y]) (NX.drop (k + 1)) (T ++ [G.length])) := Lib.hid (by rw [HA.out, HDr.out, addsE_none hix])
            have HU2 : Hid (∀ x, x ∈ G ++ [y] → UI x) := Lib.hid (fun x hx => by
              rcases List.mem_append.1 hx with hx | hx
              · exact HU.out x hx
              · rw [List.mem_singleton.1 hx]; exact HUy.out)
            clear hix hTk HA
            go_wp2_with (first | (at_lookup; refine lookup_none _ keyS rfl _ _ rfl (w.heap.size + 1) (idxL G) rfl HM.out y rfl HUy.out HIX.out ?_) | (at_mapUpdate; refine update_k _ keyS rfl _ _ _ rfl (w.heap.size + 1) (idxL G) rfl HM.out y G.length rfl rfl HUy.out HIX.out ?_))
            intro w5 hm5 hg5
            have hk5 : ∀ (q : Nat) (cur : Array Value) (t : TypeId) (fr : Nat × Nat), wr.heap[q]? = some (.cells cur t fr) → w5.heap[q]? = wr.heap[q]? := fun q cur t fr hq => grown_keep hg5 hq (fun e => by cases e; exact HM.out.no_row hq)
            have HF5 : Hid (OwnW w5 w.heap.size (.slice og G.length cg) G) := Lib.hid (own_keep HF.out (fun q cur hq _ => hk5 q _ _ _ hq))
            have HT5 : Hid (OwnI w5 w4.heap.size (.slice ot T.length ct) T) := Lib.hid (own_keep HT.out (fun q cur hq _ => hk5 q _ _ _ hq))
            have HD5 : Hid (EdA w5 w.heap.size w4.heap.size (.slice oe E.length ce) E) := Lib.hid (HD.out.keep (fun q cur hq => hk5 q _ _ _ hq) (fun q cur hq _ => hk5 q _ _ _ hq))
            have HO5 : Hid (w5.ownsRow wo.heap.size 42 1 (.slice (some ⟨gn, 0, none⟩) 95 95) 95 (NX.map (Value.int .u64))) := Lib.hid (own_keep HO.out (fun q cur hq _ => hk5 q _ _ _ hq))
            have hb5 : Below (w.heap.size + 1) wr w5 := (Below.refl _ _).grown hg5 (by omega) (fun q hq => by cases hq; exact Nat.le_refl _)
            have HI5 := Lib.hid (HI.out.later (hb5.mono (by omega)))
            have HB5 := Lib.hid (HB.out.trans (hb5.mono (by omega)))
            have HM5 : Hid (MapK (Value.int .u64) UI w5 (w.heap.size + 1) (idxL (G ++ [y]))) := Lib.hid (by
              have e : idxL (G ++ [y]) = fun q => if q = y then some G.length else idxL G q := by funext q; exact idxL_snoc HIX.out q
              rw [e]; exact hm5)
            have hs5 : w4.heap.size ≤ w5.heap.size := Nat.le_trans hsi hb5.size
            clear hm5 hg5 hk5 hb5 HF HT HD HO HI HB HM
            have hb6 := below1 w5 (.cells #[.int .u64 y] 42)
            have HF6 : Hid (OwnW (w5.alloc (.cells #[.int .u64 y] 42)) w.heap.size (.slice og G.length cg) G) := Lib.hid (own_keep HF5.out (fun q cur hq _ => below_keep hb6 hq))
            have HNV := Lib.hid (new_at w5 (.cells #[.int .u64 y] 42))
            go_wp2_with (at_builtin; refine wpList_append_lies _ rfl _ _ _ rfl w.heap.size 42 i0 _ 1 8 Tryd.underlying55 hi hz0 hz1 hz2 rfl (by omega) (.slice og G.length cg) G.length (G.map (Value.int .u64)) rfl HF6.out ⟨w5.heap.size, 0, none⟩ 1 1 [.int .u64 y] rfl rfl (World.news_of_block (cs := #[.int .u64 y]) (t := 42) (fr := (0, 0)) HNV.out) (by simp [Value.oneCell']) (by omega) (by unfold maxLen; omega) (by omega) (by rw [World.size_alloc]; omega) (w5.heap.size + 1) (by simp) ?_)
            intro gq cap7 w7 hown7 hgrow7 hat7 hgl7
            have hk7 : ∀ (q : Nat) (o : Obj), w5.heap[q]? = some o → (Value.slice og G.length cg).ownBlock ≠ some q → w7.heap[q]? = w5.heap[q]? := fun q o hq hne => (grown_keep hgrow7 ((below_keep hb6 hq).trans hq) hne).trans (below_keep hb6 hq)
            have hb7 : Below w.heap.size w5 w7 := (hb6.mono (by omega)).grown hgrow7 (by rw [World.size_alloc]; omega) (fun q hq => (own_lt HF5.out q hq).1)
            have HF7 : Hid (OwnW w7 w.heap.size (.slice (some ⟨gq, 0, none⟩) (G ++ [y]).length cap7) (G ++ [y])) := Lib.hid (by unfold OwnW; rw [List.length_append, List.map_append]; exact hown7)
            have HT7 : Hid (OwnI w7 w4.heap.size (.slice ot T.length ct) T) := Lib.hid (own_keep HT5.out (fun q cur hq _ => hk7 q _ hq (apart HF5.out hq (by decide))))
            have HD7 : Hid (EdA w7 w.heap.size w4.heap.size (.slice oe E.length ce) E) := Lib.hid (HD5.out.keep (fun q cur hq => hk7 q _ hq (apart HF5.out hq (by decide))) (fun q cur hq _ => hk7 q _ hq (apart HF5.out hq (by decide))))
            have HO7 : Hid (w7.ownsRow wo.heap.size 42 1 (.slice (some ⟨gn, 0, none⟩) 95 95) 95 (NX.map (Value.int .u64))) := Lib.hid (own_keep HO5.out (fun q cur hq hv => hk7 q _ hq (by cases hv; exact HN.out)))
            have HM7 : Hid (MapK (Value.int .u64) UI w7 (w.heap.size + 1) (idxL (G ++ [y]))) := Lib.hid (by
              obtain ⟨es, clock, hmb, _⟩ := HM5.out
              exact HM5.out.keep (hk7 _ _ hmb (fun e => by
                obtain ⟨cur, hc⟩ := row_at HF5.out e
                rw [hmb] at hc
                cases hc)))
            have HI7 := Lib.hid (HI5.out.later (hb7.mono (by omega)))
            have HB7 := Lib.hid (HB5.out.trans hb7)
            have HN7 : Hid ((Value.slice (some ⟨gq, 0, none⟩) (G ++ [y]).length cap7).ownBlock ≠ some gn) := Lib.hid (fun e => by
              have hg : gq = gn := by simpa [Value.ownBlock] using e
              rcases hat7 with h7 | h7
              · exact HN.out (by rw [h7, hg])
              · have := (own_lt HO5.out gn rfl).2
                omega)
            have hs7 : w4.heap.size ≤ w7.heap.size := Nat.le_trans hs5 hb7.size
            clear hown7 hgrow7 hat7 hgl7 hk7 hb7 hb6 HF6 HNV HF5 HT5 HD5 HO5 HM5 HI5 HB5
            have HTX := Lib.hid HT7.out
            have hb8 := below1 w7 (.cells #[.int .i64 (G.length : Int)] 3)
            have HT8 : Hid (OwnI (w7.alloc (.cells #[.int .i64 (G.length : Int)] 3)) w4.heap.size (.slice ot T.length ct) T) := Lib.hid (own_keep HTX.out (fun q cur hq _ => below_keep hb8 hq))
            have HNW := Lib.hid (new_at w7 (.cells #[.int .i64 (G.length : Int)] 3))
            go_wp2_with (at_builtin; refine wpList_append_lies _ rfl _ _ _ rfl w4.heap.size 3 j0 _ 1 8 Tryd.underlying85 hj hy0 hy1 hy2 rfl (by omega) (.slice ot T.length ct) T.length (T.map fun k : Nat => Value.int .i64 (k : Int)) rfl HT8.out ⟨w7.heap.size, 0, none⟩ 1 1 [.int .i64 (G.length : Int)] rfl rfl (World.news_of_block (cs := #[.int .i64 (G.length : Int)]) (t := 3) (fr := (0, 0)) HNW.out) (by simp [Value.oneCell']) (by omega) (by unfold maxLen; omega) (by omega) (by simp; omega) (w7.heap.size + 1) (by simp) ?_)
            intro gt cap9 w9 hown9 hgrow9 hat9 hgl9
            have hTk := HL.out.1
            have hk9 : ∀ (q : Nat) (o : Obj), w7.heap[q]? = some o → (Value.slice ot T.length ct).ownBlock ≠ some q → w9.heap[q]? = w7.heap[q]? := fun q o hq hne => (grown_keep hgrow9 ((below_keep hb8 hq).trans hq) hne).trans (below_keep hb8 hq)
            have hb9 : Below w4.heap.size w7 w9 := (hb8.mono hs7).grown hgrow9 (by rw [World.size_alloc]; omega) (fun q hq => (own_lt HTX.out q hq).1)
            have HF9 : Hid (OwnW w9 w.heap.size (.slice (some ⟨gq, 0, none⟩) (G ++ [y]).length cap7) (G ++ [y])) := Lib.hid (own_keep HF7.out (fun q cur hq _ => hk9 q _ hq (apart HTX.out hq (by decide))))
            have HD9 : Hid (EdA w9 w.heap.size w4.heap.size (.slice oe E.length ce) E) := Lib.hid (HD7.out.keep (fun q cur hq => hk9 q _ hq (apart HTX.out hq (by decide))) (fun q cur hq hlt => hk9 q _ hq (fun e => by have := (own_lt HTX.out q e).1; omega)))
            have HM9 : Hid (MapK (Value.int .u64) UI w9 (w.heap.size + 1) (idxL (G ++ [y]))) := Lib.hid (HM7.out.keep (hb9.block _ (by omega)))
            have HI9 := Lib.hid (HI7.out.later (hb9.mono (by omega)))
            have HO9 : Hid (w9.ownsRow wo.heap.size 42 1 (.slice (some ⟨gn, 0, none⟩) 95 95) 95 (NX.map (Value.int .u64))) := Lib.hid (own_keep HO7.out (fun q cur hq _ => hk9 q _ hq (apart HTX.out hq (by decide))))
            have HB9 := Lib.hid (HB7.out.trans (hb9.mono (by omega)))
            have HT9 : Hid (OwnI w9 w4.heap.size (.slice (some ⟨gt, 0, none⟩) (T ++ [G.length]).length cap9) (T ++ [G.length])) := Lib.hid (by unfold OwnI; rw [List.length_append, List.map_append]; exact hown9)
            have hs9 : w4.heap.size ≤ w9.heap.size := Nat.le_trans hs7 hb9.size
            have HL9 : Hid ((T ++ [G.length]).length = k + 1 ∧ (G ++ [y]).length ≤ F.length + (k + 1)) := Lib.hid ⟨by rw [List.length_append]; show T.length + 1 = k + 1; omega, (by have := HL.out.2; rw [List.length_append]; show G.length + 1 ≤ _; omega)⟩
            clear hk9 hb9 hb8 hown9 hgrow9 hat9 hgl9 HTX HT8 HNW
            go_wp2_with fail
            go_roundw
            case rel => exact ⟨k + 1, (G ++ [y]), T ++ [G.length], (some ⟨gq, 0, none⟩), cap7, some ⟨gt, 0, none⟩, cap9, (by rw [List.length_append]; rfl), by rw [List.length_append]; rfl, by first | rfl | go_num, hk95, HL9, HA2, HU2, HF9, HT9, HD9, HM9, HI9, HO9, HN7, HB9, hs9⟩
            case measure => simp [intOf]; omega
        · have hkI : ¬ ((k : Int) < (95 : Int)) := by omega
          obtain rfl : k = 95 := by omega
          have HA2 : Hid (addsE F NX [] = (G, T)) := Lib.hid (by rw [HA.out, List.drop_eq_nil_of_le (by rw [HNL.out.2]; exact Nat.le_refl _), addsE])
          have hTl := HL.out.1
          have hGl := HL.out.2
          by_cases hbig : 4096 < G.length
          · have hbI : (G.length : Int) > 4096 := by omega
            have HRe : Hid (R = none) := Lib.hid (by rw [HE1.out, HA2.out, if_pos hbig])
            go_wp2_with fail
            go_ret3
            exact ⟨by rw [HRe.out]; rfl, HB.out⟩
          · have hbI : ¬ ((G.length : Int) > 4096) := by omega
            have HE2 : Hid (R = exL (stepL ps) f G (E ++ [T])) := Lib.hid (by rw [HE1.out, HA2.out, if_neg hbig])
            have HX2 : Hid (ExI UI 95 G (E ++ [T])) := Lib.hid (by
              have h := HX.out.step NX HNL.out.1 HNL.out.2 hlt (by rw [HA2.out]; show G.length ≤ 4096; omega)
              rw [HA2.out] at h
              exact h)
            obtain ⟨gt, rfl⟩ : ∃ gt, ot = some ⟨gt, 0, none⟩ := by
              rcases HT.out.2 with ⟨hv, h0⟩ | ⟨gl, cq, cur, hv, _⟩
              · omega
              · cases hv; exact ⟨gl, rfl⟩
            obtain ⟨vs, hvs, hvx⟩ := HD.out
            have HVS := Lib.hid hvs
            have HVX := Lib.hid hvx
            obtain ⟨cur, hc1, hc2⟩ := OwnI.cur HT.out
            have HC1 := Lib.hid hc1
            have HC2 := Lib.hid hc2
            have hgtl := (own_lt HT.out gt rfl).2
            have hb6 := below1 wr (.cells #[.slice (some ⟨gt, 0, none⟩) T.length ct] 85)
            have HV6 : Hid ((wr.alloc (.cells #[.slice (some ⟨gt, 0, none⟩) T.length ct] 85)).ownsRow w.heap.size 85 1 (.slice oe E.length ce) E.length vs) := Lib.hid (own_keep hvs (fun q cur hq _ => below_keep hb6 hq))
            have HNV := Lib.hid (new_at wr (.cells #[.slice (some ⟨gt, 0, none⟩) T.length ct] 85))
            clear hvs hvx hc1 hc2 HA HL hbig hTl
            go_wp2_with (at_builtin; refine wpList_append_lies _ rfl _ _ _ rfl w.heap.size 85 l0 _ 1 24 Tryd.underlying50 hl hx0 hx1 hx2 rfl (by omega) (.slice oe E.length ce) E.length vs rfl HV6.out ⟨wr.heap.size, 0, none⟩ 1 1 [.slice (some ⟨gt, 0, none⟩) T.length ct] rfl rfl (World.news_of_block (cs := #[.slice (some ⟨gt, 0, none⟩) T.length ct]) (t := 85) (fr := (0, 0)) HNV.out) (by simp [Value.oneCell']) (by omega) (by unfold maxLen; omega) (by omega) (by rw [World.size_alloc]; omega) (wr.heap.size + 1) (by simp) ?_)
            intro ge cap7 w7 hown7 hgrow7 hat7 hgl7
            have hk7 : ∀ (q : Nat) (o : Obj), wr.heap[q]? = some o → (Value.slice oe E.length ce).ownBlock ≠ some q → w7.heap[q]? = wr.heap[q]? := fun q o hq hne => (grown_keep hgrow7 ((below_keep hb6 hq).trans hq) hne).trans (below_keep hb6 hq)
            have hb7 : Below w.heap.size wr w7 := (hb6.mono (by omega)).grown hgrow7 (by rw [World.size_alloc]; omega) (fun q hq => (own_lt HVS.out q hq).1)
            have HF7 : Hid (OwnW w7 w.heap.size (.slice og G.length cg) G) := Lib.hid (own_keep HF.out (fun q cur hq _ => hk7 q _ hq (apart HVS.out hq (by decide))))
            have HD7 : Hid (EdA w7 w.heap.size w7.heap.size (.slice (some ⟨ge, 0, none⟩) (E ++ [T]).length cap7) (E ++ [T])) := Lib.hid (by
              have h := EdA.snoc (M := w4.heap.size) (M' := w7.heap.size) (to := T) (ci := ct) (g := gt) (cur := cur) HV6.out (fun i to hi => by
                obtain ⟨gi, ci, cu, q1, q2, q3, q4⟩ := HVX.out i to hi
                exact ⟨gi, ci, cu, q1, q2, (below_keep hb6 q3).trans q3, q4⟩) ((below_keep hb6 HC1.out).trans HC1.out) HC2.out hgrow7 (by have := hb7.size; omega) (by have := hb7.size; omega) hown7
              rw [List.length_append]
              exact h)
            have HM7 : Hid (MapK (Value.int .u64) UI w7 (w.heap.size + 1) (idxL G)) := Lib.hid (by
              obtain ⟨es, clock, hmb, _⟩ := HM.out
              exact HM.out.keep (hk7 _ _ hmb (fun e => by
                obtain ⟨cur, hc⟩ := row_at HVS.out e
                rw [hmb] at hc
                cases hc)))
            have HI7 := Lib.hid (HI.out.later (hb7.mono (by omega)))
            have HB7 := Lib.hid (HB.out.trans hb7)
            have hs7 : w.heap.size + 2 ≤ w7.heap.size := by have := hb7.size; omega
            have hEl : E.length ≤ 4096 := by omega
            have hf9 : 4098 - (E ++ [T]).length = f := by rw [List.length_append]; show 4098 - (E.length + 1) = f; omega
            have HE3 : Hid (R = exL (stepL ps) (4098 - (E ++ [T]).length) G (E ++ [T])) := Lib.hid (by rw [hf9]; exact HE2.out)
            have hwE : IntKind.i64.wrap ((E.length : Int) + 1) = ((E.length + 1 : Nat) : Int) := by rw [IntWalk.i64_in _ (by omega)]; omega
            clear hown7 hgrow7 hat7 hgl7 hk7 hb7 hb6 HV6 HNV HVS HVX HC1 HC2 HF HT HD HO HM HI HB HE2 hf9
            go_wp2_with fail
            go_roundw
            case rel => exact ⟨G, E ++ [T], og, cg, some ⟨ge, 0, none⟩, cap7, rfl, by rw [List.length_append]; rfl, by rw [List.length_append]; first | rfl | go_num, HX2, HE3, HF7, HD7, HM7, HI7, HB7, hs7⟩
            case measure => simp [intOf]; omega
    · have hltI : ¬ ((E.length : Int) < (F.length : Int)) := by omega
      have hge : F.length ≤ E.length := by omega
      have hl4 := HX.out.lm
      have hF0 : 0 < F.length := List.length_pos_iff.2 HX.out.ne
      have HE1 : Hid (R = some (F, E)) := Lib.hid (by rw [HE.out, show 4098 - E.length = (4097 - E.length) + 1 by have := HX.out.le; omega, exL_end _ _ hge])
      obtain ⟨gf, rfl⟩ : ∃ gf, of = some ⟨gf, 0, none⟩ := by
        rcases HF.out.2 with ⟨hv, h0⟩ | ⟨gl, cq, cur, hv, _⟩
        · omega
        · cases hv; exact ⟨gl, rfl⟩
      obtain ⟨ge, rfl⟩ : ∃ ge, oe = some ⟨ge, 0, none⟩ := by
        obtain ⟨vs, h1, _⟩ := HD.out
        rcases h1.2 with ⟨hv, h0⟩ | ⟨gl, cq, cur, hv, _⟩
        · omega
        · cases hv; exact ⟨gl, rfl⟩
      have hgf := (World.ownsRow.lt HF.out gf rfl).2
      have hge2 : ge < wo.heap.size := by
        obtain ⟨vs, h1, _⟩ := HD.out
        exact (World.ownsRow.lt h1 ge rfl).2
      clear HE HX
      go_wp2_with fail
      go_ret3
      rw [HE1.out]
      exact ⟨⟨gf, cf, ge, ce, rfl, hgf, fun k x hx => by
        have hk := (List.getElem?_eq_some_iff.1 hx).1
        rw [World.ownsRow.cellAt HF.out k (by omega), List.getElem?_map, hx]
        rfl, HD.out.edH (Nat.le_refl _) hge2⟩, HB.out⟩
end Go.Proofs.YtaipaddfehpmgaaDoor
