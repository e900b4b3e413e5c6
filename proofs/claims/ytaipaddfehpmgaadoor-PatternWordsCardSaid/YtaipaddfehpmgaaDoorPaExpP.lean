/-
  explore of package pattern at pairs of states. Nothing is assumed.
-/
import Derived.Test.YtaipaddfehpmgaaDoorPaPr
namespace Go.Proofs.YtaipaddfehpmgaaDoor
open Go.RowKit

/-- What a search returns. -/
def ExP (w' : World) (e : Ending) : Option (List P2 × List (List Nat)) → Prop
  | none => e = .returned (.tuple #[.slice none 0 0, .slice none 0 0, .int .i64 10])
  | some (F, E) => ∃ gf cf ge ce, e = .returned (.tuple #[.slice (some ⟨gf, 0, none⟩) F.length cf, .slice (some ⟨ge, 0, none⟩) E.length ce, .int .i64 0]) ∧ gf < w'.heap.size ∧ (∀ (k : Nat) (x : P2), F[k]? = some x → w'.cell? ⟨gf, k * 2, none⟩ = some (.int .u64 x.1) ∧ w'.cell? ⟨gf, k * 2 + 1, none⟩ = some (.int .u64 x.2)) ∧ EdH w' w'.heap.size ge E

set_option maxRecDepth 100000 in
set_option maxHeartbeats 6400000 in
theorem exploreP_any (w : World) (N bA bB : Nat) (IP : World → Prop) (hlat : ∀ w w', IP w → Below N w w' → IP w') (hN : N ≤ w.heap.size) (h : IP w) (next : P2 → List P2) (hnx : ∀ p, (∀ y, y ∈ next p → UP y) ∧ (next p).length = 95)
    (hcall : ∀ (W : World) (p : P2), IP W → N ≤ W.heap.size → Calls Tryd.prog 19 #[prV p, .pointer (some ⟨bA, 0, none⟩), .pointer (some ⟨bB, 0, none⟩)] W fun e w' => (∃ gn, e = .returned (.slice (some ⟨gn, 0, none⟩) 95 95) ∧ OwnP w' W.heap.size (.slice (some ⟨gn, 0, none⟩) 95 95) (next p)) ∧ Below W.heap.size W w') :
    Calls Tryd.prog 18 #[.agg #[.int .u64 1, .int .u64 1], prF bA bB] w fun e w' => ExP w' e (exL next 4098 [((1 : Int), (1 : Int))] []) ∧ Below w.heap.size w w' := by
  obtain ⟨i0, hi, hz0, hz1, hz2⟩ := info_parts infoP
  obtain ⟨j0, hj, hy0, hy1, hy2⟩ := info_parts infoI
  obtain ⟨l0, hl, hx0, hx1, hx2⟩ := info_parts infoL
  have HI := Lib.hid h
  have HLat := Lib.hid hlat
  have HNx := Lib.hid hnx
  have HCall := Lib.hid hcall
  obtain ⟨R, hR⟩ : ∃ R, R = exL next 4098 [((1 : Int), (1 : Int))] [] := ⟨_, rfl⟩
  have HR := Lib.hid hR
  have HST : Hid (((w.alloc (.cells #[.int .u64 1, .int .u64 1] 54)).alloc (.cells #[.int .u64 1, .int .u64 1] 54)).ownsRow (w.heap.size + 1) 54 2 (.slice (some ⟨w.heap.size + 1, 0, none⟩) 1 1) 1 [.int .u64 1, .int .u64 1]) := Lib.hid (by
    have := World.ownsRow_lit (base := w.heap.size + 1) (e := 54) (size := 2) (w.alloc (.cells #[.int .u64 1, .int .u64 1] 54)) #[.int .u64 1, .int .u64 1] 1 (by simp) (by decide) rfl
    rwa [World.size_alloc] at this)
  have HM0 : Hid (MapK prV UP (((w.alloc (.cells #[.int .u64 1, .int .u64 1] 54)).alloc (.cells #[.int .u64 1, .int .u64 1] 54)).alloc (.map #[] 0)) (w.heap.size + 2) (fun _ : P2 => none)) := Lib.hid (by
    have := MapK.made (kv := prV) (P := UP) ((w.alloc (.cells #[.int .u64 1, .int .u64 1] 54)).alloc (.cells #[.int .u64 1, .int .u64 1] 54))
    rwa [World.size_alloc, World.size_alloc] at this)
  have hmm := @run_makeMap Tryd.prog
  have hu1 : UP ((1 : Int), (1 : Int)) := ⟨⟨by decide, by decide⟩, ⟨by decide, by decide⟩⟩
  rw [← hR]
  unfold prF
  clear h hR hlat hnx hcall
  go_enter Tryd.func18, Tryd.ntmps18
  go_wp2_with (refine insert_k _ keyP rfl _ _ _ rfl (w.heap.size + 2) (fun _ => none) rfl HM0.out ((1 : Int), (1 : Int)) 0 rfl rfl hu1 rfl ?_)
  intro w3 hm3 hg3
  have hb3 : Below (w.heap.size + 2) ((w.alloc (.cells #[.int .u64 1, .int .u64 1] 54)).alloc (.cells #[.int .u64 1, .int .u64 1] 54)) w3 := by
    have h1 := ((Below.refl (w.heap.size + 2) ((w.alloc (.cells #[.int .u64 1, .int .u64 1] 54)).alloc (.cells #[.int .u64 1, .int .u64 1] 54))).alloc (by simp) (.map #[] 0)).grown hg3 (by simp) (fun q hq => by cases hq; exact Nat.le_refl _)
    exact h1
  have hs3 : w.heap.size + 3 ≤ w3.heap.size := by have := hg3.size; simpa using this
  have HF3 : Hid (OwnP w3 w.heap.size (.slice (some ⟨w.heap.size + 1, 0, none⟩) 1 1) [((1 : Int), (1 : Int))]) := Lib.hid (by
    have h := own_keep HST.out (w' := w3) (fun q cur hq _ => hb3.block q (by have := (Array.getElem?_eq_some_iff.1 hq).1; simpa using this))
    refine ⟨h.1, ?_⟩
    rcases h.2 with h2 | ⟨g2, cap3, cur, hv, hg, r⟩
    · exact .inl h2
    · exact .inr ⟨g2, cap3, cur, hv, by omega, r⟩)
  have HM3 : Hid (MapK prV UP w3 (w.heap.size + 2) (idxL [((1 : Int), (1 : Int))])) := Lib.hid (by
    have e : idxL [((1 : Int), (1 : Int))] = fun q => if q = ((1 : Int), (1 : Int)) then some 0 else none := by
      funext q
      rw [idxL, idxL]
      by_cases h : q = ((1 : Int), (1 : Int))
      · subst h; rfl
      · rw [if_neg (fun e => h e.symm), if_neg h]; rfl
    rw [e]; exact hm3)
  have HB3 : Hid (Below w.heap.size w w3) := Lib.hid ((below2 w _ _).trans (hb3.mono (by omega)))
  have HI3 := Lib.hid (HLat.out _ _ HI.out (HB3.out.mono hN))
  have HE3 := Lib.hid (EdA.nil w3 w.heap.size w3.heap.size)
  have HX3 : Hid (ExI UP 95 [((1 : Int), (1 : Int))] []) := Lib.hid ⟨fun x hx => by rw [List.mem_singleton.1 hx]; exact hu1, Nat.zero_le _, by decide, by simp, fun i to hi => by cases hi⟩
  clear hm3 hg3 hb3 HST HM0 HI hmm
  go_wp2_with fail
  go_loopw [7, 9, 10] (fun v7 v9 v10 wr => ∃ (F : List P2) (E : List (List Nat)) (of : Option Addr) (cf : Nat) (oe : Option Addr) (ce : Nat), v7 = .slice of F.length cf ∧ v9 = .slice oe E.length ce ∧ v10 = .int .i64 (E.length : Int) ∧ Hid (ExI UP 95 F E) ∧ Hid (R = exL next (4098 - E.length) F E) ∧ Hid (OwnP wr w.heap.size (.slice of F.length cf) F) ∧ Hid (EdA wr w.heap.size wr.heap.size (.slice oe E.length ce) E) ∧ Hid (MapK prV UP wr (w.heap.size + 2) (idxL F)) ∧ Hid (IP wr) ∧ Hid (Below w.heap.size w wr) ∧ w.heap.size + 3 ≤ wr.heap.size) (fun _ _ v _ => 4097 - (intOf v).toNat)
  case atStart => exact ⟨[((1 : Int), (1 : Int))], [], _, 1, none, 0, rfl, rfl, rfl, HX3, HR, HF3, HE3, HM3, HI3, HB3, hs3⟩
  case round =>
    obtain ⟨F, E, of, cf, oe, ce, rfl, rfl, rfl, HX, HE, HF, HD, HM, HI, HB, hsr⟩ := hrel
    clear HX3 HF3 HE3 HM3 HI3 HB3 hs3
    obtain ⟨wo, hwo⟩ : ∃ wo : World, wo = wr := ⟨_, rfl⟩
    subst hwo
    by_cases hlt : E.length < F.length
    · have hltI : (E.length : Int) < (F.length : Int) := by omega
      have hi0 : (0 : Int) ≤ (E.length : Int) := by omega
      have hl4 := HX.out.lm
      obtain ⟨x, hx⟩ : ∃ x, F[E.length]? = some x := ⟨_, List.getElem?_eq_getElem hlt⟩
      have HUx : Hid (UP x) := Lib.hid (HX.out.ok x (List.mem_of_getElem? hx))
      obtain ⟨f, hg4⟩ : ∃ gl, 4098 - E.length = gl + 1 := ⟨4097 - E.length, by omega⟩
      have HE1 : Hid (R = if 4096 < (addsE F (next x) []).1.length then none else exL next f (addsE F (next x) []).1 (E ++ [(addsE F (next x) []).2])) := Lib.hid (by rw [HE.out, hg4, exL_next _ _ hx])
      obtain ⟨gf, rfl⟩ : ∃ gf, of = some ⟨gf, 0, none⟩ := by
        rcases HF.out.2 with ⟨hv, h0⟩ | ⟨gl, cq, cur, hv, _⟩
        · omega
        · cases hv; exact ⟨gl, rfl⟩
      have hfx := fl2_at F _ x hx
      have hfl := fl2_len F
      have c1 : wo.cell? ⟨gf, E.length * 2, none⟩ = some (.int .u64 x.1) := by
        rw [World.ownsRow.cellAt HF.out (E.length * 2) (by omega)]; exact hfx.1
      have c1b : wo.cell? ⟨gf, E.length * 2 + 1, none⟩ = some (.int .u64 x.2) := by
        rw [World.ownsRow.cellAt HF.out (E.length * 2 + 1) (by omega)]; exact hfx.2
      clear hfx hfl
      have HS := Lib.hid (HCall.out wo x HI.out (by omega))
      have HNL := Lib.hid (HNx.out x)
      unfold prV at HS
      generalize hnxx : next x = NX at *
      clear HE
      go_wp2_with fail
      refine HS.out.mono ?_
      rintro e w4 ⟨⟨gn, rfl, hO4⟩, hb4⟩
      have HO4 : Hid (w4.ownsRow wo.heap.size 54 2 (.slice (some ⟨gn, 0, none⟩) 95 95) 95 (fl2 NX)) := Lib.hid (by
        have h1 := hO4
        unfold OwnP at h1
        rw [HNL.out.2] at h1
        exact h1)
      have HF4 : Hid (OwnP w4 w.heap.size (.slice (some ⟨gf, 0, none⟩) F.length cf) F) := Lib.hid (own_keep HF.out (fun q cur hq _ => below_keep hb4 hq))
      have HD4 : Hid (EdA w4 w.heap.size w4.heap.size (.slice oe E.length ce) E) := Lib.hid ((HD.out.below hb4).mono hb4.size)
      have HM4 := Lib.hid (HM.out.keep (hb4.block _ HM.out.lt))
      have HI4 := Lib.hid (HLat.out _ _ HI.out (hb4.mono (by omega)))
      have HB4 := Lib.hid (HB.out.trans (hb4.mono (by omega)))
      have HT4 : Hid (OwnI w4 w4.heap.size (.slice none 0 0) []) := Lib.hid ⟨rfl, .inl ⟨rfl, rfl⟩⟩
      have HA4 : Hid (addsE F NX [] = addsE F (NX.drop 0) []) := Lib.hid (by rw [List.drop_zero])
      have HU4 := Lib.hid HX.out.ok
      have hne4 : (Value.slice (some ⟨gf, 0, none⟩) F.length cf).ownBlock ≠ some gn := fun e => by
        have h1 : gf = gn := by simpa [Value.ownBlock] using e
        have h2 := (World.ownsRow.lt HF.out gf rfl).2
        have h3 := (World.ownsRow.lt hO4 gn rfl).1
        omega
      have hs4 : wo.heap.size ≤ w4.heap.size := hb4.size
      have HL4 : Hid (([] : List Nat).length = 0 ∧ F.length ≤ F.length + 0) := Lib.hid ⟨rfl, Nat.le_refl _⟩
      have HNN := Lib.hid hne4
      clear hO4 hb4 HS HF HD HM HI HB c1 c1b hne4
      go_wp2_with fail
      go_loopw [7, 11, 34] (fun v7 v11 v34 wr => ∃ (k : Nat) (G : List P2) (T : List Nat) (og : Option Addr) (cg : Nat) (ot : Option Addr) (ct : Nat), v7 = .slice og G.length cg ∧ v11 = .slice ot T.length ct ∧ v34 = .int .i64 (k : Int) ∧ k ≤ 95 ∧ Hid (T.length = k ∧ G.length ≤ F.length + k) ∧ Hid (addsE F NX [] = addsE G (NX.drop k) T) ∧ Hid (∀ x, x ∈ G → UP x) ∧ Hid (OwnP wr w.heap.size (.slice og G.length cg) G) ∧ Hid (OwnI wr w4.heap.size (.slice ot T.length ct) T) ∧ Hid (EdA wr w.heap.size w4.heap.size (.slice oe E.length ce) E) ∧ Hid (MapK prV UP wr (w.heap.size + 2) (idxL G)) ∧ Hid (IP wr) ∧ Hid (wr.ownsRow wo.heap.size 54 2 (.slice (some ⟨gn, 0, none⟩) 95 95) 95 (fl2 NX)) ∧ Hid ((Value.slice og G.length cg).ownBlock ≠ some gn) ∧ Hid (Below w.heap.size w wr) ∧ w4.heap.size ≤ wr.heap.size) (fun _ _ v _ => 95 - (intOf v).toNat)
      case atStart => exact ⟨0, F, [], _, cf, none, 0, rfl, rfl, rfl, Nat.zero_le _, HL4, HA4, HU4, HF4, HT4, HD4, HM4, HI4, HO4, HNN, HB4, Nat.le_refl _⟩
      case round =>
        obtain ⟨k, G, T, og, cg, ot, ct, rfl, rfl, rfl, hk, HL, HA, HU, HF, HT, HD, HM, HI, HO, HN, HB, hsi⟩ := hrel
        clear HF4 HD4 HM4 HI4 HB4 HT4 HA4 HU4 HL4 HO4 HNN
        by_cases hk95 : k < 95
        · have hkI : (k : Int) < (95 : Int) := by omega
          have hk0 : (0 : Int) ≤ (k : Int) := by omega
          have hwk : IntKind.i64.wrap ((k : Int) + 1) = ((k + 1 : Nat) : Int) := by rw [IntWalk.i64_in _ (by omega)]; omega
          obtain ⟨y, hy⟩ : ∃ y, NX[k]? = some y := ⟨_, List.getElem?_eq_getElem (by rw [HNL.out.2]; exact hk95)⟩
          have HUy : Hid (UP y) := Lib.hid (HNL.out.1 y (List.mem_of_getElem? hy))
          have hfy := fl2_at NX _ y hy
          have hnl := HNL.out.2
          have c2 : wr.cell? ⟨gn, k * 2, none⟩ = some (.int .u64 y.1) := by
            rw [World.ownsRow.cellAt HO.out (k * 2) (by omega)]; exact hfy.1
          have c2b : wr.cell? ⟨gn, k * 2 + 1, none⟩ = some (.int .u64 y.2) := by
            rw [World.ownsRow.cellAt HO.out (k * 2 + 1) (by omega)]; exact hfy.2
          have hbv := below1 wr (.cells #[.int .u64 y.1, .int .u64 y.2] 54)
          have HFv : Hid (OwnP (wr.alloc (.cells #[.int .u64 y.1, .int .u64 y.2] 54)) w.heap.size (.slice og G.length cg) G) := Lib.hid (own_keep HF.out (fun q cur hq _ => below_keep hbv hq))
          have HTv : Hid (OwnI (wr.alloc (.cells #[.int .u64 y.1, .int .u64 y.2] 54)) w4.heap.size (.slice ot T.length ct) T) := Lib.hid (own_keep HT.out (fun q cur hq _ => below_keep hbv hq))
          have HDv : Hid (EdA (wr.alloc (.cells #[.int .u64 y.1, .int .u64 y.2] 54)) w.heap.size w4.heap.size (.slice oe E.length ce) E) := Lib.hid (HD.out.below hbv)
          have HOv : Hid ((wr.alloc (.cells #[.int .u64 y.1, .int .u64 y.2] 54)).ownsRow wo.heap.size 54 2 (.slice (some ⟨gn, 0, none⟩) 95 95) 95 (fl2 NX)) := Lib.hid (own_keep HO.out (fun q cur hq _ => below_keep hbv hq))
          have HMv : Hid (MapK prV UP (wr.alloc (.cells #[.int .u64 y.1, .int .u64 y.2] 54)) (w.heap.size + 2) (idxL G)) := Lib.hid (HM.out.keep (hbv.block _ HM.out.lt))
          have HIv : Hid (IP (wr.alloc (.cells #[.int .u64 y.1, .int .u64 y.2] 54))) := Lib.hid (HLat.out _ _ HI.out (hbv.mono (by omega)))
          have HBv : Hid (Below w.heap.size w (wr.alloc (.cells #[.int .u64 y.1, .int .u64 y.2] 54))) := Lib.hid (HB.out.trans (hbv.mono (by omega)))
          have HPv : Hid ((wr.alloc (.cells #[.int .u64 y.1, .int .u64 y.2] 54)).heap[wr.heap.size]? = some (.cells #[.int .u64 y.1, .int .u64 y.2] 54 (0, 0))) := Lib.hid (new_at wr _)
          have hsv : w4.heap.size ≤ (wr.alloc (.cells #[.int .u64 y.1, .int .u64 y.2] 54)).heap.size := by rw [World.size_alloc]; omega
          clear hfy hnl hbv HF HT HD HO HM HI HB
          have HDr : Hid (NX.drop k = y :: NX.drop (k + 1)) := Lib.hid (by
            have hkl := (List.getElem?_eq_some_iff.1 hy).1
            rw [List.drop_eq_getElem_cons hkl, (List.getElem?_eq_some_iff.1 hy).2])
          have hTk := HL.out.1
          have hGl := HL.out.2
          have hTI : T.length ≤ 95 := by omega
          clear hy
          cases hix : idxL G y with
          | some j =>
            have HA2 : Hid (addsE F NX [] = addsE G (NX.drop (k + 1)) (T ++ [j])) := Lib.hid (by rw [HA.out, HDr.out, addsE_some hix])
            have HIX := Lib.hid hix
            have HTX := Lib.hid HTv.out
            clear hix hTk HA
            have hb8 := below1 (wr.alloc (.cells #[.int .u64 y.1, .int .u64 y.2] 54)) (.cells #[.int .i64 (j : Int)] 3)
            have HT8 : Hid (OwnI ((wr.alloc (.cells #[.int .u64 y.1, .int .u64 y.2] 54)).alloc (.cells #[.int .i64 (j : Int)] 3)) w4.heap.size (.slice ot T.length ct) T) := Lib.hid (own_keep HTX.out (fun q cur hq _ => below_keep hb8 hq))
            have HNW : Hid (((wr.alloc (.cells #[.int .u64 y.1, .int .u64 y.2] 54)).alloc (.cells #[.int .i64 (j : Int)] 3)).heap[wr.heap.size + 1]? = some (.cells #[.int .i64 (j : Int)] 3 (0, 0))) := Lib.hid (by have := new_at (wr.alloc (.cells #[.int .u64 y.1, .int .u64 y.2] 54)) (.cells #[.int .i64 (j : Int)] 3); rwa [World.size_alloc] at this)
            go_wp2_with (first | (at_lookup; refine lookup_some _ keyP rfl _ _ rfl (w.heap.size + 2) (idxL G) rfl HMv.out y rfl HUy.out j HIX.out ?_) | (at_builtin; refine wpList_append_lies _ rfl _ _ _ rfl w4.heap.size 3 j0 _ 1 8 Tryd.underlying85 hj hy0 hy1 hy2 rfl (by omega) (.slice ot T.length ct) T.length (T.map fun k : Nat => Value.int .i64 (k : Int)) rfl HT8.out ⟨wr.heap.size + 1, 0, none⟩ 1 1 [.int .i64 (j : Int)] rfl rfl (World.news_of_block (cs := #[.int .i64 (j : Int)]) (t := 3) (fr := (0, 0)) HNW.out) (by simp [Value.oneCell']) (by omega) (by unfold maxLen; omega) (by omega) (by simp; omega) (wr.heap.size + 2) (by simp) ?_))
            intro gt cap9 w9 hown9 hgrow9 hat9 hgl9
            have hTk := HL.out.1
            have hk9 : ∀ (q : Nat) (o : Obj), (wr.alloc (.cells #[.int .u64 y.1, .int .u64 y.2] 54)).heap[q]? = some o → (Value.slice ot T.length ct).ownBlock ≠ some q → w9.heap[q]? = (wr.alloc (.cells #[.int .u64 y.1, .int .u64 y.2] 54)).heap[q]? := fun q o hq hne => (grown_keep hgrow9 ((below_keep hb8 hq).trans hq) hne).trans (below_keep hb8 hq)
            have hb9 : Below w4.heap.size (wr.alloc (.cells #[.int .u64 y.1, .int .u64 y.2] 54)) w9 := (hb8.mono hsv).grown hgrow9 (by rw [World.size_alloc]; omega) (fun q hq => (own_lt HTX.out q hq).1)
            have HF9 : Hid (OwnP w9 w.heap.size (.slice og G.length cg) G) := Lib.hid (own_keep HFv.out (fun q cur hq _ => hk9 q _ hq (apart HTX.out hq (by decide))))
            have HD9 : Hid (EdA w9 w.heap.size w4.heap.size (.slice oe E.length ce) E) := Lib.hid (HDv.out.keep (fun q cur hq => hk9 q _ hq (apart HTX.out hq (by decide))) (fun q cur hq hlt => hk9 q _ hq (fun e => by have := (own_lt HTX.out q e).1; omega)))
            have HM9 : Hid (MapK prV UP w9 (w.heap.size + 2) (idxL G)) := Lib.hid (HMv.out.keep (hb9.block _ (by omega)))
            have HI9 := Lib.hid (HLat.out _ _ HIv.out (hb9.mono (by omega)))
            have HO9 : Hid (w9.ownsRow wo.heap.size 54 2 (.slice (some ⟨gn, 0, none⟩) 95 95) 95 (fl2 NX)) := Lib.hid (own_keep HOv.out (fun q cur hq _ => hk9 q _ hq (apart HTX.out hq (by decide))))
            have HB9 := Lib.hid (HBv.out.trans (hb9.mono (by omega)))
            have HT9 : Hid (OwnI w9 w4.heap.size (.slice (some ⟨gt, 0, none⟩) (T ++ [j]).length cap9) (T ++ [j])) := Lib.hid (by unfold OwnI; rw [List.length_append, List.map_append]; exact hown9)
            have hs9 : w4.heap.size ≤ w9.heap.size := Nat.le_trans hsv hb9.size
            have HL9 : Hid ((T ++ [j]).length = k + 1 ∧ G.length ≤ F.length + (k + 1)) := Lib.hid ⟨by rw [List.length_append]; show T.length + 1 = k + 1; omega, (by have := HL.out.2; omega)⟩
            clear hk9 hb9 hb8 hown9 hgrow9 hat9 hgl9 HTX HT8 HNW
            go_wp2_with fail
            go_roundw
            case rel => exact ⟨k + 1, G, T ++ [j], og, cg, some ⟨gt, 0, none⟩, cap9, rfl, by rw [List.length_append]; rfl, by first | rfl | go_num, hk95, HL9, HA2, HU, HF9, HT9, HD9, HM9, HI9, HO9, HN, HB9, hs9⟩
            case measure => simp [intOf]; omega
          | none =>
            have HIX := Lib.hid hix
            have HA2 : Hid (addsE F NX [] = addsE (G ++ [y]) (NX.drop (k + 1)) (T ++ [G.length])) := Lib.hid (by rw [HA.out, HDr.out, addsE_none hix])
            have HU2 : Hid (∀ x, x ∈ G ++ [y] → UP x) := Lib.hid (fun x hx => by
              rcases List.mem_append.1 hx with hx | hx
              · exact HU.out x hx
              · rw [List.mem_singleton.1 hx]; exact HUy.out)
            clear hix hTk HA
            go_wp2_with (first | (at_lookup; refine lookup_none _ keyP rfl _ _ rfl (w.heap.size + 2) (idxL G) rfl HMv.out y rfl HUy.out HIX.out ?_) | (at_mapUpdate; refine update_k _ keyP rfl _ _ _ rfl (w.heap.size + 2) (idxL G) rfl HMv.out y G.length rfl rfl HUy.out HIX.out ?_))
            intro w5 hm5 hg5
            have hk5 : ∀ (q : Nat) (cur : Array Value) (t : TypeId) (fr : Nat × Nat), (wr.alloc (.cells #[.int .u64 y.1, .int .u64 y.2] 54)).heap[q]? = some (.cells cur t fr) → w5.heap[q]? = (wr.alloc (.cells #[.int .u64 y.1, .int .u64 y.2] 54)).heap[q]? := fun q cur t fr hq => grown_keep hg5 hq (fun e => by cases e; exact HMv.out.no_row hq)
            have HF5 : Hid (OwnP w5 w.heap.size (.slice og G.length cg) G) := Lib.hid (own_keep HFv.out (fun q cur hq _ => hk5 q _ _ _ hq))
            have HT5 : Hid (OwnI w5 w4.heap.size (.slice ot T.length ct) T) := Lib.hid (own_keep HTv.out (fun q cur hq _ => hk5 q _ _ _ hq))
            have HD5 : Hid (EdA w5 w.heap.size w4.heap.size (.slice oe E.length ce) E) := Lib.hid (HDv.out.keep (fun q cur hq => hk5 q _ _ _ hq) (fun q cur hq _ => hk5 q _ _ _ hq))
            have HO5 : Hid (w5.ownsRow wo.heap.size 54 2 (.slice (some ⟨gn, 0, none⟩) 95 95) 95 (fl2 NX)) := Lib.hid (own_keep HOv.out (fun q cur hq _ => hk5 q _ _ _ hq))
            have hb5 : Below (w.heap.size + 2) (wr.alloc (.cells #[.int .u64 y.1, .int .u64 y.2] 54)) w5 := (Below.refl _ _).grown hg5 (by omega) (fun q hq => by cases hq; exact Nat.le_refl _)
            have HI5 := Lib.hid (HLat.out _ _ HIv.out (hb5.mono (by omega)))
            have HB5 := Lib.hid (HBv.out.trans (hb5.mono (by omega)))
            have HM5 : Hid (MapK prV UP w5 (w.heap.size + 2) (idxL (G ++ [y]))) := Lib.hid (by
              have e : idxL (G ++ [y]) = fun q => if q = y then some G.length else idxL G q := by funext q; exact idxL_snoc HIX.out q
              rw [e]; exact hm5)
            have hs5 : w4.heap.size ≤ w5.heap.size := Nat.le_trans hsv hb5.size
            have hp5 : w5.heap[wr.heap.size]? = some (.cells #[.int .u64 y.1, .int .u64 y.2] 54 (0, 0)) := (hk5 _ _ _ _ HPv.out).trans HPv.out
            have d5 : w5.cell? ⟨wr.heap.size, 0, none⟩ = some (.int .u64 y.1) := by unfold World.cell?; rw [hp5]; rfl
            have d6 : w5.cell? ⟨wr.heap.size, 1, none⟩ = some (.int .u64 y.2) := by unfold World.cell?; rw [hp5]; rfl
            clear hm5 hg5 hk5 hb5 HFv HTv HDv HOv HIv HBv HMv
            have hb6 := below1 w5 (.cells #[.int .u64 y.1, .int .u64 y.2] 54)
            have HF6 : Hid (OwnP (w5.alloc (.cells #[.int .u64 y.1, .int .u64 y.2] 54)) w.heap.size (.slice og G.length cg) G) := Lib.hid (own_keep HF5.out (fun q cur hq _ => below_keep hb6 hq))
            have HNV := Lib.hid (new_at w5 (.cells #[.int .u64 y.1, .int .u64 y.2] 54))
            go_wp2_with (at_builtin; refine wpList_append_lies _ rfl _ _ _ rfl w.heap.size 54 i0 _ 2 16 Tryd.underlying49 hi hz0 hz1 hz2 rfl (by omega) (.slice og G.length cg) G.length (fl2 G) rfl HF6.out ⟨w5.heap.size, 0, none⟩ 1 1 [.int .u64 y.1, .int .u64 y.2] rfl rfl (World.news_of_block (cs := #[.int .u64 y.1, .int .u64 y.2]) (t := 54) (fr := (0, 0)) HNV.out) (by simp [Value.oneCell']) (by omega) (by unfold maxLen; omega) (by omega) (by rw [World.size_alloc]; omega) (w5.heap.size + 1) (by simp) ?_)
            intro gq cap7 w7 hown7 hgrow7 hat7 hgl7
            have hk7 : ∀ (q : Nat) (o : Obj), w5.heap[q]? = some o → (Value.slice og G.length cg).ownBlock ≠ some q → w7.heap[q]? = w5.heap[q]? := fun q o hq hne => (grown_keep hgrow7 ((below_keep hb6 hq).trans hq) hne).trans (below_keep hb6 hq)
            have hb7 : Below w.heap.size w5 w7 := (hb6.mono (by omega)).grown hgrow7 (by rw [World.size_alloc]; omega) (fun q hq => (own_lt HF5.out q hq).1)
            have HF7 : Hid (OwnP w7 w.heap.size (.slice (some ⟨gq, 0, none⟩) (G ++ [y]).length cap7) (G ++ [y])) := Lib.hid (by unfold OwnP; rw [List.length_append, fl2_append]; exact hown7)
            have HT7 : Hid (OwnI w7 w4.heap.size (.slice ot T.length ct) T) := Lib.hid (own_keep HT5.out (fun q cur hq _ => hk7 q _ hq (apart HF5.out hq (by decide))))
            have HD7 : Hid (EdA w7 w.heap.size w4.heap.size (.slice oe E.length ce) E) := Lib.hid (HD5.out.keep (fun q cur hq => hk7 q _ hq (apart HF5.out hq (by decide))) (fun q cur hq _ => hk7 q _ hq (apart HF5.out hq (by decide))))
            have HO7 : Hid (w7.ownsRow wo.heap.size 54 2 (.slice (some ⟨gn, 0, none⟩) 95 95) 95 (fl2 NX)) := Lib.hid (own_keep HO5.out (fun q cur hq hv => hk7 q _ hq (by cases hv; exact HN.out)))
            have HM7 : Hid (MapK prV UP w7 (w.heap.size + 2) (idxL (G ++ [y]))) := Lib.hid (by
              obtain ⟨es, clock, hmb, _⟩ := HM5.out
              exact HM5.out.keep (hk7 _ _ hmb (fun e => by
                obtain ⟨cur, hc⟩ := row_at HF5.out e
                rw [hmb] at hc
                cases hc)))
            have HI7 := Lib.hid (HLat.out _ _ HI5.out (hb7.mono (by omega)))
            have HB7 := Lib.hid (HB5.out.trans hb7)
            have HN7 : Hid ((Value.slice (some ⟨gq, 0, none⟩) (G ++ [y]).length cap7).ownBlock ≠ some gn) := Lib.hid (fun e => by
              have hg : gq = gn := by simpa [Value.ownBlock] using e
              rcases hat7 with h7 | h7
              · exact HN.out (by rw [h7, hg])
              · have := (own_lt HO5.out gn rfl).2
                omega)
            have hs7 : w4.heap.size ≤ w7.heap.size := Nat.le_trans hs5 hb7.size
            clear hown7 hgrow7 hat7 hgl7 hk7 hb7 hb6 HF6 HNV HF5 HT5 HD5 HO5 HM5 HI5 HB5
            have HTX := Lib.hid HT7.out
            have hb8 := below1 w7 (.cells #[.int .i64 (G.length : Int)] 3)
            have HT8 : Hid (OwnI (w7.alloc (.cells #[.int .i64 (G.length : Int)] 3)) w4.heap.size (.slice ot T.length ct) T) := Lib.hid (own_keep HTX.out (fun q cur hq _ => below_keep hb8 hq))
            have HNW := Lib.hid (new_at w7 (.cells #[.int .i64 (G.length : Int)] 3))
            go_wp2_with (at_builtin; refine wpList_append_lies _ rfl _ _ _ rfl w4.heap.size 3 j0 _ 1 8 Tryd.underlying85 hj hy0 hy1 hy2 rfl (by omega) (.slice ot T.length ct) T.length (T.map fun k : Nat => Value.int .i64 (k : Int)) rfl HT8.out ⟨w7.heap.size, 0, none⟩ 1 1 [.int .i64 (G.length : Int)] rfl rfl (World.news_of_block (cs := #[.int .i64 (G.length : Int)]) (t := 3) (fr := (0, 0)) HNW.out) (by simp [Value.oneCell']) (by omega) (by unfold maxLen; omega) (by omega) (by simp; omega) (w7.heap.size + 1) (by simp) ?_)
            intro gt cap9 w9 hown9 hgrow9 hat9 hgl9
            have hTk := HL.out.1
            have hk9 : ∀ (q : Nat) (o : Obj), w7.heap[q]? = some o → (Value.slice ot T.length ct).ownBlock ≠ some q → w9.heap[q]? = w7.heap[q]? := fun q o hq hne => (grown_keep hgrow9 ((below_keep hb8 hq).trans hq) hne).trans (below_keep hb8 hq)
            have hb9 : Below w4.heap.size w7 w9 := (hb8.mono hs7).grown hgrow9 (by rw [World.size_alloc]; omega) (fun q hq => (own_lt HTX.out q hq).1)
            have HF9 : Hid (OwnP w9 w.heap.size (.slice (some ⟨gq, 0, none⟩) (G ++ [y]).length cap7) (G ++ [y])) := Lib.hid (own_keep HF7.out (fun q cur hq _ => hk9 q _ hq (apart HTX.out hq (by decide))))
            have HD9 : Hid (EdA w9 w.heap.size w4.heap.size (.slice oe E.length ce) E) := Lib.hid (HD7.out.keep (fun q cur hq => hk9 q _ hq (apart HTX.out hq (by decide))) (fun q cur hq hlt => hk9 q _ hq (fun e => by have := (own_lt HTX.out q e).1; omega)))
            have HM9 : Hid (MapK prV UP w9 (w.heap.size + 2) (idxL (G ++ [y]))) := Lib.hid (HM7.out.keep (hb9.block _ (by omega)))
            have HI9 := Lib.hid (HLat.out _ _ HI7.out (hb9.mono (by omega)))
            have HO9 : Hid (w9.ownsRow wo.heap.size 54 2 (.slice (some ⟨gn, 0, none⟩) 95 95) 95 (fl2 NX)) := Lib.hid (own_keep HO7.out (fun q cur hq _ => hk9 q _ hq (apart HTX.out hq (by decide))))
            have HB9 := Lib.hid (HB7.out.trans (hb9.mono (by omega)))
            have HT9 : Hid (OwnI w9 w4.heap.size (.slice (some ⟨gt, 0, none⟩) (T ++ [G.length]).length cap9) (T ++ [G.length])) := Lib.hid (by unfold OwnI; rw [List.length_append, List.map_append]; exact hown9)
            have hs9 : w4.heap.size ≤ w9.heap.size := Nat.le_trans hs7 hb9.size
            have HL9 : Hid ((T ++ [G.length]).length = k + 1 ∧ (G ++ [y]).length ≤ F.length + (k + 1)) := Lib.hid ⟨by rw [List.length_append]; show T.length + 1 = k + 1; omega, (by have := HL.out.2; rw [List.length_append]; show G.length + 1 ≤ _; omega)⟩
            clear hk9 hb9 hb8 hown9 hgrow9 hat9 hgl9 HTX HT8 HNW
            go_wp2_with fail
            go_roundw
            case rel => exact ⟨k + 1, (G ++ [y]), T ++ [G.length], (some ⟨gq, 0, none⟩), cap7, some ⟨gt, 0, none⟩, cap9, (by rw [List.length_append]; rfl), by rw [List.length_append]; rfl, by first | rfl | go_num, hk95, HL9, HA2, HU2, HF9, HT9, HD9, HM9, HI9, HO9, HN7, HB9, hs9⟩
            case measure => simp [intOf]; omega
        · have hkI : ¬ ((k : Int) < (95 : Int)) := by omega
          obtain rfl : k = 95 := by omega
          have HA2 : Hid (addsE F NX [] = (G, T)) := Lib.hid (by rw [HA.out, List.drop_eq_nil_of_le (by rw [HNL.out.2]; exact Nat.le_refl _), addsE])
          have hTl := HL.out.1
          have hGl := HL.out.2
          by_cases hbig : 4096 < G.length
          · have hbI : (G.length : Int) > 4096 := by omega
            have HRe : Hid (R = none) := Lib.hid (by rw [HE1.out, HA2.out, if_pos hbig])
            go_wp2_with fail
            go_ret3
            exact ⟨by rw [HRe.out]; rfl, HB.out⟩
          · have hbI : ¬ ((G.length : Int) > 4096) := by omega
            have HE2 : Hid (R = exL next f G (E ++ [T])) := Lib.hid (by rw [HE1.out, HA2.out, if_neg hbig])
            have HX2 : Hid (ExI UP 95 G (E ++ [T])) := Lib.hid (by
              have h := HX.out.step NX HNL.out.1 HNL.out.2 hlt (by rw [HA2.out]; show G.length ≤ 4096; omega)
              rw [HA2.out] at h
              exact h)
            obtain ⟨gt, rfl⟩ : ∃ gt, ot = some ⟨gt, 0, none⟩ := by
              rcases HT.out.2 with ⟨hv, h0⟩ | ⟨gl, cq, cur, hv, _⟩
              · omega
              · cases hv; exact ⟨gl, rfl⟩
            obtain ⟨vs, hvs, hvx⟩ := HD.out
            have HVS := Lib.hid hvs
            have HVX := Lib.hid hvx
            obtain ⟨cur, hc1, hc2⟩ := OwnI.cur HT.out
            have HC1 := Lib.hid hc1
            have HC2 := Lib.hid hc2
            have hgtl := (own_lt HT.out gt rfl).2
            have hb6 := below1 wr (.cells #[.slice (some ⟨gt, 0, none⟩) T.length ct] 85)
            have HV6 : Hid ((wr.alloc (.cells #[.slice (some ⟨gt, 0, none⟩) T.length ct] 85)).ownsRow w.heap.size 85 1 (.slice oe E.length ce) E.length vs) := Lib.hid (own_keep hvs (fun q cur hq _ => below_keep hb6 hq))
            have HNV := Lib.hid (new_at wr (.cells #[.slice (some ⟨gt, 0, none⟩) T.length ct] 85))
            clear hvs hvx hc1 hc2 HA HL hbig hTl
            go_wp2_with (at_builtin; refine wpList_append_lies _ rfl _ _ _ rfl w.heap.size 85 l0 _ 1 24 Tryd.underlying50 hl hx0 hx1 hx2 rfl (by omega) (.slice oe E.length ce) E.length vs rfl HV6.out ⟨wr.heap.size, 0, none⟩ 1 1 [.slice (some ⟨gt, 0, none⟩) T.length ct] rfl rfl (World.news_of_block (cs := #[.slice (some ⟨gt, 0, none⟩) T.length ct]) (t := 85) (fr := (0, 0)) HNV.out) (by simp [Value.oneCell']) (by omega) (by unfold maxLen; omega) (by omega) (by rw [World.size_alloc]; omega) (wr.heap.size + 1) (by simp) ?_)
            intro ge cap7 w7 hown7 hgrow7 hat7 hgl7
            have hk7 : ∀ (q : Nat) (o : Obj), wr.heap[q]? = some o → (Value.slice oe E.length ce).ownBlock ≠ some q → w7.heap[q]? = wr.heap[q]? := fun q o hq hne => (grown_keep hgrow7 ((below_keep hb6 hq).trans hq) hne).trans (below_keep hb6 hq)
            have hb7 : Below w.heap.size wr w7 := (hb6.mono (by omega)).grown hgrow7 (by rw [World.size_alloc]; omega) (fun q hq => (own_lt HVS.out q hq).1)
            have HF7 : Hid (OwnP w7 w.heap.size (.slice og G.length cg) G) := Lib.hid (own_keep HF.out (fun q cur hq _ => hk7 q _ hq (apart HVS.out hq (by decide))))
            have HD7 : Hid (EdA w7 w.heap.size w7.heap.size (.slice (some ⟨ge, 0, none⟩) (E ++ [T]).length cap7) (E ++ [T])) := Lib.hid (by
              have h := EdA.snoc (M := w4.heap.size) (M' := w7.heap.size) (to := T) (ci := ct) (g := gt) (cur := cur) HV6.out (fun i to hi => by
                obtain ⟨gi, ci, cu, q1, q2, q3, q4⟩ := HVX.out i to hi
                exact ⟨gi, ci, cu, q1, q2, (below_keep hb6 q3).trans q3, q4⟩) ((below_keep hb6 HC1.out).trans HC1.out) HC2.out hgrow7 (by have := hb7.size; omega) (by have := hb7.size; omega) hown7
              rw [List.length_append]
              exact h)
            have HM7 : Hid (MapK prV UP w7 (w.heap.size + 2) (idxL G)) := Lib.hid (by
              obtain ⟨es, clock, hmb, _⟩ := HM.out
              exact HM.out.keep (hk7 _ _ hmb (fun e => by
                obtain ⟨cur, hc⟩ := row_at HVS.out e
                rw [hmb] at hc
                cases hc)))
            have HI7 := Lib.hid (HLat.out _ _ HI.out (hb7.mono (by omega)))
            have HB7 := Lib.hid (HB.out.trans hb7)
            have hs7 : w.heap.size + 3 ≤ w7.heap.size := by have := hb7.size; omega
            have hEl : E.length ≤ 4096 := by omega
            have hf9 : 4098 - (E ++ [T]).length = f := by rw [List.length_append]; show 4098 - (E.length + 1) = f; omega
            have HE3 : Hid (R = exL next (4098 - (E ++ [T]).length) G (E ++ [T])) := Lib.hid (by rw [hf9]; exact HE2.out)
            have hwE : IntKind.i64.wrap ((E.length : Int) + 1) = ((E.length + 1 : Nat) : Int) := by rw [IntWalk.i64_in _ (by omega)]; omega
            clear hown7 hgrow7 hat7 hgl7 hk7 hb7 hb6 HV6 HNV HVS HVX HC1 HC2 HF HT HD HO HM HI HB HE2 hf9
            go_wp2_with fail
            go_roundw
            case rel => exact ⟨G, E ++ [T], og, cg, some ⟨ge, 0, none⟩, cap7, rfl, by rw [List.length_append]; rfl, by rw [List.length_append]; first | rfl | go_num, HX2, HE3, HF7, HD7, HM7, HI7, HB7, hs7⟩
            case measure => simp [intOf]; omega
    · have hltI : ¬ ((E.length : Int) < (F.length : Int)) := by omega
      have hge : F.length ≤ E.length := by omega
      have hl4 := HX.out.lm
      have hF0 : 0 < F.length := List.length_pos_iff.2 HX.out.ne
      have HE1 : Hid (R = some (F, E)) := Lib.hid (by rw [HE.out, show 4098 - E.length = (4097 - E.length) + 1 by have := HX.out.le; omega, exL_end _ _ hge])
      obtain ⟨gf, rfl⟩ : ∃ gf, of = some ⟨gf, 0, none⟩ := by
        rcases HF.out.2 with ⟨hv, h0⟩ | ⟨gl, cq, cur, hv, _⟩
        · omega
        · cases hv; exact ⟨gl, rfl⟩
      obtain ⟨ge, rfl⟩ : ∃ ge, oe = some ⟨ge, 0, none⟩ := by
        obtain ⟨vs, h1, _⟩ := HD.out
        rcases h1.2 with ⟨hv, h0⟩ | ⟨gl, cq, cur, hv, _⟩
        · omega
        · cases hv; exact ⟨gl, rfl⟩
      have hgf := (World.ownsRow.lt HF.out gf rfl).2
      have hge2 : ge < wo.heap.size := by
        obtain ⟨vs, h1, _⟩ := HD.out
        exact (World.ownsRow.lt h1 ge rfl).2
      clear HE HX
      go_wp2_with fail
      go_ret3
      rw [HE1.out]
      exact ⟨⟨gf, cf, ge, ce, rfl, hgf, fun k x hx => by
        have hk := (List.getElem?_eq_some_iff.1 hx).1
        have hfx := fl2_at F _ x hx
        have hfl := fl2_len F
        exact ⟨by rw [World.ownsRow.cellAt HF.out (k * 2) (by omega)]; exact hfx.1, by rw [World.ownsRow.cellAt HF.out (k * 2 + 1) (by omega)]; exact hfx.2⟩, HD.out.edH (Nat.le_refl _) hge2⟩, HB.out⟩
end Go.Proofs.YtaipaddfehpmgaaDoor
