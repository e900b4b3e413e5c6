/-
  hopefulStates of package position. Nothing is assumed.
-/
import Derived.Test.YtbogiigdadljpaaDoorPtBuild
import Derived.Deep.RegionHeldLaw
import Derived.Laws.OwnMore
namespace Go.Proofs.YtbogiigdadljpaaDoor
open Go.RowKit

theorem infoSt : (Tryd.prog.info? 67).map (fun i => (i.zero, i.size, i.bytes)) = some (some (.int .u64 0), 1, 8) := by kernel_rfl
/-- The states of the offsets from k on; those below are still zero. -/
def stL (ps : List Ps) (last : Int) (L : List UInt8) (k : Nat) : List Int := List.replicate k 0 ++ hopeL ps last (L.drop k)
theorem stL_len (ps : List Ps) (last : Int) (L : List UInt8) (k : Nat) (h : k ≤ L.length) : (stL ps last L k).length = L.length + 1 := by
  unfold stL
  rw [List.length_append, List.length_replicate, hopeL_len, List.length_drop]
  omega
theorem stL_end (ps : List Ps) (last : Int) (L : List UInt8) : stL ps last L L.length = List.replicate (L.length + 1) 0 := by
  unfold stL
  rw [List.drop_length, hopeL]
  exact (List.replicate_succ' ..).symm
theorem stL_at (ps : List Ps) (last : Int) (L : List UInt8) (k : Nat) : (stL ps last L k)[k]? = some ((hopeL ps last (L.drop k)).headD 0) := by
  unfold stL
  rw [List.getElem?_append_right (by simp)]
  simp only [List.length_replicate, Nat.sub_self]
  have := hopeL_len ps last (L.drop k)
  match hopeL ps last (L.drop k), this with
  | x :: r, _ => rfl
theorem stL_set (ps : List Ps) (last : Int) (L : List UInt8) (j : Nat) (h : j < L.length) : stL ps last L j = (stL ps last L (j + 1)).set j (bits BinOp.and IntKind.u64 (readsL (L[j]'h).toNat 0 ps 0) (orS last (beforeL ((hopeL ps last (L.drop (j + 1))).headD 0) 0 ps 0))) := by
  unfold stL
  rw [List.drop_eq_getElem_cons h, hopeL, List.replicate_succ', List.append_assoc, List.set_append_right _ _ (by simp)]
  simp
/-- A row of states. -/
def OwnT (w : World) (base : Nat) (v : Value) (l : List Int) : Prop := w.ownsRow base 67 1 v l.length (l.map (Value.int .u64))
theorem OwnT.weak {w : World} {base base' : Nat} {v : Value} {l : List Int} (h : OwnT w base v l) (hb : base' ≤ base) : OwnT w base' v l := by
  refine ⟨h.1, ?_⟩
  rcases h.2 with h2 | ⟨g, cap, cur, hv, hg, r⟩
  · exact .inl h2
  · exact .inr ⟨g, cap, cur, hv, Nat.le_trans hb hg, r⟩
theorem OwnT.later {w w' : World} {base : Nat} {v : Value} {l : List Int} (h : OwnT w base v l) (hb : Below w.heap.size w w') : OwnT w' base v l := by
  refine ⟨h.1, ?_⟩
  rcases h.2 with h2 | ⟨g, cap, cur, hv, hg, hh, r⟩
  · exact .inl h2
  · exact .inr ⟨g, cap, cur, hv, hg, (hb.block g (Array.getElem?_eq_some_iff.1 hh).1).trans hh, r⟩
set_option maxRecDepth 100000 in
set_option maxHeartbeats 3200000 in
theorem hopeful_any (w : World) (B : Nat) (oa : Option Addr) (cap : Nat) (ps : List Ps) (last : Int) (s : ByteArray) (h : HQ w (· < B) (.slice oa ps.length cap) ps) (hB : B ≤ w.heap.size) (hs : s.size ≤ 1000) :
    Calls Tryd.prog 48 #[.agg #[.slice oa ps.length cap, .int .u64 last], .string s] w fun e w' => (∃ g c, e = .returned (.slice (some ⟨g, 0, none⟩) (s.size + 1) c) ∧ OwnT w' w.heap.size (.slice (some ⟨g, 0, none⟩) (s.size + 1) c) (hopeL ps last s.data.toList)) ∧ Below w.heap.size w w' := by
  obtain ⟨i0, hi, hz0, hz1, hz2⟩ := info_parts infoSt
  obtain ⟨n, hn⟩ : ∃ n : Nat, (s.size : Int) + 1 = (n : Int) := ⟨s.size + 1, by omega⟩
  have hn2 : n = s.size + 1 := by omega
  have HN2 := Lib.hid hn2
  have hn3 : n ≤ 1001 := by omega
  have HH := Lib.hid h
  obtain ⟨w1, hw1⟩ : ∃ w1, w1 = w.alloc (.cells #[.slice oa ps.length cap, .int .u64 last] 69) := ⟨_, rfl⟩
  have HW1 := Lib.hid hw1
  have hs1 : w1.heap.size = w.heap.size + 1 := by rw [hw1]; simp
  have hb1 : Below w.heap.size w w1 := by rw [hw1]; exact below1 _ _
  have HB1 := Lib.hid hb1
  have hm0 : w1.cell? ⟨w.heap.size, 0, none⟩ = some (.slice oa ps.length cap) := by rw [hw1]; exact cell_at _ _ _ _ _ rfl
  have hm1 : w1.cell? ⟨w.heap.size, 1, none⟩ = some (.int .u64 last) := by rw [hw1]; exact cell_at _ _ _ _ _ rfl
  have HM0 := Lib.hid hm0
  have HM1 := Lib.hid hm1
  clear hw1 hb1 hm0 hm1 h hn2
  go_enter Tryd.func48, Tryd.ntmps48
  go_wp2_with (at_make; refine wpList_make_full _ rfl _ _ 97 rfl (w.heap.size + 1) 67 i0 _ 1 Tryd.underlying97 hi hz0 hz1 _ _ _ _ n rfl rfl rfl rfl ?b2 ?b3 (by simp) ?_)
  case b2 => rw [hz2]; omega
  case b3 => unfold maxLen; omega
  intro w2 hown2 hgrow2
  rw [← HW1.out] at hgrow2
  have hb2 : Below w1.heap.size w1 w2 := (Below.refl _ _).grown hgrow2 (Nat.le_refl _) (fun k h => by cases h)
  have HBq : Hid (Below w.heap.size w w2) := Lib.hid (HB1.out.trans (hb2.mono (by omega)))
  have HMq : Hid (w2.cell? ⟨w.heap.size, 0, none⟩ = some (.slice oa ps.length cap) ∧ w2.cell? ⟨w.heap.size, 1, none⟩ = some (.int .u64 last)) := Lib.hid ⟨(hb2.cell (p := ⟨w.heap.size, 0, none⟩) (by show w.heap.size < _; omega)).trans HM0.out, (hb2.cell (p := ⟨w.heap.size, 1, none⟩) (by show w.heap.size < _; omega)).trans HM1.out⟩
  have HOq : Hid (OwnT w2 (w.heap.size + 1) (.slice (some ⟨w.heap.size + 1, 0, none⟩) n n) (stL ps last s.data.toList s.size)) := Lib.hid (by
    unfold OwnT
    rw [← lt_len s, stL_end, List.length_replicate, List.map_replicate, lt_len, ← HN2.out, ← toList_madeCells_one]
    exact hown2)
  have hs2 : w.heap.size + 2 ≤ w2.heap.size := by have : w.heap.size + 1 < w2.heap.size := (World.ownsRow.lt hown2 _ rfl).2; omega
  clear hown2 hgrow2 hb2
  go_wp2_with fail
  go_loopw [6] (fun v wr => ∃ k : Nat, k ≤ s.size ∧ v = .int .i64 ((k : Int) - 1) ∧ Hid (Below w.heap.size w wr) ∧ Hid (wr.cell? ⟨w.heap.size, 0, none⟩ = some (.slice oa ps.length cap) ∧ wr.cell? ⟨w.heap.size, 1, none⟩ = some (.int .u64 last)) ∧ Hid (OwnT wr (w.heap.size + 1) (.slice (some ⟨w.heap.size + 1, 0, none⟩) n n) (stL ps last s.data.toList k)) ∧ w.heap.size + 2 ≤ wr.heap.size) (fun v _ => (intOf v + 1).toNat)
  case atStart => exact ⟨s.size, Nat.le_refl _, rfl, HBq, HMq, HOq, hs2⟩
  case round =>
    obtain ⟨k, hk, rfl, HB, HM, HO, hsr⟩ := hrel
    clear HBq HMq HOq hs2
    rcases Nat.eq_zero_or_pos k with rfl | hkp
    · have hng : ¬ (0 : Int) ≤ ((0 : Nat) : Int) - 1 := by omega
      go_wp2_with fail
      go_ret
      refine ⟨⟨w.heap.size + 1, n, by rw [HN2.out]; rfl, ?_⟩, HB.out⟩
      have h := HO.out
      unfold stL at h
      rw [List.replicate_zero, List.nil_append, List.drop_zero, HN2.out] at h
      exact OwnT.weak (by rw [HN2.out]; exact h) (by omega)
    · obtain ⟨j, rfl⟩ : ∃ j, k = j + 1 := ⟨k - 1, by omega⟩
      have hv : ((j + 1 : Nat) : Int) - 1 = (j : Int) := by omega
      rw [hv]
      have hjs : j < s.size := hk
      have hjl : j < s.data.toList.length := by rw [lt_len]; exact hjs
      have hj0 : (0 : Int) ≤ (j : Int) := by omega
      have hj1 : (j : Int) < (s.size : Int) := by omega
      obtain ⟨m, hm⟩ : ∃ m : Nat, (j : Int) + 1 = (m : Int) := ⟨j + 1, by omega⟩
      have hmN : m = j + 1 := by omega
      have hm0 : (0 : Int) ≤ (m : Int) := by omega
      have hm1 : (m : Int) < (n : Int) := by omega
      have hm2 : (m : Int) ≤ 1001 := by omega
      have hw5 : IntKind.i64.wrap (m : Int) = (m : Int) := IntWalk.i64_in _ (by omega)
      have hj5 : (j : Int) ≤ 1000 := by omega
      have hs5 : (s.size : Int) ≤ 1000 := by omega
      have hn5 : (n : Int) ≤ 1001 := by omega
      have hm3 : m < n := by omega
      have hj3 : (j : Int) < (n : Int) := by omega
      have hlen := stL_len ps last s.data.toList (j + 1) hjl
      rw [lt_len] at hlen
      obtain ⟨x, hx⟩ : ∃ x, (hopeL ps last (s.data.toList.drop (j + 1))).headD 0 = x := ⟨_, rfl⟩
      have hat := stL_at ps last s.data.toList (j + 1)
      have HSET := Lib.hid (stL_set ps last s.data.toList j hjl)
      rw [hx] at hat HSET
      have hsj : s.data.toList[j] = s[j] := by
        have := lt_at s j hjs
        rw [List.getElem?_eq_getElem hjl] at this
        exact Option.some.inj this
      rw [hsj] at HSET
      have HS : Hid (∀ w', Below wr.heap.size wr w' → w'.cell? ⟨w.heap.size, 0, none⟩ = some (.slice oa ps.length cap) ∧ w'.cell? ⟨w.heap.size, 1, none⟩ = some (.int .u64 last) ∧ w'.cell? ⟨w.heap.size + 1, m, none⟩ = some (.int .u64 x)) := Lib.hid (fun w' hb => by
        refine ⟨(hb.cell (p := ⟨w.heap.size, 0, none⟩) (by show w.heap.size < _; omega)).trans HM.out.1, (hb.cell (p := ⟨w.heap.size, 1, none⟩) (by show w.heap.size < _; omega)).trans HM.out.2, (hb.cell (p := ⟨w.heap.size + 1, m, none⟩) (by show w.heap.size + 1 < _; omega)).trans ?_⟩
        have h := HO.out
        unfold OwnT at h
        rw [hlen, ← HN2.out] at h
        rw [World.ownsRow.cellAt h m (by omega), List.getElem?_map, hmN, hat]
        rfl)
      have HST : Hid (∀ w', Below wr.heap.size wr w' → (∃ y, w'.cell? ⟨w.heap.size + 1, j, none⟩ = some (.int .u64 y)) ∧ w'.frozen? ⟨w.heap.size + 1, j, none⟩ = false) := Lib.hid (fun w' hb => by
        have h := HO.out
        unfold OwnT at h
        rw [hlen, ← HN2.out] at h
        refine ⟨⟨(stL ps last s.data.toList (j + 1))[j]'(by omega), ?_⟩, ?_⟩
        · rw [(hb.cell (p := ⟨w.heap.size + 1, j, none⟩) (by show w.heap.size + 1 < _; omega)), World.ownsRow.cellAt h j (by omega), List.getElem?_map, List.getElem?_eq_getElem (by omega)]
          rfl
        · rw [hb.frozen (p := ⟨w.heap.size + 1, j, none⟩) (by show w.heap.size + 1 < _; omega)]
          exact World.ownsRow.frozenAt h j)
      have HQr : Hid (∀ w', Below wr.heap.size wr w' → HQ w' (· < B) (.slice oa ps.length cap) ps) := Lib.hid (fun w' hb => HH.out.below ((HB.out.trans (hb.mono (by omega))).mono hB) (Nat.le_refl _))
      have hwr : w.heap.size ≤ wr.heap.size := by omega
      have HR1 := Lib.hid (reads_any wr.drew B _ ps last (s[j]'hjs).toNat (UInt8.toNat_lt _) (HQr.out _ (Below.refl _ _).drew) (by show B ≤ wr.heap.size; omega))
      have k0 := HS.out wr.drew (Below.refl _ _).drew
      obtain ⟨ka, kb, kc⟩ := k0
      have hmj : m ≠ j := by omega
      have hjm : j ≠ m := by omega
      clear hx hat hsj HM hmN
      go_wp2_with fail
      go_region_held_law (fun w' => w'.cell? ⟨w.heap.size, 0, none⟩ = some (.slice oa ps.length cap) ∧ w'.cell? ⟨w.heap.size, 1, none⟩ = some (.int .u64 last) ∧ w'.cell? ⟨w.heap.size + 1, m, none⟩ = some (.int .u64 x)) (first | exact ⟨ka, kb, kc⟩ | exact k5 | exact k6 | exact k7 | exact k8 _) (first
        | (go_simp; go_at_call 34; refine HR1.out.mono ?_; rintro e w5 ⟨rfl, hb5⟩
           have hq5 : Below wr.heap.size wr w5 := (Below.refl _ _).drew.trans hb5
           have k5 := HS.out w5 hq5
           have HB5 := Lib.hid hq5
           have HR2 := Lib.hid (last_any w5 oa ps.length cap last)
           clear hb5 hq5
           dsimp only)
        | (go_simp; go_at_call 61; refine HR2.out.mono ?_; rintro e w6 ⟨rfl, hb6⟩
           have hq6 : Below wr.heap.size wr w6 := HB5.out.trans (hb6.mono HB5.out.size)
           have k6 := HS.out w6 hq6
           have HB6 := Lib.hid hq6
           have HR3 := Lib.hid (before_any w6 B _ ps last x (HQr.out w6 hq6) (Nat.le_trans (Nat.le_trans hB hwr) hq6.size))
           clear hb6 hq6
           dsimp only)
        | (go_simp; go_at_call 62; refine HR3.out.mono ?_; rintro e w7 ⟨rfl, hb7⟩
           have hq7 : Below wr.heap.size wr w7 := HB6.out.trans (hb7.mono HB6.out.size)
           have k7 := HS.out w7 hq7
           have HB7 := Lib.hid hq7
           obtain ⟨⟨y, hy⟩, hyf⟩ := HST.out w7 hq7
           have k8 : ∀ u, (w7.setCell ⟨w.heap.size + 1, j, none⟩ u).cell? ⟨w.heap.size, 0, none⟩ = some (.slice oa ps.length cap) ∧ (w7.setCell ⟨w.heap.size + 1, j, none⟩ u).cell? ⟨w.heap.size, 1, none⟩ = some (.int .u64 last) ∧ (w7.setCell ⟨w.heap.size + 1, j, none⟩ u).cell? ⟨w.heap.size + 1, m, none⟩ = some (.int .u64 x) := fun u =>
             ⟨(World.cell?_setCell_other _ _ _ _ (by simp)).trans k7.1, (World.cell?_setCell_other _ _ _ _ (by simp)).trans k7.2.1, (World.cell?_setCell_other _ _ _ _ (by simp)).trans k7.2.2⟩
           clear hb7 hq7
           dsimp only))
      all_goals
        have h7 : OwnT w7 (w.heap.size + 1) (.slice (some ⟨w.heap.size + 1, 0, none⟩) n n) (stL ps last s.data.toList (j + 1)) := OwnT.later HO.out HB7.out
        have HO8 : Hid (OwnT (w7.setCell ⟨w.heap.size + 1, j, none⟩ (.int .u64 (bits BinOp.and IntKind.u64 (readsL s[j].toNat 0 ps 0) (bits BinOp.or IntKind.u64 last (beforeL x 0 ps 0))))) (w.heap.size + 1) (.slice (some ⟨w.heap.size + 1, 0, none⟩) n n) (stL ps last s.data.toList j)) := Lib.hid (by
          rw [HSET.out]
          unfold OwnT at h7 ⊢
          rw [List.length_set, List.map_set, hlen, ← HN2.out]
          rw [hlen, ← HN2.out] at h7
          exact (World.ownsRow.stored h7 j _).1)
        have HB8 : Hid (Below w.heap.size w (w7.setCell ⟨w.heap.size + 1, j, none⟩ (.int .u64 (bits BinOp.and IntKind.u64 (readsL s[j].toNat 0 ps 0) (bits BinOp.or IntKind.u64 last (beforeL x 0 ps 0)))))) := Lib.hid ((HB.out.trans (HB7.out.mono hwr)).setCell (p := ⟨w.heap.size + 1, j, none⟩) (by show w.heap.size ≤ w.heap.size + 1; omega) _)
        have HM8 : Hid ((w7.setCell ⟨w.heap.size + 1, j, none⟩ (.int .u64 (bits BinOp.and IntKind.u64 (readsL s[j].toNat 0 ps 0) (bits BinOp.or IntKind.u64 last (beforeL x 0 ps 0))))).cell? ⟨w.heap.size, 0, none⟩ = some (.slice oa ps.length cap) ∧ (w7.setCell ⟨w.heap.size + 1, j, none⟩ (.int .u64 (bits BinOp.and IntKind.u64 (readsL s[j].toNat 0 ps 0) (bits BinOp.or IntKind.u64 last (beforeL x 0 ps 0))))).cell? ⟨w.heap.size, 1, none⟩ = some (.int .u64 last)) := Lib.hid ⟨(k8 _).1, (k8 _).2.1⟩
        have hs8 : w.heap.size + 2 ≤ w7.heap.size := by have := HB7.out.size; omega
        have HD : Hid (intOf (.int .i64 ((j : Int) - 1)) = (j : Int) - 1) := Lib.hid rfl
        clear k5 k6 k7 k8 ka kb kc hy hyf h7
        go_wp2_with fail
        go_roundw
        case rel => exact ⟨j, by omega, by first | rfl | go_num, HB8, HM8, HO8, by simp [World.setCell]; omega⟩
        case measure => simp [intOf]
end Go.Proofs.YtbogiigdadljpaaDoor
