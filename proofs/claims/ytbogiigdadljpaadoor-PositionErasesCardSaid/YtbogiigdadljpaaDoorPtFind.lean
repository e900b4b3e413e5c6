/-
  matches and find of package position: what the iterator holds. Nothing is assumed.
-/
import Derived.Test.YtbogiigdadljpaaDoorPtHope
import Derived.Laws.EntriesVeiled
namespace Go.Proofs.YtbogiigdadljpaaDoor
open Go.RowKit

/-- What the iterator over the matches holds, all of it below B. -/
structure IsIt (w : World) (B bs bm bh g c : Nat) (oa : Option Addr) (cap : Nat) (ps : List Ps) (last : Int) (s : ByteArray) : Prop where
  text : w.cell? ⟨bs, 0, none⟩ = some (.string s)
  mach : w.cell? ⟨bm, 0, none⟩ = some (.slice oa ps.length cap)
  last' : w.cell? ⟨bm, 1, none⟩ = some (.int .u64 last)
  hope : w.cell? ⟨bh, 0, none⟩ = some (.slice (some ⟨g, 0, none⟩) (s.size + 1) c)
  pos : HQ w (· < B) (.slice oa ps.length cap) ps
  st : ∀ i x, (hopeL ps last s.data.toList)[i]? = some x → w.cell? ⟨g, i, none⟩ = some (.int .u64 x)
  ls : bs < B
  lm : bm < B
  lh : bh < B
  lg : g < B
  le : B ≤ w.heap.size
theorem IsIt.later {w w' : World} {B bs bm bh g c : Nat} {oa : Option Addr} {cap : Nat} {ps : List Ps} {last : Int} {s : ByteArray} (h : IsIt w B bs bm bh g c oa cap ps last s) (hb : Below B w w') : IsIt w' B bs bm bh g c oa cap ps last s where
  text := (hb.cell (p := ⟨bs, 0, none⟩) h.ls).trans h.text
  mach := (hb.cell (p := ⟨bm, 0, none⟩) h.lm).trans h.mach
  last' := (hb.cell (p := ⟨bm, 1, none⟩) h.lm).trans h.last'
  hope := (hb.cell (p := ⟨bh, 0, none⟩) h.lh).trans h.hope
  pos := h.pos.below hb (Nat.le_refl _)
  st := fun i x hx => (hb.cell (p := ⟨g, i, none⟩) h.lg).trans (h.st i x hx)
  ls := h.ls
  lm := h.lm
  lh := h.lh
  lg := h.lg
  le := Nat.le_trans h.le hb.size
theorem IsIt.weak {w : World} {B C bs bm bh g c : Nat} {oa : Option Addr} {cap : Nat} {ps : List Ps} {last : Int} {s : ByteArray} (h : IsIt w B bs bm bh g c oa cap ps last s) (hB : B ≤ C) (hC : C ≤ w.heap.size) : IsIt w C bs bm bh g c oa cap ps last s :=
  { h with pos := h.pos.later (fun _ hb => Nat.lt_of_lt_of_le hb hB) (fun _ _ _ => rfl), ls := Nat.lt_of_lt_of_le h.ls hB, lm := Nat.lt_of_lt_of_le h.lm hB, lh := Nat.lt_of_lt_of_le h.lh hB, lg := Nat.lt_of_lt_of_le h.lg hB, le := hC }
/-- The iterator as a value. -/
def itV (bs bm bh : Nat) : Value := .func (.func 49) #[] #[.pointer (some ⟨bs, 0, none⟩), .pointer (some ⟨bm, 0, none⟩), .pointer (some ⟨bh, 0, none⟩)]
set_option maxRecDepth 100000 in
set_option maxHeartbeats 1600000 in
theorem matches_any (w : World) (B : Nat) (oa : Option Addr) (cap : Nat) (ps : List Ps) (last : Int) (s : ByteArray) (h : HQ w (· < B) (.slice oa ps.length cap) ps) (hB : B ≤ w.heap.size) (hs : s.size ≤ 1000) :
    Calls Tryd.prog 39 #[.agg #[.slice oa ps.length cap, .int .u64 last], .string s] w fun e w' => (∃ bs bm bh g c, e = .returned (itV bs bm bh) ∧ IsIt w' w'.heap.size bs bm bh g c oa cap ps last s) ∧ Below w.heap.size w w' := by
  obtain ⟨w1, hw1⟩ : ∃ w1, w1 = (w.alloc (.cells #[.slice oa ps.length cap, .int .u64 last] 69)).alloc (.cells #[.string s] 9) := ⟨_, rfl⟩
  have HW1 := Lib.hid hw1
  have hs1 : w1.heap.size = w.heap.size + 2 := by rw [hw1]; simp
  have hb1 : Below w.heap.size w w1 := by rw [hw1]; exact below2 _ _ _
  have HM : Hid (w1.cell? ⟨w.heap.size, 0, none⟩ = some (.slice oa ps.length cap) ∧ w1.cell? ⟨w.heap.size, 1, none⟩ = some (.int .u64 last)) := Lib.hid (by
    rw [hw1]
    exact ⟨((below1 _ _).cell (p := ⟨w.heap.size, 0, none⟩) (by simp)).trans (cell_at _ _ _ _ _ rfl), ((below1 _ _).cell (p := ⟨w.heap.size, 1, none⟩) (by simp)).trans (cell_at _ _ _ _ _ rfl)⟩)
  have HT : Hid (w1.cell? ⟨w.heap.size + 1, 0, none⟩ = some (.string s)) := Lib.hid (by
    have := cell_at (w.alloc (.cells #[.slice oa ps.length cap, .int .u64 last] 69)) #[.string s] 9 0 _ rfl
    rw [show (w.alloc (.cells #[.slice oa ps.length cap, .int .u64 last] 69)).heap.size = w.heap.size + 1 by simp] at this
    rw [hw1]
    exact this)
  have HH := Lib.hid (h.below (hb1.mono hB) (Nat.le_refl _))
  have HC := Lib.hid (hopeful_any w1 B oa cap ps last s HH.out (by omega) hs)
  have HB1 := Lib.hid hb1
  clear hw1 hb1 h
  go_enter Tryd.func39, Tryd.ntmps39
  go_wp2_with fail
  rw [← HW1.out]
  refine HC.out.mono ?_
  rintro e w2 ⟨⟨g, c, rfl, hO⟩, hb2⟩
  have hs2 := hb2.size
  have hgl : g < w2.heap.size := (World.ownsRow.lt hO g rfl).2
  have HO := Lib.hid hO
  have HB2 := Lib.hid hb2
  clear hO hb2 HC
  go_wp2_with fail
  go_ret
  have hb3 := below1 w2 (.cells #[.slice (some ⟨g, 0, none⟩) (s.size + 1) c] 97)
  have hbB : Below w1.heap.size w1 (w2.alloc (.cells #[.slice (some ⟨g, 0, none⟩) (s.size + 1) c] 97)) := HB2.out.trans (hb3.mono hs2)
  refine ⟨⟨w.heap.size + 1, w.heap.size, w2.heap.size, g, c, rfl, ?_⟩, HB1.out.trans (hbB.mono (by omega))⟩
  have hsz : (w2.alloc (.cells #[.slice (some ⟨g, 0, none⟩) (s.size + 1) c] 97)).heap.size = w2.heap.size + 1 := by simp
  refine { text := ?_, mach := ?_, last' := ?_, hope := ?_, pos := ?_, st := ?_, ls := by omega, lm := by omega, lh := by omega, lg := by omega, le := Nat.le_refl _ }
  · exact (hbB.cell (p := ⟨w.heap.size + 1, 0, none⟩) (by show w.heap.size + 1 < _; omega)).trans HT.out
  · exact (hbB.cell (p := ⟨w.heap.size, 0, none⟩) (by show w.heap.size < _; omega)).trans HM.out.1
  · exact (hbB.cell (p := ⟨w.heap.size, 1, none⟩) (by show w.heap.size < _; omega)).trans HM.out.2
  · exact cell_at _ _ _ _ _ rfl
  · exact HH.out.below (hbB.mono (by omega)) (by omega)
  · intro i x hx
    have h := HO.out
    have hln := hopeL_len ps last s.data.toList
    have hi := (List.getElem?_eq_some_iff.1 hx).1
    rw [lt_len] at hln
    refine (hb3.cell (p := ⟨g, i, none⟩) hgl).trans ?_
    unfold OwnT at h
    rw [hln] at h
    rw [World.ownsRow.cellAt h i (by omega), List.getElem?_map, hx]
    rfl

/-- What find returns. -/
def FinR (p s : ByteArray) (w' : World) (e : Ending) : Prop :=
  (errP p ≠ 0 ∧ e = .returned (.tuple #[.nilFunc, .int .i64 (errP p)])) ∨
  ∃ (bs bm bh g c : Nat) (oa : Option Addr) (cap : Nat) (t : PT), errP p = 0 ∧ matS p s = matT t s.data.toList ∧ e = .returned (.tuple #[itV bs bm bh, .int .i64 0]) ∧ IsIt w' w'.heap.size bs bm bh g c oa cap (buildT t).1 (buildT t).2 s
theorem errP_ok {p : ByteArray} {t : PT} {m : Nat} (h1 : ¬ (p.size < 1 ∨ 40 < p.size)) (h : parseT p.data.toList = .ok t m) (s : ByteArray) : errP p = 0 ∧ matS p s = matT t s.data.toList ∧ t.fit = true ∧ t.cls ≤ 900 := by
  refine ⟨by unfold errP; rw [if_neg h1, h], by unfold matS; rw [if_neg h1, h], ?_⟩
  have hg := pat_good p.data.toList (p.data.toList.length + 1) 0 (Nat.zero_le _)
  unfold parseT at h
  cases hq : patL p.data.toList (p.data.toList.length + 1) 0 with
  | bad m => rw [hq] at h; cases h
  | ok t' m' =>
    rw [hq] at h hg
    obtain ⟨h2, h3⟩ := hg.2 t' m' rfl
    have h4 := hg.1.2
    rw [lt_len] at h4
    have : t = t' := by
      have h5 : (if m' = p.data.toList.length then PR.ok t' m' else .bad m') = .ok t m := h
      split at h5
      · cases h5; rfl
      · cases h5
    subst this
    exact ⟨h2, by omega⟩
set_option maxRecDepth 100000 in
set_option maxHeartbeats 1600000 in
theorem find_any (p s : ByteArray) (w : World) (hA : AL w) (hs : s.size ≤ 1000) :
    Calls Tryd.prog 23 #[.string p, .string s] w fun e w' => FinR p s w' e ∧ Below w.heap.size w w' := by
  have HP := Lib.hid (parse_any p w hA)
  by_cases hsz : p.size < 1 ∨ 40 < p.size
  · have HN : Hid (∀ e w', ParE p w w' e → e = .returned (.tuple #[zeroT, .int .i64 0, .int .i64 2])) := Lib.hid (fun e w' h => by unfold ParE at h; rwa [if_pos hsz] at h)
    have HE : Hid (errP p = 2) := Lib.hid (by unfold errP; rw [if_pos hsz])
    clear hsz
    go_enter Tryd.func23, Tryd.ntmps23
    go_wp2_with fail
    refine HP.out.mono ?_
    rintro e w1 ⟨hq, hb1⟩
    obtain rfl := HN.out e w1 hq
    clear hq
    unfold zeroT
    go_wp2_with fail
    go_ret2
    exact ⟨.inl ⟨by rw [HE.out]; decide, by rw [HE.out]; rfl⟩, hb1.trans ((below1 w1 _).mono hb1.size)⟩
  cases hq : parseT p.data.toList with
  | bad m =>
    have HN : Hid (∀ e w', ParE p w w' e → e = .returned (.tuple #[zeroT, .int .i64 (m : Int), .int .i64 8])) := Lib.hid (fun e w' h => by unfold ParE at h; rw [if_neg hsz, hq] at h; exact h)
    have HE : Hid (errP p = 8) := Lib.hid (by unfold errP; rw [if_neg hsz, hq])
    clear hsz hq
    go_enter Tryd.func23, Tryd.ntmps23
    go_wp2_with fail
    refine HP.out.mono ?_
    rintro e w1 ⟨hq, hb1⟩
    obtain rfl := HN.out e w1 hq
    clear hq
    unfold zeroT
    go_wp2_with fail
    go_ret2
    exact ⟨.inl ⟨by rw [HE.out]; decide, by rw [HE.out]; rfl⟩, hb1.trans ((below1 w1 _).mono hb1.size)⟩
  | ok t m =>
    have HN : Hid (∀ e w', ParE p w w' e → ∃ oe ce, e = .returned (.tuple #[t.val (.slice oe t.l.length ce), .int .i64 0, .int .i64 0]) ∧ HT w' (Btw w.heap.size w'.heap.size) (.slice oe t.l.length ce) t.l) := Lib.hid (fun e w' h => by unfold ParE at h; rw [if_neg hsz, hq] at h; exact h)
    have HE := Lib.hid (errP_ok hsz hq s)
    clear hsz hq
    go_enter Tryd.func23, Tryd.ntmps23
    go_wp2_with fail
    refine HP.out.mono ?_
    rintro e w1 ⟨hq, hb1⟩
    obtain ⟨oe, ce, rfl, hT⟩ := HN.out e w1 hq
    have HT1 : Hid (HT (w1.alloc (.cells #[.int .i64 t.k, .int .u64 t.s.a, .int .u64 t.s.b, .int .u64 t.s.c, .int .u64 t.s.d, (.slice oe t.l.length ce)] 77)) (· < w1.heap.size) (.slice oe t.l.length ce) t.l) := Lib.hid (hT.later (fun _ h => h.2) (fun b hb o => (below1 w1 _).cell (p := ⟨b, o, none⟩) hb.2))
    have HB1 := Lib.hid hb1
    have HBu := Lib.hid (build_any _ find1_lk t HE.out.2.2.1 HE.out.2.2.2 (w1.alloc (.cells #[.int .i64 t.k, .int .u64 t.s.a, .int .u64 t.s.b, .int .u64 t.s.c, .int .u64 t.s.d, (.slice oe t.l.length ce)] 77)) w1.heap.size oe ce HT1.out (by simp))
    clear hq hT hb1 HP
    unfold PT.val at HBu ⊢
    go_wp2_with fail
    refine HBu.out.mono ?_
    rintro e w2 ⟨⟨g, cap, rfl, hQ⟩, hb2⟩
    have HQ2 : Hid (HQ (w2.alloc (.cells #[.slice (some ⟨g, 0, none⟩) (buildT t).1.length cap, .int .u64 (buildT t).2] 69)) (· < w2.heap.size) (.slice (some ⟨g, 0, none⟩) (buildT t).1.length cap) (buildT t).1) := Lib.hid (hQ.below (below1 _ _) (Nat.le_refl _))
    have HB2 : Hid (Below w.heap.size w (w2.alloc (.cells #[.slice (some ⟨g, 0, none⟩) (buildT t).1.length cap, .int .u64 (buildT t).2] 69))) := Lib.hid (by
      have h1 : Below w.heap.size w w2 := (HB1.out.trans ((below1 w1 _).mono HB1.out.size)).trans (hb2.mono (by have := HB1.out.size; simp; omega))
      exact h1.trans ((below1 w2 _).mono h1.size))
    have HMa := Lib.hid (matches_any (w2.alloc (.cells #[.slice (some ⟨g, 0, none⟩) (buildT t).1.length cap, .int .u64 (buildT t).2] 69)) w2.heap.size _ cap (buildT t).1 (buildT t).2 s HQ2.out (by simp) hs)
    generalize hbt : (buildT t) = bt at *
    clear hQ hb2 HBu
    go_wp2_with fail
    refine HMa.out.mono ?_
    rintro e w3 ⟨⟨bs, bm, bh, g2, c2, rfl, hI⟩, hb3⟩
    have HI := Lib.hid hI
    have HB3 := Lib.hid (HB2.out.trans (hb3.mono HB2.out.size))
    clear hI hb3 HMa
    unfold itV
    go_wp2_with fail
    go_ret2
    have hF : FinR p s w3 (.returned (.tuple #[itV bs bm bh, .int .i64 0])) := by
      unfold FinR
      refine Or.inr ⟨bs, bm, bh, g2, c2, some ⟨g, 0, none⟩, cap, t, HE.out.1, HE.out.2.1, rfl, ?_⟩
      rw [hbt]
      exact HI.out
    exact ⟨hF, HB3.out⟩
end Go.Proofs.YtbogiigdadljpaaDoor
