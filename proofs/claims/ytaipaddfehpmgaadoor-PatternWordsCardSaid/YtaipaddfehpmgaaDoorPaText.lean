/-
  The text of a tree, and which trees have one, with no program in it. Nothing is assumed.
-/
import Derived.Test.YtaipaddfehpmgaaDoorPaStepr
import Derived.Test.YtaipaddfehpmgaaDoorPtSet
import Derived.BigRegion
import Derived.Test.YtaipaddfehpmgaaDoorPaRun
namespace Go.Proofs.YtaipaddfehpmgaaDoor

section
open Go.RowKit

/-- The runs, one byte further. -/
def stepR (s : S4) (L : List (Nat × Nat)) (b : Nat) : List (Nat × Nat) :=
  if s.has b = true then match L.getLast? with
    | some (x, y) => if y + 1 = b then L.dropLast ++ [(x, b)] else L ++ [(b, b)]
    | none => L ++ [(b, b)]
  else L
/-- The runs of the first bytes of the alphabet. -/
def runsTo (s : S4) : Nat → List (Nat × Nat)
  | 0 => []
  | k + 1 => stepR s (runsTo s k) (32 + k)
/-- The runs of a set. -/
def runsR (s : S4) : List (Nat × Nat) := runsTo s 95
theorem stepR_ok (s : S4) (L : List (Nat × Nat)) (k : Nat) (h1 : L.length ≤ k) (h2 : ∀ p ∈ L, p.1 ≤ p.2 ∧ 32 ≤ p.1 ∧ p.2 < 32 + k) :
    (stepR s L (32 + k)).length ≤ k + 1 ∧ ∀ p ∈ stepR s L (32 + k), p.1 ≤ p.2 ∧ 32 ≤ p.1 ∧ p.2 < 32 + (k + 1) := by
  have weak : ∀ p ∈ L, p.1 ≤ p.2 ∧ 32 ≤ p.1 ∧ p.2 < 32 + (k + 1) := fun p hp => by have := h2 p hp; omega
  have app : (L ++ [(32 + k, 32 + k)]).length ≤ k + 1 ∧ ∀ p ∈ L ++ [(32 + k, 32 + k)], p.1 ≤ p.2 ∧ 32 ≤ p.1 ∧ p.2 < 32 + (k + 1) := ⟨by simp; omega, fun p hp => by
    rcases List.mem_append.1 hp with h | h
    · exact weak p h
    · simp at h
      subst h
      show 32 + k ≤ 32 + k ∧ 32 ≤ 32 + k ∧ 32 + k < 32 + (k + 1)
      omega⟩
  unfold stepR
  split
  · split
    · rename_i x y hl
      split
      · have hmem := List.mem_of_getLast? hl
        obtain ⟨h3, h4, h5⟩ := h2 _ hmem
        have hpos := List.length_pos_of_mem hmem
        refine ⟨by rw [List.length_append, List.length_dropLast]; simp; omega, fun p hp => ?_⟩
        rcases List.mem_append.1 hp with h | h
        · exact weak p (List.dropLast_subset _ h)
        · simp at h
          subst h
          show x ≤ 32 + k ∧ 32 ≤ x ∧ 32 + k < 32 + (k + 1)
          replace h3 : x ≤ y := h3
          replace h4 : 32 ≤ x := h4
          replace h5 : y < 32 + k := h5
          omega
      · exact app
    · exact app
  · exact ⟨by omega, weak⟩
theorem runsTo_ok (s : S4) : ∀ k, (runsTo s k).length ≤ k ∧ ∀ p ∈ runsTo s k, p.1 ≤ p.2 ∧ 32 ≤ p.1 ∧ p.2 < 32 + k
  | 0 => ⟨Nat.le_refl _, fun p hp => by cases hp⟩
  | k + 1 => stepR_ok s (runsTo s k) k (runsTo_ok s k).1 (runsTo_ok s k).2

def flatB : List (Nat × Nat) → List Value
  | [] => []
  | x :: ys => .int .u8 (x.1 : Int) :: .int .u8 (x.2 : Int) :: flatB ys
theorem flatB_app (ys zs : List (Nat × Nat)) : flatB (ys ++ zs) = flatB ys ++ flatB zs := by
  induction ys with
  | nil => rfl
  | cons y t ih => simp [flatB, ih]
theorem flatB_len (ys : List (Nat × Nat)) : (flatB ys).length = ys.length * 2 := by
  induction ys with
  | nil => rfl
  | cons y t ih => simp [flatB, ih]; omega
theorem infoRn : (Tryd.prog.info? 142).map (fun i => (i.zero, i.size, i.bytes)) = some (some (.agg #[.int .u8 0, .int .u8 0]), 2, 2) := by kernel_rfl
/-- A row of runs. -/
def OwnB (w : World) (base : Nat) (v : Value) (l : List (Nat × Nat)) : Prop := w.ownsRow base 142 2 v l.length (flatB l)
theorem OwnB.at_ {w : World} {base g n cap : Nat} {l : List (Nat × Nat)} (h : OwnB w base (.slice (some ⟨g, 0, none⟩) n cap) l) (hn : l.length = n) {i : Nat} {p : Nat × Nat} (hp : l[i]? = some p) :
    w.cell? ⟨g, i * 2, none⟩ = some (.int .u8 (p.1 : Int)) ∧ w.cell? ⟨g, i * 2 + 1, none⟩ = some (.int .u8 (p.2 : Int)) := by
  subst hn
  have hi := (List.getElem?_eq_some_iff.1 hp).1
  have key : ∀ (l : List (Nat × Nat)) (i : Nat) (p : Nat × Nat), l[i]? = some p → (flatB l)[i * 2]? = some (.int .u8 (p.1 : Int)) ∧ (flatB l)[i * 2 + 1]? = some (.int .u8 (p.2 : Int)) := by
    intro l
    induction l with
    | nil => intro i p h; simp at h
    | cons a t ih =>
      intro i p h
      cases i with
      | zero => simp at h; subst h; exact ⟨rfl, rfl⟩
      | succ i =>
        rw [List.getElem?_cons_succ] at h
        rw [show (i + 1) * 2 = (i * 2 + 1) + 1 by omega]
        exact ih i p h
  obtain ⟨k1, k2⟩ := key l i p hp
  exact ⟨by rw [World.ownsRow.cellAt h (i * 2) (by omega), k1], by rw [World.ownsRow.cellAt h (i * 2 + 1) (by omega), k2]⟩
theorem flatB_set (l : List (Nat × Nat)) (x y b : Nat) : (flatB (l ++ [(x, y)])).set (l.length * 2 + 1) (.int .u8 (b : Int)) = flatB (l ++ [(x, b)]) := by
  rw [flatB_app, flatB_app, List.set_append_right _ _ (by rw [flatB_len]; omega), flatB_len]
  rw [show l.length * 2 + 1 - l.length * 2 = 1 by omega]
  rfl
theorem OwnB.later {w w' : World} {base : Nat} {v : Value} {l : List (Nat × Nat)} (h : OwnB w base v l) (hb : Below w.heap.size w w') : OwnB w' base v l :=
  owns_kp (X := fun _ => False) h (.of hb (Nat.le_refl _)) (Nat.le_refl _) (fun _ _ h => h)

/-- A set in a block of its own. -/
def RnB (w : World) (b : Nat) (s : S4) : Prop := w.heap[b]? = some (.cells #[.int .u64 s.a, .int .u64 s.b, .int .u64 s.c, .int .u64 s.d] 121 (0, 0))
theorem RnB.cells {w : World} {b : Nat} {s : S4} (h : RnB w b s) : w.cell? ⟨b, 0, none⟩ = some (.int .u64 s.a) ∧ w.cell? ⟨b, 1, none⟩ = some (.int .u64 s.b) ∧ w.cell? ⟨b, 2, none⟩ = some (.int .u64 s.c) ∧ w.cell? ⟨b, 3, none⟩ = some (.int .u64 s.d) := by
  unfold World.cell?
  rw [h]
  exact ⟨rfl, rfl, rfl, rfl⟩
set_option maxRecDepth 100000 in
set_option maxHeartbeats 3200000 in
theorem runs_any (s : S4) (w : World) :
    Calls Tryd.prog 75 #[s.val] w fun e w' => (∃ oa cap, e = .returned (.slice oa (runsR s).length cap) ∧ OwnB w' w.heap.size (.slice oa (runsR s).length cap) (runsR s)) ∧ Below w.heap.size w w' := by
  obtain ⟨i0, hi, hz0, hz1, hz2⟩ := info_parts infoRn
  obtain ⟨w1, hw1⟩ : ∃ w1, w1 = w.alloc (.cells #[.int .u64 s.a, .int .u64 s.b, .int .u64 s.c, .int .u64 s.d] 121) := ⟨_, rfl⟩
  have HW1 := Lib.hid hw1
  have hs1 : w1.heap.size = w.heap.size + 1 := by rw [hw1]; simp
  have HB1 : Hid (Below w.heap.size w w1) := Lib.hid (by rw [hw1]; exact below1 _ _)
  have HS1 : Hid (RnB w1 w.heap.size s) := Lib.hid (by rw [hw1]; exact new_at w _)
  have HH := Lib.hid (has_any s)
  unfold S4.val at HH ⊢
  clear hw1
  go_enter Tryd.func75, Tryd.ntmps75
  go_wp2_with fail
  rw [← HW1.out]
  go_loopw [3, 4] (fun f v wr => ∃ (k : Nat) (oc : Option Addr) (cc : Nat), f = .slice oc (runsTo s k).length cc ∧ v = .int .u8 ((32 + k : Nat) : Int) ∧ k ≤ 95 ∧ Hid (OwnB wr (w.heap.size + 1) (.slice oc (runsTo s k).length cc) (runsTo s k)) ∧ Hid (RnB wr w.heap.size s) ∧ Hid (Below w.heap.size w wr) ∧ w.heap.size + 1 ≤ wr.heap.size) (fun _ v _ => 127 - (intOf v).toNat)
  case atStart => exact ⟨0, none, 0, rfl, rfl, Nat.zero_le _, Lib.hid ⟨rfl, .inl ⟨rfl, rfl⟩⟩, HS1, HB1, by omega⟩
  case round =>
    obtain ⟨k, oc, cc, rfl, rfl, hk, HO, HS, HB, hsr⟩ := hrel
    clear HS1 HB1
    obtain ⟨b, hb⟩ : ∃ b, b = 32 + k := ⟨_, rfl⟩
    rw [← hb]
    by_cases hlt : k < 95
    · have hbI : (b : Int) ≤ 126 := by omega
      have hb32 : (32 : Int) ≤ (b : Int) := by omega
      have hwb : IntKind.u8.wrap ((b : Int) + 1) = ((b + 1 : Nat) : Int) := by rw [IntKind.wrap_u8]; omega
      have hwm : IntKind.u8.wrap ((b : Int) - 1) = (b : Int) - 1 := by rw [IntKind.wrap_u8]; omega
      obtain ⟨hlk, hmem⟩ := runsTo_ok s k
      have HST : Hid (runsTo s (k + 1) = stepR s (runsTo s k) b) := Lib.hid (by rw [hb]; rfl)
      have HM := Lib.hid hmem
      have HBb := Lib.hid hb
      generalize runsTo s k = L at *
      obtain ⟨c0, c1, c2, c3⟩ := HS.out.cells
      have HC := Lib.hid (HH.out b (by omega) wr)
      clear hb hmem
      cases hh : s.has b with
      | false =>
        have HSt : Hid (runsTo s (k + 1) = L) := Lib.hid (by rw [HST.out]; unfold stepR; rw [hh]; rfl)
        rw [hh] at HC
        clear hh HST
        go_wp2_with fail
        refine HC.out.mono ?_
        rintro e w3 ⟨rfl, hb3⟩
        have HO3 := Lib.hid (HO.out.later hb3)
        have HS3 : Hid (RnB w3 w.heap.size s) := Lib.hid ((hb3.block _ (by omega)).trans HS.out)
        have HB3 := Lib.hid (HB.out.trans (hb3.mono HB.out.size))
        have hs3 : w.heap.size + 1 ≤ w3.heap.size := by have := hb3.size; omega
        clear hb3 HO HS HB
        go_wp2_with fail
        go_roundw
        case rel => exact ⟨k + 1, oc, cc, by rw [HSt.out], by rw [show (32 + (k + 1) : Nat) = b + 1 by have := HBb.out; omega]; first | rfl | (rw [← hwb]; rfl) | go_num, hlt, by rw [HSt.out]; exact HO3, HS3, HB3, hs3⟩
        case measure => have := HBb.out; simp [intOf]; omega
      | true =>
        rw [hh] at HC
        have HR3 : Hid (∀ w3, Below wr.heap.size wr w3 → OwnB w3 (w.heap.size + 1) (.slice oc L.length cc) L ∧ RnB w3 w.heap.size s ∧ Below w.heap.size w w3 ∧ w.heap.size + 1 ≤ w3.heap.size) := Lib.hid (fun w3 hb3 => ⟨HO.out.later hb3, (hb3.block _ (by omega)).trans HS.out, HB.out.trans (hb3.mono HB.out.size), by have := hb3.size; omega⟩)
        clear HO HS HB
        by_cases hz : L = []
        · have HSt : Hid (runsTo s (k + 1) = [] ++ [(b, b)]) := Lib.hid (by rw [HST.out, hz]; unfold stepR; rw [hh]; rfl)
          subst hz
          have hn1 : 0 + 1 ≤ maxLen := by unfold maxLen; omega
          have hby : (0 + 1) * 2 ≤ 140737488355328 := by omega
          clear hh HST
          go_wp2_with fail
          refine HC.out.mono ?_
          rintro e w3 ⟨rfl, hb3⟩
          obtain ⟨hO3, hS3, hB3, hs3⟩ := HR3.out w3 hb3
          have HO5 : Hid ((w3.alloc (.cells #[.int .u8 (b : Int), .int .u8 (b : Int)] 142)).ownsRow (w.heap.size + 1) 142 2 (.slice oc 0 cc) 0 []) := Lib.hid (hO3.later (below1 w3 (.cells #[.int .u8 (b : Int), .int .u8 (b : Int)] 142)))
          have HNW := Lib.hid (new_at w3 (.cells #[.int .u8 (b : Int), .int .u8 (b : Int)] 142))
          have HS3 := Lib.hid hS3
          have HB3 := Lib.hid hB3
          clear hb3 hO3 hS3 hB3 HR3 HC HH
          go_wp2_with (at_builtin; refine wpList_append_lies _ rfl _ _ _ rfl (w.heap.size + 1) 142 i0 _ 2 2 Tryd.underlying140 hi hz0 hz1 hz2 rfl (by omega) (.slice oc 0 cc) 0 [] rfl HO5.out ⟨w3.heap.size, 0, none⟩ 1 1 [.int .u8 (b : Int), .int .u8 (b : Int)] rfl rfl (World.news_of_block (cs := #[.int .u8 (b : Int), .int .u8 (b : Int)]) (t := 142) (fr := (0, 0)) HNW.out) (by simp [Value.oneCell']) (by omega) hn1 hby (by simp; omega) (w3.heap.size + 1) (by simp) ?_)
          intro gg cap2 w7 hown7 hgrow hat hgl
          have hsz := hgrow.size
          rw [World.size_alloc] at hsz
          have hbk : ∀ q, q < w.heap.size + 1 → w7.heap[q]? = w3.heap[q]? := fun q hq => (hgrow.block q (by rw [World.size_alloc]; omega) (fun e => by have := (own_lt HO5.out q e.symm).1; omega)).trans ((below1 w3 _).block q (by omega))
          have HB7 : Hid (Below w.heap.size w w7) := Lib.hid (HB3.out.trans ⟨hgrow.os, hgrow.tape, hgrow.output, by omega, fun q hq => hbk q (by omega)⟩)
          have HS7 : Hid (RnB w7 w.heap.size s) := Lib.hid ((hbk _ (by omega)).trans HS3.out)
          have HL7 : Hid ((runsTo s (k + 1)).length = 0 + 1) := Lib.hid (by rw [HSt.out]; simp)
          have HO7 : Hid (OwnB w7 (w.heap.size + 1) (.slice (some ⟨gg, 0, none⟩) (0 + 1) cap2) (runsTo s (k + 1))) := Lib.hid (by
            unfold OwnB
            rw [HL7.out, HSt.out, List.nil_append]
            exact hown7)
          have hs7 : w.heap.size + 1 ≤ w7.heap.size := by omega
          clear hown7 hgrow hat hgl hbk HO5 HS3 HB3 HNW hsz
          go_wp2_with fail
          go_roundw
          case rel => exact ⟨k + 1, some ⟨gg, 0, none⟩, cap2, by rw [HL7.out], by rw [show (32 + (k + 1) : Nat) = b + 1 by have := HBb.out; omega]; first | rfl | (rw [← hwb]; rfl) | go_num, hlt, by rw [HL7.out]; exact HO7, HS7, HB7, hs7⟩
          case measure => have := HBb.out; simp [intOf]; omega
        · obtain ⟨L', ⟨x, y⟩, hL⟩ : ∃ L' z, L = L' ++ [z] := ⟨L.dropLast, L.getLast hz, (List.dropLast_concat_getLast hz).symm⟩
          obtain ⟨m, hm'⟩ : ∃ m, m = L'.length := ⟨_, rfl⟩
          have hm : L.length = m + 1 := by rw [hL, hm']; simp
          have hmk : m + 1 ≤ 95 := by omega
          have hlast : L[m]? = some (x, y) := by rw [hL, hm']; simp
          have hyb : y < b := by have h1 : y < 32 + k := (HM.out (x, y) (by rw [hL]; simp)).2.2; have h2 := HBb.out; omega
          have HST2 : Hid (runsTo s (k + 1) = if y + 1 = b then L' ++ [(x, b)] else L ++ [(b, b)]) := Lib.hid (by
            rw [HST.out]
            unfold stepR
            rw [hh, hL]
            simp)
          have hn1 : m + 1 + 1 ≤ maxLen := by unfold maxLen; omega
          have hby : (m + 1 + 1) * 2 ≤ 140737488355328 := by omega
          rw [hm]
          have HR4 : Hid (∀ w3, Below wr.heap.size wr w3 → w3.ownsRow (w.heap.size + 1) 142 2 (.slice oc (m + 1) cc) (m + 1) (flatB L) ∧ RnB w3 w.heap.size s ∧ Below w.heap.size w w3 ∧ w.heap.size + 1 ≤ w3.heap.size) := Lib.hid (by
            have h := HR3.out
            unfold OwnB at h
            rw [hm] at h
            exact h)
          have HL' := Lib.hid hL
          have HM' := Lib.hid hm'
          have HMM := Lib.hid hm
          have HLS := Lib.hid hlast
          clear hL hm' hm hlast HR3 hz hlk
          obtain ⟨g, rfl⟩ : ∃ g, oc = some ⟨g, 0, none⟩ := by
            have h3 := (HR4.out wr (Below.refl _ _)).1
            rcases h3.2 with ⟨hv, h0⟩ | ⟨gl, cq, cur, hv, _⟩
            · omega
            · cases hv; exact ⟨gl, rfl⟩
          have hy0 : (0 : Int) ≤ (y : Int) := by omega
          by_cases hy : y + 1 = b
          · have HSt : Hid (runsTo s (k + 1) = L' ++ [(x, b)]) := Lib.hid (by rw [HST2.out, if_pos hy])
            have hyI : (y : Int) = (b : Int) - 1 := by omega
            clear hh HST HST2
            go_wp2_with fail
            refine HC.out.mono ?_
            rintro e w3 ⟨rfl, hb3⟩
            obtain ⟨hO3, hS3, hB3, hs3⟩ := HR4.out w3 hb3
            obtain ⟨c4, c5⟩ := OwnB.at_ (by unfold OwnB; rw [HMM.out]; exact hO3) HMM.out HLS.out
            have f5 := World.ownsRow.frozenAt hO3 (m * 2 + 1)
            have hgl := (World.ownsRow.lt hO3 g rfl).1
            have HO7 : Hid ((w3.setCell ⟨g, m * 2 + 1, none⟩ (.int .u8 (b : Int))).ownsRow (w.heap.size + 1) 142 2 (.slice (some ⟨g, 0, none⟩) (m + 1) cc) (m + 1) (flatB (L' ++ [(x, b)]))) := Lib.hid (by
              have h1 := (World.ownsRow.stored hO3 (m * 2 + 1) (.int .u8 (b : Int))).1
              rw [HL'.out, HM'.out, flatB_set, ← HM'.out] at h1
              exact h1)
            have hbs : Below (w.heap.size + 1) w3 (w3.setCell ⟨g, m * 2 + 1, none⟩ (.int .u8 (b : Int))) := (Below.refl _ _).setCell (p := ⟨g, m * 2 + 1, none⟩) hgl _
            have HS7 : Hid (RnB (w3.setCell ⟨g, m * 2 + 1, none⟩ (.int .u8 (b : Int))) w.heap.size s) := Lib.hid ((hbs.block _ (by omega)).trans hS3)
            have HB7 : Hid (Below w.heap.size w (w3.setCell ⟨g, m * 2 + 1, none⟩ (.int .u8 (b : Int)))) := Lib.hid (hB3.trans (hbs.mono (by omega)))
            have HL7 : Hid ((runsTo s (k + 1)).length = m + 1) := Lib.hid (by rw [HSt.out, HM'.out]; simp)
            have HO8 : Hid (OwnB (w3.setCell ⟨g, m * 2 + 1, none⟩ (.int .u8 (b : Int))) (w.heap.size + 1) (.slice (some ⟨g, 0, none⟩) (m + 1) cc) (runsTo s (k + 1))) := Lib.hid (by
              unfold OwnB
              rw [HL7.out, HSt.out]
              exact HO7.out)
            clear hb3 hO3 hS3 hB3 HR4 HC HH hbs HO7
            go_wp2_with fail
            go_roundw
            case rel => exact ⟨k + 1, some ⟨g, 0, none⟩, cc, by rw [HL7.out], by rw [show (32 + (k + 1) : Nat) = b + 1 by have := HBb.out; omega]; first | rfl | (rw [← hwb]; rfl) | go_num, hlt, by rw [HL7.out]; exact HO8, HS7, HB7, by simp [World.setCell]; omega⟩
            case measure => have := HBb.out; simp [intOf]; omega
          · have HSt : Hid (runsTo s (k + 1) = L ++ [(b, b)]) := Lib.hid (by rw [HST2.out, if_neg hy])
            have hyI : ¬ ((y : Int) = (b : Int) - 1) := by omega
            clear HST2
            clear hh HST
            go_wp2_with fail
            refine HC.out.mono ?_
            rintro e w3 ⟨rfl, hb3⟩
            obtain ⟨hO3, hS3, hB3, hs3⟩ := HR4.out w3 hb3
            have HO5 : Hid ((w3.alloc (.cells #[.int .u8 (b : Int), .int .u8 (b : Int)] 142)).ownsRow (w.heap.size + 1) 142 2 (.slice (some ⟨g, 0, none⟩) (m + 1) cc) (m + 1) (flatB L)) := Lib.hid (owns_kp (X := fun _ => False) hO3 (.of (below1 w3 _) (Nat.le_refl _)) (Nat.le_refl _) (fun _ _ h => h))
            have HNW := Lib.hid (new_at w3 (.cells #[.int .u8 (b : Int), .int .u8 (b : Int)] 142))
            have HS3 := Lib.hid hS3
            have HB3 := Lib.hid hB3
            obtain ⟨c4, c5⟩ := OwnB.at_ (by unfold OwnB; rw [HMM.out]; exact hO3) HMM.out HLS.out
            have c6 := ((below1 w3 (.cells #[.int .u8 (b : Int), .int .u8 (b : Int)] 142)).cell (p := ⟨g, m * 2 + 1, none⟩) (World.ownsRow.lt hO3 g rfl).2).trans c5
            clear hb3 hO3 hS3 hB3 HR4 HC HH
            go_wp2_with (at_builtin; refine wpList_append_lies _ rfl _ _ _ rfl (w.heap.size + 1) 142 i0 _ 2 2 Tryd.underlying140 hi hz0 hz1 hz2 rfl (by omega) (.slice (some ⟨g, 0, none⟩) (m + 1) cc) (m + 1) (flatB L) rfl HO5.out ⟨w3.heap.size, 0, none⟩ 1 1 [.int .u8 (b : Int), .int .u8 (b : Int)] rfl rfl (World.news_of_block (cs := #[.int .u8 (b : Int), .int .u8 (b : Int)]) (t := 142) (fr := (0, 0)) HNW.out) (by simp [Value.oneCell']) (by omega) hn1 hby (by simp; omega) (w3.heap.size + 1) (by simp) ?_)
            intro gg cap2 w7 hown7 hgrow hat hgl
            have hsz := hgrow.size
            rw [World.size_alloc] at hsz
            have hbk : ∀ q, q < w.heap.size + 1 → w7.heap[q]? = w3.heap[q]? := fun q hq => (hgrow.block q (by rw [World.size_alloc]; omega) (fun e => by have := (own_lt HO5.out q e.symm).1; omega)).trans ((below1 w3 _).block q (by omega))
            have HB7 : Hid (Below w.heap.size w w7) := Lib.hid (HB3.out.trans ⟨hgrow.os, hgrow.tape, hgrow.output, by omega, fun q hq => hbk q (by omega)⟩)
            have HS7 : Hid (RnB w7 w.heap.size s) := Lib.hid ((hbk _ (by omega)).trans HS3.out)
            have HL7 : Hid ((runsTo s (k + 1)).length = (m + 1) + 1) := Lib.hid (by rw [HSt.out, List.length_append, HMM.out]; rfl)
            have HO7 : Hid (OwnB w7 (w.heap.size + 1) (.slice (some ⟨gg, 0, none⟩) ((m + 1) + 1) cap2) (runsTo s (k + 1))) := Lib.hid (by
              unfold OwnB
              rw [HL7.out, HSt.out, flatB_app]
              exact hown7)
            have hs7 : w.heap.size + 1 ≤ w7.heap.size := by omega
            clear hown7 hgrow hat hgl hbk HO5 HS3 HB3 HNW hsz
            go_wp2_with fail
            go_roundw
            case rel => exact ⟨k + 1, some ⟨gg, 0, none⟩, cap2, by rw [HL7.out], by rw [show (32 + (k + 1) : Nat) = b + 1 by have := HBb.out; omega]; first | rfl | (rw [← hwb]; rfl) | go_num, hlt, by rw [HL7.out]; exact HO7, HS7, HB7, hs7⟩
            case measure => have := HBb.out; simp [intOf]; omega
    · have hbI : ¬ (b : Int) ≤ 126 := by omega
      obtain rfl : k = 95 := by omega
      go_wp2_with fail
      go_ret
      refine ⟨⟨oc, cc, rfl, ?_⟩, HB.out⟩
      have h7 := HO.out
      refine ⟨h7.1, ?_⟩
      rcases h7.2 with h2 | ⟨g2, cap3, cur, hv, hg, r⟩
      · exact .inl h2
      · exact .inr ⟨g2, cap3, cur, hv, by omega, r⟩
end

section
open Go.RowKit Go.Shelf

def pairU (p : Nat × Nat) : List UInt8 := runE (UInt8.ofNat p.1) (UInt8.ofNat p.2)
theorem flat_len (L : List (Nat × Nat)) : (L.flatMap pairU).length ≤ 5 * L.length := by
  induction L with
  | nil => simp
  | cons a t ih =>
    have := runE_len (UInt8.ofNat a.1) (UInt8.ofNat a.2)
    rw [List.flatMap_cons, List.length_append, List.length_cons]
    unfold pairU at *
    omega
def eqQ (a b c d e f g h : Int) : Bool := a == e && b == f && c == g && d == h
/-- Is a set the whole alphabet? -/
def isAl (s : S4) : Bool := eqQ s.a s.b s.c s.d S4.alpha.a S4.alpha.b S4.alpha.c S4.alpha.d
/-- The text of a set of bytes. -/
def classE (s : S4) : List UInt8 := if isAl s = true then [46] else match runsR s with
  | [p] => if p.1 = p.2 then escL (UInt8.ofNat p.1) else 91 :: (pairU p ++ [93])
  | L => 91 :: (L.flatMap pairU ++ [93])
theorem classE_len (s : S4) : (classE s).length ≤ 480 := by
  have hln : (runsR s).length ≤ 95 := (runsTo_ok s 95).1
  unfold classE
  split
  · decide
  · split
    · rename_i p h
      have := escL_len (UInt8.ofNat p.1)
      have := runE_len (UInt8.ofNat p.1) (UInt8.ofNat p.2)
      split
      · omega
      · simp only [List.length_cons, List.length_append, List.length_nil]
        unfold pairU
        omega
    · have := flat_len (runsR s)
      simp only [List.length_cons, List.length_append, List.length_nil]
      omega
/-- Does a part stand in parentheses? -/
def parQ (k above : Int) : Bool := k == 5 || (k == 4 && above != 5) || (k == 6 && above == 6)
def wrapQ (b : Bool) (x : List UInt8) : List UInt8 := if b = true then 40 :: (x ++ [41]) else x
mutual
/-- The text of a tree. -/
def PT.txt : PT → List UInt8
  | .mk k s l => if k = 1 then [91, 93] else if k = 2 then [40, 41] else if k = 3 then classE s else if k = 6 then PT.txt1 l else PT.txts k l
def PT.txt1 : List PT → List UInt8
  | [] => []
  | v :: _ => wrapQ (parQ v.k 6) v.txt ++ [42]
def PT.txts (k : Int) : List PT → List UInt8
  | [] => []
  | v :: l => wrapQ (parQ v.k k) v.txt ++ PT.txtr k l
def PT.txtr (k : Int) : List PT → List UInt8
  | [] => []
  | v :: l => (if k = 5 then [124] else []) ++ (wrapQ (parQ v.k k) v.txt ++ PT.txtr k l)
end
theorem PT.txt_eq (v : PT) : v.txt = if v.k = 1 then [91, 93] else if v.k = 2 then [40, 41] else if v.k = 3 then classE v.s else if v.k = 6 then PT.txt1 v.l else PT.txts v.k v.l := by
  cases v; rw [PT.txt]; rfl
/-- What the first i parts have given. -/
def PT.upto (k : Int) (l : List PT) (i : Nat) : List UInt8 := PT.txts k (l.take i)
theorem PT.txtr_append (k : Int) (l m : List PT) : PT.txtr k (l ++ m) = PT.txtr k l ++ PT.txtr k m := by
  induction l with
  | nil => rw [List.nil_append, PT.txtr, List.nil_append]
  | cons v l ih => rw [List.cons_append, PT.txtr, PT.txtr, ih]; simp only [List.append_assoc]
theorem PT.upto_zero (k : Int) (l : List PT) : PT.upto k l 0 = [] := by unfold PT.upto; rw [List.take_zero, PT.txts]
theorem PT.upto_succ (k : Int) (l : List PT) (i : Nat) (v : PT) (h : l[i]? = some v) : PT.upto k l (i + 1) = PT.upto k l i ++ ((if 0 < i ∧ k = 5 then [124] else []) ++ wrapQ (parQ v.k k) v.txt) := by
  unfold PT.upto
  cases l with
  | nil => cases h
  | cons a r =>
    cases i with
    | zero => cases h; simp [PT.txts, PT.txtr]
    | succ i =>
      have h' : r[i]? = some v := h
      rw [List.take_succ_cons, List.take_succ_cons, PT.txts, PT.txts, List.take_add_one, h', PT.txtr_append]
      show _ ++ (_ ++ PT.txtr k [v]) = _
      rw [PT.txtr, PT.txtr, List.append_nil]
      simp only [List.append_assoc, Nat.zero_lt_succ, true_and]
theorem PT.upto_le (k : Int) (l : List PT) (i : Nat) : ∃ r, PT.txts k l = PT.upto k l i ++ r := by
  unfold PT.upto
  cases l with
  | nil => exact ⟨[], by rw [List.take_nil, List.append_nil]⟩
  | cons a r =>
    cases i with
    | zero => exact ⟨_, by rw [List.take_zero, PT.txts, PT.txts]; rfl⟩
    | succ i => exact ⟨PT.txtr k (r.drop i), by rw [List.take_succ_cons, PT.txts, PT.txts, List.append_assoc, ← PT.txtr_append, List.take_append_drop]⟩
theorem PT.upto_all (k : Int) (l : List PT) : PT.upto k l l.length = PT.txts k l := by unfold PT.upto; rw [List.take_length]
/-- How many parts a tree of a kind may have. -/
def mayH (k : Int) (n : Nat) : Bool := if k = 1 ∨ k = 2 ∨ k = 3 then decide (n = 0) else if k = 6 then decide (n = 1) else if k = 4 ∨ k = 5 then decide (2 ≤ n) else false
/-- Is the head of a tree as it must be? -/
def PT.okH (v : PT) : Bool := (v.s.isZ != decide (v.k = 3)) && (v.s.without S4.alpha).isZ && mayH v.k v.l.length
mutual
def PT.prop : PT → Bool
  | .mk k s l => PT.okH (.mk k s l) && PT.props l
def PT.props : List PT → Bool
  | [] => true
  | v :: l => v.prop && PT.props l
end
theorem PT.prop_eq (v : PT) : v.prop = (v.okH && PT.props v.l) := by cases v; rw [PT.prop]; rfl
theorem PT.props_eq (l : List PT) : PT.props l = l.all PT.prop := by
  induction l with
  | nil => rw [PT.props]; rfl
  | cons v l ih => rw [PT.props, ih]; rfl
mutual
/-- The levels below a tree. -/
def PT.dep : PT → Nat
  | .mk _ _ l => PT.deps l
def PT.deps : List PT → Nat
  | [] => 0
  | v :: l => max (v.dep + 1) (PT.deps l)
end
theorem PT.dep_eq (v : PT) : v.dep = PT.deps v.l := by cases v; rw [PT.dep]; rfl
theorem PT.deps_mem {l : List PT} {x : PT} (h : x ∈ l) : x.dep + 1 ≤ PT.deps l := by
  induction l with
  | nil => cases h
  | cons v l ih =>
    rw [PT.deps]
    rcases List.mem_cons.1 h with rfl | h
    · omega
    · have := ih h; omega
theorem PT.deps_pos {l : List PT} (h : 0 < PT.deps l) : l ≠ [] := by
  rintro rfl
  rw [PT.deps] at h
  omega
end

end Go.Proofs.YtaipaddfehpmgaaDoor
