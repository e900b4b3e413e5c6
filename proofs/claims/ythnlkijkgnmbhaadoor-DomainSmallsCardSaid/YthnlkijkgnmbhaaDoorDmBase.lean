/-
  Domains in memory; the law's small and few; Size of both. Nothing is assumed.
-/
import Derived.Test.YthnlkijkgnmbhaaDoorDmPlain
import Derived.Test.YthnlkijkgnmbhaaDoorSmall
import Derived.Test.YthnlkijkgnmbhaaDoorRefCmpB
import Derived.Deep.QuietTactic
import Derived.BigQuiet
import Derived.Deep.LoopGhost
namespace Go.Proofs.YthnlkijkgnmbhaaDoor
open Go.RowKit

/-- The slice value holds the axes in the world, all of it in blocks below B. -/
def LAx (w : World) (B : Nat) (x : Value) (l : List (List V)) : Prop :=
  ∃ (oa : Option Addr) (cap : Nat), x = .slice oa l.length cap ∧ l.length ≤ cap ∧ l.length ≤ 9223372036854775807 ∧
    ∀ i a, l[i]? = some a → ∃ (b off : Nat) (oe : Option Addr) (ce : Nat), oa = some ⟨b, off, none⟩ ∧ b < B ∧ w.cell? ⟨b, off + i, none⟩ = some (.slice oe a.length ce) ∧ Rep w B (.slice oe a.length ce) a
theorem LAx.later {w w' : World} {B : Nat} {x : Value} {l : List (List V)} (h : LAx w B x l) (hb : Below B w w') : LAx w' B x l := by
  obtain ⟨oa, cap, rfl, hl, hm, hel⟩ := h
  refine ⟨oa, cap, rfl, hl, hm, fun i a ha => ?_⟩
  obtain ⟨b, off, oe, ce, rfl, hlt, hc, hr⟩ := hel i a ha
  exact ⟨b, off, oe, ce, rfl, hlt, (hb.cell (p := ⟨b, _, none⟩) hlt).trans hc, hr.later hb⟩
theorem LAx.mono {w : World} {B C : Nat} {x : Value} {l : List (List V)} (h : LAx w B x l) (hBC : B ≤ C) : LAx w C x l := by
  obtain ⟨oa, cap, rfl, hl, hm, hel⟩ := h
  refine ⟨oa, cap, rfl, hl, hm, fun i a ha => ?_⟩
  obtain ⟨b, off, oe, ce, rfl, hlt, hc, hr⟩ := hel i a ha
  exact ⟨b, off, oe, ce, rfl, Nat.lt_of_lt_of_le hlt hBC, hc, hr.mono hBC⟩
theorem LAx.nil {w : World} {B : Nat} : LAx w B (.slice none 0 0) [] := ⟨none, 0, rfl, Nat.le_refl _, by simp, fun i a h => by simp at h⟩
theorem LAx.form {w : World} {B : Nat} {x : Value} {l : List (List V)} (h : LAx w B x l) : ∃ oa cap, x = .slice oa l.length cap ∧ l.length ≤ cap ∧ l.length ≤ 9223372036854775807 := by
  obtain ⟨oa, cap, rfl, hl, hm, _⟩ := h
  exact ⟨oa, cap, rfl, hl, hm⟩
theorem LAx.at_ {w : World} {B : Nat} {n c i : Nat} {oa : Option Addr} {l : List (List V)} {a : List V} (h : LAx w B (.slice oa n c) l) (hz : l[i]? = some a) : ∃ (b off : Nat) (oe : Option Addr) (ce : Nat), oa = some ⟨b, off, none⟩ ∧ b < B ∧ w.cell? ⟨b, off + i, none⟩ = some (.slice oe a.length ce) ∧ Rep w B (.slice oe a.length ce) a := by
  obtain ⟨oa', cap, he, _, _, hel⟩ := h
  cases he
  exact hel i a hz

/-- A boxed domain. -/
theorem dbox {w w1 : World} {x : Value} {t : Nat} (h : Below (w.heap.size + 1) (w.alloc (.cells #[x] t)) w1) : w1.cell? ⟨w.heap.size, 0, none⟩ = some x :=
  (h.cell (p := ⟨w.heap.size, 0, none⟩) (Nat.lt_succ_self _)).trans (cell_at _ _ _ _ _ rfl)
theorem drop_l {α : Type} (l : List α) (k : Nat) (h : k < l.length) : l.drop k = l[k] :: l.drop (k + 1) := List.drop_eq_getElem_cons h
theorem ret_pair {a b c d : Value} (h : a = b) (h' : c = d) : Ending.returned (.tuple #[a, c]) = .returned (.tuple #[b, d]) := by rw [h, h']

/-! ### small, few -/

def smA : List V → Bool
  | [] => true
  | v :: a => if v.small = true then smA a else false
def smL : List (List V) → Bool
  | [] => true
  | a :: l => if 70 < a.length then false else if smA a = true then smL l else false
def smD (l : List (List V)) : Bool := if 12 < l.length then false else smL l
def fewL (l : List V) : Bool := if smA (l.take 12) = true then decide (l.length ≤ 12) else false
theorem smD_big {l : List (List V)} (h : 12 < (l.length : Int)) : smD l = false := if_pos (by omega)
theorem smD_in {l : List (List V)} (h : ¬ 12 < (l.length : Int)) : smD l = smL l := if_neg (by omega)
theorem smL_big {a : List V} {l : List (List V)} (h : 70 < (a.length : Int)) : smL (a :: l) = false := if_pos (by omega)
theorem smL_in {a : List V} {l : List (List V)} (h : ¬ 70 < (a.length : Int)) : smL (a :: l) = if smA a = true then smL l else false := if_neg (by omega)
theorem smA_mem : ∀ {a : List V}, smA a = true → ∀ v, v ∈ a → v.small = true := by
  intro a
  induction a with
  | nil => intro _ v h; cases h
  | cons x a ih =>
    intro h v hv
    rw [smA] at h
    split at h
    · rename_i hx
      rcases List.mem_cons.1 hv with rfl | hv
      · exact hx
      · exact ih h v hv
    · cases h
theorem smL_mem : ∀ {l : List (List V)}, smL l = true → ∀ a, a ∈ l → a.length ≤ 70 ∧ smA a = true := by
  intro l
  induction l with
  | nil => intro _ v h; cases h
  | cons x l ih =>
    intro h v hv
    rw [smL] at h
    split at h
    · cases h
    · split at h
      · rename_i hn hx
        rcases List.mem_cons.1 hv with rfl | hv
        · exact ⟨by omega, hx⟩
        · exact ih h v hv
      · cases h
theorem smD_mem {l : List (List V)} (h : smD l = true) : l.length ≤ 12 ∧ ∀ a, a ∈ l → a.length ≤ 70 ∧ smA a = true := by
  unfold smD at h
  split at h
  · cases h
  · exact ⟨by omega, smL_mem h⟩

set_option maxRecDepth 100000 in
set_option maxHeartbeats 1600000 in
theorem smallD_any (l : List (List V)) (x : Value) (w : World) (B : Nat) (hx : LAx w B x l) (hB : B ≤ w.heap.size) :
    Calls Tryd.prog 7 #[.agg #[x]] w fun e w' => e = .returned (.bool (smD l)) ∧ Below w.heap.size w w' := by
  have HX := Lib.hid hx
  obtain ⟨oa, ca, rfl, _, _⟩ := hx.form
  clear hx
  by_cases h8 : 12 < (l.length : Int)
  · have HZ := Lib.hid (smD_big h8)
    go_enter Tryd.func7, Tryd.ntmps7
    go_wp2_with fail
    go_ret
    exact ⟨ret_bool HZ.out.symm, below1 _ _⟩
  have HZ := Lib.hid (smD_in h8)
  go_enter Tryd.func7, Tryd.ntmps7
  go_wp2_with fail
  have HB0 := Lib.hid (below1 w (.cells #[.slice oa l.length ca] 24))
  have HBX := Lib.hid (Below.refl (w.heap.size + 1) (w.alloc (.cells #[.slice oa l.length ca] 24)))
  go_loopw [3] (fun i wr => ∃ k : Nat, k ≤ l.length ∧ i = .int .i64 k ∧ Hid (smL (l.drop k) = smL l) ∧ Below (w.heap.size + 1) (w.alloc (.cells #[.slice oa l.length ca] 24)) wr) (fun i _ => l.length - (intOf i).toNat)
  case atStart => exact ⟨0, Nat.zero_le _, rfl, Lib.hid rfl, HBX.out⟩
  case round =>
    obtain ⟨k, hk, rfl, HD, hbel⟩ := hrel
    obtain ⟨wo, hwo⟩ : ∃ wo : World, wo = wr := ⟨_, rfl⟩
    subst hwo
    have hd := dbox hbel
    by_cases hlt : k < l.length
    · have HS := Lib.hid (drop_l l k hlt)
      obtain ⟨b, off, oe, ce, rfl, hb, h0, hrep⟩ := HX.out.at_ (List.getElem?_eq_getElem hlt)
      have HRP := Lib.hid hrep
      have HH := Lib.hid h0
      have HBB := Lib.hid (Nat.lt_of_lt_of_le hb hB)
      have HBW := Lib.hid (HB0.out.trans (hbel.mono (Nat.le_succ _)))
      rw [← HBW.out.cell (p := ⟨b, _, none⟩) HBB.out] at h0
      have hki : (k : Int) < (l.length : Int) := by omega
      have hki0 : (0 : Int) ≤ (k : Int) := by omega
      obtain ⟨a, hak⟩ : ∃ a, l[k] = a := ⟨_, rfl⟩
      rw [hak] at h0 HH HS HRP
      clear hak hrep
      by_cases h1 : 70 < (a.length : Int)
      · have HV := Lib.hid (smL_big (l := l.drop (k + 1)) h1)
        go_wp2_with fail
        go_ret
        exact ⟨ret_bool (by rw [HZ.out, ← HD.out, HS.out, HV.out]), HBW.out⟩
      · have HV := Lib.hid (smL_in (l := l.drop (k + 1)) h1)
        go_wp2_with fail
        clear h0 hd
        go_loopw [4] (fun i wr => ∃ j : Nat, j ≤ a.length ∧ i = .int .i64 j ∧ Hid (smA (a.drop j) = smA a) ∧ Below (w.heap.size + 1) (w.alloc (.cells #[.slice (some ⟨b, off, none⟩) l.length ca] 24)) wr) (fun i _ => a.length - (intOf i).toNat)
        case atStart => exact ⟨0, Nat.zero_le _, rfl, Lib.hid rfl, hbel⟩
        case round =>
          obtain ⟨j, hj, rfl, HE, hbel2⟩ := hrel
          have hd := dbox hbel2
          have HBW2 := Lib.hid (HB0.out.trans (hbel2.mono (Nat.le_succ _)))
          have h0 := HH.out
          rw [← HBW2.out.cell (p := ⟨b, _, none⟩) HBB.out] at h0
          by_cases hjl : j < a.length
          · have HS2 := Lib.hid (drop_l a j hjl)
            obtain ⟨oa2, ca2, hsl, hlc, hlm, hel⟩ := (HRP.out.later (HBW2.out.mono hB)).slice
            obtain ⟨b2, off2, oe2, ce2, rfl, hb2, c0, c1, c2, c3, hr2⟩ := hel j _ (List.getElem?_eq_getElem hjl)
            cases hsl
            have hji : (j : Int) < (a.length : Int) := by omega
            have hji0 : (0 : Int) ≤ (j : Int) := by omega
            have hB2 : B ≤ wr.heap.size := Nat.le_trans hB HBW2.out.size
            have HC := Lib.hid (small_any a[j] _ wr B hr2 hB2)
            clear hel hr2
            go_wp2_with fail
            refine HC.out.mono ?_
            rintro e w4 ⟨rfl, hb4⟩
            by_cases hsm : a[j].small = true
            · have HT := Lib.hid hsm
              go_wp2_with fail
              go_roundw
              case rel => exact ⟨j + 1, hjl, by go_num, Lib.hid (by rw [← HE.out, HS2.out, smA, if_pos HT.out]), hbel2.trans (hb4.mono (by have := hbel2.size; simp at this; omega))⟩
              case measure => simp [intOf]; omega
            · have HT := Lib.hid hsm
              go_wp2_with fail
              go_ret
              refine ⟨ret_bool ?_, HBW2.out.trans (hb4.mono HBW2.out.size)⟩
              have e1 : smA a = false := by rw [← HE.out, HS2.out, smA, if_neg HT.out]
              rw [HZ.out, ← HD.out, HS.out, HV.out, e1]
              rfl
          · obtain rfl : j = a.length := by omega
            go_wp2_with fail
            go_roundw
            case rel =>
              refine ⟨k + 1, hlt, by go_num, Lib.hid ?_, hbel2⟩
              have e1 : smA a = true := by rw [← HE.out, List.drop_length, smA]
              rw [← HD.out, HS.out, HV.out, if_pos e1]
            case measure => simp [intOf]; omega
    · obtain rfl : k = l.length := by omega
      go_wp2_with fail
      go_ret
      exact ⟨ret_bool (by rw [HZ.out, ← HD.out, List.drop_length, smL]), HB0.out.trans (hbel.mono (Nat.le_succ _))⟩

end Go.Proofs.YthnlkijkgnmbhaaDoor
