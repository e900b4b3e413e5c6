/-
  distinct of the package. Nothing is assumed.
-/
import Derived.Test.YtampofpllijfhaaTbDup
import Derived.Test.YtampofpllijfhaaShelf
namespace Go.Proofs.Ytampofpllijfhaa
open Go.RowKit

def dstS (acc : Row) (s : ByteArray) : Row := if Lib.containsS acc s then acc else acc ++ [s]
/-- Each text once, in the order of the first occurrences. -/
def dst (l : Row) : Row := l.foldl dstS []
def dstK (l : Row) (k : Nat) : Row := dst (l.take k)
theorem dstK_next (l : Row) (k : Nat) (h : k < l.length) : dstK l (k + 1) = dstS (dstK l k) l[k] := by
  unfold dstK dst
  rw [take_snoc l k h, List.foldl_append]
  rfl
theorem dstS_len (acc : Row) (s : ByteArray) : (dstS acc s).length ≤ acc.length + 1 := by
  unfold dstS
  split
  · omega
  · simp
theorem dstK_len (l : Row) : ∀ k, k ≤ l.length → (dstK l k).length ≤ k := by
  intro k
  induction k with
  | zero => intro _; simp [dstK, dst]
  | succ k ih =>
    intro h
    rw [dstK_next l k (by omega)]
    have := dstS_len (dstK l k) l[k]
    have := ih (by omega)
    omega

theorem contains_own (w : World) (base : Nat) (v : Value) (l : Row) (x : ByteArray) (h : OwnS w base v l) (hl : l.length ≤ 1000) :
    Calls Try.prog 77 #[v, .string x] w fun e w' => e = .returned (.bool (Lib.containsS l x)) ∧ w = w' := by
  rcases owns_cells h (by simp) with ⟨rfl, h0⟩ | ⟨g, cap, rfl, hg, hlt, hcap, hmx, hel⟩
  · obtain rfl := List.eq_nil_of_length_eq_zero h0
    exact (Try.slices_Contains_string_empty none 0 x w).mono fun e w' ⟨h1, h2⟩ => ⟨h1, h2.symm⟩
  · refine (Try.slices_Contains_string g 0 l.length cap l x w (Nat.le_refl _) (by omega) (fun j hj => ?_)).mono fun e w' ⟨h1, h2⟩ => ⟨by rw [List.take_length] at h1; exact h1, h2.symm⟩
    rw [Nat.zero_add]
    have e : l.getD j ByteArray.empty = l[j] := by simp [List.getD, hj]
    rw [e]
    exact hel j _ (by rw [List.getElem?_map, List.getElem?_eq_getElem hj]; rfl)

set_option maxRecDepth 100000 in
set_option maxHeartbeats 1600000 in
theorem distinct_any (x : Value) (l : List ByteArray) (w : World) (B : Nat) (hx : HoldsS w (· < B) x l) (hB : B ≤ w.heap.size) (hl : l.length ≤ 100) :
    Calls Try.prog 66 #[x] w fun e w' => (∃ v, e = .returned v ∧ OwnS w' w.heap.size v (dst l)) ∧ Below w.heap.size w w' := by
  have HX := Lib.hid hx
  obtain ⟨oa, ca, rfl, _, _⟩ := hx.form
  clear hx
  go_enter Try.func66, Try.ntmps66
  go_wp2_with fail
  go_loopw [3, 8] (fun v j wr => ∃ k : Nat, k ≤ l.length ∧ j = .int .i64 k ∧ Hid (OwnS wr w.heap.size v (dstK l k)) ∧ Below w.heap.size w wr) (fun _ j _ => l.length - (intOf j).toNat)
  case atStart => exact ⟨0, Nat.zero_le _, rfl, Lib.hid (OwnS.none _ _), Below.refl _ _⟩
  case round =>
    obtain ⟨k, hk, rfl, HO, hbel⟩ := hrel
    have hsz := hbel.size
    by_cases hlt : k < l.length
    · obtain ⟨b, off, rfl, hb, hc⟩ := HX.out.at_ (List.getElem?_eq_getElem hlt)
      rw [← hbel.cell (p := ⟨b, _, none⟩) (Nat.lt_of_lt_of_le hb hB)] at hc
      have hki0 : (0 : Int) ≤ (k : Int) := by omega
      have hki1 : (k : Int) < (l.length : Int) := by omega
      have HN := Lib.hid (dstK_next l k hlt)
      have HLK := Lib.hid (dstK_len l k hk)
      have HCT := Lib.hid (contains_own wr w.heap.size _ (dstK l k) l[k] HO.out (by have := HLK.out; omega))
      obtain ⟨D, hD⟩ : ∃ D, dstK l k = D := ⟨_, rfl⟩
      rw [hD] at HO HN HLK HCT
      clear hD
      by_cases hct : Lib.containsS D l[k] = true
      · have HN2 : Hid (dstK l (k + 1) = D) := Lib.hid (by rw [HN.out]; exact if_pos hct)
        rw [hct] at HCT
        clear hct
        go_wp2_with fail
        refine HCT.out.mono ?_
        rintro e w' ⟨rfl, rfl⟩
        go_wp2_with fail
        go_roundw
        case rel => exact ⟨k + 1, hlt, by go_num, Lib.hid (by rw [HN2.out]; exact HO.out), hbel⟩
        case measure => simp [intOf]; omega
      · have HN2 : Hid (dstK l (k + 1) = D ++ [l[k]]) := Lib.hid (by rw [HN.out]; exact if_neg hct)
        rw [Bool.not_eq_true] at hct
        rw [hct] at HCT
        clear hct
        go_wp2_with fail
        refine HCT.out.mono ?_
        rintro e w' ⟨rfl, rfl⟩
        go_wp2_with (at_builtin; refine append_src rfl _ _ rfl w.heap.size _ _ rfl (HO.out.later (below1 _ _)) (some ⟨wr.heap.size, 0, none⟩) 1 1 rfl [l[k]] rfl (one_src _ _ _) ?c0 ?c1 ?_)
        case c0 => have := HLK.out; omega
        case c1 => simp; omega
        intro v2 w2 hown2 hgrow2
        have hb3 := below_grownT (hbel.alloc hsz _) (by simp; omega) (HO.out.later (below1 _ _)) hgrow2
        have HW := Lib.hid hown2
        clear hown2 hgrow2
        go_wp2_with fail
        go_roundw
        case rel => exact ⟨k + 1, hlt, by go_num, Lib.hid (by rw [HN2.out]; exact HW.out), hb3⟩
        case measure => simp [intOf]; omega
    · obtain rfl : k = l.length := by omega
      have HF : Hid (dstK l l.length = dst l) := Lib.hid (by unfold dstK; rw [List.take_length])
      go_wp2_with fail
      go_ret
      exact ⟨⟨_, rfl, by have h := HO.out; rw [HF.out] at h; exact h⟩, hbel⟩

end Go.Proofs.Ytampofpllijfhaa
