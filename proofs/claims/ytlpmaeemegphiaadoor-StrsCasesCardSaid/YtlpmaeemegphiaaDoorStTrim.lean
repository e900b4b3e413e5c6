/-
  The contracts of Trim, of the package and of the reference. Nothing is assumed.
-/
import Derived.Test.YtlpmaeemegphiaaDoorStRefC
import Derived.Test.YtlpmaeemegphiaaDoorStWordP
import Derived.Test.YtlpmaeemegphiaaDoorShelf
namespace Go.Proofs.YtlpmaeemegphiaaDoor
open Go.RowKit

theorem trim_any (s : ByteArray) (w : World) (hs : s.size ≤ 1000) :
    Calls Tryd.prog 21 #[.string s] w fun e w' => e = .returned (.string (str (Lib.trimB s.data.toList 32))) ∧ Below w.heap.size w w' := by
  go_enter Tryd.func21, Tryd.ntmps21
  go_wp2_with fail
  refine (Tryd.strings_Trim_one s 32 (by decide) _ (by omega)).mono ?_
  rintro e w1 ⟨rfl, hw⟩
  have hb : Below w.heap.size w w1 := by
    rcases hw with rfl | rfl
    · exact Below.refl _ _
    · exact (Below.refl _ _).drew
  clear hw
  go_wp2_with fail
  go_ret
  exact ⟨rfl, hb⟩

/-- The piece from place i on, n long. -/
def piece (l : List UInt8) (i n : Nat) : ByteArray := str ((l.drop i).take n)
theorem piece_size (l : List UInt8) (i n : Nat) (h : i + n ≤ l.length) : (piece l i n).size = n := by
  unfold piece
  rw [str_size, List.length_take, List.length_drop]
  omega
theorem piece_tail (l : List UInt8) (i n m : Nat) (hm : m = n) : (piece l i n).extract 1 m = piece l (i + 1) (n - 1) := by
  unfold piece
  rw [str_extract, List.drop_take, List.drop_drop, List.take_take, hm]
  congr 2
  omega
theorem piece_front (l : List UInt8) (i n m : Nat) (hm : m ≤ n) : (piece l i n).extract 0 m = piece l i m := by
  unfold piece
  rw [str_extract, List.drop_zero, List.take_take]
  congr 2
  omega
theorem piece_at (l : List UInt8) (i n j : Nat) (h : j < (piece l i n).size) : l[i + j]? = some ((piece l i n)[j]'h) := by
  have h1 := Lib.getElem_mk ((l.drop i).take n) j h
  have hj : j < ((l.drop i).take n).length := by
    have := (List.getElem?_eq_some_iff.1 h1).1
    exact this
  rw [List.length_take] at hj
  rw [List.getElem?_take, if_pos (by omega), List.getElem?_drop] at h1
  exact h1

set_option maxRecDepth 100000 in
set_option maxHeartbeats 1600000 in
theorem rtrim_any (s : ByteArray) (w : World) (hs : s.size ≤ 1000) :
    Calls Tryd.prog 24 #[.string s] w fun e w' => e = .returned (.string (str (Lib.trimB s.data.toList 32))) ∧ w' = w := by
  obtain ⟨l, hl⟩ : ∃ l, s.data.toList = l := ⟨_, rfl⟩
  have hlen : l.length = s.size := by rw [← hl]; exact list_len s
  have hsl : s = piece l 0 l.length := by
    unfold piece
    rw [List.drop_zero, List.take_length, ← hl]
    exact (str_of s).symm
  rw [hl]
  have HLEN : Hid (l.length ≤ 1000) := Lib.hid (by omega)
  clear hl hs hlen
  subst hsl
  go_enter Tryd.func24, Tryd.ntmps24
  go_wp2_with fail
  go_loopg [0] l.length (fun g v wr => ∃ (i n : Nat) (T : ByteArray), v = .string T ∧ Hid (T = piece l i n) ∧ i + n = l.length ∧ n = g ∧ Hid (∀ (j : Nat) c, j < i → l[j]? = some c → c = 32) ∧ wr = w)
  case atStart => exact ⟨0, l.length, _, rfl, rfl, by omega, rfl, fun j c hj => absurd hj (Nat.not_lt_zero j), rfl⟩
  case round =>
    obtain ⟨i, n, T, rfl, HT, hin, rfl, HI, hw⟩ := hrel
    obtain rfl := hw.symm
    have HIN := Lib.hid hin
    have hsz : T.size = n := by rw [HT.out]; exact piece_size l i n (by omega)
    have HS := Lib.hid hsz
    clear hin hsz
    by_cases hc : ∃ h : 0 < T.size, T[0]'h = 32
    · obtain ⟨h0, hsp⟩ := hc
      have h0i : (0 : Int) < (T.size : Int) := by omega
      have hb : (((T[0]'h0).toNat : Int) == 32) = true := by rw [byte32']; simpa using hsp
      have h1 : 1 ≤ T.size := h0
      have HI2 : Hid (∀ (j : Nat) c, j < i + 1 → l[j]? = some c → c = 32) := Lib.hid (fun j c hj hjc => by
        rcases Nat.lt_or_ge j i with h | h
        · exact HI.out j c h hjc
        · obtain rfl : j = i := by omega
          have hT := HT.out
          subst hT
          have := piece_at l j n 0 h0
          rw [Nat.add_zero, hjc] at this
          cases this
          exact hsp)
      have HT2 : Hid (T.extract 1 T.size = piece l (i + 1) (n - 1)) := Lib.hid (by
        have e := HS.out
        rw [HT.out] at e ⊢
        exact piece_tail l i n _ e)
      clear hsp
      go_wp2_with fail
      go_roundg (n - 1)
      case measure => have := HS.out; omega
      case rel => exact ⟨i + 1, n - 1, _, rfl, HT2, by have := HIN.out; have := HS.out; omega, rfl, HI2, rfl⟩
    · have H3 : Hid (∀ c, 0 < n → l[i]? = some c → c ≠ 32) := Lib.hid (fun c hn hic e => by
        have hT := HT.out
        have hS := HS.out
        subst hT
        have h0 : 0 < (piece l i n).size := by omega
        have := piece_at l i n 0 h0
        rw [Nat.add_zero, hic] at this
        cases this
        exact hc ⟨h0, e⟩)
      have hcase : T.size = 0 ∨ ∃ h : 0 < T.size, (((T[0]'h).toNat : Int) == 32) = false := by
        rcases Nat.eq_zero_or_pos T.size with h | h
        · exact .inl h
        · refine .inr ⟨h, ?_⟩
          rw [byte32']
          exact decide_eq_false fun e => hc ⟨h, e⟩
      clear hc
      rcases hcase with h | ⟨h, hb⟩
      all_goals
        first
          | (have hn0 : ¬ ((0 : Int) < (T.size : Int)) := by omega
             clear h
             go_wp2_with fail)
          | (have hn0 : (0 : Int) < (T.size : Int) := by omega
             go_wp2_with fail)
        clear hn0
        try clear hb
        go_loopg [0] n (fun g v wr => ∃ (m : Nat) (T : ByteArray), v = .string T ∧ Hid (T = piece l i m) ∧ m ≤ n ∧ m = g ∧ Hid (∀ (j : Nat) c, i + m ≤ j → l[j]? = some c → c = 32) ∧ wr = w)
        case atStart =>
          refine ⟨n, T, rfl, HT, Nat.le_refl _, rfl, fun j c hj hjc => ?_, rfl⟩
          have := (List.getElem?_eq_some_iff.1 hjc).1
          have := HIN.out
          omega
        case round =>
          clear HT HS
          obtain ⟨m, T, rfl, HT, hmn, rfl, HJ, hw⟩ := hrel
          obtain rfl := hw.symm
          have hin := HIN.out
          have hsz : T.size = m := by rw [HT.out]; exact piece_size l i m (by omega)
          have HS := Lib.hid hsz
          have HMN := Lib.hid hmn
          by_cases hc : ∃ h : T.size - 1 < T.size, T[T.size - 1]'h = 32
          · obtain ⟨h0, hsp⟩ := hc
            obtain ⟨k, hk⟩ : ∃ k : Nat, (T.size : Int) - 1 = (k : Int) := ⟨T.size - 1, by omega⟩
            have hk2 : k < T.size := by omega
            have hk3 : T.size - 1 = k := by omega
            have h0i : (0 : Int) < (T.size : Int) := by omega
            simp only [hk3] at hsp
            have hb : (((T[k]'hk2).toNat : Int) == 32) = true := by rw [byte32']; simpa using hsp
            have hk4 : (k : Int) < (T.size : Int) := by omega
            have hk5 : k ≤ T.size := by omega
            have hk6 : (k : Int) ≤ 1000 := by have := HLEN.out; omega
            have HK : Hid (k = m - 1) := Lib.hid (by omega)
            have HJ2 : Hid (∀ (j : Nat) c, i + (m - 1) ≤ j → l[j]? = some c → c = 32) := Lib.hid (fun j c hj hjc => by
              rcases Nat.lt_or_ge j (i + m) with h | h
              · have hT := HT.out
                subst hT
                have := piece_at l i m k hk2
                have e : i + k = j := by omega
                rw [e, hjc] at this
                cases this
                exact hsp
              · exact HJ.out j c h hjc)
            have HT2 : Hid (T.extract 0 k = piece l i (m - 1)) := Lib.hid (by
              rw [HT.out, HK.out]
              exact piece_front l i m _ (by omega))
            clear hsp hin hsz hmn hk3 h0
            go_wp2_with fail
            go_roundg (m - 1)
            case measure => have := HS.out; omega
            case rel => exact ⟨m - 1, _, rfl, HT2, by have := HMN.out; omega, rfl, HJ2, rfl⟩
          · have HE : Hid (T = str (Lib.trimB l 32)) := Lib.hid (by
              have hT := HT.out
              rw [trim_both l i m (by omega) HI.out HJ.out (fun c hm => H3.out c (by omega)) (fun c hm hcc e => hc ⟨by omega, by
                have hk2 : T.size - 1 < T.size := by omega
                subst hT
                have := piece_at l i m _ hk2
                have e2 : i + ((piece l i m).size - 1) = i + m - 1 := by omega
                rw [e2, hcc] at this
                cases this
                exact e⟩)]
              exact hT)
            have hcase : T.size = 0 ∨ ∃ (k : Nat) (hk : k < T.size), (T.size : Int) - 1 = (k : Int) ∧ (((T[k]'hk).toNat : Int) == 32) = false := by
              rcases Nat.eq_zero_or_pos T.size with h | h
              · exact .inl h
              · refine .inr ⟨T.size - 1, by omega, by omega, ?_⟩
                rw [byte32']
                exact decide_eq_false fun e => hc ⟨by omega, e⟩
            clear hc hin hsz hmn
            have ht6 : (T.size : Int) ≤ 1000 := by have := HLEN.out; have := HS.out; have := HMN.out; have := HIN.out; omega
            rcases hcase with h | ⟨k, hk2, hk, hb⟩
            · have hn0 : ¬ ((0 : Int) < (T.size : Int)) := by omega
              clear h
              go_wp2_with fail
              go_ret
              exact ⟨ret_string HE.out, rfl⟩
            · have hn0 : (0 : Int) < (T.size : Int) := by omega
              have hk4 : (k : Int) < (T.size : Int) := by omega
              have hk6 : (k : Int) ≤ 1000 := by omega
              go_wp2_with fail
              go_ret
              exact ⟨ret_string HE.out, rfl⟩
end Go.Proofs.YtlpmaeemegphiaaDoor
