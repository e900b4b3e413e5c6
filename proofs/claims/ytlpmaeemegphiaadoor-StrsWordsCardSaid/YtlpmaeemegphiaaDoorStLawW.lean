/-
  Word of the package and of the reference; the walk of StrsWords. Nothing is assumed.
-/
import Derived.Test.YtlpmaeemegphiaaDoorStWord2
import Derived.Test.YtlpmaeemegphiaaDoorStEnv
namespace Go.Proofs.YtlpmaeemegphiaaDoor
open Go.RowKit

/-- What Word returns. -/
def wdS (s : ByteArray) (k : Int) : ByteArray := match idx k (WS s 0).length with | some i => (WS s 0).getD i ⟨#[]⟩ | none => ⟨#[]⟩

set_option maxHeartbeats 800000 in
theorem word_any (s : ByteArray) (k : Int) (w : World) (hk0 : -9223372036854775808 ≤ k) (hs : s.size ≤ 1000) :
    Calls Tryd.prog 17 #[.string s, .int .i64 k] w fun e w' => e = .returned (.tuple #[.string (wdS s k), .int .i64 (ixE k (WS s 0).length)]) ∧ Below w.heap.size w w' := by
  have hlen := WS_len s 0
  have HC := fun w => index_any k (WS s 0).length w hk0 (by omega)
  clear hk0
  unfold wdS ixE
  unfold ixI ixE at HC
  have HW := fun w => words_any s w hs
  generalize WS s 0 = l at *
  cases hi : idx k l.length with
  | none =>
    simp only [hi] at HC ⊢
    clear hi
    go_enter Tryd.func17, Tryd.ntmps17
    go_wp2_with fail
    refine (HW _).mono ?_
    rintro e w1 ⟨⟨v, rfl, hown⟩, hb⟩
    obtain ⟨oa, cap, rfl, _, hel⟩ := hown.holds (by omega)
    clear hown hel
    go_wp2_with fail
    refine (HC _).mono ?_
    rintro e w' ⟨rfl, hw'⟩; obtain rfl := hw'.symm
    go_wp2_with fail
    go_ret2
    exact ⟨rfl, hb⟩
  | some i =>
    simp only [hi] at HC ⊢
    have hlt := idx_lt hi
    clear hi
    obtain ⟨z, hz⟩ : ∃ z, l[i]? = some z := ⟨_, List.getElem?_eq_getElem hlt⟩
    have hzD : l.getD i ⟨#[]⟩ = z := by rw [List.getD_eq_getElem?_getD, hz]; rfl
    rw [hzD]
    have hi0 : (0 : Int) ≤ (i : Int) := by omega
    have hi1 : (i : Int) < (l.length : Int) := by omega
    clear hzD
    go_enter Tryd.func17, Tryd.ntmps17
    go_wp2_with fail
    refine (HW _).mono ?_
    rintro e w1 ⟨⟨v, rfl, hown⟩, hb⟩
    obtain ⟨oa, cap, rfl, _, hel⟩ := hown.holds (by omega)
    obtain ⟨b, off, rfl, _, hcell⟩ := hel i z hz
    clear hown hel hz
    go_wp2_with fail
    refine (HC _).mono ?_
    rintro e w' ⟨rfl, hw'⟩; obtain rfl := hw'.symm
    go_wp2_with fail
    go_ret2
    exact ⟨rfl, hb⟩

set_option maxHeartbeats 800000 in
theorem rword_any (s : ByteArray) (k : Int) (w : World) (hk0 : -9223372036854775808 ≤ k) (hs : s.size ≤ 1000) :
    Calls Tryd.prog 18 #[.string s, .int .i64 k] w fun e w' => e = .returned (.tuple #[.string (wdS s k), .int .i64 (ixE k (WS s 0).length)]) ∧ Below w.heap.size w w' := by
  have hlen := WS_len s 0
  have HC := fun w => rindex_any k (WS s 0).length w hk0 (by omega)
  clear hk0
  unfold wdS ixE
  unfold ixR at HC
  have HW := fun w => rwords_any s w hs
  generalize WS s 0 = l at *
  cases hi : idx k l.length with
  | none =>
    simp only [hi] at HC ⊢
    clear hi
    go_enter Tryd.func18, Tryd.ntmps18
    go_wp2_with fail
    refine (HW _).mono ?_
    rintro e w1 ⟨⟨v, rfl, hown⟩, hb⟩
    obtain ⟨oa, cap, rfl, _, hel⟩ := hown.holds (by omega)
    clear hown hel
    go_wp2_with fail
    refine (HC _).mono ?_
    rintro e w' ⟨rfl, hw'⟩; obtain rfl := hw'.symm
    go_wp2_with fail
    go_ret2
    exact ⟨rfl, hb⟩
  | some i =>
    simp only [hi] at HC ⊢
    have hlt := idx_lt hi
    clear hi
    obtain ⟨z, hz⟩ : ∃ z, l[i]? = some z := ⟨_, List.getElem?_eq_getElem hlt⟩
    have hzD : l.getD i ⟨#[]⟩ = z := by rw [List.getD_eq_getElem?_getD, hz]; rfl
    rw [hzD]
    have hi0 : (0 : Int) ≤ (i : Int) := by omega
    have hi1 : (i : Int) < (l.length : Int) := by omega
    clear hzD
    go_enter Tryd.func18, Tryd.ntmps18
    go_wp2_with fail
    refine (HW _).mono ?_
    rintro e w1 ⟨⟨v, rfl, hown⟩, hb⟩
    obtain ⟨oa, cap, rfl, _, hel⟩ := hown.holds (by omega)
    obtain ⟨b, off, rfl, _, hcell⟩ := hel i z hz
    clear hown hel hz
    go_wp2_with fail
    refine (HC _).mono ?_
    rintro e w' ⟨rfl, hw'⟩; obtain rfl := hw'.symm
    go_wp2_with fail
    go_ret2
    exact ⟨rfl, hb⟩

set_option maxRecDepth 100000 in
set_option maxHeartbeats 1600000 in
theorem lawWords_any (s : ByteArray) (k : Int) (w : World) (hE : Env w) (hk : -9223372036854775808 ≤ k) :
    Calls Tryd.prog 4 #[.string s, .int .i64 k] w fun e w' => e = .returned (.bool true) ∧ Below w.heap.size w w' := by
  by_cases hl : 100 < (s.size : Int)
  · go_enter Tryd.func4, Tryd.ntmps4
    go_wp2_with fail
    refine (alive_any w hE).mono ?_
    rintro e w2 ⟨rfl, hb⟩
    go_wp2_with fail
    go_ret
    exact ⟨rfl, hb⟩
  have hs : s.size ≤ 1000 := by omega
  have H1 := fun w => word_any s k w hk hs
  have H2 := fun w => rword_any s k w hk hs
  generalize wdS s k = S1 at *
  generalize ixE k (WS s 0).length = E1 at *
  clear hk
  go_enter Tryd.func4, Tryd.ntmps4
  go_wp2_with fail
  refine (H1 _).mono ?_
  rintro e w1 ⟨rfl, hb⟩
  go_wp2_with fail
  refine (H2 _).mono ?_
  rintro e w2 ⟨rfl, hb2⟩
  replace hb := hb.trans (hb2.mono hb.size)
  clear hb2
  have HE := Lib.hid (hE.later hb)
  go_wp2_with fail
  refine (alive_any _ HE.out).mono ?_
  rintro e w3 ⟨rfl, hb2⟩
  go_wp2_with fail
  go_ret
  exact ⟨rfl, hb.trans (hb2.mono hb.size)⟩

end Go.Proofs.YtlpmaeemegphiaaDoor
