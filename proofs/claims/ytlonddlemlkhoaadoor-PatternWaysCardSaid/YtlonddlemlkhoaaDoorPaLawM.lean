/-
  The walk of PatternMatches. Nothing is assumed.
-/
import Derived.Test.YtlonddlemlkhoaaDoorPaAwake
import Derived.Test.YtlonddlemlkhoaaDoorRfN
namespace Go.Proofs.YtlonddlemlkhoaaDoor
open Go.RowKit

theorem match_acc {p : ByteArray} {t : PT} (h : TP p t) (L : List UInt8) : matchE t L = accT (buildT t).1 (buildT t).2 L := by
  have h1 := build_acc t h.lv L
  have h2 := row0_ends (ends_lang L t h.fit ((List.replicate (L.length + 1) false).set 0 true) (by simp))
  have h3 : matchE t L = true ↔ Lg t L := h2
  rw [Bool.eq_iff_iff, h3, h1]
/-- Whether a pattern matches a text; false where it is none. -/
def accZ (p s : ByteArray) : Bool := if errP p = 0 then accS p s else false

set_option maxRecDepth 100000 in
theorem match_bad (p s : ByteArray) (w : World) (hA : AL w) (h0 : errP p ≠ 0) :
    Calls Tryd.prog 13 #[.string p, .string s] w fun e w' => e = .returned (.tuple #[.bool false, .int .i64 (errP p)]) ∧ Below w.heap.size w w' := by
  have HC := Lib.hid (compile_any p w hA)
  have H0 := Lib.hid h0
  have hne : ((errP p != 0) : Bool) = true := by rw [bne_iff_ne]; exact h0
  clear hA h0
  go_enter Tryd.func13, Tryd.ntmps13
  go_wp2_with fail
  refine HC.out.mono ?_
  rintro e w1 ⟨⟨_, rfl⟩ | ⟨t, m, g, cap, h, _⟩, hb1⟩
  · have hb2 := hb1.trans ((below1 w1 (.cells #[.slice none 0 0, .int .u64 0] 59)).mono hb1.size)
    clear hb1
    go_wp2_with fail
    go_ret2
    exact ⟨rfl, hb2⟩
  · exact absurd h H0.out
theorem match_all (p s : ByteArray) (w : World) (hA : AL w) (hs : s.size ≤ 1000) :
    Calls Tryd.prog 13 #[.string p, .string s] w fun e w' => e = .returned (.tuple #[.bool (accZ p s), .int .i64 (errP p)]) ∧ Below w.heap.size w w' := by
  unfold accZ
  by_cases h0 : errP p = 0
  · rw [if_pos h0, h0]
    exact match_any p s w hA h0 hs
  · rw [if_neg h0]
    exact match_bad p s w hA h0
set_option maxRecDepth 100000 in
theorem rmatch_bad (p s : ByteArray) (w : World) (h0 : errP p ≠ 0) :
    Calls Tryd.prog 14 #[.string p, .string s] w fun e w' => e = .returned (.tuple #[.bool false, .int .i64 (errP p)]) ∧ Below w.heap.size w w' := by
  have HC := Lib.hid (rParse_any p w)
  have H0 := Lib.hid h0
  have hne : ((errP p != 0) : Bool) = true := by rw [bne_iff_ne]; exact h0
  clear h0
  go_enter Tryd.func14, Tryd.ntmps14
  go_wp2_with fail
  refine HC.out.mono ?_
  rintro e w1 ⟨⟨_, m, rfl, _⟩ | ⟨h, _⟩, hb1⟩
  · have hb2 := hb1.trans ((below1 w1 (.cells #[.int .i64 0, .int .u64 0, .int .u64 0, .int .u64 0, .int .u64 0, .slice none 0 0] 33)).mono hb1.size)
    clear hb1
    unfold zeroR
    go_wp2_with fail
    go_ret2
    exact ⟨rfl, hb2⟩
  · exact absurd h H0.out
theorem rmatch_all (p s : ByteArray) (w : World) (hs : s.size ≤ 100) :
    Calls Tryd.prog 14 #[.string p, .string s] w fun e w' => e = .returned (.tuple #[.bool (accZ p s), .int .i64 (errP p)]) ∧ Below w.heap.size w w' := by
  unfold accZ
  by_cases h0 : errP p = 0
  · obtain ⟨t, ht⟩ := TP.of h0
    obtain ⟨m, hm⟩ := ht.parse
    have h := rMatch_any p s hs t m h0 hm ht.fit ht.sok w
    have e : accS p s = matchE t s.data.toList := by unfold accS; rw [hm, match_acc ht]
    rw [if_pos h0, h0, e]
    exact h
  · rw [if_neg h0]
    exact rmatch_bad p s w h0

set_option maxRecDepth 100000 in
set_option maxHeartbeats 3200000 in
theorem law_pmatches (p s : ByteArray) (w : World) (hA : AL w) : Calls Tryd.prog 4 #[.string p, .string s] w fun e w' => e = .returned (.bool true) ∧ Below w.heap.size w w' := by
  by_cases hbig : 100 < p.size
  · have HA := Lib.hid (awake_any w hA)
    have hbI : (p.size : Int) > 100 := by omega
    clear hbig
    go_enter Tryd.func4, Tryd.ntmps4
    go_wp2_with fail
    refine HA.out.mono ?_
    rintro e w1 ⟨rfl, hb⟩
    go_wp2_with fail
    go_ret
    exact ⟨rfl, hb⟩
  have hpI : ¬ (p.size : Int) > 100 := by omega
  by_cases hbig2 : 40 < s.size
  · have HA := Lib.hid (awake_any w hA)
    have hbI : (s.size : Int) > 40 := by omega
    clear hbig hbig2
    go_enter Tryd.func4, Tryd.ntmps4
    go_wp2_with fail
    refine HA.out.mono ?_
    rintro e w1 ⟨rfl, hb⟩
    go_wp2_with fail
    go_ret
    exact ⟨rfl, hb⟩
  have hsI : ¬ (s.size : Int) > 40 := by omega
  have HM := Lib.hid (match_all p s w hA (by omega))
  have HR := Lib.hid (fun V => rmatch_all p s V (by omega))
  have HA := Lib.hid hA
  clear hA hbig hbig2
  generalize accZ p s = z at *
  generalize errP p = ee at *
  go_enter Tryd.func4, Tryd.ntmps4
  go_wp2_with fail
  refine HM.out.mono ?_
  rintro e w1 ⟨rfl, hb1⟩
  have HB1 := Lib.hid hb1
  clear hb1
  go_wp2_with fail
  refine (HR.out w1).mono ?_
  rintro e w2 ⟨rfl, hb2⟩
  have HB2 := Lib.hid (HB1.out.trans (hb2.mono HB1.out.size))
  have HAw := Lib.hid (awake_any w2 (HA.out.later HB2.out))
  clear hb2
  go_wp2_with fail
  refine HAw.out.mono ?_
  rintro e w3 ⟨rfl, hb3⟩
  have HB3 := Lib.hid (HB2.out.trans (hb3.mono HB2.out.size))
  clear hb3
  go_wp2_with fail
  go_ret
  exact ⟨rfl, HB3.out⟩
end Go.Proofs.YtlonddlemlkhoaaDoor
