/-
  The walk of PatternSame. Nothing is assumed.
-/
import Derived.Test.YtaipaddfehpmgaaDoorPaAwake
import Derived.Test.YtaipaddfehpmgaaDoorRsS
import Derived.Test.YtaipaddfehpmgaaDoorRsQ
namespace Go.Proofs.YtaipaddfehpmgaaDoor
open Go.RowKit

set_option maxRecDepth 100000 in
set_option maxHeartbeats 1600000 in
theorem same_bad1 (p q : ByteArray) (w : World) (hA : AL w) (h0 : errP p ≠ 0) :
    Calls Tryd.prog 6 #[.string p, .string q] w fun e w' => e = .returned (.tuple #[.bool false, .int .i64 (errP p)]) ∧ Below w.heap.size w w' := by
  have HC := Lib.hid (compile_any p w hA)
  have H0 := Lib.hid h0
  have hne : ((errP p != 0) : Bool) = true := by rw [bne_iff_ne]; exact h0
  clear hA h0
  go_enter Tryd.func6, Tryd.ntmps6
  go_wp2_with fail
  refine HC.out.mono ?_
  rintro e w1 ⟨⟨_, rfl⟩ | ⟨t, m, g, cap, h, _⟩, hb1⟩
  · have hb2 := hb1.trans ((below1 w1 (.cells #[.slice none 0 0, .int .u64 0] 44)).mono hb1.size)
    clear hb1
    go_wp2_with fail
    go_ret2
    exact ⟨rfl, hb2⟩
  · exact absurd h H0.out
set_option maxRecDepth 100000 in
set_option maxHeartbeats 1600000 in
theorem same_bad2 (p q : ByteArray) (w : World) (hA : AL w) (h0 : errP p = 0) (h1 : errP q ≠ 0) :
    Calls Tryd.prog 6 #[.string p, .string q] w fun e w' => e = .returned (.tuple #[.bool false, .int .i64 (errP q)]) ∧ Below w.heap.size w w' := by
  have HC := Lib.hid (compile_any p w hA)
  have HD := Lib.hid (fun (V : World) (hV : AL V) => compile_any q V hV)
  have HA := Lib.hid hA
  have H0 := Lib.hid h0
  have H1 := Lib.hid h1
  have hne : ((errP q != 0) : Bool) = true := by rw [bne_iff_ne]; exact h1
  clear hA h0 h1
  go_enter Tryd.func6, Tryd.ntmps6
  go_wp2_with fail
  refine HC.out.mono ?_
  rintro e w1 ⟨⟨h, _⟩ | ⟨t, m, g, cap, _, _, rfl, _⟩, hb1⟩
  · exact absurd H0.out h
  generalize (buildT t).1 = ps at *
  generalize (buildT t).2 = last at *
  have hb2 := hb1.trans ((below1 w1 (.cells #[.slice (some ⟨g, 0, none⟩) ps.length cap, .int .u64 last] 44)).mono hb1.size)
  have HB2 := Lib.hid hb2
  clear hb1 hb2 HC
  go_wp2_with fail
  refine (HD.out _ (HA.out.later HB2.out)).mono ?_
  rintro e w3 ⟨⟨_, rfl⟩ | ⟨t, m, g, cap, h, _⟩, hb3⟩
  · have hb4 := HB2.out.trans ((hb3.trans ((below1 w3 (.cells #[.slice none 0 0, .int .u64 0] 44)).mono hb3.size)).mono HB2.out.size)
    clear hb3
    go_wp2_with fail
    go_ret2
    exact ⟨rfl, hb4⟩
  · exact absurd h H1.out
set_option maxRecDepth 100000 in
set_option maxHeartbeats 1600000 in
theorem rsame_bad1 (p q : ByteArray) (w : World) (h0 : errP p ≠ 0) :
    Calls Tryd.prog 7 #[.string p, .string q] w fun e w' => e = .returned (.tuple #[.bool false, .int .i64 (errP p)]) ∧ Below w.heap.size w w' := by
  have HC := Lib.hid (rParse_any p w)
  have H0 := Lib.hid h0
  have hne : ((errP p != 0) : Bool) = true := by rw [bne_iff_ne]; exact h0
  clear h0
  go_enter Tryd.func7, Tryd.ntmps7
  go_wp2_with fail
  refine HC.out.mono ?_
  rintro e w1 ⟨⟨_, m, rfl, _⟩ | ⟨h, _⟩, hb1⟩
  · have hb2 := hb1.trans ((below1 w1 (.cells #[.int .i64 0, .int .u64 0, .int .u64 0, .int .u64 0, .int .u64 0, .slice none 0 0] 60)).mono hb1.size)
    clear hb1
    unfold zeroR
    go_wp2_with fail
    go_ret2
    exact ⟨rfl, hb2⟩
  · exact absurd h H0.out
set_option maxRecDepth 100000 in
set_option maxHeartbeats 1600000 in
theorem rsame_bad2 (p q : ByteArray) (t : PT) (ht : TP p t) (w : World) (h1 : errP q ≠ 0) :
    Calls Tryd.prog 7 #[.string p, .string q] w fun e w' => e = .returned (.tuple #[.bool false, .int .i64 (errP q)]) ∧ Below w.heap.size w w' := by
  have HC := Lib.hid (rparse_tp ht w)
  have HD := Lib.hid (fun (V : World) => rParse_any q V)
  have H1 := Lib.hid h1
  have hne : ((errP q != 0) : Bool) = true := by rw [bne_iff_ne]; exact h1
  clear ht h1
  unfold PT.val at HC
  go_enter Tryd.func7, Tryd.ntmps7
  go_wp2_with fail
  refine HC.out.mono ?_
  rintro e w1 ⟨⟨oe, ce, rfl, _⟩, hb1⟩
  have HB2 := Lib.hid (hb1.trans ((below1 w1 (.cells #[.int .i64 t.k, .int .u64 t.s.a, .int .u64 t.s.b, .int .u64 t.s.c, .int .u64 t.s.d, .slice oe t.l.length ce] 60)).mono hb1.size))
  clear hb1 HC
  go_wp2_with fail
  refine (HD.out _).mono ?_
  rintro e w3 ⟨⟨_, m, rfl, _⟩ | ⟨h, _⟩, hb3⟩
  · have hb4 := HB2.out.trans ((hb3.trans ((below1 w3 (.cells #[.int .i64 0, .int .u64 0, .int .u64 0, .int .u64 0, .int .u64 0, .slice none 0 0] 60)).mono hb3.size)).mono HB2.out.size)
    clear hb3
    unfold zeroR
    go_wp2_with fail
    go_ret2
    exact ⟨rfl, hb4⟩
  · exact absurd h H1.out
/-- What Same returns, on both sides. -/
theorem same_both (p q : ByteArray) : ∃ (b : Bool) (n : Int),
    (∀ V : World, AL V → Calls Tryd.prog 6 #[.string p, .string q] V fun e w' => e = .returned (.tuple #[.bool b, .int .i64 n]) ∧ Below V.heap.size V w') ∧
    ∀ V : World, Calls Tryd.prog 7 #[.string p, .string q] V fun e w' => e = .returned (.tuple #[.bool b, .int .i64 n]) ∧ Below V.heap.size V w' := by
  by_cases h0 : errP p = 0
  · obtain ⟨t, ht⟩ := TP.of h0
    by_cases h1 : errP q = 0
    · obtain ⟨u, hu⟩ := TP.of h1
      obtain ⟨m, hm⟩ := ht.parse
      obtain ⟨k, hk⟩ := hu.parse
      have e := rsame_eq ht.al ht.fit (tp_lv ht) hu.al hu.fit (tp_lv hu)
      refine ⟨(sameT t u).1, (sameT t u).2, fun V hV => same_pat p q t u ht hu V hV, fun V => ?_⟩
      have h := rsame_any p q t u ht hu V
      rw [e] at h
      exact h
    · exact ⟨false, errP q, fun V hV => same_bad2 p q V hV h0 h1, fun V => rsame_bad2 p q t ht V h1⟩
  · exact ⟨false, errP p, fun V hV => same_bad1 p q V hV h0, fun V => rsame_bad1 p q V h0⟩

set_option maxRecDepth 100000 in
set_option maxHeartbeats 3200000 in
theorem law_psame (p q : ByteArray) (w : World) (hA : AL w) : Calls Tryd.prog 3 #[.string p, .string q] w fun e w' => e = .returned (.bool true) ∧ Below w.heap.size w w' := by
  by_cases hbigp : 12 < p.size
  · have HA := Lib.hid (awake_any w hA)
    have hbI : (p.size : Int) > 12 := by omega
    clear hbigp
    go_enter Tryd.func3, Tryd.ntmps3
    go_wp2_with fail
    refine HA.out.mono ?_
    rintro e w1 ⟨rfl, hb⟩
    go_wp2_with fail
    go_ret
    exact ⟨rfl, hb⟩
  have hpI : ¬ (p.size : Int) > 12 := by omega
  by_cases hbigq : 12 < q.size
  · have HA := Lib.hid (awake_any w hA)
    have hbI : (q.size : Int) > 12 := by omega
    clear hbigp hbigq
    go_enter Tryd.func3, Tryd.ntmps3
    go_wp2_with fail
    refine HA.out.mono ?_
    rintro e w1 ⟨rfl, hb⟩
    go_wp2_with fail
    go_ret
    exact ⟨rfl, hb⟩
  have hqI : ¬ (q.size : Int) > 12 := by omega
  obtain ⟨b, n, h1, h2⟩ := same_both p q
  have HAI := Lib.hid hA
  have HAW := Lib.hid (fun (V : World) (hV : AL V) => awake_any V hV)
  have H1 := Lib.hid (h1 w hA)
  have H2 := Lib.hid h2
  clear hA hbigp hbigq h1 h2
  go_enter Tryd.func3, Tryd.ntmps3
  go_wp2_with fail
  refine H1.out.mono ?_
  rintro e w1 ⟨rfl, hb1⟩
  have HB1 := Lib.hid hb1
  clear hb1 H1
  go_wp2_with fail
  refine (H2.out w1).mono ?_
  rintro e w2 ⟨rfl, hb2⟩
  have HB2 := Lib.hid (HB1.out.trans (hb2.mono HB1.out.size))
  clear hb2 H2
  go_wp2_with fail
  refine (HAW.out w2 (HAI.out.later HB2.out)).mono ?_
  rintro e w3 ⟨rfl, hb3⟩
  have HB3 := Lib.hid (HB2.out.trans (hb3.mono HB2.out.size))
  clear hb3 HAW
  go_wp2_with fail
  go_ret
  exact ⟨rfl, HB3.out⟩
end Go.Proofs.YtaipaddfehpmgaaDoor
