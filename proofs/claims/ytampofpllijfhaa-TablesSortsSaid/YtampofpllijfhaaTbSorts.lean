/-
  Sort of the package. Nothing is assumed.
-/
import Derived.Test.YtampofpllijfhaaTbIsort
namespace Go.Proofs.Ytampofpllijfhaa
open Go.RowKit

set_option maxRecDepth 100000 in
set_option maxHeartbeats 1600000 in
theorem stable_any (ov : Option Addr) (cv : Nat) (t : Tab) (k n bx base : Nat) (w : World) (hA : AccD w base (.slice ov t.length cv) t) (hn : ∀ r ∈ t, r.length = n) (hk : k < n) (h8 : t.length ≤ 8) (h0 : w.cell? ⟨bx, 0, none⟩ = some (.int .i64 (k : Int))) (hbx : bx < base) :
    Calls Try.prog 75 #[.slice ov t.length cv, .int .i64 (t.length : Int), .func (.func 62) #[] #[.pointer (some ⟨bx, 0, none⟩)]] w fun e w' => e = .returned (.tuple #[]) ∧ AccD w' base (.slice ov t.length cv) (passes (keyS k) t.length t) ∧ Below base w w' := by
  have HI := Lib.hid (isort_any ov cv t k n bx base w hA hn hk h8 h0 hbx)
  have h8z : (t.length : Int) < 20 := by omega
  clear hA hn h0
  go_enter Try.func75, Try.ntmps75
  go_wp2_with fail
  go_loopw [7, 8] (fun a j wr => a = .int .i64 0 ∧ j = .int .i64 20 ∧ wr = w) (fun _ _ _ => 0)
  case atStart => exact ⟨rfl, rfl, rfl⟩
  case round =>
    obtain ⟨rfl, rfl, rfl⟩ := hrel
    go_wp2_with fail
    refine HI.out.mono ?_
    rintro e w1 ⟨rfl, h1, h2⟩
    have H1 := Lib.hid h1
    have H2 := Lib.hid h2
    clear h1 h2
    go_wp2_with fail
    go_loopw [6] (fun j wr => j = .int .i64 20 ∧ wr = w1) (fun _ _ => 0)
    case atStart => exact ⟨rfl, rfl⟩
    case round =>
      obtain ⟨rfl, rfl⟩ := hrel
      go_wp2_with fail
      go_end0
      exact ⟨rfl, H1.out, H2.out⟩

set_option maxRecDepth 100000 in
set_option maxHeartbeats 1600000 in
theorem sortStable_any (ov : Option Addr) (cv : Nat) (t : Tab) (k n bx base : Nat) (w : World) (hA : AccD w base (.slice ov t.length cv) t) (hn : ∀ r ∈ t, r.length = n) (hk : k < n) (h8 : t.length ≤ 8) (h0 : w.cell? ⟨bx, 0, none⟩ = some (.int .i64 (k : Int))) (hbx : bx < base) :
    Calls Try.prog 61 #[.slice ov t.length cv, .func (.func 62) #[] #[.pointer (some ⟨bx, 0, none⟩)]] w fun e w' => e = .returned (.tuple #[]) ∧ AccD w' base (.slice ov t.length cv) (passes (keyS k) t.length t) ∧ Below base w w' := by
  have HI := Lib.hid (stable_any ov cv t k n bx base w hA hn hk h8 h0 hbx)
  clear hA hn h0
  go_enter Try.func61, Try.ntmps61
  go_wp2_with fail
  refine HI.out.mono ?_
  rintro e w1 ⟨rfl, h1, h2⟩
  have H1 := Lib.hid h1
  have H2 := Lib.hid h2
  clear h1 h2
  go_wp2_with fail
  go_end0
  exact ⟨rfl, H1.out, H2.out⟩

set_option maxRecDepth 100000 in
set_option maxHeartbeats 1600000 in
theorem Sort_any (x : Value) (t : List (List ByteArray)) (i : Int) (w : World) (B : Nat) (hx : HoldsT w (· < B) x t) (hB : B ≤ w.heap.size) (hi : I64 i) :
    Calls Try.prog 31 #[x, .int .i64 i] w fun e w' => RetTE w w' (srtV t i) (locE (chkT t) i (colsT t)) e ∧ Below w.heap.size w w' := by
  have hb0 := below1 w (.cells #[.int .i64 i] 3)
  have hx0 := hx.later (hb0.mono hB)
  have HC := Lib.hid (columnIndex_any x t i _ (· < B) hx0 hi)
  have HX := Lib.hid hx
  obtain ⟨oa, ca, rfl, _, _⟩ := hx.form
  clear hx hx0
  by_cases hg : chkT t = 0 ∧ (idxO i (colsT t)).isSome = true
  · obtain ⟨hc, hk⟩ := hg
    obtain ⟨k, hk⟩ := Option.isSome_iff_exists.1 hk
    have hkl := idxO_lt hk
    have h8 := (chkT_rows hc).1
    have HR8 : Hid (∀ r ∈ t, r.length ≤ 100) := Lib.hid (fun r hr => by have := ((chkT_rows hc).2 r hr).2.2.1; omega)
    have HRN : Hid (∀ r ∈ t, r.length = colsT t) := Lib.hid (fun r hr => ((chkT_rows hc).2 r hr).1)
    obtain ⟨g1, g2⟩ := loc_good hc hk
    rw [g1, g2] at HC
    have HE : Hid (locE (chkT t) i (colsT t) = 0 ∧ srtV t i = passes (keyS k) t.length t) := Lib.hid ⟨g2, by unfold srtV; rw [if_pos g2, hk]; rfl⟩
    obtain ⟨n, hn⟩ : ∃ n, colsT t = n := ⟨_, rfl⟩
    rw [hn] at hkl HE HRN
    rw [hn]
    have HBW := Lib.hid (below1 w (.cells #[.int .i64 (k : Int)] 3))
    have HCK : Hid ((w.alloc (.cells #[.int .i64 (k : Int)] 3)).cell? ⟨w.heap.size, 0, none⟩ = some (.int .i64 (k : Int))) := Lib.hid (by simp)
    have HP0 : Hid (HoldsP ((w.alloc (.cells #[.int .i64 (k : Int)] 3)).alloc (.cells #[.slice oa t.length ca] 22)) (· < w.heap.size + 1 + 1) (.slice (some ⟨w.heap.size + 1, 0, none⟩) 1 1) [t]) := Lib.hid (by
      have h := tabs_one (w.alloc (.cells #[.int .i64 (k : Int)] 3)) B _ t (HX.out.later (HBW.out.mono hB)) (by simp; omega)
      have e : (w.alloc (.cells #[.int .i64 (k : Int)] 3)).heap.size = w.heap.size + 1 := by simp
      rw [e] at h
      exact h)
    have HD := Lib.hid (duplicate_any _ [t] _ (w.heap.size + 1 + 1) HP0.out (by simp) (by simp; omega) (by simp) (by intro u hu; obtain rfl := List.mem_singleton.1 hu; exact HR8.out))
    clear hc hk g1 g2 hn hb0
    go_enter Try.func31, Try.ntmps31
    go_wp2_with fail
    refine HC.out.mono ?_
    rintro e w' ⟨rfl, rfl⟩
    go_wp2_with fail
    refine HD.out.mono ?_
    rintro e w2 ⟨⟨v, rfl, ho⟩, hb2⟩
    have ho1 : AccD w2 (w.heap.size + 1 + 1) v t := by simpa using ho
    have hb2' : Below (w.heap.size + 1) (w.alloc (.cells #[.int .i64 (k : Int)] 3)) w2 := by
      have h := (below1 (w.alloc (.cells #[.int .i64 (k : Int)] 3)) (.cells #[.slice oa t.length ca] 22)).trans (hb2.mono (by simp))
      have e : (w.alloc (.cells #[.int .i64 (k : Int)] 3)).heap.size = w.heap.size + 1 := by simp
      rw [e] at h
      exact h
    have HB2 := Lib.hid hb2'
    obtain ⟨ov, cv, rfl⟩ : ∃ ov cv, v = .slice ov t.length cv := ho1.form
    have HS := Lib.hid (sortStable_any ov cv t k n w.heap.size (w.heap.size + 1 + 1) w2 ho1 HRN.out hkl h8 ((hb2'.cell (p := ⟨w.heap.size, 0, none⟩) (Nat.lt_succ_self _)).trans HCK.out) (by omega))
    clear ho ho1 hb2 hb2'
    go_wp2_with fail
    refine HS.out.mono ?_
    rintro e w3 ⟨rfl, h3, hb3⟩
    have H3 := Lib.hid h3
    have HB3 := Lib.hid hb3
    clear h3 hb3
    go_wp2_with fail
    go_ret2
    have hw : w.heap.size ≤ w.heap.size + 1 + 1 := by omega
    exact ⟨RetTE.mk (H3.out.weak hw).toT.holds HE.out.2.symm HE.out.1.symm, HBW.out.trans ((HB2.out.mono (by omega)).trans (HB3.out.mono hw))⟩
  · obtain ⟨g1, g2⟩ := loc_bad hg
    rw [g1] at HC
    have HE : Hid (srtV t i = []) := Lib.hid (if_neg g2)
    have HBW := Lib.hid (below1 w (.cells #[.int .i64 0] 3))
    obtain ⟨E, hE⟩ : ∃ E, locE (chkT t) i (colsT t) = E := ⟨_, rfl⟩
    rw [hE] at HC g2
    rw [hE]
    have fc : (E != 0) = true := by rw [bne_iff_ne]; exact g2
    clear hE g1 g2 hg hb0
    go_enter Try.func31, Try.ntmps31
    go_wp2_with fail
    refine HC.out.mono ?_
    rintro e w' ⟨rfl, rfl⟩
    go_wp2_with fail
    go_ret2
    exact ⟨RetTE.nil HE.out rfl, HBW.out⟩

end Go.Proofs.Ytampofpllijfhaa
