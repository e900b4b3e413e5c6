/-
  Transpose of the reference once more: what it returns is a table that it builds. Nothing is assumed.
-/
import Derived.Test.YtampofpllijfhaaTbTrans
namespace Go.Proofs.Ytampofpllijfhaa
open Go.RowKit

set_option maxRecDepth 100000 in
set_option maxHeartbeats 1600000 in
theorem rTransA_any (x : Value) (t : List (List ByteArray)) (w : World) (B : Nat) (hx : HoldsT w (· < B) x t) (hB : B ≤ w.heap.size) (hc0 : chkT t = 0) :
    Calls Try.prog 17 #[x] w fun e w' => (∃ v, e = .returned v ∧ AccT w' w.heap.size v (transT t)) ∧ Below w.heap.size w w' := by
  have HC := Lib.hid (rchk_any x t w B hx hB)
  have HX := Lib.hid hx
  obtain ⟨oa, ca, rfl, _, _⟩ := hx.form
  clear hx
  have fc := neq_fT hc0
  have HT : Hid (transT t = transK t (colsT t)) := Lib.hid (if_pos hc0)
  have HV := Lib.hid hc0
  have hc8 := colsT_le hc0
  obtain ⟨n, hn⟩ : ∃ n, colsT t = n := ⟨_, rfl⟩
  rw [hn] at HT hc8
  have HN := Lib.hid hn
  clear hc0 hn
  go_enter Try.func17, Try.ntmps17
  go_wp2_with fail
  refine HC.out.mono ?_
  rintro e w1 ⟨rfl, hb1⟩
  have HB1 := Lib.hid hb1
  clear hb1
  go_wp2_with fail
  go_loopw [3, 4] (fun v j wr => ∃ k : Nat, k ≤ n ∧ j = .int .i64 k ∧ Hid (AccT wr w.heap.size v (transK t k)) ∧ Below w.heap.size w wr) (fun _ j _ => n - (intOf j).toNat)
  case atStart => exact ⟨0, Nat.zero_le _, rfl, Lib.hid (AccT.nil _ _), HB1.out⟩
  case round =>
    obtain ⟨k, hk, rfl, HA, hbel⟩ := hrel
    have hsz := hbel.size
    have HXW := Lib.hid (HX.out.later (hbel.mono hB))
    have HK := Lib.hid (rcols_any _ t wr _ HXW.out)
    rw [HN.out] at HK
    by_cases hlt : k < n
    · have HCO := Lib.hid (rcolumn_any _ t k wr B HXW.out (by omega) (chkT_rows HV.out).1 (cols_lt HV.out (by rw [HN.out]; exact hlt)))
      have hki0 : (0 : Int) ≤ (k : Int) := by omega
      have hki1 : (k : Int) < (n : Int) := by omega
      go_wp2_with fail
      refine HK.out.mono ?_
      rintro e w' ⟨rfl, rfl⟩
      go_wp2_with fail
      refine HCO.out.mono ?_
      rintro e w2 ⟨⟨v, rfl, ho⟩, hb2⟩
      have HO := Lib.hid (ho.holds)
      obtain ⟨ov, cv, rfl⟩ := owns_form ho
      have HA2 := Lib.hid ((HA.out.later hb2).later (below1 w2 (.cells #[(.slice ov (colOf t k).length cv)] 29)))
      have hq := HA.out.lt
      have HQ := Lib.hid hq
      have hbel2 := hbel.trans (hb2.mono hsz)
      have hsz2 := hb2.size
      have HO2 : Hid (HoldsS (w2.alloc (.cells #[(.slice ov (colOf t k).length cv)] 29)) (Btw wr.heap.size (w2.alloc (.cells #[(.slice ov (colOf t k).length cv)] 29)).heap.size) (.slice ov (colOf t k).length cv) (colOf t k)) := Lib.hid (HO.out.keep (fun b hp _ => ⟨hp.1, by have := hp.2; simp; omega⟩) (fun b o _ hl => (below1 w2 _).cell (p := ⟨b, o, none⟩) hl))
      clear ho hq HA HO
      have hlen := transK_len t k
      have HLN := Lib.hid hlen
      clear hlen
      go_wp2_with (at_builtin; refine AccT.append rfl _ _ rfl w.heap.size _ _ rfl HA2.out ⟨w2.heap.size, 0, none⟩ (.slice ov (colOf t k).length cv) (colOf t k) rfl (by simp) wr.heap.size HO2.out hsz (fun q hq => (HQ.out q hq).2) rfl ?c0 ?c1 ?_)
      case c0 => rw [HLN.out]; omega
      case c1 => simp; omega
      intro v3 w3 hacc hgrow
      have hb3 := (hbel2.alloc (by omega : w.heap.size ≤ w2.heap.size) (.cells #[(.slice ov (colOf t k).length cv)] 29)).grown hgrow (by simp; omega) (fun q hq => (HA2.out.lt q hq).1)
      have HA3 := Lib.hid hacc
      clear hacc hgrow
      go_wp2_with fail
      go_roundw
      case rel => exact ⟨k + 1, hlt, by go_num, Lib.hid (by rw [transK_next]; exact HA3.out), hb3⟩
      case measure => simp [intOf]; omega
    · obtain rfl : k = n := by omega
      go_wp2_with fail
      refine HK.out.mono ?_
      rintro e w' ⟨rfl, rfl⟩
      go_wp2_with fail
      go_ret
      exact ⟨⟨_, rfl, by rw [HT.out]; exact HA.out⟩, hbel⟩

end Go.Proofs.Ytampofpllijfhaa
