/-
  How often a row occurs; what a sorted table is. Nothing is assumed.
-/
import Derived.Test.YtampofpllijfhaaTbSorts
import Derived.Test.YtampofpllijfhaaTbRdrop
namespace Go.Proofs.Ytampofpllijfhaa
open Go.RowKit

theorem dq {w a : World} (h : ∃ q, a = w.drewN q) (n : Nat) : ∃ q, a.drewN n = w.drewN q := by
  obtain ⟨q, rfl⟩ := h
  exact ⟨q + n, World.drewN_drewN ..⟩

set_option maxRecDepth 100000 in
set_option maxHeartbeats 1600000 in
theorem texts_q (x y : Value) (l m : List ByteArray) (w : World) (P : Nat → Prop) (hx : HoldsS w P x l) (hy : HoldsS w P y m) (_hl : l.length ≤ 1000) (hm : m.length ≤ 1000) :
    Calls Try.prog 26 #[x, y] w fun e w' => e = .returned (.bool (decide (l = m))) ∧ ∃ q, w' = w.drewN q := by
  have HX := Lib.hid hx
  have HY := Lib.hid hy
  obtain ⟨oa, ca, rfl, _, _⟩ := hx.form
  obtain ⟨ob, cb, rfl, _, _⟩ := hy.form
  clear hx hy
  by_cases hlen : l.length = m.length
  · have HL := Lib.hid hlen
    have hle : ((l.length : Int) == (m.length : Int)) = true := by rw [hlen]; exact beq_self_eq_true _
    have hln : ((l.length : Int) != (m.length : Int)) = false := by rw [hlen]; simp
    clear hlen
    go_enter Try.func26, Try.ntmps26
    go_wp2_with fail
    go_loopw [5] (fun i wr => ∃ k : Nat, k ≤ l.length ∧ i = .int .i64 k ∧ Hid (l.take k = m.take k) ∧ Hid (∃ q, wr = w.drewN q)) (fun i _ => l.length - (intOf i).toNat)
    case atStart => exact ⟨0, Nat.zero_le _, rfl, rfl, Lib.hid ⟨0, rfl⟩⟩
    case round =>
      obtain ⟨k, hk, rfl, HT, HQ⟩ := hrel
      by_cases hlt : k < l.length
      · have hlm : k < m.length := by have := HL.out; omega
        obtain ⟨b, off, e1, _, hc⟩ := HX.out.at_ (List.getElem?_eq_getElem hlt)
        obtain ⟨b', off', e2, _, hc'⟩ := HY.out.at_ (List.getElem?_eq_getElem hlm)
        subst e1
        subst e2
        have hc : wr.cell? ⟨b, off + k, none⟩ = some (.string l[k]) := by obtain ⟨q, e⟩ := HQ.out; rw [e]; exact hc
        have hc' : wr.cell? ⟨b', off' + k, none⟩ = some (.string m[k]) := by obtain ⟨q, e⟩ := HQ.out; rw [e]; exact hc'
        have hki : (k : Int) < (l.length : Int) := by omega
        have hki0 : (0 : Int) ≤ (k : Int) := by omega
        have hkm : (k : Int) < (m.length : Int) := by omega
        by_cases hz : l[k] = m[k]
        · have HZ := Lib.hid hz
          have hze : (l[k].toList == m[k].toList) = true := by rw [hz]; exact beq_self_eq_true _
          have hzn : (l[k].toList != m[k].toList) = false := by rw [hz]; simp
          clear hz
          go_wp2_with fail
          go_quiet (fail)
          go_wp2_with fail
          go_roundw
          case rel => exact ⟨k + 1, hlt, by go_num, Lib.hid (by rw [take_snoc l k hlt, take_snoc m k hlm, HT.out, HZ.out]), Lib.hid (dq HQ.out _)⟩
          case measure => simp [intOf]; omega
        · have HZ := Lib.hid hz
          have hze : (l[k].toList == m[k].toList) = false := str_ne hz
          have hzn : (l[k].toList != m[k].toList) = true := by unfold bne; rw [hze]; rfl
          clear hz
          go_wp2_with fail
          go_quiet (fail)
          go_wp2_with fail
          go_ret
          refine ⟨ret_bool (decide_eq_false fun e => HZ.out ?_).symm, dq HQ.out _⟩
          subst e
          rfl
      · obtain rfl : k = l.length := by omega
        go_wp2_with fail
        go_ret
        refine ⟨ret_bool (decide_eq_true ?_).symm, HQ.out⟩
        have := HT.out
        rw [List.take_length, HL.out, List.take_length] at this
        exact this
  · have hle : ((l.length : Int) == (m.length : Int)) = false := by rw [beq_eq_false_iff_ne]; omega
    have hln : ((l.length : Int) != (m.length : Int)) = true := by rw [bne_iff_ne]; omega
    have HL := Lib.hid hlen
    clear hlen
    go_enter Try.func26, Try.ntmps26
    go_wp2_with fail
    go_ret
    exact ⟨ret_bool (decide_eq_false fun e => HL.out (by rw [e])).symm, 0, rfl⟩

def cntR (t : Tab) (r : Row) : Nat := (t.filter fun q => decide (q = r)).length
theorem cntR_le (t : Tab) (r : Row) : cntR t r ≤ t.length := List.length_filter_le ..
theorem cntR_snoc (t : Tab) (r : Row) (k : Nat) (h : k < t.length) : cntR (t.take (k + 1)) r = cntR (t.take k) r + if t[k] = r then 1 else 0 := by
  unfold cntR
  rw [take_snoc t k h, List.filter_append, List.length_append]
  congr 1
  by_cases hz : t[k] = r <;> simp [hz]

set_option maxRecDepth 100000 in
set_option maxHeartbeats 1600000 in
theorem count_q (x y : Value) (t : List (List ByteArray)) (r : Row) (w : World) (P : Nat → Prop) (hx : HoldsT w P x t) (hy : HoldsS w P y r) (hr : ∀ q ∈ t, q.length ≤ 1000) (hr1 : r.length ≤ 1000) :
    Calls Try.prog 44 #[x, y] w fun e w' => e = .returned (.int .i64 (cntR t r : Int)) ∧ ∃ q, w' = w.drewN q := by
  have HX := Lib.hid hx
  have HY := Lib.hid hy
  have HR := Lib.hid hr
  obtain ⟨oa, ca, rfl, _, _⟩ := hx.form
  obtain ⟨ob, cb, rfl, _, _⟩ := hy.form
  clear hx hy hr
  go_enter Try.func44, Try.ntmps44
  go_wp2_with fail
  go_loopw [5, 6] (fun n i wr => ∃ k m : Nat, k ≤ t.length ∧ m ≤ k ∧ i = .int .i64 k ∧ n = .int .i64 m ∧ Hid (m = cntR (t.take k) r) ∧ Hid (∃ q, wr = w.drewN q)) (fun _ i _ => t.length - (intOf i).toNat)
  case atStart => exact ⟨0, 0, Nat.zero_le _, Nat.le_refl _, rfl, rfl, Lib.hid (by simp [cntR]), Lib.hid ⟨0, rfl⟩⟩
  case round =>
    obtain ⟨k, m, hk, hmk, rfl, rfl, HM, HQ⟩ := hrel
    by_cases hlt : k < t.length
    · have HN := Lib.hid (cntR_snoc t r k hlt)
      obtain ⟨b, off, o, cr, e1, _, h0, hrow⟩ := HX.out.at_ (List.getElem?_eq_getElem hlt)
      subst e1
      have h0 : wr.cell? ⟨b, off + k, none⟩ = some (.slice o t[k].length cr) := by obtain ⟨q, e⟩ := HQ.out; rw [e]; exact h0
      have HTX := Lib.hid (texts_q (.slice o t[k].length cr) (.slice ob r.length cb) t[k] r wr P (by obtain ⟨q, e⟩ := HQ.out; rw [e]; exact hrow) (by obtain ⟨q, e⟩ := HQ.out; rw [e]; exact HY.out) (HR.out _ (List.getElem_mem hlt)) hr1)
      have hki0 : (0 : Int) ≤ (k : Int) := by omega
      have hki : (k : Int) < (t.length : Int) := by omega
      clear hrow
      by_cases hz : t[k] = r
      · rw [decide_eq_true hz] at HTX
        rw [if_pos hz] at HN
        clear hz
        go_wp2_with fail
        refine HTX.out.mono ?_
        rintro e w' ⟨rfl, hq⟩
        have HQ2 : Hid (∃ q, w' = w.drewN q) := Lib.hid (by obtain ⟨q, rfl⟩ := hq; exact dq HQ.out _)
        clear hq
        go_wp2_with fail
        go_roundw
        case rel => exact ⟨k + 1, m + 1, hlt, by omega, by go_num, by go_num, Lib.hid (by rw [HN.out, HM.out]), HQ2⟩
        case measure => simp [intOf]; omega
      · rw [decide_eq_false hz] at HTX
        rw [if_neg hz] at HN
        clear hz
        go_wp2_with fail
        refine HTX.out.mono ?_
        rintro e w' ⟨rfl, hq⟩
        have HQ2 : Hid (∃ q, w' = w.drewN q) := Lib.hid (by obtain ⟨q, rfl⟩ := hq; exact dq HQ.out _)
        clear hq
        go_wp2_with fail
        go_roundw
        case rel => exact ⟨k + 1, m, hlt, by omega, by go_num, rfl, Lib.hid (by rw [HN.out, HM.out]; rfl), HQ2⟩
        case measure => simp [intOf]; omega
    · obtain rfl : k = t.length := by omega
      go_wp2_with fail
      go_ret
      have hm := HM.out
      rw [List.take_length] at hm
      exact ⟨ret_int (by rw [hm]), HQ.out⟩

theorem alike_cnt {k : Nat} {a b : Tab} (h : Alike (keyS k) a b) (r : Row) : cntR a r = cntR b r := by
  have e : ∀ l : Tab, l.filter (fun q => decide (q = r)) = (l.filter fun q => decide (keyS k q = keyS k r)).filter fun q => decide (q = r) := fun l => by
    rw [List.filter_filter]
    congr 1
    funext q
    by_cases hz : q = r
    · subst hz; simp
    · simp [hz]
  unfold cntR
  rw [e a, e b, h]
theorem srt_valid {c k : Nat} {t : Tab} (h : Valid c t) (n : Nat) : Valid c (passes (keyS k) n t) := ⟨by rw [passes_len]; exact h.1, h.2.1, h.2.2.1, fun r hr => h.2.2.2 r (passes_mem _ _ _ hr)⟩
theorem stack_beside {t u : Tab} (h : stackE t u = 0) (ht : 0 < t.length) (hu : 0 < u.length) : stackV t u = t ++ u ∧ besE (transT t) (transT u) = 0 ∧ besV (transT t) (transT u) = transT (t ++ u) := by
  have hv : stackV t u = t ++ u := if_pos h
  unfold stackE at h
  split at h
  · rename_i h1; exact absurd h h1
  · rename_i h1
    split at h
    · exact absurd h (by decide)
    · rename_i h2
      split at h
      · exact absurd h (by decide)
      · rename_i h3
        have hb : bothE t u = 0 := Decidable.not_not.1 h1
        have hct : chkT t = 0 := by
          unfold bothE at hb
          split at hb
          · assumption
          · rename_i h5; first | exact absurd hb h5 | exact Decidable.not_not.1 h5
        have hcu : chkT u = 0 := by
          unfold bothE at hb
          split at hb
          · first | exact hb | (rename_i h5; exact absurd hb h5)
          · first | exact hb | (rename_i h5; exact absurd hct h5)
        have hcc : colsT t = colsT u := Decidable.not_not.1 (fun e => h2 ⟨ht, hu, e⟩)
        have va := valid_of hct ht
        have vb := valid_of hcu hu
        have hva := va.trans ht
        have hvb := vb.trans hu
        have la : (transT t).length = colsT t := by rw [transT_ok hct, transK_len]
        have lb : (transT u).length = colsT u := by rw [transT_ok hcu, transK_len]
        have ta := trans_trans va ht
        have tb := trans_trans vb hu
        rw [transT_ok hct] at la
        rw [transT_ok hcu] at lb
        have hpa : 0 < (transK t (colsT t)).length := by rw [la]; exact va.2.1
        have hpb : 0 < (transK u (colsT u)).length := by rw [lb]; exact vb.2.1
        have hbes : besE (transT t) (transT u) = 0 := by
          unfold besE
          rw [transT_ok hct, transT_ok hcu, if_neg (by unfold bothE; simp [hva.chk, hvb.chk]), if_neg (by rw [la, lb, hcc]; simp), if_neg (by rw [hva.cols hpa, hvb.cols hpb]; omega)]
        refine ⟨hv, hbes, ?_⟩
        have hbv : besV (transT t) (transT u) = besT (transT t) (transT u) := if_pos hbes
        have hk := beside_trans hva hvb hpa (by rw [la, lb, hcc]) (by omega)
        rw [hbv]
        rw [transT_ok hct] at ta
        rw [transT_ok hcu] at tb
        rw [ta, tb] at hk
        rw [transT_ok hct, transT_ok hcu]
        exact hk.symm

end Go.Proofs.Ytampofpllijfhaa
