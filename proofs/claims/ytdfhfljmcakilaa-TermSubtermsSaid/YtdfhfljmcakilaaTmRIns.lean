/-
  Insert of the reference. Nothing is assumed.
-/
import Derived.Test.YtdfhfljmcakilaaTmAcc
import Derived.Test.YtdfhfljmcakilaaTmSubP
import Derived.Test.YtdfhfljmcakilaaTmRCmp
import Derived.StillTailTactics
import Derived.BigQuiet
namespace Go.Proofs.Ytdfhfljmcakilaa
open Go.RowKit

/-- A function has returned a list of terms. -/
def RetL (w' : World) (l : List T) (e : Ending) : Prop := ∃ v, e = .returned v ∧ Rep w' w'.heap.size v l
theorem RetL.mk {w' : World} {v : Value} {l m : List T} (h : Rep w' w'.heap.size v l) (hl : l = m) : RetL w' m (.returned v) := ⟨v, rfl, hl ▸ h⟩
theorem leqt {a b : Int} (h : a ≤ b) : decide (a ≤ b) = true := decide_eq_true h

set_option maxRecDepth 100000 in
set_option maxHeartbeats 3200000 in
theorem rinsert_any (t : T) (l : List T) (st sl : Value) (w : World) (B : Nat) (hrl : Rep w B sl l) (hrt : Rep w B st t.l) (hB : B ≤ w.heap.size) (hsl : ∀ x ∈ l, x.size ≤ 900) (ht : t.size ≤ 900) (hlen : l.length ≤ 900) :
    Calls Try.prog 45 #[sl, .agg #[.int .i64 t.r, st]] w fun e w' => RetL w' (ins t l) e ∧ Below w.heap.size w w' := by
  have HL := Lib.hid hrl
  have HT := Lib.hid hrt
  obtain ⟨ol, cl, rfl, hcl, hml, hel⟩ := hrl.slice
  obtain ⟨ot, ct, rfl, _, _⟩ := hrt.form
  have HEL := Lib.hid hel
  have HSL := Lib.hid hsl
  have hbw : Below w.heap.size w (w.alloc (.cells #[.int .i64 t.r, .slice ot t.l.length ct] 24)) := below1 _ _
  have BT : Box (w.alloc (.cells #[.int .i64 t.r, .slice ot t.l.length ct] 24)) w.heap.size t (.slice ot t.l.length ct) := Box.new t _ _ rfl
  have hzz : (w.alloc (.cells #[.int .i64 t.r, .slice ot t.l.length ct] 24)).heap.size = w.heap.size + 1 := by simp
  clear hrl hrt hel hsl
  go_enter Try.func45, Try.ntmps45
  go_wp2_with fail
  generalize w.alloc (.cells #[.int .i64 t.r, .slice ot t.l.length ct] 24) = W at *
  go_loopw [5] (fun i wr => ∃ k : Nat, k ≤ l.length ∧ i = .int .i64 k ∧ Hid (∀ (j : Nat) x, k ≤ j → l[j]? = some x → t.cmp x < 0) ∧ Hid (insN t l k = ins t l) ∧ Below W.heap.size W wr) (fun i _ => (intOf i).toNat)
  case atStart => exact ⟨l.length, Nat.le_refl _, rfl, Lib.hid (fun j x hj hx => by have := (List.getElem?_eq_some_iff.1 hx).1; omega), Lib.hid rfl, Below.refl _ _⟩
  case round =>
    obtain ⟨k, hk, rfl, HD, HI, hbr⟩ := hrel
    have hsr := hbr.size
    by_cases hk0 : k = 0
    · have HE : Hid (ins t l = l.take k ++ t :: l.drop k) := Lib.hid (by rw [← HI.out, hk0]; exact insN_put)
      have q0 : ¬ ((0 : Int) < (k : Int)) := by omega
      have HBR := Lib.hid hbr
      have qd : decide (0 < k) = false := decide_eq_false (by omega)
      clear hbr hk0
      go_wp2_with fail
      go_region
      have h4 : Below W.heap.size W wr.drew := HBR.out.drew
      generalize wr.drew = w4 at h4 ⊢
      clear HBR hsr
      rcases ol with _ | al
      ·
        have hs4 := h4.size
        obtain ⟨t0, t1⟩ := BT.later h4 (by omega)
        have hA0 : Below w.heap.size w w4 := hbw.trans (h4.mono (by omega))
        have hkc : (k : Int) ≤ (cl : Int) := by omega
        have hk0' : (0 : Int) ≤ (k : Int) := by omega
        have hkn : (k : Int) ≤ (l.length : Int) := by omega
        have HS1 : Hid (Src w4 w.heap.size (none : Option Addr) (l.take k)) := Lib.hid ((HL.out.later (hA0.mono hB)).mono hB).src_take
        have HA0 := Lib.hid hA0
        have H4 := Lib.hid h4
        clear hA0 h4
        go_wp2_with (at_builtin; refine AccL.appends rfl _ _ rfl W.heap.size w.heap.size _ [] rfl (AccL.nil _ _ _) (none : Option Addr) k cl (l.take k) rfl (by rw [List.length_take]; omega) HS1.out (by simp; omega) (by omega) hs4 ?_)
        intro v5 w5 h5 hg5
        have HB5 : Hid (Below W.heap.size W w5) := Lib.hid (H4.out.grown hg5 hs4 (fun q hq => by cases hq))
        rw [← hzz] at h5
        have H5 := Lib.hid h5
        have hs5 := HB5.out.size
        obtain ⟨u0, u1⟩ := BT.later HB5.out (by omega)
        clear t0 t1 h5 hg5 HS1
        obtain ⟨z0, z1⟩ := Box.new (w := w5) t (.slice ot t.l.length ct) 24 rfl
        have HS2 : Hid (Src (w5.alloc (.cells #[.int .i64 t.r, .slice ot t.l.length ct] 24)) w.heap.size (some ⟨w5.heap.size, 0, none⟩) [t]) := Lib.hid (Src.one (((HT.out.later ((hbw.trans (HB5.out.mono (by omega))).mono hB)).later ((below1 w5 _).mono (by omega))).mono hB) z0 z1)
        have H6 : Hid (AccL (w5.alloc (.cells #[.int .i64 t.r, .slice ot t.l.length ct] 24)) W.heap.size w.heap.size v5 (l.take k)) := Lib.hid (H5.out.later (below1 w5 _) (by omega))
        clear z0 z1
        go_wp2_with (at_builtin; refine AccL.appends rfl _ _ rfl W.heap.size w.heap.size _ (l.take k) rfl H6.out _ 1 1 [t] rfl rfl HS2.out (by rw [List.length_take]; omega) (by omega) (by simp; omega) ?_)
        intro v7 w7 h7 hg7
        have HB7 : Hid (Below W.heap.size W w7) := Lib.hid ((HB5.out.alloc hs5 _).grown hg7 (by simp; omega) (fun q hq => (H6.out.lt q hq).1))
        rw [← hzz] at h7
        have H7 := Lib.hid h7
        have hs7 := HB7.out.size
        clear u0 u1 h7 hg7 HS2
        have HR7 : Hid (Rep w7 w.heap.size (.slice (none : Option Addr) l.length cl) l) := Lib.hid ((HL.out.later ((hbw.trans (HB7.out.mono (by omega))).mono hB)).mono hB)
        have HLN : Hid ((l.take k ++ [t]).length = k + 1) := Lib.hid (by simp; omega)
        by_cases hck : cl = k
        · subst hck
          have HS3 : Hid (Src w7 w.heap.size (none : Option Addr) (l.drop cl)) := Lib.hid (by rw [List.drop_of_length_le (by omega)]; exact Src.nil _ _ _)
          have hdl : l.length - cl = 0 := by omega
          go_wp2_with (at_builtin; refine AccL.appends rfl _ _ rfl W.heap.size w.heap.size _ (l.take cl ++ [t]) rfl H7.out (none : Option Addr) 0 0 (l.drop cl) rfl (by rw [List.length_drop]; omega) HS3.out (by rw [HLN.out]; omega) (by omega) hs7 ?_)
          intro v9 w9 h9 hg9
          have HB9 : Hid (Below W.heap.size W w9) := Lib.hid (HB7.out.grown hg9 hs7 (fun q hq => (H7.out.lt q hq).1))
          have H9 := Lib.hid h9
          have hs9 := HB9.out.size
          clear h9 hg9
          go_wp2_with fail
          go_ret
          exact ⟨RetL.mk (H9.out.rep (by omega) (by simp; omega)) HE.out.symm, hbw.trans (HB9.out.mono (by omega))⟩
        · have HS3 : Hid (Src w7 w.heap.size ((none : Option Addr).map (·.add (k * 2))) (l.drop k)) := Lib.hid HR7.out.src_drop
          go_wp2_with (at_builtin; refine AccL.appends rfl _ _ rfl W.heap.size w.heap.size _ (l.take k ++ [t]) rfl H7.out ((none : Option Addr).map (·.add (k * 2))) (l.length - k) (cl - k) (l.drop k) rfl (by rw [List.length_drop]) HS3.out (by rw [HLN.out]; omega) (by omega) hs7 ?_)
          intro v9 w9 h9 hg9
          have HB9 : Hid (Below W.heap.size W w9) := Lib.hid (HB7.out.grown hg9 hs7 (fun q hq => (H7.out.lt q hq).1))
          have H9 := Lib.hid h9
          have hs9 := HB9.out.size
          clear h9 hg9
          go_wp2_with fail
          go_ret
          exact ⟨RetL.mk (H9.out.rep (by omega) (by simp; omega)) HE.out.symm, hbw.trans (HB9.out.mono (by omega))⟩
      ·
        have hs4 := h4.size
        obtain ⟨t0, t1⟩ := BT.later h4 (by omega)
        have hA0 : Below w.heap.size w w4 := hbw.trans (h4.mono (by omega))
        have hkc : (k : Int) ≤ (cl : Int) := by omega
        have hk0' : (0 : Int) ≤ (k : Int) := by omega
        have hkn : (k : Int) ≤ (l.length : Int) := by omega
        have HS1 : Hid (Src w4 w.heap.size (some al) (l.take k)) := Lib.hid ((HL.out.later (hA0.mono hB)).mono hB).src_take
        have HA0 := Lib.hid hA0
        have H4 := Lib.hid h4
        clear hA0 h4
        go_wp2_with (at_builtin; refine AccL.appends rfl _ _ rfl W.heap.size w.heap.size _ [] rfl (AccL.nil _ _ _) (some al) k cl (l.take k) rfl (by rw [List.length_take]; omega) HS1.out (by simp; omega) (by omega) hs4 ?_)
        intro v5 w5 h5 hg5
        have HB5 : Hid (Below W.heap.size W w5) := Lib.hid (H4.out.grown hg5 hs4 (fun q hq => by cases hq))
        rw [← hzz] at h5
        have H5 := Lib.hid h5
        have hs5 := HB5.out.size
        obtain ⟨u0, u1⟩ := BT.later HB5.out (by omega)
        clear t0 t1 h5 hg5 HS1
        obtain ⟨z0, z1⟩ := Box.new (w := w5) t (.slice ot t.l.length ct) 24 rfl
        have HS2 : Hid (Src (w5.alloc (.cells #[.int .i64 t.r, .slice ot t.l.length ct] 24)) w.heap.size (some ⟨w5.heap.size, 0, none⟩) [t]) := Lib.hid (Src.one (((HT.out.later ((hbw.trans (HB5.out.mono (by omega))).mono hB)).later ((below1 w5 _).mono (by omega))).mono hB) z0 z1)
        have H6 : Hid (AccL (w5.alloc (.cells #[.int .i64 t.r, .slice ot t.l.length ct] 24)) W.heap.size w.heap.size v5 (l.take k)) := Lib.hid (H5.out.later (below1 w5 _) (by omega))
        clear z0 z1
        go_wp2_with (at_builtin; refine AccL.appends rfl _ _ rfl W.heap.size w.heap.size _ (l.take k) rfl H6.out _ 1 1 [t] rfl rfl HS2.out (by rw [List.length_take]; omega) (by omega) (by simp; omega) ?_)
        intro v7 w7 h7 hg7
        have HB7 : Hid (Below W.heap.size W w7) := Lib.hid ((HB5.out.alloc hs5 _).grown hg7 (by simp; omega) (fun q hq => (H6.out.lt q hq).1))
        rw [← hzz] at h7
        have H7 := Lib.hid h7
        have hs7 := HB7.out.size
        clear u0 u1 h7 hg7 HS2
        have HR7 : Hid (Rep w7 w.heap.size (.slice (some al) l.length cl) l) := Lib.hid ((HL.out.later ((hbw.trans (HB7.out.mono (by omega))).mono hB)).mono hB)
        have HLN : Hid ((l.take k ++ [t]).length = k + 1) := Lib.hid (by simp; omega)
        by_cases hck : cl = k
        · subst hck
          have HS3 : Hid (Src w7 w.heap.size (some al) (l.drop cl)) := Lib.hid (by rw [List.drop_of_length_le (by omega)]; exact Src.nil _ _ _)
          have hdl : l.length - cl = 0 := by omega
          go_wp2_with (at_builtin; refine AccL.appends rfl _ _ rfl W.heap.size w.heap.size _ (l.take cl ++ [t]) rfl H7.out (some al) 0 0 (l.drop cl) rfl (by rw [List.length_drop]; omega) HS3.out (by rw [HLN.out]; omega) (by omega) hs7 ?_)
          intro v9 w9 h9 hg9
          have HB9 : Hid (Below W.heap.size W w9) := Lib.hid (HB7.out.grown hg9 hs7 (fun q hq => (H7.out.lt q hq).1))
          have H9 := Lib.hid h9
          have hs9 := HB9.out.size
          clear h9 hg9
          go_wp2_with fail
          go_ret
          exact ⟨RetL.mk (H9.out.rep (by omega) (by simp; omega)) HE.out.symm, hbw.trans (HB9.out.mono (by omega))⟩
        · have HS3 : Hid (Src w7 w.heap.size ((some al).map (·.add (k * 2))) (l.drop k)) := Lib.hid HR7.out.src_drop
          go_wp2_with (at_builtin; refine AccL.appends rfl _ _ rfl W.heap.size w.heap.size _ (l.take k ++ [t]) rfl H7.out ((some al).map (·.add (k * 2))) (l.length - k) (cl - k) (l.drop k) rfl (by rw [List.length_drop]) HS3.out (by rw [HLN.out]; omega) (by omega) hs7 ?_)
          intro v9 w9 h9 hg9
          have HB9 : Hid (Below W.heap.size W w9) := Lib.hid (HB7.out.grown hg9 hs7 (fun q hq => (H7.out.lt q hq).1))
          have H9 := Lib.hid h9
          have hs9 := HB9.out.size
          clear h9 hg9
          go_wp2_with fail
          go_ret
          exact ⟨RetL.mk (H9.out.rep (by omega) (by simp; omega)) HE.out.symm, hbw.trans (HB9.out.mono (by omega))⟩
    · obtain ⟨j, hj⟩ : ∃ j, k = j + 1 := ⟨k - 1, by omega⟩
      have HJ := Lib.hid hj
      have hjk : (k : Int) - 1 = (j : Int) := by omega
      have hwr : IntKind.i64.wrap (j : Int) = (j : Int) := IntWalk.i64_in _ (by omega)
      have q0 : (0 : Int) ≤ (j : Int) := by omega
      have q1 : (j : Int) < (l.length : Int) := by omega
      have qk : (0 : Int) < (k : Int) := by omega
      have qn : 0 < k := by omega
      have qd : decide (0 < k) = true := decide_eq_true qn
      have hjl : j < l.length := by omega
      clear hj hk0
      obtain ⟨b, off, oe, ce, rfl, hb, c0, c1, hr⟩ := HEL.out j _ (List.getElem?_eq_getElem hjl)
      have HJX := Lib.hid (List.getElem?_eq_getElem hjl)
      have hx9 : l[j].size ≤ 900 := HSL.out _ (List.getElem_mem hjl)
      have hbB : b < w.heap.size := Nat.lt_of_lt_of_le hb hB
      rw [← hbw.cell (p := ⟨b, _, none⟩) hbB] at c0 c1
      have HKEEP : Hid (∀ w', Below W.heap.size W w' → w'.cell? ⟨w.heap.size, 0, none⟩ = some (.int .i64 t.r) ∧ w'.cell? ⟨w.heap.size, 1, none⟩ = some (.slice ot t.l.length ct) ∧ w'.cell? ⟨b, off + j * 2, none⟩ = some (.int .i64 l[j].r) ∧ w'.cell? ⟨b, off + j * 2 + 1, none⟩ = some (.slice oe l[j].l.length ce)) :=
        Lib.hid (fun w' hb' => ⟨(BT.later hb' (by omega)).1, (BT.later hb' (by omega)).2, (hb'.cell (p := ⟨b, _, none⟩) (by show b < W.heap.size; omega)).trans c0, (hb'.cell (p := ⟨b, _, none⟩) (by show b < W.heap.size; omega)).trans c1⟩)
      have HC : Hid (∀ w', Below W.heap.size W w' → Calls Try.prog 18 #[.agg #[.int .i64 t.r, .slice ot t.l.length ct], .agg #[.int .i64 l[j].r, .slice oe l[j].l.length ce]] w' fun e w2 => e = .returned (.int .i64 (t.cmp l[j])) ∧ Below w'.heap.size w' w2) :=
        Lib.hid (fun w' hb' => rcompare_any t l[j] _ _ w' B (HT.out.later ((hbw.trans (hb'.mono (by omega))).mono hB)) (hr.later ((hbw.trans (hb'.mono (by omega))).mono hB)) (Nat.le_trans hB (by have := hb'.size; omega)) ht hx9)
      clear c0 c1 hr
      obtain ⟨ca0, ca1, cb0, cb1⟩ := HKEEP.out wr hbr
      go_wp2_with fail
      have h0 : Below W.heap.size W wr.drew := hbr.drew
      generalize hcv : t.cmp l[j] = cv at HC
      have HCV := Lib.hid hcv
      generalize hlj : l[j] = lj at *
      clear hcv
      go_region_held_law (fun w' => w'.cell? ⟨w.heap.size, 0, none⟩ = some (.int .i64 t.r) ∧ w'.cell? ⟨w.heap.size, 1, none⟩ = some (.slice ot t.l.length ct) ∧ w'.cell? ⟨b, off + j * 2, none⟩ = some (.int .i64 lj.r) ∧ w'.cell? ⟨b, off + j * 2 + 1, none⟩ = some (.slice oe lj.l.length ce))
        (exact HKEEP.out _ (by assumption))
        (first
          | (go_simp; go_at_call 18; (with_reducible refine (HC.out _ (by assumption)).mono ?_); rintro e w3 ⟨rfl, hb3⟩
             have h3 : Below W.heap.size W w3 := h0.trans (hb3.mono h0.size)
             clear h0 hb3))
      by_cases hc1 : cv ≤ 0
      case neg =>
        have HE : Hid (ins t l = l.take k ++ t :: l.drop k) := Lib.hid (by rw [← HI.out, HJ.out]; exact insN_gt (HJX.out) (by rw [HCV.out]; omega))
        have hdd : decide (cv ≤ 0) = false := decide_eq_false hc1
        have h4 := h3
        clear h3 ca0 ca1 cb0 cb1
        generalize w3 = w4 at h4 ⊢
        have hs4 := h4.size
        obtain ⟨t0, t1⟩ := BT.later h4 (by omega)
        have hA0 : Below w.heap.size w w4 := hbw.trans (h4.mono (by omega))
        have hkc : (k : Int) ≤ (cl : Int) := by omega
        have hk0' : (0 : Int) ≤ (k : Int) := by omega
        have hkn : (k : Int) ≤ (l.length : Int) := by omega
        have HS1 : Hid (Src w4 w.heap.size (some (⟨b, off, none⟩ : Addr)) (l.take k)) := Lib.hid ((HL.out.later (hA0.mono hB)).mono hB).src_take
        have HA0 := Lib.hid hA0
        have H4 := Lib.hid h4
        clear hA0 h4
        go_wp2_with (at_builtin; refine AccL.appends rfl _ _ rfl W.heap.size w.heap.size _ [] rfl (AccL.nil _ _ _) (some (⟨b, off, none⟩ : Addr)) k cl (l.take k) rfl (by rw [List.length_take]; omega) HS1.out (by simp; omega) (by omega) hs4 ?_)
        intro v5 w5 h5 hg5
        have HB5 : Hid (Below W.heap.size W w5) := Lib.hid (H4.out.grown hg5 hs4 (fun q hq => by cases hq))
        rw [← hzz] at h5
        have H5 := Lib.hid h5
        have hs5 := HB5.out.size
        obtain ⟨u0, u1⟩ := BT.later HB5.out (by omega)
        clear t0 t1 h5 hg5 HS1
        obtain ⟨z0, z1⟩ := Box.new (w := w5) t (.slice ot t.l.length ct) 24 rfl
        have HS2 : Hid (Src (w5.alloc (.cells #[.int .i64 t.r, .slice ot t.l.length ct] 24)) w.heap.size (some ⟨w5.heap.size, 0, none⟩) [t]) := Lib.hid (Src.one (((HT.out.later ((hbw.trans (HB5.out.mono (by omega))).mono hB)).later ((below1 w5 _).mono (by omega))).mono hB) z0 z1)
        have H6 : Hid (AccL (w5.alloc (.cells #[.int .i64 t.r, .slice ot t.l.length ct] 24)) W.heap.size w.heap.size v5 (l.take k)) := Lib.hid (H5.out.later (below1 w5 _) (by omega))
        clear z0 z1
        go_wp2_with (at_builtin; refine AccL.appends rfl _ _ rfl W.heap.size w.heap.size _ (l.take k) rfl H6.out _ 1 1 [t] rfl rfl HS2.out (by rw [List.length_take]; omega) (by omega) (by simp; omega) ?_)
        intro v7 w7 h7 hg7
        have HB7 : Hid (Below W.heap.size W w7) := Lib.hid ((HB5.out.alloc hs5 _).grown hg7 (by simp; omega) (fun q hq => (H6.out.lt q hq).1))
        rw [← hzz] at h7
        have H7 := Lib.hid h7
        have hs7 := HB7.out.size
        clear u0 u1 h7 hg7 HS2
        have HR7 : Hid (Rep w7 w.heap.size (.slice (some (⟨b, off, none⟩ : Addr)) l.length cl) l) := Lib.hid ((HL.out.later ((hbw.trans (HB7.out.mono (by omega))).mono hB)).mono hB)
        have HLN : Hid ((l.take k ++ [t]).length = k + 1) := Lib.hid (by simp; omega)
        by_cases hck : cl = k
        · subst hck
          have HS3 : Hid (Src w7 w.heap.size (some (⟨b, off, none⟩ : Addr)) (l.drop cl)) := Lib.hid (by rw [List.drop_of_length_le (by omega)]; exact Src.nil _ _ _)
          have hdl : l.length - cl = 0 := by omega
          go_wp2_with (at_builtin; refine AccL.appends rfl _ _ rfl W.heap.size w.heap.size _ (l.take cl ++ [t]) rfl H7.out (some (⟨b, off, none⟩ : Addr)) 0 0 (l.drop cl) rfl (by rw [List.length_drop]; omega) HS3.out (by rw [HLN.out]; omega) (by omega) hs7 ?_)
          intro v9 w9 h9 hg9
          have HB9 : Hid (Below W.heap.size W w9) := Lib.hid (HB7.out.grown hg9 hs7 (fun q hq => (H7.out.lt q hq).1))
          have H9 := Lib.hid h9
          have hs9 := HB9.out.size
          clear h9 hg9
          go_wp2_with fail
          go_ret
          exact ⟨RetL.mk (H9.out.rep (by omega) (by simp; omega)) HE.out.symm, hbw.trans (HB9.out.mono (by omega))⟩
        · have HS3 : Hid (Src w7 w.heap.size (some (⟨b, off + k * 2, none⟩ : Addr)) (l.drop k)) := Lib.hid (by have := HR7.out.src_drop (k := k); rw [Option.map_some, addr_add0] at this; exact this)
          go_wp2_with (at_builtin; refine AccL.appends rfl _ _ rfl W.heap.size w.heap.size _ (l.take k ++ [t]) rfl H7.out (some (⟨b, off + k * 2, none⟩ : Addr)) (l.length - k) (cl - k) (l.drop k) rfl (by rw [List.length_drop]) HS3.out (by rw [HLN.out]; omega) (by omega) hs7 ?_)
          intro v9 w9 h9 hg9
          have HB9 : Hid (Below W.heap.size W w9) := Lib.hid (HB7.out.grown hg9 hs7 (fun q hq => (H7.out.lt q hq).1))
          have H9 := Lib.hid h9
          have hs9 := HB9.out.size
          clear h9 hg9
          go_wp2_with fail
          go_ret
          exact ⟨RetL.mk (H9.out.rep (by omega) (by simp; omega)) HE.out.symm, hbw.trans (HB9.out.mono (by omega))⟩

      have hdd : decide (cv ≤ 0) = true := decide_eq_true hc1
      have HC1 := Lib.hid hc1
      clear ca0 ca1 cb0 cb1
      obtain ⟨ca0, ca1, cb0, cb1⟩ := HKEEP.out w3 h3
      have hs3 := h3.size
      go_wp2_with fail
      have h0 : Below W.heap.size W w3.drew := h3.drew
      clear h3
      go_region_held_law (fun w' => w'.cell? ⟨w.heap.size, 0, none⟩ = some (.int .i64 t.r) ∧ w'.cell? ⟨w.heap.size, 1, none⟩ = some (.slice ot t.l.length ct) ∧ w'.cell? ⟨b, off + j * 2, none⟩ = some (.int .i64 lj.r) ∧ w'.cell? ⟨b, off + j * 2 + 1, none⟩ = some (.slice oe lj.l.length ce))
        (exact HKEEP.out _ (by assumption))
        (first
          | (go_simp; go_at_call 18; (with_reducible refine (HC.out _ (by assumption)).mono ?_); rintro e w5 ⟨rfl, hb5⟩
             have h5 : Below W.heap.size W w5 := h0.trans (hb5.mono h0.size)
             clear h0 hb5))
      have hs5 := h5.size
      by_cases hc2 : cv = 0
      · have HE : Hid (ins t l = l) := Lib.hid (by rw [← HI.out, HJ.out]; exact insN_eq HJX.out (by rw [HCV.out]; exact hc2))
        have hde : (cv == 0) = true := beq_iff_eq.2 hc2
        have H5 := Lib.hid h5
        clear h5 hc2
        go_wp2_with fail
        go_ret
        exact ⟨RetL.mk ((HL.out.later ((hbw.trans (H5.out.mono (by omega))).mono hB)).mono (by omega)) HE.out.symm, hbw.trans (H5.out.mono (by omega))⟩
      · have HE : Hid (insN t l j = ins t l) := Lib.hid (by rw [← HI.out, HJ.out]; exact (insN_lt HJX.out (by rw [HCV.out]; omega)).symm)
        have hde : (cv == 0) = false := beq_eq_false_iff_ne.2 hc2
        have H5 := Lib.hid h5
        have HD2 : Hid (∀ (i : Nat) x, j ≤ i → l[i]? = some x → t.cmp x < 0) := Lib.hid fun i x hi hx => by
          by_cases e : i = j
          · subst e
            rw [HJX.out] at hx
            cases hx
            rw [HCV.out]
            omega
          · exact HD.out i x (by have := HJ.out; omega) hx
        clear h5 hc2
        go_wp2_with fail
        go_roundw
        case rel => exact ⟨j, by omega, by go_num, HD2, HE, H5.out⟩
        case measure => simp [intOf]; have := HJ.out; omega

end Go.Proofs.Ytdfhfljmcakilaa
