/-
  A table whose rows are the call's own, each in a block of its own; duplicate of the package, table of the reference. Nothing is assumed.
-/
import Derived.Test.YtampofpllijfhaaTbParts
namespace Go.Proofs.Ytampofpllijfhaa
open Go.RowKit

theorem Own1.own {w : World} {g H : Nat} {l : Row} (h : Own1 w g l) (hg : H ≤ g) (hm : l.length ≤ 1000) : OwnS w H (.slice (some ⟨g, 0, none⟩) l.length l.length) l := by
  obtain ⟨cur, hh, hsz, htk, _⟩ := h
  exact ⟨by simp, .inr ⟨g, l.length, cur, rfl, hg, hh, Nat.le_refl _, by unfold maxLen; omega, by omega, by rw [Nat.mul_one]; simpa using htk⟩⟩
/-- A table that the call builds: the row of its rows, and the rows, each in a block of its own. -/
def AccD (w : World) (base : Nat) (v : Value) (t : Tab) : Prop :=
  ∃ xs : List Value, xs.length = t.length ∧ w.ownsRow base 29 1 v t.length xs ∧ (∀ (i : Nat) x r, xs[i]? = some x → t[i]? = some r → OwnS w base x r) ∧
    (∀ (i : Nat) x q, xs[i]? = some x → x.ownBlock = some q → v.ownBlock ≠ some q) ∧ (∀ (i j : Nat) x y q, xs[i]? = some x → xs[j]? = some y → i ≠ j → x.ownBlock = some q → y.ownBlock ≠ some q)
theorem AccD.nil (w : World) (base : Nat) : AccD w base (.slice none 0 0) [] := ⟨[], rfl, ⟨rfl, .inl ⟨rfl, rfl⟩⟩, fun i x r h => by simp at h, fun i x q h => by simp at h, fun i j x y q h => by simp at h⟩
theorem AccD.form {w : World} {base : Nat} {v : Value} {t : Tab} (h : AccD w base v t) : ∃ ao cap, v = .slice ao t.length cap := by
  obtain ⟨xs, _, ho, _⟩ := h
  exact owns_form ho
theorem AccD.lt {w : World} {base : Nat} {v : Value} {t : Tab} (h : AccD w base v t) : ∀ q, v.ownBlock = some q → base ≤ q ∧ q < w.heap.size := by
  obtain ⟨xs, _, ho, _⟩ := h
  exact own_lt ho
theorem AccD.later {w w' : World} {base : Nat} {v : Value} {t : Tab} (h : AccD w base v t) (hb : Below w.heap.size w w') : AccD w' base v t := by
  obtain ⟨xs, hl, ho, hr, h1, h2⟩ := h
  exact ⟨xs, hl, owns_later ho hb, fun i x r a b => (hr i x r a b).later hb, h1, h2⟩
theorem OwnS.off {w : World} {base : Nat} {x : Value} {l : Row} {v : Value} (h : OwnS w base x l) (hv : ∀ q, x.ownBlock = some q → v.ownBlock ≠ some q) : HoldsS w (Off base w.heap.size v.ownBlock) x l := by
  rcases owns_cells h (by simp) with ⟨rfl, h0⟩ | ⟨g, cap, rfl, hg, hlt, hcap, hmx, hel⟩
  · obtain rfl := List.eq_nil_of_length_eq_zero h0
    exact HoldsS.nil _ _
  · refine ⟨_, cap, rfl, hcap, hmx, fun i z hz => ⟨g, 0, rfl, ⟨⟨hg, hlt⟩, hv g rfl⟩, ?_⟩⟩
    rw [Nat.zero_add]
    exact hel i _ (by rw [List.getElem?_map, hz]; rfl)
theorem AccD.toT {w : World} {base : Nat} {v : Value} {t : Tab} (h : AccD w base v t) : AccT w base v t := by
  obtain ⟨xs, hl, ho, hr, h1, _⟩ := h
  exact ⟨xs, hl, ho, fun i x r a b => (hr i x r a b).off (fun q hq => h1 i x q a hq)⟩
theorem OwnS.grown {w w' : World} {base : Nat} {x v : Value} {l : Row} (h : OwnS w base x l) (hv : ∀ q, x.ownBlock = some q → v.ownBlock ≠ some q) (hg : w.grownBy w' v.ownBlock) : OwnS w' base x l := by
  refine ⟨h.1, ?_⟩
  rcases h.2 with h0 | ⟨g, cap, cur, hx, hgb, hh, r⟩
  · exact .inl h0
  · subst hx
    exact .inr ⟨g, cap, cur, rfl, hgb, (hg.block g (Array.getElem?_eq_some_iff.1 hh).1 (fun e => hv g rfl e.symm)).trans hh, r⟩
theorem OwnS.weak {w : World} {H H' : Nat} {v : Value} {l : Row} (h : OwnS w H v l) (hH : H' ≤ H) : OwnS w H' v l := by
  refine ⟨h.1, ?_⟩
  rcases h.2 with h2 | ⟨g, cap, cur, hv, hg, r⟩
  · exact .inl h2
  · exact .inr ⟨g, cap, cur, hv, Nat.le_trans hH hg, r⟩
/-- One row more: 'append' at a table that the call builds. -/
theorem AccD.append {w0 w : World} {ops : Array Oper} {rest : List Oper} {o : Oper} {a : Act} {Q : Exit → Act → World → Prop} (hgd : o.guard = none) (s x : Operand)
    (ho : o.op = .call { callee := .builtin .append, args := #[s, x], argTypes := #[22, 22] }) (base : Nat) (v : Value) (t : Tab) (hs : a.eval s = v) (h : AccD w0 base v t) (hb : Below w0.heap.size w0 w)
    (ad : Addr) (xr : Value) (r : Row) (hx : a.eval x = .slice (some ad) 1 1) (hcell : w.cell? ad = some xr) (H : Nat) (hr : OwnS w H xr r) (hH : w0.heap.size ≤ H) (hone : xr.oneCell' = true)
    (hlen : t.length ≤ 999) (hbase : base ≤ w0.heap.size) (hK : ∀ v' w', AccD w' base v' (t ++ [r]) → w.grownBy w' v.ownBlock → wpList Try.prog ops Q rest (a.put o.dst v') w') : wpList Try.prog ops Q (o :: rest) a w := by
  obtain ⟨i0, hi, hz0, hz1, hz2⟩ := info_parts infoTexts
  have hvlt := h.lt
  obtain ⟨xs, hl, hown0, hrs0, hd1, hd2⟩ := h
  have hown := owns_later hown0 hb
  have hxlt : ∀ (i : Nat) y q, xs[i]? = some y → y.ownBlock = some q → q < w0.heap.size := fun i y q h1 h2 => by
    have hi : i < t.length := by rw [← hl]; exact (List.getElem?_eq_some_iff.1 h1).1
    exact (own_lt (hrs0 i y _ h1 (List.getElem?_eq_getElem hi)) q h2).2
  have hnew : ∀ q, xr.ownBlock = some q → H ≤ q ∧ q < w.heap.size := fun q hq => own_lt hr q hq
  have hnv : ∀ q, xr.ownBlock = some q → v.ownBlock ≠ some q := fun q hq e => by
    have := (hnew q hq).1
    have := (hvlt q e).2
    omega
  refine wpList_append_lies w hgd s x 22 ho base 29 i0 (.slice none 0 0) 1 24 Try.underlying22 hi hz0 hz1 hz2 rfl (by decide) v t.length xs hs hown ad 1 1 [xr] hx rfl (fun j u hu => ?_) (fun u hu => by simp at hu; subst hu; exact hone)
    (by decide) (by unfold maxLen; omega) (by omega) (Nat.le_trans hbase hb.size) w.heap.size rfl fun g cap w' h1 hg hat hlt => hK _ w' ?_ hg
  · match j, hu with
    | 0, hu => simp at hu; subst hu; simpa [Addr.add] using hcell
    | j + 1, hu => simp at hu
  · have hs := hg.size
    have hs0 := hb.size
    have split : ∀ (i : Nat) y, (xs ++ [xr])[i]? = some y → (i < t.length ∧ xs[i]? = some y) ∨ (i = t.length ∧ y = xr) := fun i y h2 => by
      by_cases hit : i < t.length
      · rw [List.getElem?_append_left (by omega)] at h2
        exact .inl ⟨hit, h2⟩
      · rw [List.getElem?_append_right (by omega), hl] at h2
        right
        match hd : i - t.length, h2 with
        | 0, h2 => simp at h2; exact ⟨by omega, h2.symm⟩
        | k + 1, h2 => simp at h2
    refine ⟨xs ++ [xr], by simp [hl], by rw [List.length_append]; exact h1, fun i y ry h2 h3 => ?_, fun i y q h2 h3 => ?_, fun i j y z q h2 h3 hij h4 => ?_⟩
    · rcases split i y h2 with ⟨hit, h2⟩ | ⟨rfl, rfl⟩
      · rw [List.getElem?_append_left hit] at h3
        exact ((hrs0 i y ry h2 h3).later hb).grown (fun q hq => hd1 i y q h2 hq) hg
      · rw [List.getElem?_append_right (Nat.le_refl _), Nat.sub_self] at h3
        simp at h3
        subst h3
        exact (hr.weak (Nat.le_trans hbase hH)).grown hnv hg
    · simp only [Value.ownBlock, ne_eq, Option.some.injEq]
      rintro rfl
      rcases split i y h2 with ⟨hit, h2⟩ | ⟨rfl, rfl⟩
      · rcases hat with h | h
        · exact hd1 i y g h2 h3 h
        · have := hxlt i y g h2 h3; omega
      · rcases hat with h | h
        · exact hnv g h3 h
        · have := (hnew g h3).2; omega
    · intro h5
      rcases split i y h2 with ⟨hit, k2⟩ | ⟨e1, e2⟩
      · rcases split j z h3 with ⟨hjt, k3⟩ | ⟨e3, e4⟩
        · exact hd2 i j y z q k2 k3 hij h4 h5
        · rw [e4] at h5
          have := hxlt i y q k2 h4; have := (hnew q h5).1; omega
      · rw [e2] at h4
        rcases split j z h3 with ⟨hjt, k3⟩ | ⟨e3, e4⟩
        · have := hxlt j z q k3 h5; have := (hnew q h4).1; omega
        · exact hij (e1.trans e3.symm)

set_option maxRecDepth 100000 in
set_option maxHeartbeats 1600000 in
theorem rtable_any (x : Value) (t : List (List ByteArray)) (w : World) (B : Nat) (hx : HoldsT w (· < B) x t) (hB : B ≤ w.heap.size) (hl : t.length ≤ 100) (hr : ∀ r ∈ t, r.length ≤ 100) :
    Calls Try.prog 51 #[x] w fun e w' => (∃ v, e = .returned v ∧ AccD w' w.heap.size v t) ∧ Below w.heap.size w w' := by
  have HX := Lib.hid hx
  have HR := Lib.hid hr
  obtain ⟨oa, ca, rfl, _, _⟩ := hx.form
  clear hx hr
  go_enter Try.func51, Try.ntmps51
  go_wp2_with fail
  go_loopw [3, 4] (fun v j wr => ∃ k : Nat, k ≤ t.length ∧ j = .int .i64 k ∧ Hid (AccD wr w.heap.size v (t.take k)) ∧ Below w.heap.size w wr) (fun _ j _ => t.length - (intOf j).toNat)
  case atStart => exact ⟨0, Nat.zero_le _, rfl, Lib.hid (AccD.nil _ _), Below.refl _ _⟩
  case round =>
    obtain ⟨k, hk, rfl, HA, hbel⟩ := hrel
    have hsz := hbel.size
    by_cases hlt : k < t.length
    · obtain ⟨b, off, o, cr, rfl, hb, h0, hrow⟩ := (HX.out.later (hbel.mono hB)).at_ (List.getElem?_eq_getElem hlt)
      have HL := Lib.hid (rlist_any _ t[k] wr B hrow (by omega) (HR.out _ (List.getElem_mem hlt)))
      have hki0 : (0 : Int) ≤ (k : Int) := by omega
      have hki1 : (k : Int) < (t.length : Int) := by omega
      have HTK := Lib.hid (take_snoc t k hlt)
      have HLK : Hid ((t.take k).length ≤ 999) := Lib.hid (by rw [List.length_take]; omega)
      obtain ⟨T0, hT0⟩ : ∃ T0, t.take k = T0 := ⟨_, rfl⟩
      rw [hT0] at HA HTK HLK
      clear hrow hT0
      go_wp2_with fail
      refine HL.out.mono ?_
      rintro e w2 ⟨⟨v, rfl, ho⟩, hb2⟩
      obtain ⟨ov, cv, rfl⟩ := ho.form
      have hs2 := hb2.size
      have HO2 := Lib.hid (ho.later (below1 w2 (.cells #[.slice ov t[k].length cv] 29)))
      have HB2 := Lib.hid (hb2.trans ((below1 w2 (.cells #[.slice ov t[k].length cv] 29)).mono hs2))
      have hbel2 := hbel.trans (hb2.mono hsz)
      clear ho
      go_wp2_with (at_builtin; refine AccD.append rfl _ _ rfl w.heap.size _ _ rfl HA.out HB2.out ⟨w2.heap.size, 0, none⟩ (.slice ov t[k].length cv) t[k] rfl (by simp) wr.heap.size HO2.out (Nat.le_refl _) rfl HLK.out hsz ?_)
      intro v3 w3 hacc hgrow
      have hb3 := (hbel2.alloc (by omega : w.heap.size ≤ w2.heap.size) (.cells #[.slice ov t[k].length cv] 29)).grown hgrow (by simp; omega) (fun q hq => (HA.out.lt q hq).1)
      have HA3 := Lib.hid hacc
      clear hacc hgrow
      go_wp2_with fail
      go_roundw
      case rel => exact ⟨k + 1, hlt, by go_num, Lib.hid (by rw [HTK.out]; exact HA3.out), hb3⟩
      case measure => simp [intOf]; omega
    · obtain rfl : k = t.length := by omega
      go_wp2_with fail
      go_ret
      exact ⟨⟨_, rfl, by have := HA.out; rw [List.take_length] at this; exact this⟩, hbel⟩

/-- The slice value holds tables. -/
def HoldsP (w : World) (P : Nat → Prop) (x : Value) (ps : List Tab) : Prop :=
  ∃ (oa : Option Addr) (cap : Nat), x = .slice oa ps.length cap ∧ ps.length ≤ cap ∧ cap ≤ 9223372036854775807 ∧
    ∀ (i : Nat) r, ps[i]? = some r → ∃ (b off : Nat) (xr : Value), oa = some ⟨b, off, none⟩ ∧ P b ∧ w.cell? ⟨b, off + i, none⟩ = some xr ∧ HoldsT w P xr r
theorem HoldsP.at_ {w : World} {P : Nat → Prop} {n c i : Nat} {oa : Option Addr} {ps : List Tab} {t : Tab} (h : HoldsP w P (.slice oa n c) ps) (hz : ps[i]? = some t) : ∃ (b off : Nat) (o : Option Addr) (cr : Nat), oa = some ⟨b, off, none⟩ ∧ P b ∧ w.cell? ⟨b, off + i, none⟩ = some (.slice o t.length cr) ∧ HoldsT w P (.slice o t.length cr) t := by
  obtain ⟨oa', cap, he, _, _, hel⟩ := h
  cases he
  obtain ⟨b, off, xr, rfl, hp, hc, hr⟩ := hel i t hz
  obtain ⟨o, cr, rfl, _, _⟩ := hr.form
  exact ⟨b, off, o, cr, rfl, hp, hc, hr⟩
theorem HoldsP.form {w : World} {P : Nat → Prop} {x : Value} {ps : List Tab} (h : HoldsP w P x ps) : ∃ oa cap, x = .slice oa ps.length cap := by
  obtain ⟨oa, cap, rfl, h1, h2, _⟩ := h
  exact ⟨oa, cap, rfl⟩
theorem flatP_take (p : List Tab) (k : Nat) (h : k < p.length) : (p.take (k + 1)).flatten = (p.take k).flatten ++ p[k] := by
  rw [take_snoc p k h, List.flatten_append]
  simp
theorem flatP_le (p : List Tab) (k : Nat) : (p.take k).flatten.length ≤ p.flatten.length := by
  have h : p.flatten = (p.take k).flatten ++ (p.drop k).flatten := by rw [← List.flatten_append, List.take_append_drop]
  rw [h, List.length_append]
  omega

set_option maxRecDepth 100000 in
set_option maxHeartbeats 3200000 in
theorem duplicate_any (x : Value) (ps : List Tab) (w : World) (B : Nat) (hx : HoldsP w (· < B) x ps) (hB : B ≤ w.heap.size) (hl : ps.flatten.length ≤ 100) (hpl : ps.length ≤ 10) (hr : ∀ t ∈ ps, ∀ r ∈ t, r.length ≤ 100) :
    Calls Try.prog 50 #[x] w fun e w' => (∃ v, e = .returned v ∧ AccD w' w.heap.size v ps.flatten) ∧ Below w.heap.size w w' := by
  have HX := Lib.hid hx
  have HR := Lib.hid hr
  have HLF := Lib.hid hl
  obtain ⟨oa, ca, rfl⟩ := hx.form
  clear hx hr hl
  go_enter Try.func50, Try.ntmps50
  go_wp2_with fail
  go_loopw [3, 10] (fun v j wr => ∃ k : Nat, k ≤ ps.length ∧ j = .int .i64 k ∧ Hid (AccD wr w.heap.size v (ps.take k).flatten) ∧ Below w.heap.size w wr) (fun _ j _ => ps.length - (intOf j).toNat)
  case atStart => exact ⟨0, Nat.zero_le _, rfl, Lib.hid (AccD.nil _ _), Below.refl _ _⟩
  case round =>
    obtain ⟨k, hk, rfl, HA, hbel⟩ := hrel
    obtain ⟨wo, hwo⟩ : ∃ wo : World, wo = wr := ⟨_, rfl⟩
    subst hwo
    have hsz := hbel.size
    by_cases hlt : k < ps.length
    · obtain ⟨b, off, o, cr, rfl, hb, h0, htab⟩ := HX.out.at_ (List.getElem?_eq_getElem hlt)
      have HT := Lib.hid htab
      rw [← hbel.cell (p := ⟨b, _, none⟩) (Nat.lt_of_lt_of_le hb hB)] at h0
      have hki0 : (0 : Int) ≤ (k : Int) := by omega
      have hki1 : (k : Int) < (ps.length : Int) := by omega
      have HFT := Lib.hid (flatP_take ps k hlt)
      have hle := flatP_le ps (k + 1)
      rw [flatP_take ps k hlt, List.length_append] at hle
      have HLE := Lib.hid (Nat.le_trans hle HLF.out)
      have HRR := Lib.hid (HR.out _ (List.getElem_mem hlt))
      obtain ⟨F0, hF0⟩ : ∃ F0, (ps.take k).flatten = F0 := ⟨_, rfl⟩
      obtain ⟨p, hp⟩ : ∃ p, ps[k] = p := ⟨_, rfl⟩
      rw [hF0] at HA HFT HLE
      rw [hp] at HFT HLE HRR HT h0
      have hp100 : p.length ≤ 100 := by have := HLE.out; omega
      clear htab hle hF0 hp
      go_wp2_with fail
      go_loopw [3, 16] (fun v j wr => ∃ m : Nat, m ≤ p.length ∧ j = .int .i64 m ∧ Hid (AccD wr w.heap.size v (F0 ++ p.take m)) ∧ Below w.heap.size w wr) (fun _ j _ => p.length - (intOf j).toNat)
      case atStart => exact ⟨0, Nat.zero_le _, rfl, Lib.hid (by rw [List.take_zero, List.append_nil]; exact HA.out), hbel⟩
      case round =>
        obtain ⟨m, hm, rfl, HA2, hbel2⟩ := hrel
        have hsz2 := hbel2.size
        clear h0
        by_cases hml : m < p.length
        · obtain ⟨b1, off1, o1, cr1, rfl, hb1, h1, hrow⟩ := (HT.out.later (hbel2.mono hB)).at_ (List.getElem?_eq_getElem hml)
          have hr100 := HRR.out _ (List.getElem_mem hml)
          have HP := Lib.hid (part_one wr B _ _ hrow (by omega))
          have HJ := Lib.hid (joined_any _ [p[m]] _ (wr.heap.size + 1) HP.out (by simp) (by simp; omega) (by simp))
          have hfl : [p[m]].flatten = p[m] := by simp
          rw [hfl] at HJ
          have hmi0 : (0 : Int) ≤ (m : Int) := by omega
          have hmi1 : (m : Int) < (p.length : Int) := by omega
          have HTK := Lib.hid (take_snoc p m hml)
          have HLK : Hid ((F0 ++ p.take m).length ≤ 999) := Lib.hid (by have := HLE.out; rw [List.length_append, List.length_take]; omega)
          have H100 := Lib.hid hr100
          obtain ⟨T0, hT0⟩ : ∃ T0, F0 ++ p.take m = T0 := ⟨_, rfl⟩
          have HT0 := Lib.hid hT0
          rw [hT0] at HA2 HLK
          clear hrow hT0 hfl hr100
          go_wp2_with fail
          refine HJ.out.mono ?_
          rintro e w2 ⟨⟨g, rfl, hg, ho⟩, hb2⟩
          have hbb := (below1 wr (.cells #[.slice o1 p[m].length cr1] 29)).trans (hb2.mono (by simp))
          have hs2 := hbb.size
          have HO2 := Lib.hid ((ho.own (Nat.le_trans (by simp) hg : wr.heap.size ≤ g) (by have := H100.out; omega)).later (below1 w2 (.cells #[.slice (some ⟨g, 0, none⟩) p[m].length p[m].length] 29)))
          have HB2 := Lib.hid (hbb.trans ((below1 w2 (.cells #[.slice (some ⟨g, 0, none⟩) p[m].length p[m].length] 29)).mono hs2))
          have hbel3 := hbel2.trans (hbb.mono hsz2)
          clear ho hb2 hg
          go_wp2_with (at_builtin; refine AccD.append rfl _ _ rfl w.heap.size _ _ rfl HA2.out HB2.out ⟨w2.heap.size, 0, none⟩ (.slice (some ⟨g, 0, none⟩) p[m].length p[m].length) p[m] rfl (by simp) wr.heap.size HO2.out (Nat.le_refl _) rfl HLK.out hsz2 ?_)
          intro v3 w3 hacc hgrow
          have hb3 := (hbel3.alloc (by omega : w.heap.size ≤ w2.heap.size) (.cells #[.slice (some ⟨g, 0, none⟩) p[m].length p[m].length] 29)).grown hgrow (by simp; omega) (fun q hq => (HA2.out.lt q hq).1)
          have HA3 := Lib.hid hacc
          clear hacc hgrow
          go_wp2_with fail
          go_roundw
          case rel => exact ⟨m + 1, hml, by go_num, Lib.hid (by rw [HTK.out, ← List.append_assoc, HT0.out]; exact HA3.out), hb3⟩
          case measure => simp [intOf]; omega
        · obtain rfl : m = p.length := by omega
          have HF : Hid (AccD wr w.heap.size u3 (F0 ++ p)) := Lib.hid (by have := HA2.out; rw [List.take_length] at this; exact this)
          go_wp2_with fail
          go_roundw
          case rel => exact ⟨k + 1, hlt, by go_num, Lib.hid (by rw [HFT.out]; exact HF.out), hbel2⟩
          case measure => simp [intOf]; omega
    · obtain rfl : k = ps.length := by omega
      go_wp2_with fail
      go_ret
      exact ⟨⟨_, rfl, by have := HA.out; rw [List.take_length] at this; exact this⟩, hbel⟩

end Go.Proofs.Ytampofpllijfhaa
