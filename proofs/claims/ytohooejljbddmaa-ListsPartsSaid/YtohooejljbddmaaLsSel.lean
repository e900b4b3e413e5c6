/-
  Unique, Above, Even of the package; the examples. Nothing is assumed.
-/
import Derived.Test.YtohooejljbddmaaLsPart
import Derived.Maps.OwnSet
namespace Go.Proofs.Ytohooejljbddmaa
open Go.RowKit Go.Maps

/-! ### A set of numbers, as a map to true -/

theorem plainElem_bool_inv {H : Type} {P : Program} {e : TypeId} (he : P.underlying e = some .bool) {v : Value} {z : DataW H × List MemPlace} (h : plainElem P e v = some z) : ∃ a, v = .bool a ∧ z = (.lit (.bool a), []) := by
  unfold plainElem at h
  rw [he] at h
  cases v <;> simp at h
  exact ⟨_, rfl, h.symm⟩

theorem wpList_lookup_own_bool {H : Type} {P : Program} (w : World) {ops : Array Oper} {rest : List Oper} {o : Oper} {a : Act} {Q : Exit → Act → World → Prop}
    (hg : o.guard = none) (m x : Operand) (t : TypeId) (hop : o.op = Op.lookup t m x false)
    (k e : TypeId) (K : Keyed P k) (ht : P.underlying t = some (.map k e)) (he : P.underlying e = some .bool) (hz : (zeroValue e).run P w = .ok (.bool false) w) (b n : Nat) (D : DataW H)
    (hm : a.eval m = .map (some b)) (hown : w.ownsMap P k (plainElem P e) b n D) (key : Value) (kl : Lit) (hx : a.eval x = key) (hkey : keyOf P k key = some kl)
    (r : Bool) (hr : D.atKey kl (.lit (.bool false)) = .lit (.bool r)) (hK : wpList P ops Q rest (a.put o.dst (.bool r)) w) :
    wpList P ops Q (o :: rest) a w := by
  refine wpList_plain hg fun K' hK' => ?_
  obtain ⟨v, ps, hrun, hv⟩ := hown.lookup K ht hz (plainElem_bool he false) hkey
  obtain ⟨c, rfl, hc⟩ := plainElem_bool_inv he hv
  simp only [Prod.mk.injEq] at hc
  have hcr : c = r := by
    have := hc.1.symm.trans hr
    simpa using this
  subst hcr
  unfold Oper.wp
  simp [execOp, hop, hm, hx, hrun, Result.andThen]
  exact hK' _ _ hK

theorem keyLaw : Keyed Try.prog 2 := int_keyed Try.underlying2
theorem zeroBool (w : World) : (zeroValue 4).run Try.prog w = .ok (.bool false) w := by kernel_rfl

/-- The map holds true at just the numbers of the list. -/
def SetIs (w : World) (mb n : Nat) (s : List Int) : Prop :=
  ∃ D : DataW Unit, w.ownsMap Try.prog 2 (plainElem Try.prog 4) mb n D ∧ ∀ y : Int, D.atKey (.int .i64 y) (.lit (.bool false)) = .lit (.bool (s.contains y))
theorem SetIs.step {w : World} {mb n : Nat} {D : DataW Unit} {s s' : List Int} {z : Int} (h : w.ownsMap Try.prog 2 (plainElem Try.prog 4) mb n D) {w' : World} (h' : w'.ownsMap Try.prog 2 (plainElem Try.prog 4) mb (n + 1) (D.put (.int .i64 z) (.lit (.bool true))))
    (hs : ∀ y : Int, D.atKey (.int .i64 y) (.lit (.bool false)) = .lit (.bool (s.contains y))) (hm : ∀ y : Int, s'.contains y = (s.contains y || y == z)) : SetIs w' mb (n + 1) s' := by
  refine ⟨_, h', fun y => ?_⟩
  rw [hm]
  by_cases e : y = z
  · subst e
    rw [atKey_put_same h.isMap (by trivial)]
    simp
  · rw [atKey_put_other (by intro he; injection he with _ he; exact e he), hs y]
    simp [e]

set_option maxRecDepth 100000 in
set_option maxHeartbeats 800000 in
theorem unique1_any (z : Int) (s : List Int) (mb bx n : Nat) (w : World) (hz : (Lit.int .i64 z).wf = true) (hS : SetIs w mb n s) (hn : n ≤ 1000) (hc : w.cell? ⟨bx, 0, none⟩ = some (.map (some mb))) :
    Calls Try.prog 59 #[.int .i64 z, .pointer (some ⟨bx, 0, none⟩)] w fun e w' => e = .returned (.bool (!s.contains z)) ∧ w.grownBy w' (some mb) ∧
      ∀ s' : List Int, (∀ y : Int, s'.contains y = (s.contains y || y == z)) → SetIs w' mb (n + 1) s' := by
  obtain ⟨D, hown, hat⟩ := hS
  have hr := hat z
  have HAT := Lib.hid hat; clear hat
  generalize hcz : s.contains z = r at hr
  have HCZ := Lib.hid hcz; clear hcz
  have HR := Lib.hid hr; clear hr
  go_enter Try.func59, Try.ntmps59
  go_wp2_with (first | (at_lookup; refine wpList_lookup_own_bool _ rfl _ _ 43 rfl 2 4 keyLaw Try.underlying43 Try.underlying4 (zeroBool _) mb n D rfl hown _ _ rfl (keyOf_int_mk Try.underlying2 hz) r HR.out ?_) | (at_mapUpdate; (refine wpList_mapUpdate_own _ rfl _ _ _ 43 rfl 2 4 keyLaw Try.underlying43 _ mb n D rfl hown (by unfold maxLen; omega) _ _ _ rfl rfl (keyOf_int_mk Try.underlying2 hz) _ [] (plainElem_bool Try.underlying4 true) ?_; intro w1 hown1 hgrow1)))
  have H1 := Lib.hid hown1
  have H2 := Lib.hid hgrow1
  have H0 := Lib.hid hown
  clear hown1 hgrow1 hown
  go_wp2_with fail
  go_ret
  refine ⟨rfl, H2.out, fun s' hs' => SetIs.step H0.out H1.out HAT.out hs'⟩
/-! ### selected -/
theorem SetIs.kept {w w' : World} {mb n : Nat} {s : List Int} {row : Option Nat} (h : SetIs w mb n s) (hg : w.grownBy w' row) (hne : some mb ≠ row) : SetIs w' mb n s := by
  obtain ⟨D, h1, h2⟩ := h
  exact ⟨D, h1.kept hg hne, h2⟩
theorem OwnI.kept {w w' : World} {H : Nat} {v : Value} {l : List Int} {row : Option Nat} (h : OwnI w H v l) (hg : w.grownBy w' row) (hr : ∀ g, H ≤ g → row ≠ some g) : OwnI w' H v l := by
  refine ⟨h.1, ?_⟩
  rcases h.2 with h2 | ⟨g, cap, cur, hv, hH, hh, r⟩
  · exact .inl h2
  · have hlt : g < w.heap.size := by
      rcases Nat.lt_or_ge g w.heap.size with h | h
      · exact h
      · rw [Array.getElem?_eq_none h] at hh; cases hh
    exact .inr ⟨g, cap, cur, hv, hH, (hg.block g hlt (fun e => hr g hH e.symm)).trans hh, r⟩
theorem cell_kept {w w' : World} {b o : Nat} {u : Value} {row : Option Nat} (h : w.cell? ⟨b, o, none⟩ = some u) (hg : w.grownBy w' row) (hr : some b ≠ row) : w'.cell? ⟨b, o, none⟩ = some u := by
  rw [← h]
  exact World.cell?_of_block (hg.block b (World.block_lt_of_cell? _ _ h) hr)
theorem own_row {w : World} {H : Nat} {v : Value} {l : List Int} (h : OwnI w H v l) {g : Nat} (hg : g < H) : some g ≠ v.ownBlock := fun e => own_far h hg e.symm

set_option maxHeartbeats 400000 in
theorem above1_any (z n : Int) (bx : Nat) (w : World) (hc : w.cell? ⟨bx, 0, none⟩ = some (.int .i64 n)) :
    Calls Try.prog 60 #[.int .i64 z, .pointer (some ⟨bx, 0, none⟩)] w fun e w' => e = .returned (.bool (abv n z)) ∧ w = w' := by
  by_cases h : n < z
  · have HE : Hid (abv n z = true) := decide_eq_true h
    go_enter Try.func60, Try.ntmps60
    go_wp2_with fail
    go_ret
    exact ⟨ret_bool (by rw [HE.out]), rfl⟩
  · have HE : Hid (abv n z = false) := decide_eq_false h
    go_enter Try.func60, Try.ntmps60
    go_wp2_with fail
    go_ret
    exact ⟨ret_bool (by rw [HE.out]), rfl⟩
set_option maxHeartbeats 400000 in
theorem even1_any (z : Int) (w : World) :
    Calls Try.prog 61 #[.int .i64 z] w fun e w' => e = .returned (.bool (evn z)) ∧ w = w' := by
  by_cases h : z.tmod 2 = 0
  · have hb : (z.tmod 2 == 0) = true := by rw [h]; rfl
    have HE : Hid (evn z = true) := decide_eq_true h
    clear h
    go_enter Try.func61, Try.ntmps61
    go_wp2_with fail
    go_ret
    exact ⟨ret_bool (by rw [HE.out]), rfl⟩
  · have hb : (z.tmod 2 == 0) = false := by simpa using h
    have HE : Hid (evn z = false) := decide_eq_false h
    clear h
    go_enter Try.func61, Try.ntmps61
    go_wp2_with fail
    go_ret
    exact ⟨ret_bool (by rw [HE.out]), rfl⟩

set_option maxRecDepth 100000 in
set_option maxHeartbeats 1600000 in
theorem selU_any (x : Value) (l : List Int) (w : World) (B H : Nat) (hx : HoldsI w B x l) (hBH : B ≤ H) (hl : l.length ≤ 900) (mb bx : Nat) (hmb : H ≤ mb) (hmw : mb < w.heap.size) (hbx : H ≤ bx) (hbw : bx < w.heap.size) (hne : bx ≠ mb) (hS : SetIs w mb 0 []) (hbc : w.cell? ⟨bx, 0, none⟩ = some (.map (some mb))) (hw : I64L l) :
    Calls Try.prog 58 #[x, .func (.func 59) #[] #[.pointer (some ⟨bx, 0, none⟩)]] w fun e w' => RetI w.heap.size (unq l) e w' ∧ Below H w w' := by
  obtain ⟨oa, ca, rfl, _, _, hel⟩ := hx
  have HI := Lib.hid hw; clear hw
  go_enter Try.func58, Try.ntmps58
  go_wp2_with fail
  go_loopw [5, 10] (fun v j wr => ∃ k : Nat, k ≤ l.length ∧ j = .int .i64 k ∧ Hid (OwnI wr w.heap.size v (uqK l k)) ∧ Hid (SetIs wr mb k (uqK l k)) ∧ Hid (wr.cell? ⟨bx, 0, none⟩ = some (.map (some mb))) ∧ w.heap.size ≤ wr.heap.size ∧ Below H w wr) (fun _ j _ => l.length - (intOf j).toNat)
  case atStart => exact ⟨0, Nat.zero_le _, rfl, Lib.hid (by rw [uqK_zero]; exact OwnI.none _ _), Lib.hid (by rw [uqK_zero]; exact hS), hbc, Nat.le_refl _, Below.refl _ _⟩
  case round =>
    obtain ⟨k, hk, rfl, HO, HSET, HBX, hsz, hbel⟩ := hrel
    have hln := uqK_len l k hk
    by_cases hlt : k < l.length
    · obtain ⟨b, off, rfl, hb, hc⟩ := hel k _ (List.getElem?_eq_getElem hlt)
      rw [← hbel.cell (p := ⟨b, _, none⟩) (Nat.lt_of_lt_of_le hb hBH)] at hc
      have hki0 : (0 : Int) ≤ (k : Int) := by omega
      have hki1 : (k : Int) < (l.length : Int) := by omega
      clear hel
      have HC := Lib.hid (unique1_any l[k] (uqK l k) mb bx k wr (HI.out _ (List.getElem_mem hlt)) HSET.out (by omega) HBX.out)
      have HHAS := Lib.hid (uqK_has l k hlt)
      clear hS hbc
      cases hcc : (uqK l k).contains l[k] with
      | true =>
        have HSN := Lib.hid (uqK_hit l k hlt hcc)
        rw [hcc] at HC
        clear hcc
        go_wp2_with fail
        refine HC.out.mono ?_
        rintro e w2 ⟨rfl, hg, hs⟩
        have HO2 := Lib.hid (HO.out.kept hg (fun g hgg e => by cases e; omega))
        have HS2 := Lib.hid (hs _ HHAS.out)
        have HB2 := Lib.hid (cell_kept HBX.out hg (by intro e; cases e; exact hne rfl))
        have hb2 := hbel.grown hg (by omega) (fun q hq => by cases hq; exact hmb)
        have hs2 := hg.size
        clear hg hs
        go_wp2_with fail
        go_roundw
        case rel => exact ⟨k + 1, hlt, by go_num, Lib.hid (by rw [HSN.out]; exact HO2.out), HS2, HB2, by omega, hb2⟩
        case measure => simp [intOf]; omega
      | false =>
        have HSN := Lib.hid (uqK_miss l k hlt hcc)
        rw [hcc] at HC
        clear hcc
        go_wp2_with fail
        refine HC.out.mono ?_
        rintro e w2 ⟨rfl, hg, hs⟩
        have HO2 := Lib.hid (HO.out.kept hg (fun g hgg e => by cases e; omega))
        have HS2 := Lib.hid (hs _ HHAS.out)
        have HB2 := Lib.hid (cell_kept HBX.out hg (by intro e; cases e; exact hne rfl))
        have hb2 := hbel.grown hg (by omega) (fun q hq => by cases hq; exact hmb)
        have hs2 := hg.size
        clear hg hs
        go_wp2_with (at_builtin; refine append_src rfl _ _ rfl w.heap.size _ _ rfl (HO2.out.later (below1 _ _)) (some ⟨w2.heap.size, 0, none⟩) 1 1 rfl [l[k]] rfl (one_src _ _ _) ?c3 ?c4 ?_)
        case c3 => omega
        case c4 => simp; omega
        intro v3 w3 hown3 hg3
        have ha := World.grownBy_alloc w2 (.cells #[.int .i64 l[k]] 2) none
        have HO3 := Lib.hid (HSN.out ▸ hown3)
        have HS3 := Lib.hid ((HS2.out.kept ha (by simp)).kept hg3 (own_row HO2.out hmw))
        have HB3 := Lib.hid (cell_kept (cell_kept HB2.out ha (by simp)) hg3 (own_row HO2.out hbw))
        have hb3 := (hb2.alloc (by omega) (.cells #[.int .i64 l[k]] 2)).grown hg3 (by simp; omega) (fun q hq => by
          rcases Nat.lt_or_ge q w.heap.size with h | h
          · exact absurd hq (own_far HO2.out h)
          · omega)
        have hs3 := hg3.size
        simp at hs3
        clear hown3 hg3 ha
        go_wp2_with fail
        go_roundw
        case rel => exact ⟨k + 1, hlt, by go_num, HO3, HS3, HB3, by omega, hb3⟩
        case measure => simp [intOf]; omega
    · clear hel
      go_wp2_with fail
      go_ret
      exact ⟨RetI.mk HO.out (uqK_all l k (by omega)), hbel⟩

set_option maxRecDepth 100000 in
set_option maxHeartbeats 1600000 in
theorem selA_any (x : Value) (l : List Int) (w : World) (B H : Nat) (hx : HoldsI w B x l) (hBH : B ≤ H) (hl : l.length ≤ 900) (n : Int) (bx : Nat) (hbx : H ≤ bx) (hbw : bx < w.heap.size) (hbc : w.cell? ⟨bx, 0, none⟩ = some (.int .i64 n)) :
    Calls Try.prog 58 #[x, .func (.func 60) #[] #[.pointer (some ⟨bx, 0, none⟩)]] w fun e w' => RetI w.heap.size (sel (abv n) l) e w' ∧ Below H w w' := by
  obtain ⟨oa, ca, rfl, _, _, hel⟩ := hx
  go_enter Try.func58, Try.ntmps58
  go_wp2_with fail
  go_loopw [5, 10] (fun v j wr => ∃ k : Nat, k ≤ l.length ∧ j = .int .i64 k ∧ Hid (OwnI wr w.heap.size v (selK (abv n) l k)) ∧ Hid (wr.cell? ⟨bx, 0, none⟩ = some (.int .i64 n)) ∧ w.heap.size ≤ wr.heap.size ∧ Below H w wr) (fun _ j _ => l.length - (intOf j).toNat)
  case atStart => exact ⟨0, Nat.zero_le _, rfl, OwnI.none _ _, hbc, Nat.le_refl _, Below.refl _ _⟩
  case round =>
    obtain ⟨k, hk, rfl, HO, HBX, hsz, hbel⟩ := hrel
    have hln := selK_len (abv n) l k
    by_cases hlt : k < l.length
    · obtain ⟨b, off, rfl, hb, hc⟩ := hel k _ (List.getElem?_eq_getElem hlt)
      rw [← hbel.cell (p := ⟨b, _, none⟩) (Nat.lt_of_lt_of_le hb hBH)] at hc
      have hki0 : (0 : Int) ≤ (k : Int) := by omega
      have hki1 : (k : Int) < (l.length : Int) := by omega
      clear hel
      have HC := Lib.hid (above1_any l[k] n bx wr HBX.out)
      clear hbc
      cases hcc : abv n l[k] with
      | true =>
        have HSN := Lib.hid (selK_hit (abv n) l k hlt hcc)
        rw [hcc] at HC
        clear hcc
        go_wp2_with fail
        refine HC.out.mono ?_
        rintro e w2 ⟨rfl, rfl⟩
        go_wp2_with (at_builtin; refine append_src rfl _ _ rfl w.heap.size _ _ rfl (HO.out.later (below1 _ _)) (some ⟨wr.heap.size, 0, none⟩) 1 1 rfl [l[k]] rfl (one_src _ _ _) ?c3 ?c4 ?_)
        case c3 => omega
        case c4 => simp; omega
        intro v3 w3 hown3 hg3
        have ha := World.grownBy_alloc wr (.cells #[.int .i64 l[k]] 2) none
        have HO3 := Lib.hid (HSN.out ▸ hown3)
        have HB3 := Lib.hid (cell_kept (cell_kept HBX.out ha (by simp)) hg3 (own_row HO.out hbw))
        have hb3 := (hbel.alloc (by omega) (.cells #[.int .i64 l[k]] 2)).grown hg3 (by simp; omega) (fun q hq => by
          rcases Nat.lt_or_ge q w.heap.size with h | h
          · exact absurd hq (own_far HO.out h)
          · omega)
        have hs3 := hg3.size
        simp at hs3
        clear hown3 hg3 ha
        go_wp2_with fail
        go_roundw
        case rel => exact ⟨k + 1, hlt, by go_num, HO3, HB3, by omega, hb3⟩
        case measure => simp [intOf]; omega
      | false =>
        have HSN := Lib.hid (selK_miss (abv n) l k hlt hcc)
        rw [hcc] at HC
        clear hcc
        go_wp2_with fail
        refine HC.out.mono ?_
        rintro e w2 ⟨rfl, rfl⟩
        go_wp2_with fail
        go_roundw
        case rel => exact ⟨k + 1, hlt, by go_num, Lib.hid (by rw [HSN.out]; exact HO.out), HBX, hsz, hbel⟩
        case measure => simp [intOf]; omega
    · clear hel
      go_wp2_with fail
      go_ret
      exact ⟨RetI.mk HO.out (selK_all _ l k (by omega)), hbel⟩

set_option maxRecDepth 100000 in
set_option maxHeartbeats 1600000 in
theorem selE_any (x : Value) (l : List Int) (w : World) (B H : Nat) (hx : HoldsI w B x l) (hBH : B ≤ H) (hHw : H ≤ w.heap.size) (hl : l.length ≤ 900) :
    Calls Try.prog 58 #[x, .func (.func 61) #[] #[]] w fun e w' => RetI w.heap.size (sel evn l) e w' ∧ Below H w w' := by
  obtain ⟨oa, ca, rfl, _, _, hel⟩ := hx
  go_enter Try.func58, Try.ntmps58
  go_wp2_with fail
  go_loopw [5, 10] (fun v j wr => ∃ k : Nat, k ≤ l.length ∧ j = .int .i64 k ∧ Hid (OwnI wr w.heap.size v (selK evn l k)) ∧ w.heap.size ≤ wr.heap.size ∧ Below H w wr) (fun _ j _ => l.length - (intOf j).toNat)
  case atStart => exact ⟨0, Nat.zero_le _, rfl, OwnI.none _ _, Nat.le_refl _, Below.refl _ _⟩
  case round =>
    obtain ⟨k, hk, rfl, HO, hsz, hbel⟩ := hrel
    have hln := selK_len evn l k
    by_cases hlt : k < l.length
    · obtain ⟨b, off, rfl, hb, hc⟩ := hel k _ (List.getElem?_eq_getElem hlt)
      rw [← hbel.cell (p := ⟨b, _, none⟩) (Nat.lt_of_lt_of_le hb hBH)] at hc
      have hki0 : (0 : Int) ≤ (k : Int) := by omega
      have hki1 : (k : Int) < (l.length : Int) := by omega
      clear hel
      have HC := Lib.hid (even1_any l[k] wr)
      cases hcc : evn l[k] with
      | true =>
        have HSN := Lib.hid (selK_hit (evn) l k hlt hcc)
        rw [hcc] at HC
        clear hcc
        go_wp2_with fail
        refine HC.out.mono ?_
        rintro e w2 ⟨rfl, rfl⟩
        go_wp2_with (at_builtin; refine append_src rfl _ _ rfl w.heap.size _ _ rfl (HO.out.later (below1 _ _)) (some ⟨wr.heap.size, 0, none⟩) 1 1 rfl [l[k]] rfl (one_src _ _ _) ?c3 ?c4 ?_)
        case c3 => omega
        case c4 => simp; omega
        intro v3 w3 hown3 hg3
        have ha := World.grownBy_alloc wr (.cells #[.int .i64 l[k]] 2) none
        have HO3 := Lib.hid (HSN.out ▸ hown3)
        have hb3 := (hbel.alloc (by omega) (.cells #[.int .i64 l[k]] 2)).grown hg3 (by simp; omega) (fun q hq => by
          rcases Nat.lt_or_ge q w.heap.size with h | h
          · exact absurd hq (own_far HO.out h)
          · omega)
        have hs3 := hg3.size
        simp at hs3
        clear hown3 hg3 ha
        go_wp2_with fail
        go_roundw
        case rel => exact ⟨k + 1, hlt, by go_num, HO3, by omega, hb3⟩
        case measure => simp [intOf]; omega
      | false =>
        have HSN := Lib.hid (selK_miss (evn) l k hlt hcc)
        rw [hcc] at HC
        clear hcc
        go_wp2_with fail
        refine HC.out.mono ?_
        rintro e w2 ⟨rfl, rfl⟩
        go_wp2_with fail
        go_roundw
        case rel => exact ⟨k + 1, hlt, by go_num, Lib.hid (by rw [HSN.out]; exact HO.out), hsz, hbel⟩
        case measure => simp [intOf]; omega
    · clear hel
      go_wp2_with fail
      go_ret
      exact ⟨RetI.mk HO.out (selK_all _ l k (by omega)), hbel⟩

set_option maxRecDepth 100000 in
set_option maxHeartbeats 800000 in
theorem unique_any (x : Value) (l : List Int) (w : World) (B : Nat) (hx : HoldsI w B x l) (hB : B ≤ w.heap.size) (hl : l.length ≤ 900) (hw : I64L l) :
    Calls Try.prog 32 #[x] w fun e w' => RetI w.heap.size (unq l) e w' ∧ Below w.heap.size w w' := by
  have hmm := @run_makeMap Try.prog
  have HX := Lib.hid hx
  obtain ⟨oa, ca, rfl, _, _, hel⟩ := hx
  clear hel
  have HW := Lib.hid hw; clear hw
  go_enter Try.func32, Try.ntmps32
  go_wp2_with fail
  have hS : SetIs ((w.alloc (.map #[] 0)).alloc (.cells #[.map (some w.heap.size)] 43)) w.heap.size 0 [] :=
    SetIs.kept (w := w.alloc (.map #[] 0)) ⟨.map [], World.ownsMap_made w _ _ _, fun y => rfl⟩ (World.grownBy_alloc _ _ none) (by simp)
  have hbc : ((w.alloc (.map #[] 0)).alloc (.cells #[.map (some w.heap.size)] 43)).cell? ⟨w.heap.size + 1, 0, none⟩ = some (.map (some w.heap.size)) := by simp
  have hb0 : Below w.heap.size w ((w.alloc (.map #[] 0)).alloc (.cells #[.map (some w.heap.size)] 43)) := (below1 w _).alloc (by simp) _
  refine (selU_any _ l _ B w.heap.size (HX.out.later (hb0.mono hB)) hB hl w.heap.size (w.heap.size + 1) (Nat.le_refl _) (by simp; omega) (by omega) (by simp) (by omega) hS hbc HW.out).mono ?_
  rintro e w2 ⟨⟨v, rfl, ho⟩, hb⟩
  have HO := Lib.hid (ho.weak (H' := w.heap.size) (by simp; omega)); clear ho
  clear hS hbc
  go_wp2_with fail
  go_ret
  exact ⟨⟨_, rfl, HO.out⟩, hb0.trans hb⟩
set_option maxRecDepth 100000 in
set_option maxHeartbeats 800000 in
theorem above_any (x : Value) (l : List Int) (n : Int) (w : World) (B : Nat) (hx : HoldsI w B x l) (hB : B ≤ w.heap.size) (hl : l.length ≤ 900) :
    Calls Try.prog 36 #[x, .int .i64 n] w fun e w' => RetI w.heap.size (sel (abv n) l) e w' ∧ Below w.heap.size w w' := by
  have HX := Lib.hid hx
  obtain ⟨oa, ca, rfl, _, _, hel⟩ := hx
  clear hel
  go_enter Try.func36, Try.ntmps36
  go_wp2_with fail
  have hb0 := below1 w (.cells #[.int .i64 n] 2)
  have hbc : (w.alloc (.cells #[.int .i64 n] 2)).cell? ⟨w.heap.size, 0, none⟩ = some (.int .i64 n) := by simp
  refine (selA_any _ l _ B w.heap.size (HX.out.later (hb0.mono hB)) hB hl n w.heap.size (Nat.le_refl _) (by simp) hbc).mono ?_
  rintro e w2 ⟨⟨v, rfl, ho⟩, hb⟩
  have HO := Lib.hid (ho.weak (H' := w.heap.size) (by simp)); clear ho
  clear hbc
  go_wp2_with fail
  go_ret
  exact ⟨⟨_, rfl, HO.out⟩, hb0.trans hb⟩
set_option maxRecDepth 100000 in
set_option maxHeartbeats 800000 in
theorem even_any (x : Value) (l : List Int) (w : World) (B : Nat) (hx : HoldsI w B x l) (hB : B ≤ w.heap.size) (hl : l.length ≤ 900) :
    Calls Try.prog 38 #[x] w fun e w' => RetI w.heap.size (sel evn l) e w' ∧ Below w.heap.size w w' := by
  have HC := Lib.hid (selE_any x l w B w.heap.size hx hB (Nat.le_refl _) hl)
  obtain ⟨oa, ca, rfl, _, _, hel⟩ := hx
  clear hel
  go_enter Try.func38, Try.ntmps38
  go_wp2_with fail
  refine HC.out.mono ?_
  rintro e w2 ⟨⟨v, rfl, ho⟩, hb⟩
  have HO := Lib.hid ho; clear ho
  go_wp2_with fail
  go_ret
  exact ⟨⟨_, rfl, HO.out⟩, hb⟩

set_option maxRecDepth 100000 in
set_option maxHeartbeats 800000 in
theorem alive_any (w : World) : Calls Try.prog 12 #[] w fun e w' => e = .returned (.bool true) ∧ Below w.heap.size w w' := by
  have hb0 := below1 w (.cells #[.int .i64 2, .int .i64 1, .int .i64 2] 2)
  have hx : HoldsI (w.alloc (.cells #[.int .i64 2, .int .i64 1, .int .i64 2] 2)) (w.heap.size + 1) (.slice (some ⟨w.heap.size, 0, none⟩) 3 3) [2, 1, 2] := by
    refine ⟨_, 3, rfl, Nat.le_refl _, by omega, fun i z hz => ⟨w.heap.size, 0, rfl, by omega, ?_⟩⟩
    match i, hz with
    | 0, hz => cases hz; simp
    | 1, hz => cases hz; simp
    | 2, hz => cases hz; simp
    | i + 3, hz => simp at hz
  have HC := Lib.hid (unique_any _ _ _ _ hx (by simp) (by simp) (by intro z hz; simp at hz; rcases hz with rfl | rfl | rfl <;> rfl))
  clear hx
  go_enter Try.func12, Try.ntmps12
  go_wp2_with fail
  refine HC.out.mono ?_
  rintro e w2 ⟨⟨v, rfl, ho⟩, hb⟩
  obtain ⟨oa, ca, rfl, h1, h2, hX⟩ := (ho.holds).form (n := 2) rfl
  obtain ⟨b, off, rfl, _, c0⟩ := hX.at_ (i := 0) (z := 2) rfl
  obtain ⟨b', off', he, _, c1⟩ := hX.at_ (i := 1) (z := 1) rfl
  cases he
  simp only [Nat.add_zero] at c0
  clear ho hX
  go_wp2_with fail
  go_ret
  exact ⟨rfl, hb0.trans (hb.mono (by simp))⟩

end Go.Proofs.Ytohooejljbddmaa
