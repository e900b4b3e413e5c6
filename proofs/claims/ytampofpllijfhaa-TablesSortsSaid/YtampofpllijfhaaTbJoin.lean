/-
  A row that is filled from its head on; cellsOf and joined of the package. Nothing is assumed.
-/
import Derived.Test.YtampofpllijfhaaTbIdx
import Derived.Laws.CopyOwn
namespace Go.Proofs.Ytampofpllijfhaa
open Go.RowKit

theorem infoText : (Try.prog.info? 9).map (fun i => (i.zero, i.size, i.bytes)) = some (some (.string ⟨#[]⟩), 1, 16) := by kernel_rfl
theorem infoTexts : (Try.prog.info? 29).map (fun i => (i.zero, i.size, i.bytes)) = some (some (.slice none 0 0), 1, 24) := by kernel_rfl
theorem sizeText : (Try.prog.info? 9).map (·.size) = some 1 := by kernel_rfl

theorem heap_set {w : World} {g o : Nat} {cur : Array Value} {t : TypeId} {fr : Nat × Nat} (h : w.heap[g]? = some (.cells cur t fr)) (v : Value) :
    (w.setCell ⟨g, o, none⟩ v).heap[g]? = some (.cells (cur.setIfInBounds o v) t fr) := by
  simp [World.setCell, Array.getElem?_modify, h]
theorem size_set (w : World) (a : Addr) (v : Value) : (w.setCell a v).heap.size = w.heap.size := by simp [World.setCell]
def Row1 (w : World) (t : TypeId) (g n : Nat) (xs : List Value) : Prop :=
  ∃ (cur : Array Value), w.heap[g]? = some (.cells cur t (0, 0)) ∧ cur.size = n ∧ cur.toList.take xs.length = xs ∧ xs.length ≤ n

theorem Row1.lt {w : World} {t : TypeId} {g n : Nat} {xs : List Value} (h : Row1 w t g n xs) : g < w.heap.size := by
  obtain ⟨cur, hh, _⟩ := h
  rcases Nat.lt_or_ge g w.heap.size with h | h
  · exact h
  · rw [Array.getElem?_eq_none h] at hh; cases hh
theorem Row1.made {w : World} {base e g n m : Nat} {xs : List Value} (h : w.ownsRow base e 1 (.slice (some ⟨g, 0, none⟩) n n) m xs) : Row1 w e g n [] := by
  rcases h.2 with ⟨h0, _⟩ | ⟨g', cap, cur, hv, _, hh, _, _, hsz, _⟩
  · cases h0
  · cases hv
    exact ⟨cur, hh, by omega, by simp, Nat.zero_le _⟩
theorem Row1.later {w w' : World} {t : TypeId} {B g n : Nat} {xs : List Value} (h : Row1 w t g n xs) (hb : Below B w w') (hg : g < B) : Row1 w' t g n xs := by
  obtain ⟨cur, hh, hr⟩ := h
  exact ⟨cur, (hb.block g hg).trans hh, hr⟩
theorem Row1.cell {w : World} {t : TypeId} {g n : Nat} {xs : List Value} (h : Row1 w t g n xs) (k : Nat) (hk : k < n) :
    ∃ u, w.cell? ⟨g, k, none⟩ = some u ∧ w.frozen? ⟨g, k, none⟩ = false := by
  obtain ⟨cur, hh, hsz, _⟩ := h
  refine ⟨cur[k], ?_, ?_⟩
  · unfold World.cell?
    rw [hh]
    simp [hsz, hk]
  · unfold World.frozen?
    rw [hh]
    simp
theorem Row1.step {w : World} {t : TypeId} {g n k : Nat} {xs : List Value} (h : Row1 w t g n xs) (hk : xs.length < n) (ho : k = xs.length) (x : Value) : Row1 (w.setCell ⟨g, k, none⟩ x) t g n (xs ++ [x]) := by
  obtain ⟨cur, hh, hsz, htk, hle⟩ := h
  refine ⟨_, heap_set hh _, by simp [hsz], ?_, by simp; omega⟩
  subst ho
  rw [List.length_append, List.length_singleton, Array.toList_setIfInBounds]
  apply List.ext_getElem?
  intro i
  rw [List.getElem?_take]
  by_cases h1 : i < xs.length
  · rw [if_pos (by omega), List.getElem?_set_ne (by omega), List.getElem?_append_left h1, ← htk, List.getElem?_take, if_pos h1]
  · by_cases h2 : i = xs.length
    · subst h2
      rw [if_pos (by omega), List.getElem?_set_self (by simp; omega)]
      simp
    · rw [if_neg (by omega), List.getElem?_eq_none (by simp; omega)]
/-- The cells of a filled row. -/
theorem Row1.at {w : World} {t : TypeId} {g n : Nat} {xs : List Value} (h : Row1 w t g n xs) (i : Nat) (x : Value) (hx : xs[i]? = some x) : w.cell? ⟨g, i, none⟩ = some x := by
  obtain ⟨cur, hh, hsz, htk, hle⟩ := h
  have hi : i < xs.length := (List.getElem?_eq_some_iff.1 hx).1
  have h1 : cur.toList[i]? = some x := by
    rw [← htk, List.getElem?_take] at hx
    rw [if_pos hi] at hx
    exact hx
  unfold World.cell?
  rw [hh]
  simpa using h1

theorem Row1.other {w : World} {t : TypeId} {g n : Nat} {xs : List Value} (h : Row1 w t g n xs) (a : Addr) (v : Value) (ha : g ≠ a.block) : Row1 (w.setCell a v) t g n xs := by
  obtain ⟨cur, hh, hr⟩ := h
  exact ⟨cur, (Below.heap_setCell _ _ _ _ ha).trans hh, hr⟩

/-- .. after 'copy' of more cells. -/
theorem Row1.copied {w' : World} {g n : Nat} {xs cs : List Value} {cur : Array Value} {t : TypeId} (h : cur.size = n ∧ cur.toList.take xs.length = xs ∧ xs.length ≤ n)
    (hw : w'.heap[g]? = some (.cells (splice cur.toList xs.length cs).toArray t (0, 0))) (hn : xs.length + cs.length ≤ n) : Row1 w' t g n (xs ++ cs) := by
  obtain ⟨hsz, htk, hle⟩ := h
  refine ⟨_, hw, by rw [List.size_toArray, length_splice _ _ _ (by simp [hsz]; omega)]; simpa using hsz, ?_, by rw [List.length_append]; omega⟩
  unfold splice
  rw [htk, ← List.append_assoc]
  exact List.take_left
/-- A filled row holds a list of texts. -/
theorem Row1.holds {w : World} {e : TypeId} {g n : Nat} {l : List ByteArray} {P : Nat → Prop} (h : Row1 w e g n (l.map Value.string)) (hl : l.length = n) (hm : n ≤ 1000) (hP : P g) : HoldsS w P (.slice (some ⟨g, 0, none⟩) n n) l := by
  subst hl
  refine ⟨_, _, rfl, Nat.le_refl _, by omega, fun i z hz => ⟨g, 0, rfl, hP, ?_⟩⟩
  rw [Nat.zero_add]
  exact h.at i _ (by rw [List.getElem?_map, hz]; rfl)
/-- .. and a list of rows. -/
theorem Row1.table {w : World} {e : TypeId} {g n : Nat} {xs : List Value} {t : List (List ByteArray)} {P : Nat → Prop} (h : Row1 w e g n xs) (hl : t.length = n) (hx : xs.length = n) (hm : n ≤ 1000) (hP : P g) (hr : ∀ (i : Nat) x r, xs[i]? = some x → t[i]? = some r → HoldsS w P x r) :
    HoldsT w P (.slice (some ⟨g, 0, none⟩) n n) t := by
  subst hl
  refine ⟨_, _, rfl, Nat.le_refl _, by omega, fun i r hi => ?_⟩
  have hlt : i < t.length := (List.getElem?_eq_some_iff.1 hi).1
  have hxi : xs[i]? = some xs[i] := List.getElem?_eq_getElem (by omega)
  refine ⟨g, 0, _, rfl, hP, ?_, hr i _ r hxi hi⟩
  rw [Nat.zero_add]
  exact h.at i _ hxi

/-- The cells of a column. -/
def colOf (t : Tab) (k : Nat) : Row := t.map fun r => (r[k]?).getD ⟨#[]⟩
theorem colOf_len (t : Tab) (k : Nat) : (colOf t k).length = t.length := by simp [colOf]
theorem colOf_snoc (t : Tab) (c k : Nat) (h : k < t.length) (hc : c < t[k].length) : (colOf (t.take (k + 1)) c).map Value.string = (colOf (t.take k) c).map Value.string ++ [.string t[k][c]] := by
  rw [take_snoc t k h]
  unfold colOf
  rw [List.map_append, List.map_append]
  congr 1
  simp [hc]
theorem colOfK_len (t : Tab) (c k : Nat) (h : k ≤ t.length) : ((colOf (t.take k) c).map Value.string).length = k := by simp [colOf]; omega

/-- The blocks that a call has made. -/
def Btw (a b : Nat) : Nat → Prop := fun k => a ≤ k ∧ k < b

set_option maxRecDepth 100000 in
set_option maxHeartbeats 1600000 in
theorem cellsOf_any (x : Value) (t : List (List ByteArray)) (c : Nat) (w : World) (B : Nat) (hx : HoldsT w (· < B) x t) (hB : B ≤ w.heap.size) (hl : t.length ≤ 8) (hc : ∀ r ∈ t, c < r.length) :
    Calls Try.prog 47 #[x, .int .i64 (c : Int)] w fun e w' => (∃ v, e = .returned v ∧ HoldsS w' (Btw w.heap.size w'.heap.size) v (colOf t c)) ∧ Below w.heap.size w w' := by
  obtain ⟨i0, hi0, hz0, hz1, hz2⟩ := info_parts infoText
  have HX := Lib.hid hx
  have HC := Lib.hid hc
  obtain ⟨oa, ca, rfl, _, _⟩ := hx.form
  clear hx hc
  go_enter Try.func47, Try.ntmps47
  go_wp2_with (at_make; refine wpList_make_full _ rfl _ _ 29 rfl w.heap.size 9 i0 _ 1 Try.underlying29 hi0 hz0 hz1 _ _ _ _ t.length rfl rfl rfl rfl ?b2 ?b3 (Nat.le_refl _) ?_)
  case b2 => rw [hz2]; omega
  case b3 => unfold maxLen; omega
  intro w1 hown hgrow
  have hrow : Row1 w1 9 w.heap.size t.length [] := Row1.made hown
  have hg1 : w.heap.size < w1.heap.size := hrow.lt
  have hbw1 : Below w.heap.size w w1 := ((Below.refl _ _).grown hgrow (Nat.le_refl _) (fun k h => by cases h))
  clear hown hgrow
  go_wp2_with fail
  go_loopw [13] (fun j wr => ∃ k : Nat, k ≤ t.length ∧ j = .int .i64 k ∧ Hid (Row1 wr 9 w.heap.size t.length ((colOf (t.take k) c).map Value.string)) ∧ w.heap.size < wr.heap.size ∧ Below w.heap.size w wr) (fun j _ => t.length - (intOf j).toNat)
  case atStart => exact ⟨0, Nat.zero_le _, rfl, Lib.hid hrow, hg1, hbw1⟩
  case round =>
    obtain ⟨k, hk, rfl, HR, hgr, hbel⟩ := hrel
    have HLN := Lib.hid (colOfK_len t c k hk)
    clear hrow hg1 hbw1
    by_cases hlt : k < t.length
    · obtain ⟨b, off, o, cr, rfl, hb, h0, hrow⟩ := HX.out.at_ (List.getElem?_eq_getElem hlt)
      have hcl : c < t[k].length := HC.out _ (List.getElem_mem hlt)
      obtain ⟨b2, off2, rfl, hb2, h1⟩ := hrow.at_ (List.getElem?_eq_getElem hcl)
      rw [← hbel.cell (p := ⟨b, _, none⟩) (Nat.lt_of_lt_of_le hb hB)] at h0
      rw [← hbel.cell (p := ⟨b2, _, none⟩) (Nat.lt_of_lt_of_le hb2 hB)] at h1
      have HSN := Lib.hid (colOf_snoc t c k hlt hcl)
      have hki0 : (0 : Int) ≤ (k : Int) := by omega
      have hki1 : (k : Int) < (t.length : Int) := by omega
      have hci : (c : Int) < (t[k].length : Int) := by omega
      have hci0 : (0 : Int) ≤ (c : Int) := by omega
      obtain ⟨u0, e0, z0⟩ := HR.out.cell k hlt
      clear hrow
      go_wp2_with fail
      refine ⟨⟨k + 1, hlt, by go_num, ?_, by simp [World.setCell]; omega, hbel.setCell (p := ⟨w.heap.size, k, none⟩) (Nat.le_refl _) _⟩, by simp [intOf]; omega⟩
      exact Lib.hid (by rw [HSN.out]; exact HR.out.step (by rw [HLN.out]; exact hlt) HLN.out.symm _)
    · obtain rfl : k = t.length := by omega
      have HF : Hid (Row1 wr 9 w.heap.size t.length ((colOf t c).map Value.string)) := Lib.hid (by have := HR.out; rw [List.take_length] at this; exact this)
      go_wp2_with fail
      go_ret
      exact ⟨⟨_, rfl, HF.out.holds (colOf_len t c) (by omega) ⟨Nat.le_refl _, hgr⟩⟩, hbel⟩

theorem flat_take (p : Tab) (k : Nat) (h : k < p.length) : (p.take (k + 1)).flatten = (p.take k).flatten ++ p[k] := by
  rw [take_snoc p k h, List.flatten_append]
  simp
theorem flat_le (p : Tab) (k : Nat) : (p.take k).flatten.length ≤ p.flatten.length := by
  have h : p.flatten = (p.take k).flatten ++ (p.drop k).flatten := by rw [← List.flatten_append, List.take_append_drop]
  rw [h, List.length_append]
  omega
/-- A list of texts lies in a block of its own, from its head on, and fills it. -/
def Own1 (w : World) (g : Nat) (l : Row) : Prop := Row1 w 9 g l.length (l.map Value.string)

set_option maxRecDepth 100000 in
set_option maxHeartbeats 6400000 in
theorem joined_any (x : Value) (p : List (List ByteArray)) (w : World) (B : Nat) (hx : HoldsT w (· < B) x p) (hB : B ≤ w.heap.size) (hl : p.flatten.length ≤ 100) (_hp : p.length ≤ 10) :
    Calls Try.prog 53 #[x] w fun e w' => (∃ g, e = .returned (.slice (some ⟨g, 0, none⟩) p.flatten.length p.flatten.length) ∧ w.heap.size ≤ g ∧ Own1 w' g p.flatten) ∧ Below w.heap.size w w' := by
  obtain ⟨i0, hi0, hz0, hz1, hz2⟩ := info_parts infoText
  have HX := Lib.hid hx
  obtain ⟨oa, ca, rfl, _, _⟩ := hx.form
  clear hx
  obtain ⟨F, hF⟩ : ∃ F, p.flatten = F := ⟨_, rfl⟩
  have HF := Lib.hid hF
  rw [hF] at hl ⊢
  clear hF
  go_enter Try.func53, Try.ntmps53
  go_wp2_with fail
  go_loop [3, 12] (fun s j => ∃ k : Nat, k ≤ p.length ∧ j = .int .i64 k ∧ s = .int .i64 ((p.take k).flatten.length : Int)) (fun _ j => p.length - (intOf j).toNat)
  case atStart => exact ⟨0, Nat.zero_le _, rfl, rfl⟩
  case round =>
    obtain ⟨k, hk, rfl, rfl⟩ := hrel
    by_cases hlt : k < p.length
    · obtain ⟨b, off, o, cr, rfl, hb, h0, _⟩ := HX.out.at_ (List.getElem?_eq_getElem hlt)
      have hki0 : (0 : Int) ≤ (k : Int) := by omega
      have hki1 : (k : Int) < (p.length : Int) := by omega
      have HFT := Lib.hid (congrArg List.length (flat_take p k hlt))
      have hle := flat_le p (k + 1)
      rw [HF.out, flat_take p k hlt, List.length_append] at hle
      have HLE := Lib.hid hle
      have hb2 : ((p.take k).flatten.length : Int) + (p[k].length : Int) ≤ 100 := by omega
      obtain ⟨q, hq⟩ : ∃ q, (p.take k).flatten.length = q := ⟨_, rfl⟩
      rw [hq] at hb2 ⊢
      have HQ := Lib.hid hq
      clear hle hq
      go_wp2_with fail
      go_round
      case rel => exact ⟨k + 1, hlt, by go_num, by rw [HFT.out, List.length_append, HQ.out]; go_num⟩
      case measure => simp [intOf]; omega
    · obtain rfl : k = p.length := by omega
      rw [List.take_length, HF.out]
      go_wp2_with (at_make; refine wpList_make_full _ rfl _ _ 29 rfl w.heap.size 9 i0 _ 1 Try.underlying29 hi0 hz0 hz1 _ _ _ _ F.length rfl rfl rfl rfl ?b2 ?b3 (Nat.le_refl _) ?_)
      case b2 => omega
      case b3 => unfold maxLen; omega
      intro w1 hown hgrow
      have hrow : Row1 w1 9 w.heap.size F.length [] := Row1.made hown
      have hg1 : w.heap.size < w1.heap.size := hrow.lt
      have hbw1 : Below w.heap.size w w1 := ((Below.refl _ _).grown hgrow (Nat.le_refl _) (fun k h => by cases h))
      clear hown hgrow
      go_wp2_with fail
      go_loopw [7, 25] (fun s j wr => ∃ k : Nat, k ≤ p.length ∧ j = .int .i64 k ∧ s = .int .i64 ((p.take k).flatten.length : Int) ∧ Hid (Row1 wr 9 w.heap.size F.length ((p.take k).flatten.map Value.string)) ∧ Below w.heap.size w wr) (fun _ j _ => p.length - (intOf j).toNat)
      case atStart => exact ⟨0, Nat.zero_le _, rfl, rfl, Lib.hid hrow, hbw1⟩
      case round =>
        obtain ⟨k, hk, rfl, rfl, HR, hbel⟩ := hrel
        clear hrow hg1 hbw1
        by_cases hlt : k < p.length
        · obtain ⟨b, off, o, cr, rfl, hb, h0, hrow⟩ := HX.out.at_ (List.getElem?_eq_getElem hlt)
          rw [← hbel.cell (p := ⟨b, _, none⟩) (Nat.lt_of_lt_of_le hb hB)] at h0
          have hki0 : (0 : Int) ≤ (k : Int) := by omega
          have hki1 : (k : Int) < (p.length : Int) := by omega
          have HFT := Lib.hid (flat_take p k hlt)
          have hle := flat_le p (k + 1)
          rw [HF.out, flat_take p k hlt, List.length_append] at hle
          obtain ⟨f, hf⟩ : ∃ f, (p.take k).flatten = f := ⟨_, rfl⟩
          rw [hf] at hle HR HFT ⊢
          clear hf
          obtain ⟨cur, hh, hrest⟩ := HR.out
          have hsrc : 0 < (p[k].map Value.string).length → ∃ ad, o = some ad ∧ ∀ (j : Nat) v, (p[k].map Value.string)[j]? = some v → wr.cell? (ad.add j) = some v := by
            intro hpos
            simp at hpos
            obtain ⟨b2, off2, rfl, hb2, _⟩ := hrow.at_ (List.getElem?_eq_getElem hpos)
            refine ⟨_, rfl, fun j v hv => ?_⟩
            simp only [List.getElem?_map, Option.map_eq_some_iff] at hv
            obtain ⟨z, hz, rfl⟩ := hv
            obtain ⟨b3, off3, he, _, hc⟩ := hrow.at_ hz
            cases he
            rw [← hbel.cell (p := ⟨b2, _, none⟩) (Nat.lt_of_lt_of_le hb2 hB)] at hc
            unfold Addr.add
            split
            · rename_i h; subst h; exact hc
            · exact hc
          have HP := Lib.hid hsrc
          have HH := Lib.hid hh
          have HRS := Lib.hid hrest
          have HRW := Lib.hid hrow
          have hszc : cur.toList.length = F.length := by have := hrest.1; simpa using this
          obtain ⟨CUR, hcur⟩ : ∃ CUR, cur.toList = CUR := ⟨_, rfl⟩
          have HCUR := Lib.hid hcur
          rw [hcur] at hszc
          obtain ⟨PK, hpk⟩ : ∃ PK, p[k].map Value.string = PK := ⟨_, rfl⟩
          have hpl : PK.length = p[k].length := by rw [← hpk, List.length_map]
          have HPK := Lib.hid hpk
          have HONE : Hid (∀ v ∈ PK, v.oneCell' = true) := Lib.hid (by intro v hv; rw [← hpk] at hv; simp at hv; obtain ⟨z, _, rfl⟩ := hv; rfl)
          rw [hpk] at HP
          clear hsrc hh hrest hcur hpk hrow HR
          have hfi : (f.length : Int) ≤ (F.length : Int) := by omega
          have hfi0 : (0 : Int) ≤ (f.length : Int) := by omega
          have HB := Lib.hid hbel
          by_cases hend : f.length = F.length
          · have hp0 : p[k].length = 0 := by omega
            have hnil : PK = [] := List.eq_nil_of_length_eq_zero (by omega)
            go_wp2_with (refine wpList_copy_splice (o := ⟨some 34, _, _, _, _, _⟩) rfl (.tmp 32) (.tmp 33) 29 29 rfl 9 Try.underlying29 sizeText (some ⟨w.heap.size, 0, none⟩) o 0 0 0 cr rfl rfl w.heap.size f.length CUR 9 (by rw [← HCUR.out]; simpa using HH.out) PK (by rw [hnil]; rfl) (fun h => absurd h (by rw [hnil]; decide)) (by rw [hszc, hnil]; simp; omega) HONE.out w.heap.size w HB.out (Nat.le_refl _) ?_)
            intro w2 HG2 hB2
            have HR2 : Hid (Row1 w2 9 w.heap.size F.length ((f ++ p[k]).map Value.string)) := Lib.hid (by
              rw [List.map_append, HPK.out]
              have h1 := HRS.out
              exact Row1.copied h1 (by rw [HCUR.out, List.length_map]; have h := HG2.out; rw [hnil, hend]; exact h) (by rw [List.length_map, hpl]; omega))
            clear HG2 HB HH HRS
            go_wp2_with fail
            go_roundw
            case rel => exact ⟨k + 1, hlt, by go_num, by rw [HFT.out, List.length_append, ← hpl]; go_num, by rw [HFT.out]; exact HR2, hB2⟩
            case measure => simp [intOf]; omega
          · go_wp2_with (refine wpList_copy_splice (o := ⟨some 34, _, _, _, _, _⟩) rfl (.tmp 32) (.tmp 33) 29 29 rfl 9 Try.underlying29 sizeText (some ⟨w.heap.size, f.length, none⟩) o (F.length - f.length) (F.length - f.length) p[k].length cr rfl rfl w.heap.size f.length CUR 9 (by rw [← HCUR.out]; simpa using HH.out) PK (by rw [hpl]; show _ = min _ _; omega) (fun h => ⟨rfl, HP.out h⟩) (by rw [hszc, hpl]; omega) HONE.out w.heap.size w HB.out (Nat.le_refl _) ?_)
            intro w2 HG2 hB2
            have HR2 : Hid (Row1 w2 9 w.heap.size F.length ((f ++ p[k]).map Value.string)) := Lib.hid (by
              rw [List.map_append, HPK.out]
              have h1 := HRS.out
              exact Row1.copied h1 (by rw [HCUR.out, List.length_map]; exact HG2.out) (by rw [List.length_map, hpl]; omega))
            clear HG2 HB HH HRS
            go_wp2_with fail
            go_roundw
            case rel => exact ⟨k + 1, hlt, by go_num, by rw [HFT.out, List.length_append, ← hpl]; go_num, by rw [HFT.out]; exact HR2, hB2⟩
            case measure => simp [intOf]; omega
        · obtain rfl : k = p.length := by omega
          have HL : Hid (Row1 wr 9 w.heap.size F.length (F.map Value.string)) := Lib.hid (by have := HR.out; rw [List.take_length, HF.out] at this; exact this)
          go_wp2_with fail
          go_ret
          exact ⟨⟨_, rfl, Nat.le_refl _, HL.out⟩, hbel⟩

end Go.Proofs.Ytampofpllijfhaa
