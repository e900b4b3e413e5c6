/-
  The constructors of values of lists and tables of package value. Nothing is assumed.
-/
import Derived.Test.YthnlkijkgnmbhaaDoorDmOf
import Derived.Test.YthnlkijkgnmbhaaDoorDmRow
import Derived.OwnWalk
namespace Go.Proofs.YthnlkijkgnmbhaaDoor
open Go.RowKit

theorem RepS.later {w w' : World} {S T : Nat → Prop} {x : Value} {l : List V} (h : RepS w S x l) (hT : ∀ b, S b → T b) (hS : ∀ b, S b → ∀ o, w'.cell? ⟨b, o, none⟩ = w.cell? ⟨b, o, none⟩) : RepS w' T x l := by
  induction h with
  | empty oa cap => exact .empty oa cap
  | arr b off cap l sl hb hl hm hc hr ih =>
    refine .arr b off cap l sl (hT b hb) hl hm (fun i v hv => ?_) ih
    rw [hS b hb, hS b hb, hS b hb, hS b hb]
    exact hc i v hv

/-- A slice of values that the call has built, its blocks told. -/
theorem RepS.of_owns {w : World} {base e : Nat} {x : Value} {ps : List (V × Value)} {S : Nat → Prop} (h : w.ownsRow base e 4 x ps.length (flat ps)) (hr : ∀ p, p ∈ ps → RepS w S p.2 p.1.l) (hm : ps.length ≤ 9223372036854775807)
    (hS : ∀ g, base ≤ g → g < w.heap.size → S g) : RepS w S x (ps.map (·.1)) := by
  rcases h.2 with ⟨rfl, h0⟩ | ⟨g, cap, cur, rfl, hg, hh, hcap, _, hsz, htk⟩
  · obtain rfl := List.eq_nil_of_length_eq_zero h0
    exact RepS.nil
  · have hlt : g < w.heap.size := by
      rcases Nat.lt_or_ge g w.heap.size with h | h
      · exact h
      · rw [Array.getElem?_eq_none h] at hh; cases hh
    have cell : ∀ o u, (flat ps)[o]? = some u → w.cell? ⟨g, o, none⟩ = some u := by
      intro o u hu
      have ho : o < ps.length * 4 := by
        have := (List.getElem?_eq_some_iff.1 hu).1
        rwa [flat_len] at this
      have h1 : cur.toList[o]? = some u := by
        rw [← htk, List.getElem?_take] at hu
        rw [if_pos ho] at hu
        exact hu
      unfold World.cell?
      rw [hh]
      simpa using h1
    have key : (ps.map (·.1)).length = ps.length := by simp
    rw [← key]
    refine .arr g 0 cap (ps.map (·.1)) (fun i => ((ps[i]?).map (·.2)).getD .nilIface) (hS g hg hlt) (by omega) (by omega) (fun i v hv => ?_) (fun i v hv => ?_)
    · simp only [List.getElem?_map, Option.map_eq_some_iff] at hv
      obtain ⟨p, hp, rfl⟩ := hv
      have f := fun j hj => flat_at ps i j p hp hj
      simp only [Nat.zero_add, hp, Option.map_some, Option.getD_some]
      exact ⟨cell _ _ (f 0 (by omega)), cell _ _ (f 1 (by omega)), cell _ _ (f 2 (by omega)), cell _ _ (f 3 (by omega))⟩
    · simp only [List.getElem?_map, Option.map_eq_some_iff] at hv
      obtain ⟨p, hp, rfl⟩ := hv
      simp only [hp, Option.map_some, Option.getD_some]
      exact hr p (List.mem_of_getElem? hp)

/-- The blocks from lo on, below hi. -/
def Btw (lo hi : Nat) (b : Nat) : Prop := lo ≤ b ∧ b < hi

/-- A row of n values, block g, filled as far as ps goes. -/
def Row4 (w : World) (g n : Nat) (ps : List (V × Value)) : Prop :=
  ∃ (cur : Array Value) (t : TypeId), w.heap[g]? = some (.cells cur t (0, 0)) ∧ cur.size = n * 4 ∧ cur.toList.take (ps.length * 4) = flat ps ∧ ps.length ≤ n

theorem Row4.lt {w : World} {g n : Nat} {ps : List (V × Value)} (h : Row4 w g n ps) : g < w.heap.size := by
  obtain ⟨cur, t, hh, _⟩ := h
  rcases Nat.lt_or_ge g w.heap.size with h | h
  · exact h
  · rw [Array.getElem?_eq_none h] at hh; cases hh
theorem Row4.made {w : World} {base e g n m : Nat} {xs : List Value} (h : w.ownsRow base e 4 (.slice (some ⟨g, 0, none⟩) n n) m xs) : Row4 w g n [] := by
  rcases h.2 with ⟨h0, _⟩ | ⟨g', cap, cur, hv, _, hh, _, _, hsz, _⟩
  · cases h0
  · cases hv
    exact ⟨cur, e, hh, hsz, by simp [flat], Nat.zero_le _⟩
theorem Row4.later {w w' : World} {B g n : Nat} {ps : List (V × Value)} (h : Row4 w g n ps) (hb : Below B w w') (hg : g < B) : Row4 w' g n ps := by
  obtain ⟨cur, t, hh, hr⟩ := h
  exact ⟨cur, t, (hb.block g hg).trans hh, hr⟩
theorem Row4.cell {w : World} {g n : Nat} {ps : List (V × Value)} (h : Row4 w g n ps) (k j : Nat) (hk : k < n) (hj : j < 4) :
    ∃ u, w.cell? ⟨g, k * 4 + j, none⟩ = some u ∧ w.frozen? ⟨g, k * 4 + j, none⟩ = false := by
  obtain ⟨cur, t, hh, hsz, _⟩ := h
  have ho : k * 4 + j < cur.size := by omega
  refine ⟨cur[k * 4 + j], ?_, ?_⟩
  · unfold World.cell?
    rw [hh]
    simp [ho]
  · unfold World.frozen?
    rw [hh]
    simp

theorem heap_set {w : World} {g o : Nat} {cur : Array Value} {t : TypeId} {fr : Nat × Nat} (h : w.heap[g]? = some (.cells cur t fr)) (v : Value) :
    (w.setCell ⟨g, o, none⟩ v).heap[g]? = some (.cells (cur.setIfInBounds o v) t fr) := by
  simp [World.setCell, Array.getElem?_modify, h]

theorem set4 {l : List Value} {n : Nat} (h : n + 4 ≤ l.length) (a b c d : Value) : ((((l.set n a).set (n + 1) b).set (n + 2) c).set (n + 3) d).take (n + 4) = l.take n ++ [a, b, c, d] := by
  apply List.ext_getElem?
  intro i
  rw [List.getElem?_take]
  by_cases h1 : i < n
  · rw [if_pos (by omega), List.getElem?_append_left (by simp; omega), List.getElem?_take, if_pos h1]
    rw [List.getElem?_set_ne (by omega), List.getElem?_set_ne (by omega), List.getElem?_set_ne (by omega), List.getElem?_set_ne (by omega)]
  · by_cases h2 : i < n + 4
    · rw [if_pos h2, List.getElem?_append_right (by simp; omega)]
      have hlen : (l.take n).length = n := by simp; omega
      rw [hlen]
      have hc : i = n ∨ i = n + 1 ∨ i = n + 2 ∨ i = n + 3 := by omega
      rcases hc with rfl | rfl | rfl | rfl
      · rw [List.getElem?_set_ne (by omega), List.getElem?_set_ne (by omega), List.getElem?_set_ne (by omega), List.getElem?_set_self (by omega)]
        simp
      · rw [List.getElem?_set_ne (by omega), List.getElem?_set_ne (by omega), List.getElem?_set_self (by simp; omega)]
        simp
      · rw [List.getElem?_set_ne (by omega), List.getElem?_set_self (by simp; omega)]
        simp
      · rw [List.getElem?_set_self (by simp; omega)]
        simp
    · rw [if_neg h2, List.getElem?_eq_none (by simp; omega)]

theorem Row4.step {w : World} {g n o : Nat} {ps : List (V × Value)} (h : Row4 w g n ps) (hk : ps.length < n) (ho : o = ps.length * 4) (p : V × Value) :
    Row4 ((((w.setCell ⟨g, o, none⟩ (.int .i64 p.1.t)).setCell ⟨g, o + 1, none⟩ (.int .i64 p.1.n)).setCell ⟨g, o + 2, none⟩ (.string p.1.s)).setCell ⟨g, o + 3, none⟩ p.2) g n (ps ++ [p]) := by
  obtain ⟨cur, t, hh, hsz, htk, hle⟩ := h
  refine ⟨_, t, heap_set (heap_set (heap_set (heap_set hh _) _) _) _, by simp [hsz], ?_, by simp; omega⟩
  rw [flat_snoc, ← htk]
  have e : (ps ++ [p]).length * 4 = o + 4 := by simp; omega
  rw [e, ho]
  have := set4 (l := cur.toList) (n := ps.length * 4) (by simp; omega) (.int .i64 p.1.t) (.int .i64 p.1.n) (.string p.1.s) p.2
  simpa [V.cs] using this

theorem below_set4 {w w1 : World} {B g o : Nat} (h : Below B w w1) (hg : B ≤ g) (a b c d : Value) :
    Below B w ((((w1.setCell ⟨g, o, none⟩ a).setCell ⟨g, o + 1, none⟩ b).setCell ⟨g, o + 2, none⟩ c).setCell ⟨g, o + 3, none⟩ d) :=
  (((h.setCell (p := ⟨g, _, none⟩) hg _).setCell (p := ⟨g, _, none⟩) hg _).setCell (p := ⟨g, _, none⟩) hg _).setCell (p := ⟨g, _, none⟩) hg _

theorem size_set (w : World) (a : Addr) (v : Value) : (w.setCell a v).heap.size = w.heap.size := by simp [World.setCell]

/-- A filled row, read as a list of values. -/
theorem Row4.rep {w : World} {g n : Nat} {ps : List (V × Value)} {S : Nat → Prop} (h : Row4 w g n ps) (hn : ps.length = n) (hr : ∀ p, p ∈ ps → RepS w S p.2 p.1.l) (hm : n ≤ 9223372036854775807) (hS : ∀ b, g ≤ b → b < w.heap.size → S b) :
    RepS w S (.slice (some ⟨g, 0, none⟩) n n) (ps.map (·.1)) := by
  subst hn
  obtain ⟨cur, t, hh, hsz, htk, _⟩ := h
  exact RepS.of_owns (base := g) (e := t) ⟨flat_len ps, .inr ⟨g, ps.length, cur, rfl, Nat.le_refl _, hh, Nat.le_refl _, by unfold maxLen; omega, hsz, htk⟩⟩ hr hm hS

/-- What a function that returns a list of values has returned: its blocks are new. -/
def RetL (H : Nat) (l : List V) (e : Ending) (w' : World) : Prop :=
  ∃ oa cap, e = .returned (.slice oa l.length cap) ∧ RepS w' (Btw H w'.heap.size) (.slice oa l.length cap) l

set_option maxRecDepth 100000 in
set_option maxHeartbeats 1600000 in
theorem mapInts_any (zs : List Int) (x : Value) (w : World) (B : Nat) (hl : LInts w B x zs) (hB : B ≤ w.heap.size) (hn : zs.length ≤ 1000) :
    Calls Tryd.prog 80 #[x, .func (.func 61) #[] #[]] w fun e w' =>
      RetL w.heap.size (zs.map fun z => .mk 2 z ⟨#[]⟩ []) e w' ∧ Below w.heap.size w w' := by
  obtain ⟨oa, cap, rfl, hm, hel⟩ := hl
  obtain ⟨i, hi, hz0, hz1, hz2⟩ := info_parts infoValue
  go_enter Tryd.func80, Tryd.ntmps80
  go_wp2_with (at_make; refine wpList_make_full _ rfl _ _ 33 rfl w.heap.size 48 i _ 4 Tryd.underlying33 hi hz0 hz1 _ _ _ _ zs.length rfl rfl rfl rfl ?b2 ?b3 (Nat.le_refl _) ?_)
  case b2 => rw [hz2]; omega
  case b3 => unfold maxLen; omega
  intro w1 hown hgrow
  go_wp2_with fail
  have hrow : Row4 w1 w.heap.size zs.length [] := Row4.made hown
  have hbw1 : Below w.heap.size w w1 := (Below.refl _ _).grown hgrow (Nat.le_refl _) (fun k h => by cases h)
  have hg1 : w.heap.size < w1.heap.size := hrow.lt
  clear hown hgrow
  go_loopw [13] (fun v wr => ∃ k : Nat, k ≤ zs.length ∧ v = .int .i64 k ∧ Hid (Row4 wr w.heap.size zs.length ((zs.take k).map fun z => (.mk 2 z ⟨#[]⟩ [], .slice none 0 0))) ∧ w.heap.size < wr.heap.size ∧ Below w.heap.size w wr) (fun v _ => zs.length - (intOf v).toNat)
  case atStart => exact ⟨0, Nat.zero_le _, rfl, hrow, hg1, hbw1⟩
  case round =>
    obtain ⟨k, hk, rfl, HR, hgr, hbel⟩ := hrel
    by_cases hlt : k < zs.length
    · obtain ⟨b, off, c, rfl, hb, hc, hcv⟩ := hel k _ (List.getElem?_eq_getElem hlt)
      obtain rfl : c = .int .i64 zs[k] := hcv
      rw [← hbel.cell (p := ⟨b, _, none⟩) (Nat.lt_of_lt_of_le hb hB)] at hc
      go_wp2_with fail
      refine (ofInt_any zs[k] wr).mono ?_
      rintro e w2 ⟨rfl, hb2⟩
      have HR2 := Lib.hid (HR.out.later hb2 hgr)
      obtain ⟨u0, e0, z0⟩ := HR2.out.cell k 0 hlt (by omega)
      obtain ⟨u1, e1, z1⟩ := HR2.out.cell k 1 hlt (by omega)
      obtain ⟨u2, e2, z2⟩ := HR2.out.cell k 2 hlt (by omega)
      obtain ⟨u3, e3, z3⟩ := HR2.out.cell k 3 hlt (by omega)
      simp only [Nat.add_zero] at e0 z0
      go_wp2_with fail
      have hs2 := hb2.size
      refine ⟨⟨k + 1, hlt, by go_num, ?_, by simp only [size_set]; omega, below_set4 (hbel.trans (hb2.mono hbel.size)) (Nat.le_refl _) _ _ _ _⟩, by simp [intOf]; omega⟩
      have h := HR2.out.step (o := k * 4) (by simp; omega) (by simp; omega) (.mk 2 zs[k] ⟨#[]⟩ [], .slice none 0 0)
      rw [List.take_succ_eq_append_getElem hlt, List.map_append]
      exact h
    · go_wp2_with fail
      go_ret
      have h := HR.out.rep (S := Btw w.heap.size wr.heap.size) (by simp; omega) (fun p hp => by
        obtain ⟨z, _, rfl⟩ := List.mem_map.1 hp
        exact RepS.nil) hm (fun b h1 h2 => ⟨h1, h2⟩)
      rw [List.take_of_length_le (by omega), List.map_map] at h
      refine ⟨⟨some ⟨w.heap.size, 0, none⟩, zs.length, ?_, ?_⟩, hbel⟩
      · rw [List.length_map]; rfl
      · rw [List.length_map]; exact h

set_option maxRecDepth 100000 in
set_option maxHeartbeats 1600000 in
theorem mapTexts_any (zs : List ByteArray) (x : Value) (w : World) (B : Nat) (hl : LStrs w B x zs) (hB : B ≤ w.heap.size) (hn : zs.length ≤ 1000) :
    Calls Tryd.prog 81 #[x, .func (.func 63) #[] #[]] w fun e w' =>
      RetL w.heap.size (zs.map fun z => .mk 3 0 z []) e w' ∧ Below w.heap.size w w' := by
  obtain ⟨oa, cap, rfl, hm, hel⟩ := hl
  obtain ⟨i, hi, hz0, hz1, hz2⟩ := info_parts infoValue
  go_enter Tryd.func81, Tryd.ntmps81
  go_wp2_with (at_make; refine wpList_make_full _ rfl _ _ 33 rfl w.heap.size 48 i _ 4 Tryd.underlying33 hi hz0 hz1 _ _ _ _ zs.length rfl rfl rfl rfl ?b2 ?b3 (Nat.le_refl _) ?_)
  case b2 => rw [hz2]; omega
  case b3 => unfold maxLen; omega
  intro w1 hown hgrow
  go_wp2_with fail
  have hrow : Row4 w1 w.heap.size zs.length [] := Row4.made hown
  have hbw1 : Below w.heap.size w w1 := (Below.refl _ _).grown hgrow (Nat.le_refl _) (fun k h => by cases h)
  have hg1 : w.heap.size < w1.heap.size := hrow.lt
  clear hown hgrow
  go_loopw [13] (fun v wr => ∃ k : Nat, k ≤ zs.length ∧ v = .int .i64 k ∧ Hid (Row4 wr w.heap.size zs.length ((zs.take k).map fun z => (.mk 3 0 z [], .slice none 0 0))) ∧ w.heap.size < wr.heap.size ∧ Below w.heap.size w wr) (fun v _ => zs.length - (intOf v).toNat)
  case atStart => exact ⟨0, Nat.zero_le _, rfl, hrow, hg1, hbw1⟩
  case round =>
    obtain ⟨k, hk, rfl, HR, hgr, hbel⟩ := hrel
    by_cases hlt : k < zs.length
    · obtain ⟨b, off, c, rfl, hb, hc, hcv⟩ := hel k _ (List.getElem?_eq_getElem hlt)
      obtain rfl : c = .string zs[k] := hcv
      rw [← hbel.cell (p := ⟨b, _, none⟩) (Nat.lt_of_lt_of_le hb hB)] at hc
      go_wp2_with fail
      refine (ofText_any zs[k] wr).mono ?_
      rintro e w2 ⟨rfl, hb2⟩
      have HR2 := Lib.hid (HR.out.later hb2 hgr)
      obtain ⟨u0, e0, z0⟩ := HR2.out.cell k 0 hlt (by omega)
      obtain ⟨u1, e1, z1⟩ := HR2.out.cell k 1 hlt (by omega)
      obtain ⟨u2, e2, z2⟩ := HR2.out.cell k 2 hlt (by omega)
      obtain ⟨u3, e3, z3⟩ := HR2.out.cell k 3 hlt (by omega)
      simp only [Nat.add_zero] at e0 z0
      go_wp2_with fail
      have hs2 := hb2.size
      refine ⟨⟨k + 1, hlt, by go_num, ?_, by simp only [size_set]; omega, below_set4 (hbel.trans (hb2.mono hbel.size)) (Nat.le_refl _) _ _ _ _⟩, by simp [intOf]; omega⟩
      have h := HR2.out.step (o := k * 4) (by simp; omega) (by simp; omega) (.mk 3 0 zs[k] [], .slice none 0 0)
      rw [List.take_succ_eq_append_getElem hlt, List.map_append]
      exact h
    · go_wp2_with fail
      go_ret
      have h := HR.out.rep (S := Btw w.heap.size wr.heap.size) (by simp; omega) (fun p hp => by
        obtain ⟨z, _, rfl⟩ := List.mem_map.1 hp
        exact RepS.nil) hm (fun b h1 h2 => ⟨h1, h2⟩)
      rw [List.take_of_length_le (by omega), List.map_map] at h
      refine ⟨⟨some ⟨w.heap.size, 0, none⟩, zs.length, ?_, ?_⟩, hbel⟩
      · rw [List.length_map]; rfl
      · rw [List.length_map]; exact h

theorem Btw.set4 {w1 : World} {H N o : Nat} (hN : N < H) (a b c d : Value) {S : Nat → Prop} {x : Value} {l : List V} (h : RepS w1 (Btw H w1.heap.size) x l) (hS : ∀ b, Btw H w1.heap.size b → S b) :
    RepS ((((w1.setCell ⟨N, o, none⟩ a).setCell ⟨N, o + 1, none⟩ b).setCell ⟨N, o + 2, none⟩ c).setCell ⟨N, o + 3, none⟩ d) S x l := by
  refine h.later hS (fun b' hb' o' => ?_)
  have hne : ∀ q, (⟨N, q, none⟩ : Addr) ≠ ⟨b', o', none⟩ := fun q e => by
    have := congrArg Addr.block e
    have h1 := hb'.1
    simp at this
    omega
  rw [World.cell?_setCell_other _ _ _ _ (hne _), World.cell?_setCell_other _ _ _ _ (hne _), World.cell?_setCell_other _ _ _ _ (hne _), World.cell?_setCell_other _ _ _ _ (hne _)]

/-- What a function that returns a value with elements has returned: the blocks of its elements are new. -/
def RetV (H : Nat) (v : V) (e : Ending) (w' : World) : Prop :=
  ∃ oa cap, e = .returned (.agg #[.int .i64 v.t, .int .i64 v.n, .string v.s, .slice oa v.l.length cap]) ∧ RepS w' (Btw H w'.heap.size) (.slice oa v.l.length cap) v.l

set_option maxRecDepth 100000 in
set_option maxHeartbeats 1600000 in
theorem ofInts_any (zs : List Int) (x : Value) (w : World) (B : Nat) (hl : LInts w B x zs) (hB : B ≤ w.heap.size) (hn : zs.length ≤ 1000) :
    Calls Tryd.prog 66 #[x] w fun e w' => RetV w.heap.size (.mk 5 0 ⟨#[]⟩ (zs.map fun z => .mk 2 z ⟨#[]⟩ [])) e w' ∧ Below w.heap.size w w' := by
  obtain ⟨oa, cap, rfl, hm, hel⟩ := id hl
  clear hel
  go_enter Tryd.func66, Tryd.ntmps66
  go_wp2_with fail
  have hb0 := below1 w (.cells #[.int .i64 0, .int .i64 0, .string ⟨#[]⟩, .slice none 0 0] 48)
  refine (mapInts_any zs _ _ B (hl.later (hb0.mono hB)) (by simp; omega) hn).mono ?_
  rintro e w1 ⟨⟨oc, cc, rfl, hR⟩, hb1⟩
  have hb2 := (Below.refl (w.heap.size + 1) (w.alloc (.cells #[.int .i64 0, .int .i64 0, .string ⟨#[]⟩, .slice none 0 0] 48))).trans (hb1.mono (by simp))
  obtain ⟨c0, c1, c2, c3⟩ := box_later hb2
  have hz : ∀ o, w1.frozen? ⟨w.heap.size, o, none⟩ = false := fun o => (hb2.frozen (p := ⟨w.heap.size, o, none⟩) (Nat.lt_succ_self _)).trans (World.frozen?_alloc_at _ _ _ _ rfl)
  have z0 := hz 0; have z1 := hz 1; have z2 := hz 2; have z3 := hz 3
  clear hz
  go_wp2_with fail
  have hsz : (w.alloc (.cells #[.int .i64 0, .int .i64 0, .string ⟨#[]⟩, .slice none 0 0] 48)).heap.size = w.heap.size + 1 := by simp
  rw [hsz] at hR hb1
  refine bodyPost_ret (v := .agg #[.int .i64 5, .int .i64 0, .string ⟨#[]⟩, .slice oc zs.length cc]) (by simp [results, Tryd.results66, go_sem, *]) rfl ⟨⟨oc, cc, ?_, ?_⟩, ?_⟩
  · show Ending.returned _ = Ending.returned (.agg #[.int .i64 5, .int .i64 0, .string ⟨#[]⟩, .slice oc (zs.map _).length cc])
    rw [List.length_map]
  · exact Btw.set4 (o := 0) (Nat.lt_succ_self _) _ _ _ _ hR (fun b h => ⟨by have := h.1; omega, by have := h.2; simp only [size_set]; omega⟩)
  · exact below_set4 (o := 0) (hb0.trans (hb1.mono (by omega))) (Nat.le_refl _) _ _ _ _

set_option maxRecDepth 100000 in
set_option maxHeartbeats 1600000 in
theorem ofTexts_any (zs : List ByteArray) (x : Value) (w : World) (B : Nat) (hl : LStrs w B x zs) (hB : B ≤ w.heap.size) (hn : zs.length ≤ 1000) :
    Calls Tryd.prog 69 #[x] w fun e w' => RetV w.heap.size (.mk 6 0 ⟨#[]⟩ (zs.map fun z => .mk 3 0 z [])) e w' ∧ Below w.heap.size w w' := by
  obtain ⟨oa, cap, rfl, hm, hel⟩ := id hl
  clear hel
  go_enter Tryd.func69, Tryd.ntmps69
  go_wp2_with fail
  have hb0 := below1 w (.cells #[.int .i64 0, .int .i64 0, .string ⟨#[]⟩, .slice none 0 0] 48)
  refine (mapTexts_any zs _ _ B (hl.later (hb0.mono hB)) (by simp; omega) hn).mono ?_
  rintro e w1 ⟨⟨oc, cc, rfl, hR⟩, hb1⟩
  have hb2 := (Below.refl (w.heap.size + 1) (w.alloc (.cells #[.int .i64 0, .int .i64 0, .string ⟨#[]⟩, .slice none 0 0] 48))).trans (hb1.mono (by simp))
  obtain ⟨c0, c1, c2, c3⟩ := box_later hb2
  have hz : ∀ o, w1.frozen? ⟨w.heap.size, o, none⟩ = false := fun o => (hb2.frozen (p := ⟨w.heap.size, o, none⟩) (Nat.lt_succ_self _)).trans (World.frozen?_alloc_at _ _ _ _ rfl)
  have z0 := hz 0; have z1 := hz 1; have z2 := hz 2; have z3 := hz 3
  clear hz
  go_wp2_with fail
  have hsz : (w.alloc (.cells #[.int .i64 0, .int .i64 0, .string ⟨#[]⟩, .slice none 0 0] 48)).heap.size = w.heap.size + 1 := by simp
  rw [hsz] at hR hb1
  refine bodyPost_ret (v := .agg #[.int .i64 6, .int .i64 0, .string ⟨#[]⟩, .slice oc zs.length cc]) (by simp [results, Tryd.results69, go_sem, *]) rfl ⟨⟨oc, cc, ?_, ?_⟩, ?_⟩
  · show Ending.returned _ = Ending.returned (.agg #[.int .i64 6, .int .i64 0, .string ⟨#[]⟩, .slice oc (zs.map _).length cc])
    rw [List.length_map]
  · exact Btw.set4 (o := 0) (Nat.lt_succ_self _) _ _ _ _ hR (fun b h => ⟨by have := h.1; omega, by have := h.2; simp only [size_set]; omega⟩)
  · exact below_set4 (o := 0) (hb0.trans (hb1.mono (by omega))) (Nat.le_refl _) _ _ _ _

/-- A row of a table. -/
def rowV (r : List ByteArray) : V := .mk 6 0 ⟨#[]⟩ (r.map fun z => .mk 3 0 z [])

set_option maxRecDepth 100000 in
set_option maxHeartbeats 1600000 in
theorem mapRows_any (zs : List (List ByteArray)) (x : Value) (w : World) (B : Nat) (hl : LRows w B x zs) (hB : B ≤ w.heap.size) (hn : zs.length ≤ 1000) (hn2 : ∀ r, r ∈ zs → r.length ≤ 1000) :
    Calls Tryd.prog 82 #[x, .func (.func 69) #[] #[]] w fun e w' =>
      RetL w.heap.size (zs.map rowV) e w' ∧ Below w.heap.size w w' := by
  obtain ⟨oa, cap, rfl, hm, hel⟩ := hl
  obtain ⟨i, hi, hz0, hz1, hz2⟩ := info_parts infoValue
  have HN2 := Lib.hid hn2; clear hn2
  go_enter Tryd.func82, Tryd.ntmps82
  go_wp2_with (at_make; refine wpList_make_full _ rfl _ _ 33 rfl w.heap.size 48 i _ 4 Tryd.underlying33 hi hz0 hz1 _ _ _ _ zs.length rfl rfl rfl rfl ?b2 ?b3 (Nat.le_refl _) ?_)
  case b2 => rw [hz2]; omega
  case b3 => unfold maxLen; omega
  intro w1 hown hgrow
  go_wp2_with fail
  have hrow : Row4 w1 w.heap.size zs.length [] := Row4.made hown
  have hbw1 : Below w.heap.size w w1 := (Below.refl _ _).grown hgrow (Nat.le_refl _) (fun k h => by cases h)
  have hg1 : w.heap.size < w1.heap.size := hrow.lt
  clear hown hgrow
  go_loopw [13] (fun v wr => ∃ (k : Nat) (ps : List (V × Value)), k ≤ zs.length ∧ v = .int .i64 k ∧ Hid (ps.length = k ∧ ps.map (·.1) = (zs.take k).map rowV ∧ (∀ p, p ∈ ps → RepS wr (Btw (w.heap.size + 1) wr.heap.size) p.2 p.1.l) ∧ Row4 wr w.heap.size zs.length ps) ∧ w.heap.size < wr.heap.size ∧ Below w.heap.size w wr) (fun v _ => zs.length - (intOf v).toNat)
  case atStart => exact ⟨0, [], Nat.zero_le _, rfl, ⟨rfl, rfl, (fun p hp => absurd hp (by simp)), hrow⟩, hg1, hbw1⟩
  case round =>
    obtain ⟨k, ps, hk, rfl, HR, hgr, hbel⟩ := hrel
    by_cases hlt : k < zs.length
    · obtain ⟨b, off, c, rfl, hb, hc, hcv⟩ := hel k _ (List.getElem?_eq_getElem hlt)
      obtain ⟨oe, ce, rfl, _, _⟩ := id hcv
      rw [← hbel.cell (p := ⟨b, _, none⟩) (Nat.lt_of_lt_of_le hb hB)] at hc
      have hcv2 := LStrs.later hcv (hbel.mono hB)
      go_wp2_with fail
      refine (ofTexts_any zs[k] _ wr B hcv2 (by have := hbel.size; omega) (HN2.out _ (List.getElem_mem hlt))).mono ?_
      rintro e w2 ⟨⟨oc, cc, rfl, hR⟩, hb2⟩
      have hs2 := hb2.size
      obtain ⟨hl1, hl2, hl3, hl4⟩ := HR.out
      have HR2 := Lib.hid (hl4.later hb2 hgr)
      have HL1 := Lib.hid hl1; have HL2 := Lib.hid hl2
      have HL3 := Lib.hid hl3
      clear hl1 hl2 hl3 hl4
      obtain ⟨u0, e0, z0⟩ := HR2.out.cell k 0 hlt (by omega)
      obtain ⟨u1, e1, z1⟩ := HR2.out.cell k 1 hlt (by omega)
      obtain ⟨u2, e2, z2⟩ := HR2.out.cell k 2 hlt (by omega)
      obtain ⟨u3, e3, z3⟩ := HR2.out.cell k 3 hlt (by omega)
      simp only [Nat.add_zero] at e0 z0
      have HRR := Lib.hid hR; clear hR
      go_wp2_with fail
      refine ⟨⟨k + 1, ps ++ [(rowV zs[k], .slice oc (zs[k].map fun z => V.mk 3 0 z []).length cc)], hlt, by go_num, ⟨?_, ?_, ?_, ?_⟩, by simp only [size_set]; omega, below_set4 (hbel.trans (hb2.mono hbel.size)) (Nat.le_refl _) _ _ _ _⟩, by simp [intOf]; omega⟩
      · have := HL1.out; simp; omega
      · have := HL2.out
        rw [List.map_append, this, List.take_succ_eq_append_getElem hlt, List.map_append]
        rfl
      · intro p hp
        rcases List.mem_append.1 hp with hp | hp
        · refine (HL3.out p hp).later (fun b hb => ⟨hb.1, by have := hb.2; simp only [size_set]; omega⟩) (fun b' hb' o' => ?_)
          have hne : ∀ q, (⟨w.heap.size, q, none⟩ : Addr) ≠ ⟨b', o', none⟩ := fun q e => by
            have := congrArg Addr.block e
            have h1 := hb'.1
            simp at this
            omega
          rw [World.cell?_setCell_other _ _ _ _ (hne _), World.cell?_setCell_other _ _ _ _ (hne _), World.cell?_setCell_other _ _ _ _ (hne _), World.cell?_setCell_other _ _ _ _ (hne _)]
          exact hb2.cell (p := ⟨b', o', none⟩) hb'.2
        · obtain rfl := List.mem_singleton.1 hp
          exact Btw.set4 (o := k * 4) hgr _ _ _ _ HRR.out (fun b h => ⟨by have := h.1; omega, by have := h.2; simp only [size_set]; omega⟩)
      · have h := HR2.out.step (o := k * 4) (by have := HL1.out; omega) (by have := HL1.out; omega) (rowV zs[k], .slice oc (zs[k].map fun z => V.mk 3 0 z []).length cc)
        exact h
    · go_wp2_with fail
      go_ret
      obtain ⟨hl1, hl2, hl3, hl4⟩ := HR.out
      have h := hl4.rep (S := Btw w.heap.size wr.heap.size) (by omega) (fun p hp => (hl3 p hp).later (fun b h => ⟨by have := h.1; omega, h.2⟩) (fun _ _ _ => rfl)) hm (fun b h1 h2 => ⟨h1, h2⟩)
      rw [hl2, List.take_of_length_le (by omega)] at h
      refine ⟨⟨some ⟨w.heap.size, 0, none⟩, zs.length, ?_, ?_⟩, hbel⟩
      · rw [List.length_map]; rfl
      · rw [List.length_map]; exact h

set_option maxRecDepth 100000 in
set_option maxHeartbeats 1600000 in
theorem ofTable_any (zs : List (List ByteArray)) (x : Value) (w : World) (B : Nat) (hl : LRows w B x zs) (hB : B ≤ w.heap.size) (hn : zs.length ≤ 1000) (hn2 : ∀ r, r ∈ zs → r.length ≤ 1000) :
    Calls Tryd.prog 72 #[x] w fun e w' => RetV w.heap.size (.mk 7 0 ⟨#[]⟩ (zs.map rowV)) e w' ∧ Below w.heap.size w w' := by
  obtain ⟨oa, cap, rfl, hm, hel⟩ := id hl
  clear hel
  go_enter Tryd.func72, Tryd.ntmps72
  go_wp2_with fail
  have hb0 := below1 w (.cells #[.int .i64 0, .int .i64 0, .string ⟨#[]⟩, .slice none 0 0] 48)
  refine (mapRows_any zs _ _ B (hl.later (hb0.mono hB)) (by simp; omega) hn hn2).mono ?_
  rintro e w1 ⟨⟨oc, cc, rfl, hR⟩, hb1⟩
  have hb2 := (Below.refl (w.heap.size + 1) (w.alloc (.cells #[.int .i64 0, .int .i64 0, .string ⟨#[]⟩, .slice none 0 0] 48))).trans (hb1.mono (by simp))
  obtain ⟨c0, c1, c2, c3⟩ := box_later hb2
  have hz : ∀ o, w1.frozen? ⟨w.heap.size, o, none⟩ = false := fun o => (hb2.frozen (p := ⟨w.heap.size, o, none⟩) (Nat.lt_succ_self _)).trans (World.frozen?_alloc_at _ _ _ _ rfl)
  have z0 := hz 0; have z1 := hz 1; have z2 := hz 2; have z3 := hz 3
  clear hz
  go_wp2_with fail
  have hsz : (w.alloc (.cells #[.int .i64 0, .int .i64 0, .string ⟨#[]⟩, .slice none 0 0] 48)).heap.size = w.heap.size + 1 := by simp
  rw [hsz] at hR hb1
  refine bodyPost_ret (v := .agg #[.int .i64 7, .int .i64 0, .string ⟨#[]⟩, .slice oc zs.length cc]) (by simp [results, Tryd.results72, go_sem, *]) rfl ⟨⟨oc, cc, ?_, ?_⟩, ?_⟩
  · show Ending.returned _ = Ending.returned (.agg #[.int .i64 7, .int .i64 0, .string ⟨#[]⟩, .slice oc (zs.map _).length cc])
    rw [List.length_map]
  · exact Btw.set4 (o := 0) (Nat.lt_succ_self _) _ _ _ _ hR (fun b h => ⟨by have := h.1; omega, by have := h.2; simp only [size_set]; omega⟩)
  · exact below_set4 (o := 0) (hb0.trans (hb1.mono (by omega))) (Nat.le_refl _) _ _ _ _

end Go.Proofs.YthnlkijkgnmbhaaDoor
