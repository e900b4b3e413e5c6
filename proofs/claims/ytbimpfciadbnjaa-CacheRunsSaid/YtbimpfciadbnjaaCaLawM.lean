/-
  SameTerm of the reference; the walk of CacheMemory. Nothing is assumed.
-/
import Derived.Test.YtbimpfciadbnjaaCaAwake
import Derived.Test.YtbimpfciadbnjaaCaRef
namespace Go.Proofs.Ytbimpfciadbnjaa
open Go.RowKit

set_option maxHeartbeats 1600000 in
theorem sameTerm_any (a b : T) (sa sb : Value) (w : World) (B : Nat) (hra : Rep w B sa a.l) (hrb : Rep w B sb b.l) (hB : B ≤ w.heap.size) (hsa : a.size ≤ 900) (hsb : b.size ≤ 900) :
    Calls Try.prog 16 #[.agg #[.int .i64 a.r, sa], .agg #[.int .i64 b.r, sb]] w fun e w' => e = .returned (.bool (a.cmp b == 0)) ∧ Below w.heap.size w w' := by
  obtain ⟨oa, ca, rfl, _, _⟩ := hra.form
  obtain ⟨ob, cb, rfl, _, _⟩ := hrb.form
  have hb2 := below2 w (.cells #[.int .i64 a.r, .slice oa a.l.length ca] 36) (.cells #[.int .i64 b.r, .slice ob b.l.length cb] 36)
  have BA : Box ((w.alloc (.cells #[.int .i64 a.r, .slice oa a.l.length ca] 36)).alloc (.cells #[.int .i64 b.r, .slice ob b.l.length cb] 36)) w.heap.size a (.slice oa a.l.length ca) := (Box.new a _ _ rfl).later (below1 _ _) (by simp)
  have BB : Box ((w.alloc (.cells #[.int .i64 a.r, .slice oa a.l.length ca] 36)).alloc (.cells #[.int .i64 b.r, .slice ob b.l.length cb] 36)) (w.heap.size + 1) b (.slice ob b.l.length cb) := Box.new b _ _ (by simp)
  have HC := Lib.hid (rcompare_any a b _ _ _ B (hra.later (hb2.mono hB)) (hrb.later (hb2.mono hB)) (by simp; omega) hsa hsb)
  obtain ⟨a0, a1⟩ := BA
  obtain ⟨b0, b1⟩ := BB
  have HB := Lib.hid hb2
  clear hra hrb hb2
  go_enter Try.func16, Try.ntmps16
  go_wp2_with fail
  refine HC.out.mono ?_
  rintro e w1 ⟨rfl, hb⟩
  go_wp2_with fail
  go_ret
  exact ⟨rfl, HB.out.trans (hb.mono (by simp; omega))⟩
theorem same_self (a : T) : (a.cmp a == 0) = true := by rw [T.cmp_self]; rfl

theorem FR.root {w : World} {P : Nat → Prop} {x : Value} {l : List T} (h : FR w P x l) (hl : 0 < l.length) : ∃ (b off cap : Nat) (z : Int), x = .slice (some ⟨b, off, none⟩) l.length cap ∧ P b ∧ w.cell? ⟨b, off, none⟩ = some (.int .i64 z) ∧ w.frozen? ⟨b, off, none⟩ = false := by
  cases h with
  | empty _ oa cap => simp at hl
  | arr _ b off cap l sl Q h1 h2 h3 h4 h5 h6 h7 h8 =>
    obtain ⟨c0, _⟩ := h4 0 _ (List.getElem?_eq_getElem hl)
    rw [Nat.zero_mul, Nat.add_zero] at c0
    exact ⟨b, off, cap, _, rfl, h1, c0, h5 off⟩

set_option maxRecDepth 100000 in
set_option maxHeartbeats 3200000 in
theorem lawMemory_any (k : ByteArray) (t : T) (sl : Value) (w : World) (hrep : Rep w w.heap.size sl t.l) : Calls Try.prog 7 #[.string k, .agg #[.int .i64 t.r, sl]] w fun e w' => e = .returned (.bool true) ∧ Below w.heap.size w w' := by
  obtain ⟨oa, ca, rfl, _, _⟩ := hrep.form
  have hb1 := below1 w (.cells #[.int .i64 t.r, .slice oa t.l.length ca] 36)
  have HA : Hid (∀ W, Below w.heap.size w W → Calls Try.prog 9 #[] W fun e w' => e = .returned (.bool true) ∧ Below w.heap.size w w') := Lib.hid (fun W hW => (awake_any W).mono fun e w' ⟨h1, h2⟩ => ⟨h1, hW.trans (h2.mono hW.size)⟩)
  have t0 : (w.alloc (.cells #[.int .i64 t.r, .slice oa t.l.length ca] 36)).cell? ⟨w.heap.size, 0, none⟩ = some (.int .i64 t.r) := cell_at _ _ _ _ _ rfl
  have t1 : (w.alloc (.cells #[.int .i64 t.r, .slice oa t.l.length ca] 36)).cell? ⟨w.heap.size, 1, none⟩ = some (.slice oa t.l.length ca) := cell_at _ _ _ _ _ rfl
  by_cases hk : k.size ≤ 60
  case neg =>
    have hk' : (60 : Int) < (k.size : Int) := by omega
    clear hk
    go_enter Try.func7, Try.ntmps7
    go_wp2_with fail
    refine (HA.out _ hb1).mono ?_
    rintro e w2 ⟨rfl, hb2⟩
    go_wp2_with fail
    go_ret
    exact ⟨rfl, hb2⟩
  have hk' : ¬ (60 : Int) < (k.size : Int) := by omega
  have HWT := Lib.hid (within_any t (.slice oa t.l.length ca) _ _ (hrep.later hb1) (by simp))
  by_cases hsz : t.size ≤ 20
  case neg =>
    have hd : decide (t.size ≤ 20) = false := decide_eq_false hsz
    have HWT := HWT.out
    rw [hd] at HWT
    clear hsz hd hk
    go_enter Try.func7, Try.ntmps7
    go_wp2_with fail
    refine HWT.mono ?_
    rintro e w2 ⟨rfl, hb2⟩
    have hb2' := hb1.trans (hb2.mono (by simp))
    go_wp2_with fail
    refine (HA.out _ hb2').mono ?_
    rintro e w3 ⟨rfl, hb3⟩
    go_wp2_with fail
    go_ret
    exact ⟨rfl, hb3⟩
  have hd : decide (t.size ≤ 20) = true := decide_eq_true hsz
  have HWT := HWT.out
  rw [hd] at HWT
  have HBT0 := Lib.hid (Box.new t (.slice oa t.l.length ca) 36 (rfl : w.heap.size = w.heap.size))
  have hz1 : (w.alloc (.cells #[.int .i64 t.r, .slice oa t.l.length ca] 36)).heap.size = w.heap.size + 1 := by simp
  have HSZ := Lib.hid hsz
  have HRP := Lib.hid hrep
  clear hd hsz hrep
  go_enter Try.func7, Try.ntmps7
  go_wp2_with fail
  generalize w.alloc (.cells #[.int .i64 t.r, .slice oa t.l.length ca] 36) = w1 at *
  refine HWT.mono ?_
  rintro e w2 ⟨rfl, hb2⟩
  have HB2 : Hid (Below w.heap.size w w2) := Lib.hid (hb1.trans (hb2.mono (by omega)))
  have HT2 := Lib.hid (HBT0.out.later hb2 (by omega))
  have hz2 : w.heap.size < w2.heap.size := by have := hb2.size; omega
  have HZ2 := Lib.hid hz2
  have u1 := HT2.out.2
  clear t0 t1 hb2 hz1 HBT0 HWT hz2 hb1
  by_cases hl : t.l.length = 0
  case pos =>
    have hl0 : ((t.l.length : Int) == 0) = true := by rw [hl]; rfl
    clear hl
    go_wp2_with fail
    refine (HA.out _ HB2.out).mono ?_
    rintro e w3 ⟨rfl, hb3⟩
    go_wp2_with fail
    go_ret
    exact ⟨rfl, hb3⟩
  have hl0 : ((t.l.length : Int) == 0) = false := by rw [beq_eq_false_iff_ne]; omega
  have HL := Lib.hid (Nat.pos_of_ne_zero hl)
  have HN := Lib.hid (new_any w2 1 (by omega) (by omega))
  clear hl
  go_wp2_with fail
  refine HN.out.mono ?_
  rintro e w3 ⟨rfl, h3, hb3⟩
  have HC3 := Lib.hid (h3 0)
  have HB3 := Lib.hid (HB2.out.trans (hb3.mono HB2.out.size))
  obtain ⟨u0, u1⟩ := HT2.out.later hb3 HZ2.out
  have HT3 := Lib.hid (And.intro u0 u1)
  have HZ3 := Lib.hid (Nat.lt_of_lt_of_le HZ2.out hb3.size)
  have HZ23 := Lib.hid hb3.size
  have HCL := Lib.hid (rclone_any t (.slice oa t.l.length ca) w3 w.heap.size (HRP.out.later HB3.out) HB3.out.size (by have := HSZ.out; omega))
  clear h3 hb3 HN
  go_wp2_with fail
  refine HCL.out.mono ?_
  rintro e w4 ⟨⟨sg, rfl, hf4⟩, hb4⟩
  obtain ⟨gb, goff, gc, gz, rfl, hgP, gcell, gfz⟩ := hf4.root HL.out
  -- the box of given
  have hbx := below1 w4 (.cells #[.int .i64 t.r, .slice (some ⟨gb, goff, none⟩) t.l.length gc] 36)
  have hb5 := hb4.trans (hbx.mono hb4.size)
  have HC5 := Lib.hid (HC3.out.below hb5)
  have HB5 := Lib.hid (HB3.out.trans (hb5.mono HB3.out.size))
  have HT5 := Lib.hid (And.intro ((hb5.cell (p := ⟨w.heap.size, 0, none⟩) HZ3.out).trans HT3.out.1) ((hb5.cell (p := ⟨w.heap.size, 1, none⟩) HZ3.out).trans HT3.out.2))
  have x0 : (w4.alloc (.cells #[.int .i64 t.r, .slice (some ⟨gb, goff, none⟩) t.l.length gc] 36)).cell? ⟨w4.heap.size, 0, none⟩ = some (.int .i64 t.r) := cell_at _ _ _ _ _ rfl
  have x1 : (w4.alloc (.cells #[.int .i64 t.r, .slice (some ⟨gb, goff, none⟩) t.l.length gc] 36)).cell? ⟨w4.heap.size, 1, none⟩ = some (.slice (some ⟨gb, goff, none⟩) t.l.length gc) := cell_at _ _ _ _ _ rfl
  have hz5 : (w4.alloc (.cells #[.int .i64 t.r, .slice (some ⟨gb, goff, none⟩) t.l.length gc] 36)).heap.size = w4.heap.size + 1 := by simp
  have HG5 := Lib.hid (And.intro ((hbx.cell (p := ⟨gb, goff, none⟩) hgP.2).trans gcell) ((hbx.frozen (p := ⟨gb, goff, none⟩) hgP.2).trans gfz))
  have HGP := Lib.hid hgP
  have HX5 := Lib.hid (And.intro x0 x1)
  have HZ5 := Lib.hid hz5
  have HZ4 := Lib.hid (Nat.lt_of_lt_of_le HZ3.out hb4.size)
  have HS4 := Lib.hid hb4.size
  have HPT := Lib.hid (put_any HC5.out (by omega) (by omega) k hk t (.slice (some ⟨gb, goff, none⟩) t.l.length gc) (fun b => w3.heap.size ≤ b ∧ b < w4.heap.size) ((RP.fr hf4).keep (fun b hb => Below.heap_alloc _ _ _ hb.2) fun _ h => h) (fun b hb => ⟨by rw [hz5]; have := hb.2; omega, fun h => by have := h.2; have := hb.1; omega⟩) HSZ.out)
  clear hf4 hb4 hgP gcell gfz hbx hb5 x0 hz5 HCL
  go_wp2_with fail
  generalize hw5 : w4.alloc (.cells #[.int .i64 t.r, .slice (some ⟨gb, goff, none⟩) t.l.length gc] 36) = w5 at *
  refine HPT.out.mono ?_
  rintro e w6 ⟨rfl, h6, ho6⟩
  have hnF : ∀ b, w3.heap.size ≤ b → b < w5.heap.size → ¬ gF (fun k => w2.heap.size ≤ k ∧ k < w3.heap.size) w5 w6 b := fun b h1 h2 => not_gF h2 (fun h => by have := h.2; omega)
  have hnF0 : ∀ b, w3.heap.size ≤ b → ¬ (w2.heap.size ≤ b ∧ b < w3.heap.size) := fun b h1 h => by have := h.2; omega
  have hz5 := HZ5.out
  have HB6 : Hid (Below w.heap.size w w6) := Lib.hid (HB5.out.trans (ho6.toBelow HB5.out.size (fun k hk => by have := hk.1; have := HZ2.out; omega)))
  have hF6 : ∀ k, gF (fun k => w2.heap.size ≤ k ∧ k < w3.heap.size) w5 w6 k → w.heap.size < k := fun k hk => by
    rcases hk with hk | hk
    · have := hk.1; have := HZ2.out; omega
    · have := hk.1; have := HZ4.out; omega
  have HT6 := Lib.hid (And.intro ((ho6.cell (b := w.heap.size) (by have := HZ4.out; omega) (fun h => by have := h.1; have := HZ2.out; omega) 0).trans HT5.out.1) ((ho6.cell (b := w.heap.size) (by have := HZ4.out; omega) (fun h => by have := h.1; have := HZ2.out; omega) 1).trans HT5.out.2))
  have g1 := (ho6.cell (b := w4.heap.size) (by omega) (hnF0 _ HS4.out) 1).trans HX5.out.2
  have hgb := HGP.out
  have kx := ho6.ot gb (by omega) (hnF0 _ hgb.1)
  have g2 := (World.cell?_of_block (w := w5) (a := ⟨gb, goff, none⟩) kx).trans HG5.out.1
  have g3 := (World.frozen?_of_block (w := w5) (a := ⟨gb, goff, none⟩) kx).trans HG5.out.2
  have HNF := Lib.hid hnF
  have HF6 := Lib.hid hF6
  have HC6 := Lib.hid h6
  have HS6 := Lib.hid ho6.kp.size
  have l0 := HL.out
  have l1 : (0 : Int) < (t.l.length : Int) := by omega
  have HGB := Lib.hid hgb
  clear h6 ho6 hnF hnF0 hF6 kx HPT hw5 x1 hz5 hgb
  generalize gF (fun k => w2.heap.size ≤ k ∧ k < w3.heap.size) w5 w6 = F6 at *
  go_wp2_with fail
  go_region
  obtain ⟨w7, hw7⟩ : ∃ w7, w7 = (w6.setCell ⟨gb, goff, none⟩ (.int .i64 (bits BinOp.xor IntKind.i64 gz 1))).drew := ⟨_, rfl⟩
  rw [← hw7]
  have hgb := HGB.out
  have hz5 := HZ5.out
  have hw67 : ∀ b, b ≠ gb → w7.heap[b]? = w6.heap[b]? := fun b hb => by rw [hw7]; exact heap_setCell_other _ _ _ _ hb
  have hz67 : w7.heap.size = w6.heap.size := by rw [hw7]; exact World.size_setCell _ _ _
  have hng : ¬ F6 gb := HNF.out gb hgb.1 (by omega)
  have HC7 := Lib.hid (HC6.out.keep (w' := w7) (F' := F6) (fun b hb => hw67 b (fun e => hng (e ▸ hb))) (fun _ h => h) (fun b hb => by rw [hz67]; exact HC6.out.lt b hb))
  have hwg : w.heap.size < gb := by have := HZ3.out; omega
  have HB7 : Hid (Below w.heap.size w w7) := Lib.hid (by
    rw [hw7]
    exact (HB6.out.setCell (p := ⟨gb, goff, none⟩) (by show w.heap.size ≤ gb; omega) _).drew)
  have kt := hw67 w.heap.size (by omega)
  have HT7 := Lib.hid (And.intro ((World.cell?_of_block (w := w6) (a := ⟨w.heap.size, 0, none⟩) kt).trans HT6.out.1) ((World.cell?_of_block (w := w6) (a := ⟨w.heap.size, 1, none⟩) kt).trans HT6.out.2))
  have HZ7 : Hid (w.heap.size < w7.heap.size) := Lib.hid (by have := HS6.out; omega)
  have HP7 := Lib.hid (peek_any HC7.out k hk)
  have hq7 : fnd (putQ 1 [] k t) k = some t := by unfold putQ; rw [fnd_nil, if_neg (by simp), if_neg (by simp)]; exact fnd_same _ _ _
  have HQ7 := Lib.hid hq7
  clear g1 g2 g3 hw67 hz67 hng hwg kt hgb hz5 hw7 hq7
  go_wp2_with fail
  refine HP7.out.mono ?_
  rintro e w8 ⟨hr, hb8⟩
  rw [HQ7.out] at hr
  obtain ⟨sx, he, hf8⟩ := hr
  obtain ⟨xb, xoff, xc, xz, rfl, hxP, xcell, xfz⟩ := hf8.root HL.out
  obtain rfl := he
  -- the box of x
  have hbx := below1 w8 (.cells #[.int .i64 t.r, .slice (some ⟨xb, xoff, none⟩) t.l.length xc] 36)
  have hb9 := hb8.trans (hbx.mono hb8.size)
  have HC9 := Lib.hid (HC7.out.below hb9)
  have HB9 := Lib.hid (HB7.out.trans (hb9.mono HB7.out.size))
  obtain ⟨t0, t1⟩ := HT7.out
  have t0 := (hb9.cell (p := ⟨w.heap.size, 0, none⟩) HZ7.out).trans t0
  have t1 := (hb9.cell (p := ⟨w.heap.size, 1, none⟩) HZ7.out).trans t1
  have HT9 := Lib.hid (And.intro t0 t1)
  have x0 : (w8.alloc (.cells #[.int .i64 t.r, .slice (some ⟨xb, xoff, none⟩) t.l.length xc] 36)).cell? ⟨w8.heap.size, 0, none⟩ = some (.int .i64 t.r) := cell_at _ _ _ _ _ rfl
  have x1 : (w8.alloc (.cells #[.int .i64 t.r, .slice (some ⟨xb, xoff, none⟩) t.l.length xc] 36)).cell? ⟨w8.heap.size, 1, none⟩ = some (.slice (some ⟨xb, xoff, none⟩) t.l.length xc) := cell_at _ _ _ _ _ rfl
  have hz9 : (w8.alloc (.cells #[.int .i64 t.r, .slice (some ⟨xb, xoff, none⟩) t.l.length xc] 36)).heap.size = w8.heap.size + 1 := by simp
  have HX9 := Lib.hid (And.intro ((hbx.cell (p := ⟨xb, xoff, none⟩) hxP.2).trans xcell) ((hbx.frozen (p := ⟨xb, xoff, none⟩) hxP.2).trans xfz))
  have HXP := Lib.hid hxP
  have HS8 := Lib.hid hb8.size
  have HZ9 := Lib.hid hz9
  have HX1 := Lib.hid x1
  have HSM := sameTerm_any t t (.slice (some ⟨xb, xoff, none⟩) t.l.length xc) (.slice oa t.l.length ca) _ _ ((hf8.rep (B := w8.heap.size) fun b hb => hb.2).on hbx) ((HRP.out.later HB9.out).mono HB9.out.size) (Nat.le_refl _) (by have := HSZ.out; omega) (by have := HSZ.out; omega)
  rw [same_self] at HSM
  have HSM := Lib.hid HSM
  clear hf8 hb8 hxP xcell xfz hbx hb9 HP7
  go_wp2_with fail
  generalize hw9 : w8.alloc (.cells #[.int .i64 t.r, .slice (some ⟨xb, xoff, none⟩) t.l.length xc] 36) = w9 at *
  refine HSM.out.mono ?_
  rintro e w10 ⟨rfl, hb10⟩
  have HC10 := Lib.hid (HC9.out.below hb10)
  have HB10 := Lib.hid (HB9.out.trans (hb10.mono HB9.out.size))
  have hxl := HXP.out
  have h1 := (hb10.cell (p := ⟨w8.heap.size, 1, none⟩) (by show w8.heap.size < w9.heap.size; omega)).trans HX1.out
  have h2 := (hb10.cell (p := ⟨xb, xoff, none⟩) (by show xb < w9.heap.size; omega)).trans HX9.out.1
  have h3 := (hb10.frozen (p := ⟨xb, xoff, none⟩) (by show xb < w9.heap.size; omega)).trans HX9.out.2
  have HZ10 : Hid (w.heap.size < w9.heap.size) := Lib.hid (by have := HZ7.out; have := HS8.out; omega)
  have HT10 := Lib.hid (And.intro ((hb10.cell (p := ⟨w.heap.size, 0, none⟩) HZ10.out).trans HT9.out.1) ((hb10.cell (p := ⟨w.heap.size, 1, none⟩) HZ10.out).trans HT9.out.2))
  have HS10 := Lib.hid hb10.size
  have hnx : ∀ b, F6 b → b ≠ xb := fun b hb e => by have := HC7.out.lt b hb; omega
  have HNX := Lib.hid hnx
  clear x0 x1 t0 t1 hz9 hb10 hw9 hxl hnx HSM
  go_wp2_with fail
  go_region
  obtain ⟨w11, hw11⟩ : ∃ w11, w11 = (w10.setCell ⟨xb, xoff, none⟩ (.int .i64 (bits BinOp.xor IntKind.i64 xz 1))).drew := ⟨_, rfl⟩
  rw [← hw11]
  have hk11 : ∀ b, b ≠ xb → w11.heap[b]? = w10.heap[b]? := fun b hb => by rw [hw11]; exact heap_setCell_other _ _ _ _ hb
  have hz11 : w11.heap.size = w10.heap.size := by rw [hw11]; exact World.size_setCell _ _ _
  have HC11 := Lib.hid (HC10.out.keep (w' := w11) (F' := F6) (fun b hb => hk11 b (HNX.out b hb)) (fun _ h => h) (fun b hb => by rw [hz11]; exact HC10.out.lt b hb))
  have hxw : w.heap.size < xb := by have := HXP.out.1; have := HZ7.out; omega
  have HB11 : Hid (Below w.heap.size w w11) := Lib.hid (by
    rw [hw11]
    exact (HB10.out.setCell (p := ⟨xb, xoff, none⟩) (by show w.heap.size ≤ xb; omega) _).drew)
  have kt := hk11 w.heap.size (by omega)
  have HT11 := Lib.hid (And.intro ((World.cell?_of_block (w := w10) (a := ⟨w.heap.size, 0, none⟩) kt).trans HT10.out.1) ((World.cell?_of_block (w := w10) (a := ⟨w.heap.size, 1, none⟩) kt).trans HT10.out.2))
  have HZ11 : Hid (w.heap.size < w11.heap.size) := Lib.hid (by have := HZ10.out; have := HS10.out; omega)
  have HG11 := Lib.hid (get_any HC11.out (by omega) k hk)
  clear h1 h2 h3 hk11 hz11 hxw kt hw11
  go_wp2_with fail
  refine HG11.out.mono ?_
  rintro e w12 ⟨hr, _, ho12⟩
  rw [HQ7.out] at hr
  obtain ⟨sy, he, hf12⟩ := hr
  obtain ⟨yo, yc, rfl, _, _⟩ := hf12.form
  obtain rfl := he
  have HB12 : Hid (Below w.heap.size w w12) := Lib.hid (HB11.out.trans (ho12.toBelow HB11.out.size (fun b hb => by have := HF6.out b hb; omega)))
  have hbx := below1 w12 (.cells #[.int .i64 t.r, .slice yo t.l.length yc] 36)
  have HB13 := Lib.hid (HB12.out.trans (hbx.mono HB12.out.size))
  have hnw : ¬ F6 w.heap.size := fun h => by have := HF6.out _ h; omega
  have hz12 := Nat.lt_of_lt_of_le HZ11.out ho12.kp.size
  have t0 := (hbx.cell (p := ⟨w.heap.size, 0, none⟩) hz12).trans ((ho12.cell HZ11.out hnw 0).trans HT11.out.1)
  have t1 := (hbx.cell (p := ⟨w.heap.size, 1, none⟩) hz12).trans ((ho12.cell HZ11.out hnw 1).trans HT11.out.2)
  have y0 : (w12.alloc (.cells #[.int .i64 t.r, .slice yo t.l.length yc] 36)).cell? ⟨w12.heap.size, 0, none⟩ = some (.int .i64 t.r) := cell_at _ _ _ _ _ rfl
  have y1 : (w12.alloc (.cells #[.int .i64 t.r, .slice yo t.l.length yc] 36)).cell? ⟨w12.heap.size, 1, none⟩ = some (.slice yo t.l.length yc) := cell_at _ _ _ _ _ rfl
  have HSM := sameTerm_any t t (.slice yo t.l.length yc) (.slice oa t.l.length ca) _ _ ((hf12.rep (B := w12.heap.size) fun b hb => hb.2).on hbx) ((HRP.out.later HB13.out).mono HB13.out.size) (Nat.le_refl _) (by have := HSZ.out; omega) (by have := HSZ.out; omega)
  rw [same_self] at HSM
  have HSM := Lib.hid HSM
  clear hf12 ho12 hbx hnw hz12 HG11
  go_wp2_with fail
  generalize w12.alloc (.cells #[.int .i64 t.r, .slice yo t.l.length yc] 36) = w13 at *
  refine HSM.out.mono ?_
  rintro e w14 ⟨rfl, hb14⟩
  have HB14 := HB13.out.trans (hb14.mono HB13.out.size)
  clear y0 y1 t0 t1 hb14 HSM
  go_wp2_with fail
  refine (HA.out _ HB14).mono ?_
  rintro e w15 ⟨rfl, hb15⟩
  go_wp2_with fail
  go_ret
  exact ⟨rfl, hb15⟩

end Go.Proofs.Ytbimpfciadbnjaa
