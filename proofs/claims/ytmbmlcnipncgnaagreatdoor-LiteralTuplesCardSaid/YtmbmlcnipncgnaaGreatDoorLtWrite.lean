/-
  writeAll, writeList and writeValue of the package. Nothing is assumed.
-/
import Derived.Test.YtmbmlcnipncgnaaGreatDoorLtLit
import Derived.Test.YtmbmlcnipncgnaaGreatDoorLtQuoted
namespace Go.Proofs.YtmbmlcnipncgnaaGreatDoor
open Go.RowKit

/-- The tables that the writers read, in every later world that stands below block B. -/
def TabsB (B : Nat) (w : World) : Prop := ∀ wr, Below B w wr → Lib.Utf8Tabs 0 1 wr ∧ Lib.TabIs Tryz.prog wr "internal/strconv.uint64pow10" .u64 Lib.pow10Tab
theorem TabsB.later {B : Nat} {w w' : World} (h : TabsB B w) (hb : Below B w w') : TabsB B w' := fun wr h1 => h wr (hb.trans h1)
def WriteC (v : V) : Prop := ∀ (sl : Value) (w : World) (B : Nat) (L : List UInt8), Rep w B sl v.l → TabsB B w → IsB B L w → B ≤ w.heap.size → L.length + v.lit.length ≤ 90000000 → v.chk = 0 →
  Calls Tryz.prog 37 #[.pointer (some ⟨B, 0, none⟩), .agg #[.int .i64 v.t, .int .i64 v.n, .string v.s, sl]] w fun e w' => e = .returned (.tuple #[]) ∧ IsB B (L ++ v.lit) w' ∧ Below B w w'

theorem V.litT_app : ∀ a b : List V, V.litT (a ++ b) = V.litT a ++ V.litT b
  | [], b => by rw [List.nil_append, V.litT_nil, List.nil_append]
  | x :: a, b => by rw [List.cons_append, V.litT_cons, V.litT_cons, V.litT_app a b]; simp
theorem V.lits_app_le (a b : List V) : (V.lits a).length ≤ (V.lits (a ++ b)).length := by
  cases a with
  | nil => rw [V.lits_nil]; simp
  | cons x a => rw [List.cons_append, V.lits_cons, V.lits_cons, V.litT_app, List.length_append, List.length_append, List.length_append]; omega
theorem V.lits_take_le (l : List V) (k : Nat) : (V.lits (l.take k)).length ≤ (V.lits l).length := by
  have := V.lits_app_le (l.take k) (l.drop k)
  rwa [List.take_append_drop] at this
theorem V.lits_take_one (l : List V) (h : 0 < l.length) : V.lits (l.take 1) = (l[0]).lit := by
  cases l with
  | nil => simp at h
  | cons x l => rw [List.take_succ_cons, List.take_zero, V.lits_cons, V.litT_nil, List.append_nil]; rfl
theorem V.lits_take_succ (l : List V) (k : Nat) (hk : 0 < k) (h : k < l.length) : V.lits (l.take (k + 1)) = V.lits (l.take k) ++ ([44, 32] ++ (l[k]).lit) := by
  rw [List.take_succ_eq_append_getElem h, V.lits_snoc, if_neg]
  · rfl
  · intro e
    have := congrArg List.length e
    rw [List.length_take, List.length_nil] at this
    omega
theorem below_grow (w : World) (k : Nat) (os : Array Obj) : Below w.heap.size w (Sort.grow (w.drewN k) os) := by
  refine ⟨rfl, rfl, rfl, ?_, fun i hi => ?_⟩
  · show w.heap.size ≤ (w.heap ++ os).size
    simp
  · show (w.heap ++ os)[i]? = w.heap[i]?
    rw [Array.getElem?_append_left hi]
theorem heap_at (w : World) (o : Obj) : (w.alloc o).heap[w.heap.size]? = some o := by
  unfold World.alloc
  simp
theorem cell_heap {w : World} {n i t : Nat} {fr : Nat × Nat} {c : Array Value} {x : Value} (h : w.heap[n]? = some (.cells c t fr)) (hx : c[i]? = some x) : w.cell? ⟨n, i, none⟩ = some x := by
  unfold World.cell?
  rw [h]
  exact hx

set_option maxRecDepth 100000 in
set_option maxHeartbeats 3200000 in
theorem writeAll_any (l : List V) (ih : ∀ x, x ∈ l → WriteC x) (hc : ∀ x, x ∈ l → x.chk = 0) (sl : Value) (w : World) (B : Nat) (L : List UInt8) (hR : Rep w B sl l) (hT : TabsB B w) (hB : IsB B L w) (hBw : B ≤ w.heap.size) (hlen : L.length + (V.lits l).length ≤ 90000000) :
    Calls Tryz.prog 17 #[.pointer (some ⟨B, 0, none⟩), sl] w fun e w' => e = .returned (.tuple #[]) ∧ IsB B (L ++ V.lits l) w' ∧ Below B w w' := by
  obtain ⟨oa, cap, rfl, hlc, hm, hel⟩ := hR.slice
  have HB := Lib.hid hB
  have HT := Lib.hid hT
  have HL := Lib.hid hlen
  clear hB hT hlen
  go_enter Tryz.func17, Tryz.ntmps17
  go_wp2_with fail
  go_loopw [8] (fun i wr => ∃ k : Nat, k ≤ l.length ∧ i = .int .i64 k ∧ Hid (IsB B (L ++ V.lits (l.take k)) wr) ∧ Below B w wr) (fun i _ => l.length - (intOf i).toNat)
  case atStart => exact ⟨0, Nat.zero_le _, rfl, Lib.hid (by rw [List.take_zero, V.lits_nil, List.append_nil]; exact HB.out), Below.refl _ _⟩
  case round =>
    obtain ⟨k, hk, rfl, HBk, hbel⟩ := hrel
    by_cases hlt : k < l.length
    · obtain ⟨b, off, oe, ce, rfl, hb, h0, h1, h2, h3, hr⟩ := hel k _ (List.getElem?_eq_getElem hlt)
      rw [← hbel.cell (p := ⟨b, _, none⟩) hb] at h0 h1 h2 h3
      have hs : B ≤ wr.heap.size := Nat.le_trans hBw hbel.size
      have hBlt : B < wr.heap.size := isB_lt HBk.out
      have HLk := Lib.hid (V.lits_take_le l (k + 1))
      have hx : (l[k]) ∈ l := List.getElem_mem hlt
      have IH := Lib.hid (ih _ hx)
      have HC := Lib.hid (hc _ hx)
      obtain ⟨o, ho⟩ : ∃ o : Obj, o = .cells #[.int .i64 (l[k]).t, .int .i64 (l[k]).n, .string (l[k]).s, .slice oe (l[k]).l.length ce] 34 := ⟨_, rfl⟩
      have hba : Below B w (wr.alloc o) := hbel.alloc hs o
      have HBa : Hid (IsB B (L ++ V.lits (l.take k)) (wr.alloc o)) := Lib.hid (HBk.out.alloc o)
      have hheap := heap_at wr o
      have hsa : B ≤ (wr.alloc o).heap.size := by simp; omega
      have HR1 := Lib.hid (hr.later (hbel.alloc hs o))
      by_cases hk0 : k = 0
      · subst hk0
        simp only [Nat.zero_mul, Nat.add_zero] at h0 h1 h2 h3
        have HX := Lib.hid (V.lits_take_one l hlt)
        have HW := Lib.hid (IH.out _ (wr.alloc o) B (L ++ V.lits (l.take 0)) HR1.out (HT.out.later hba) HBa.out hsa (by
          have := HLk.out
          rw [HX.out] at this
          rw [List.take_zero, V.lits_nil, List.append_nil]
          have := HL.out
          omega) HC.out)
        clear HLk IH HC HBk HBa HR1 hr hba
        rw [ho] at HW
        clear hheap hsa
        go_wp2_with fail
        refine HW.out.mono ?_
        rintro e w1 ⟨rfl, hB1, hb1⟩
        clear HW
        rw [List.take_zero, V.lits_nil, List.append_nil, ← HX.out] at hB1
        have HB1 := Lib.hid hB1
        have hb2 : Below B w w1 := (hbel.alloc hs _).trans hb1
        clear hB1 HX hb1
        go_wp2_with fail
        go_roundw
        case rel => exact ⟨1, hlt, by go_num, HB1, hb2⟩
        case measure => simp [intOf]; omega
      · have hkp : 0 < (k : Int) := by omega
        have HX := Lib.hid (V.lits_take_succ l k (by omega) hlt)
        have HS := Lib.hid (write_any B _ ⟨#[44, 32]⟩ (wr.alloc o) HBa.out (by
          have h1 := HLk.out
          have h2 := HL.out
          rw [HX.out, List.length_append, List.length_append] at h1
          rw [List.length_append]
          show _ + 2 ≤ _
          have : ([44, 32] : List UInt8).length = 2 := rfl
          omega) hsa)
        clear HBk HBa hk0
        rw [ho] at HS
        go_wp2_with fail
        refine HS.out.mono ?_
        rintro e w1 ⟨rfl, hB1, hb1, hk1⟩
        clear HS
        rw [← ho] at hb1 hk1
        have hh := hk1 _ _ hheap (by simp; omega) (by rw [ho]; simp)
        rw [ho] at hh
        have g0 := cell_heap (i := 0) hh rfl
        have g1 := cell_heap (i := 1) hh rfl
        have g2 := cell_heap (i := 2) hh rfl
        have g3 := cell_heap (i := 3) hh rfl
        have hb2 := hba.trans hb1
        have hs1 : B ≤ w1.heap.size := Nat.le_trans hBw hb2.size
        have HW := Lib.hid (IH.out _ w1 B _ (HR1.out.later hb1) (HT.out.later hb2) hB1 hs1 (by
          have h1 := HLk.out
          have h2 := HL.out
          rw [HX.out] at h1
          simp only [List.length_append] at h1 ⊢
          show _ + 2 + _ ≤ _
          have : ([44, 32] : List UInt8).length = 2 := rfl
          omega) HC.out)
        clear hB1 hk1 hh hb1 HLk IH HC HR1 hr hba hheap hsa h0 h1 h2 h3 hbel hs hBlt ho
        go_wp2_with fail
        refine HW.out.mono ?_
        rintro e w2 ⟨rfl, hB2, hb3⟩
        clear HW
        rw [List.append_assoc, List.append_assoc, ← HX.out] at hB2
        have HB2 := Lib.hid hB2
        have hb4 := hb2.trans hb3
        clear hB2 HX hb3 hb2
        go_wp2_with fail
        go_roundw
        case rel => exact ⟨k + 1, hlt, by go_num, HB2, hb4⟩
        case measure => simp [intOf]; omega
    · obtain rfl : k = l.length := by omega
      have HX : Hid (V.lits (l.take l.length) = V.lits l) := Lib.hid (by rw [List.take_length])
      go_wp2_with fail
      go_end0
      have := HBk.out
      rw [HX.out] at this
      exact ⟨rfl, this, hbel⟩

set_option maxRecDepth 100000 in
theorem writeList_any (l : List V) (ih : ∀ x, x ∈ l → WriteC x) (hc : ∀ x, x ∈ l → x.chk = 0) (sl : Value) (w : World) (B : Nat) (L : List UInt8) (p q : UInt8) (pz qz : Int) (hp : (p.toNat : Int) = pz) (hq : (q.toNat : Int) = qz) (hR : Rep w B sl l) (hT : TabsB B w) (hB : IsB B L w) (hBw : B ≤ w.heap.size) (hlen : L.length + (V.lits l).length + 2 ≤ 90000000) :
    Calls Tryz.prog 70 #[.pointer (some ⟨B, 0, none⟩), .int .u8 pz, sl, .int .u8 qz] w fun e w' => e = .returned (.tuple #[]) ∧ IsB B (L ++ p :: (V.lits l ++ [q])) w' ∧ Below B w w' := by
  have H1 := Lib.hid (byte_any B L p w hB (by omega) hBw)
  rw [hp] at H1
  have HQ := Lib.hid hq
  have HT := Lib.hid hT
  have HR := Lib.hid hR
  clear hB hT hR hp hq
  go_enter Tryz.func70, Tryz.ntmps70
  go_wp2_with fail
  refine H1.out.mono ?_
  rintro e w1 ⟨rfl, hB1, hb1, -⟩
  clear H1
  have hs1 := Nat.le_trans hBw hb1.size
  have H2 := Lib.hid (writeAll_any l ih hc sl w1 B _ (HR.out.later hb1) (HT.out.later hb1) hB1 hs1 (by rw [List.length_append]; show _ + 1 + _ ≤ _; omega))
  clear hB1
  go_wp2_with fail
  refine H2.out.mono ?_
  rintro e w2 ⟨rfl, hB2, hb2⟩
  clear H2
  have hb3 := hb1.trans hb2
  have H3 := Lib.hid (byte_any B _ q w2 hB2 (by rw [List.length_append, List.length_append]; show _ + 1 + _ ≤ _; omega) (Nat.le_trans hBw hb3.size))
  rw [HQ.out] at H3
  clear hB2
  go_wp2_with fail
  refine H3.out.mono ?_
  rintro e w3 ⟨rfl, hB3, hb4, -⟩
  go_wp2_with fail
  go_end0
  rw [List.append_assoc, List.append_assoc] at hB3
  exact ⟨rfl, hB3, hb3.trans hb4⟩


set_option maxRecDepth 100000 in
set_option maxHeartbeats 3200000 in
theorem wvalue_any (v : V) : WriteC v := by
  induction v using V.ind with
  | h v ih =>
  intro sl w B L hR hT hB hBw hlen hchk
  obtain ⟨oa, cap, rfl, hlc, hm, -⟩ := hR.slice
  have hb1 : Below B w (w.alloc (.cells #[.int .i64 v.t, .int .i64 v.n, .string v.s, .slice oa v.l.length cap] 34)) := (below1 w _).mono hBw
  have HR1 : Hid (Rep (w.alloc (.cells #[.int .i64 v.t, .int .i64 v.n, .string v.s, .slice oa v.l.length cap] 34)) B (.slice oa v.l.length cap) v.l) := Lib.hid (hR.later hb1)
  have HT1 := Lib.hid (hT.later hb1)
  have HB1 : Hid (IsB B L (w.alloc (.cells #[.int .i64 v.t, .int .i64 v.n, .string v.s, .slice oa v.l.length cap] 34))) := Lib.hid (hB.alloc _)
  have hs1 : B ≤ (w.alloc (.cells #[.int .i64 v.t, .int .i64 v.n, .string v.s, .slice oa v.l.length cap] 34)).heap.size := Nat.le_trans hBw hb1.size
  have HE := Lib.hid (V.lit_eq v)
  have HL := Lib.hid hlen
  have hcs := chk_cases hchk
  have hBl := isB_lt hB
  clear hchk hR hT hB hlen
  rcases hcs with h | h | h | h | h | h | h | h
  · obtain ⟨ht, hn, -, -⟩ := h
    have q1 : (v.t == 1) = true := by rw [ht]; decide
    by_cases hn0 : v.n = 0
    · have hq : (v.n == 1) = false := by rw [hn0]; rfl
      have HX : Hid (v.lit = wFalse) := Lib.hid (by rw [HE.out, ht]; simp [hn0])
      have HF := fun w => Tryz.strconv_FormatBool false w
      have HW := Lib.hid (write_any B L ⟨#[102, 97, 108, 115, 101]⟩ _ HB1.out (by have := HL.out; show _ + 5 ≤ _; omega) hs1)
      clear ht hn hn0 HE HB1 HR1 HT1 ih
      go_enter Tryz.func37, Tryz.ntmps37
      go_wp2_with fail
      refine (HF _).mono ?_
      rintro e w' ⟨rfl, hw'⟩; obtain rfl := hw'.symm
      clear HF
      go_wp2_with fail
      refine HW.out.mono ?_
      rintro e w2 ⟨rfl, hB2, hb2, -⟩
      clear HW
      go_wp2_with fail
      go_end0
      exact ⟨rfl, by rw [HX.out]; exact hB2, hb1.trans hb2⟩
    · have hq : (v.n == 1) = true := by rw [show v.n = 1 by omega]; rfl
      have HX : Hid (v.lit = wTrue) := Lib.hid (by rw [HE.out, ht]; simp [hn0])
      have HF := fun w => Tryz.strconv_FormatBool true w
      have HW := Lib.hid (write_any B L ⟨#[116, 114, 117, 101]⟩ _ HB1.out (by have := HL.out; show _ + 4 ≤ _; omega) hs1)
      clear ht hn hn0 HE HB1 HR1 HT1 ih
      go_enter Tryz.func37, Tryz.ntmps37
      go_wp2_with fail
      refine (HF _).mono ?_
      rintro e w' ⟨rfl, hw'⟩; obtain rfl := hw'.symm
      clear HF
      go_wp2_with fail
      refine HW.out.mono ?_
      rintro e w2 ⟨rfl, hB2, hb2, -⟩
      clear HW
      go_wp2_with fail
      go_end0
      exact ⟨rfl, by rw [HX.out]; exact hB2, hb1.trans hb2⟩
  · obtain ⟨ht, h1, h2, -, -⟩ := h
    have q1 : (v.t == 1) = false := by rw [ht]; decide
    have q2 : (v.t == 2) = true := by rw [ht]; decide
    have HX : Hid (v.lit = Lib.itoa v.n) := Lib.hid (by rw [HE.out, ht]; simp)
    have hil := Lib.itoa_length_le v.n (by omega) (by omega)
    have HF := Lib.hid (Tryz.strconv_FormatInt_10 v.n (by omega) (by omega) _ (HT1.out _ (Below.refl _ _)).2)
    clear ht h1 h2 HE HR1 ih
    go_enter Tryz.func37, Tryz.ntmps37
    go_wp2_with fail
    refine HF.out.mono ?_
    rintro e w1 ⟨rfl, k, os, rfl⟩
    clear HF
    have hbg := below_grow (w.alloc (.cells #[.int .i64 v.t, .int .i64 v.n, .string v.s, .slice oa v.l.length cap] 34)) k os
    have HW := Lib.hid (write_any B L ⟨(Lib.itoa v.n).toArray⟩ _ (isB_later HB1.out hbg) (by have := HL.out; show _ + (Lib.itoa v.n).length ≤ _; omega) (Nat.le_trans hs1 hbg.size))
    have hb1 := hb1.trans (hbg.mono hs1)
    clear hbg hil HB1 HT1
    go_wp2_with fail

    refine HW.out.mono ?_
    rintro e w2 ⟨rfl, hB2, hb2, -⟩
    clear HW
    go_wp2_with fail
    go_end0
    exact ⟨rfl, by rw [HX.out]; exact hB2, hb1.trans hb2⟩
  · obtain ⟨ht, h1, h2, -, -⟩ := h
    have q1 : (v.t == 1) = false := by rw [ht]; decide
    have q2 : (v.t == 2) = false := by rw [ht]; decide
    have q4 : (v.t == 4) = true := by rw [ht]; decide
    obtain ⟨m, hm4⟩ : ∃ m : Nat, v.n = (m : Int) := ⟨v.n.toNat, by omega⟩
    have HX : Hid (v.lit = [48, 120, hx (m / 16), hx (m % 16)]) := Lib.hid (by rw [HE.out, ht, hm4]; simp)
    have hmi : v.n ≤ 255 := by omega
    have hmi0 : (0 : Int) ≤ v.n := by omega
    obtain ⟨c, hc⟩ : ∃ c : UInt8, c.toNat = m := ⟨UInt8.ofNat m, by rw [UInt8.toNat_ofNat']; omega⟩
    have hcn : (c.toNat : Int) = v.n := by omega
    have H1 := Lib.hid (write_any B L ⟨#[48, 120]⟩ _ HB1.out (by have := HL.out; show _ + 2 ≤ _; omega) hs1)
    rw [← hc] at HX
    have HCN := Lib.hid hcn
    clear ht h1 h2 HE HR1 ih HB1 HT1 hm4 hc hcn
    go_enter Tryz.func37, Tryz.ntmps37
    go_wp2_with fail
    refine H1.out.mono ?_
    rintro e w1 ⟨rfl, hB1, hb2, hk⟩
    clear H1
    have hb3 := hb1.trans hb2
    have hheap := hk _ _ (heap_at w _) (by simp; omega) (by simp)
    have g1 := cell_heap (i := 1) hheap rfl
    have HW := Lib.hid (whex_any B _ c w1 hB1 (by have := HL.out; rw [List.length_append]; show _ + 2 ≤ _; omega) (Nat.le_trans hBw hb3.size))
    rw [HCN.out] at HW
    have hb1 := hb3
    clear hk hheap hb2 hb3 hB1
    go_wp2_with fail
    refine HW.out.mono ?_
    rintro e w2 ⟨rfl, hB2, hb2, -⟩
    clear HW
    go_wp2_with fail
    go_end0
    rw [List.append_assoc] at hB2
    exact ⟨rfl, by rw [HX.out]; exact hB2, hb1.trans hb2⟩
  · obtain ⟨ht, -, htx, -⟩ := h
    have q1 : (v.t == 1) = false := by rw [ht]; decide
    have q2 : (v.t == 2) = false := by rw [ht]; decide
    have q4 : (v.t == 4) = false := by rw [ht]; decide
    have q8 : (v.t == 8) = false := by rw [ht]; decide
    have q3 : (v.t == 3) = true := by rw [ht]; decide
    have HX : Hid (v.lit = quoteL v.s.data.toList) := Lib.hid (by rw [HE.out, ht]; simp)
    have hts := (chkText_ok htx).2.1
    have HW := Lib.hid (wquoted_any B L v.s _ HB1.out (by have := HL.out; omega) (by omega) hs1 (fun pos wr hp hb => decode_go v.s pos wr hp (HT1.out wr hb).1))
    clear ht htx HE HR1 ih HB1 HT1 hts
    go_enter Tryz.func37, Tryz.ntmps37
    go_wp2_with fail
    refine HW.out.mono ?_
    rintro e w2 ⟨rfl, hB2, hb2⟩
    clear HW
    go_wp2_with fail
    go_end0
    exact ⟨rfl, by rw [HX.out]; exact hB2, hb1.trans hb2⟩
  · obtain ⟨ht, -, htx, -⟩ := h
    have q1 : (v.t == 1) = false := by rw [ht]; decide
    have q2 : (v.t == 2) = false := by rw [ht]; decide
    have q4 : (v.t == 4) = false := by rw [ht]; decide
    have q8 : (v.t == 8) = true := by rw [ht]; decide
    have HX : Hid (v.lit = 114 :: quoteL v.s.data.toList) := Lib.hid (by rw [HE.out, ht]; simp)
    have hts := (chkText_ok htx).2.1
    have H1 := Lib.hid (byte_any B L 114 _ HB1.out (by have := HL.out; omega) hs1)
    clear ht htx HE HR1 ih HB1
    go_enter Tryz.func37, Tryz.ntmps37
    go_wp2_with fail
    refine H1.out.mono ?_
    rintro e w1 ⟨rfl, hB1, hb2, hk⟩
    clear H1
    have hb3 := hb1.trans hb2
    have hheap := hk _ _ (heap_at w _) (by simp; omega) (by simp)
    have g2 := cell_heap (i := 2) hheap rfl
    have HW := Lib.hid (wquoted_any B _ v.s w1 hB1 (by have := HL.out; rw [List.length_append]; show _ + 1 ≤ _; omega) (by omega) (Nat.le_trans hBw hb3.size) (fun pos wr hp hb => decode_go v.s pos wr hp (HT1.out.later hb2 wr hb).1))
    have hb1 := hb3
    clear hk hheap hb2 hb3 hB1 HT1 hts
    go_wp2_with fail
    refine HW.out.mono ?_
    rintro e w2 ⟨rfl, hB2, hb2⟩
    clear HW
    go_wp2_with fail
    go_end0
    rw [List.append_assoc] at hB2
    exact ⟨rfl, by rw [HX.out]; exact hB2, hb1.trans hb2⟩
  · obtain ⟨ht, -, -, hl, hc⟩ := h
    have q1 : (v.t == 1) = false := by rw [ht]; decide
    have q2 : (v.t == 2) = false := by rw [ht]; decide
    have q4 : (v.t == 4) = false := by rw [ht]; decide
    have q8 : (v.t == 8) = false := by rw [ht]; decide
    have q3 : (v.t == 3) = false := by rw [ht]; decide
    have q5 : (v.t == 5) = true := by rw [ht]; decide
    have HX : Hid (v.lit = 91 :: (V.lits v.l ++ [93])) := Lib.hid (by rw [HE.out, ht]; simp)
    have HW := Lib.hid (writeList_any v.l ih (fun x hx => (chkL_mem 2 v.l hc x hx).2) _ _ B L 91 93 91 93 rfl rfl HR1.out HT1.out HB1.out hs1 (by have := HL.out; rw [HX.out] at this; simp only [List.length_cons, List.length_append, List.length_nil] at this; omega))
    clear ht hl hc HE HR1 ih HB1 HT1
    go_enter Tryz.func37, Tryz.ntmps37
    go_wp2_with fail
    refine HW.out.mono ?_
    rintro e w2 ⟨rfl, hB2, hb2⟩
    clear HW
    go_wp2_with fail
    go_end0
    exact ⟨rfl, by rw [HX.out]; exact hB2, hb1.trans hb2⟩
  · obtain ⟨ht, -, -, hl, hc⟩ := h
    have q1 : (v.t == 1) = false := by rw [ht]; decide
    have q2 : (v.t == 2) = false := by rw [ht]; decide
    have q4 : (v.t == 4) = false := by rw [ht]; decide
    have q8 : (v.t == 8) = false := by rw [ht]; decide
    have q3 : (v.t == 3) = false := by rw [ht]; decide
    have q5 : (v.t == 5) = false := by rw [ht]; decide
    have q6 : (v.t == 6) = true := by rw [ht]; decide
    have HX : Hid (v.lit = 123 :: (V.lits v.l ++ [125])) := Lib.hid (by rw [HE.out, ht]; simp)
    have HW := Lib.hid (writeList_any v.l ih (fun x hx => (chkL_mem 3 v.l hc x hx).2) _ _ B L 123 125 123 125 rfl rfl HR1.out HT1.out HB1.out hs1 (by have := HL.out; rw [HX.out] at this; simp only [List.length_cons, List.length_append, List.length_nil] at this; omega))
    clear ht hl hc HE HR1 ih HB1 HT1
    go_enter Tryz.func37, Tryz.ntmps37
    go_wp2_with fail
    refine HW.out.mono ?_
    rintro e w2 ⟨rfl, hB2, hb2⟩
    clear HW
    go_wp2_with fail
    go_end0
    exact ⟨rfl, by rw [HX.out]; exact hB2, hb1.trans hb2⟩
  · obtain ⟨ht, -, -, hl, hc⟩ := h
    have q1 : (v.t == 1) = false := by rw [ht]; decide
    have q2 : (v.t == 2) = false := by rw [ht]; decide
    have q4 : (v.t == 4) = false := by rw [ht]; decide
    have q8 : (v.t == 8) = false := by rw [ht]; decide
    have q3 : (v.t == 3) = false := by rw [ht]; decide
    have q5 : (v.t == 5) = false := by rw [ht]; decide
    have q6 : (v.t == 6) = false := by rw [ht]; decide
    have q7 : (v.t == 7) = true := by rw [ht]; decide
    have HX : Hid (v.lit = 60 :: (V.lits v.l ++ [62])) := Lib.hid (by rw [HE.out, ht]; simp)
    have HW := Lib.hid (writeList_any v.l ih (fun x hx => (chkR_mem _ v.l hc x hx).2.2.2.2) _ _ B L 60 62 60 62 rfl rfl HR1.out HT1.out HB1.out hs1 (by have := HL.out; rw [HX.out] at this; simp only [List.length_cons, List.length_append, List.length_nil] at this; omega))
    clear ht hl hc HE HR1 ih HB1 HT1
    go_enter Tryz.func37, Tryz.ntmps37
    go_wp2_with fail
    refine HW.out.mono ?_
    rintro e w2 ⟨rfl, hB2, hb2⟩
    clear HW
    go_wp2_with fail
    go_end0
    exact ⟨rfl, by rw [HX.out]; exact hB2, hb1.trans hb2⟩
end Go.Proofs.YtmbmlcnipncgnaaGreatDoor
