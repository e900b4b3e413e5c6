/-
  Values, symbols, rules and languages in memory, beside terms; the walks of Count, shallow and Small of the reference of layer 1. Nothing is assumed.
-/
import Derived.Test.YtdfhfljmcakilaaTmSize
namespace Go.Proofs.Ytdfhfljmcakilaa
open Go.RowKit

/-- A value of package api as a finite tree: type, number, text, elements. -/
inductive V where
  | mk (t n : Int) (s : ByteArray) (l : List V)

namespace V
def t : V → Int | .mk t _ _ _ => t
def n : V → Int | .mk _ n _ _ => n
def s : V → ByteArray | .mk _ _ s _ => s
def l : V → List V | .mk _ _ _ l => l

theorem eta (v : V) : V.mk v.t v.n v.s v.l = v := by cases v; rfl

theorem ind {p : V → Prop} (h : ∀ v : V, (∀ x, x ∈ v.l → p x) → p v) (v : V) : p v :=
  V.rec (motive_1 := p) (motive_2 := fun l => ∀ x, x ∈ l → p x) (fun t n s l ih => h (.mk t n s l) ih) (fun _ hx => by cases hx)
    (fun a l ha hl x hx => by
      rcases List.mem_cons.1 hx with rfl | hx
      · exact ha
      · exact hl x hx) v
end V

/-- What holds of every element of every list holds of every list. -/
theorem V.inds {p : List V → Prop} (h : ∀ l : List V, (∀ x, x ∈ l → p x.l) → p l) (l : List V) : p l :=
  h l fun x _ => V.ind (p := fun v => p v.l) (fun v ih => h v.l ih) x

/-! ### Small -/

mutual
def V.cnt : V → Int → Int
  | .mk _ _ _ l, most => V.cnts most 0 l
def V.cnts (most acc : Int) : List V → Int
  | [] => acc
  | v :: l => if acc ≤ most then V.cnts most (wrap64 (acc + wrap64 (1 + v.cnt (wrap64 (most - acc))))) l else acc
end
theorem V.cnt_eq (v : V) (most : Int) : v.cnt most = V.cnts most 0 v.l := by cases v; rw [V.cnt]; rfl
theorem V.cnts_nil (most acc : Int) : V.cnts most acc [] = acc := by rw [V.cnts]
theorem V.cnts_out (most acc : Int) (l : List V) (h : ¬ acc ≤ most) : V.cnts most acc l = acc := by cases l <;> rw [V.cnts]; rw [if_neg h]
theorem V.cnts_in (most acc : Int) (v : V) (l : List V) (h : acc ≤ most) : V.cnts most acc (v :: l) = V.cnts most (wrap64 (acc + wrap64 (1 + v.cnt (wrap64 (most - acc))))) l := by rw [V.cnts, if_pos h]

mutual
def V.sh : V → Int → Bool
  | .mk _ _ s l, d => if d = 0 ∨ 100 < s.size then false else V.shs (wrap64 (d - 1)) l
def V.shs (d : Int) : List V → Bool
  | [] => true
  | v :: l => if v.sh d = true then V.shs d l else false
end
theorem V.sh_eq (v : V) (d : Int) : v.sh d = if d = 0 ∨ 100 < v.s.size then false else V.shs (wrap64 (d - 1)) v.l := by cases v; rw [V.sh]; rfl
theorem V.shs_nil (d : Int) : V.shs d [] = true := by rw [V.shs]
theorem V.shs_cons (d : Int) (v : V) (l : List V) : V.shs d (v :: l) = if v.sh d = true then V.shs d l else false := by rw [V.shs]

def V.small (v : V) : Bool := decide (V.cnts 90 0 [v] ≤ 90) && v.sh 8

/-- The slice value holds the list of values in the world, all of it in blocks below B. -/
inductive VRep (w : World) (B : Nat) : Value → List V → Prop
  | empty (oa : Option Addr) (cap : Nat) : VRep w B (.slice oa 0 cap) []
  | arr (b off cap : Nat) (l : List V) (sl : Nat → Value) (hb : b < B) (hl : l.length ≤ cap) (hm : l.length ≤ 9223372036854775807)
      (hc : ∀ i v, l[i]? = some v → w.cell? ⟨b, off + i * 4, none⟩ = some (.int .i64 v.t) ∧ w.cell? ⟨b, off + i * 4 + 1, none⟩ = some (.int .i64 v.n) ∧
        w.cell? ⟨b, off + i * 4 + 2, none⟩ = some (.string v.s) ∧ w.cell? ⟨b, off + i * 4 + 3, none⟩ = some (sl i))
      (hr : ∀ i v, l[i]? = some v → VRep w B (sl i) v.l) : VRep w B (.slice (some ⟨b, off, none⟩) l.length cap) l

/-- A later world in which all blocks below B are as they were. -/
theorem VRep.later {w w' : World} {B : Nat} {x : Value} {l : List V} (h : VRep w B x l) (hw : Below B w w') : VRep w' B x l := by
  induction h with
  | empty oa cap => exact .empty oa cap
  | arr b off cap l sl hb hl hm hc hr ih =>
    refine .arr b off cap l sl hb hl hm (fun i v hv => ?_) ih
    obtain ⟨h0, h1, h2, h3⟩ := hc i v hv
    exact ⟨(hw.cell (p := ⟨b, _, none⟩) hb).trans h0, (hw.cell (p := ⟨b, _, none⟩) hb).trans h1, (hw.cell (p := ⟨b, _, none⟩) hb).trans h2, (hw.cell (p := ⟨b, _, none⟩) hb).trans h3⟩

theorem VRep.mono {w : World} {B C : Nat} {x : Value} {l : List V} (h : VRep w B x l) (hBC : B ≤ C) : VRep w C x l := by
  induction h with
  | empty oa cap => exact .empty oa cap
  | arr b off cap l sl hb hl hm hc hr ih => exact .arr b off cap l sl (Nat.lt_of_lt_of_le hb hBC) hl hm hc ih

theorem VRep.nil {w : World} {B : Nat} : VRep w B (.slice none 0 0) [] := .empty none 0

/-- Opened in one form for a nil slice and any other. -/
theorem VRep.slice {w : World} {B : Nat} {x : Value} {l : List V} (h : VRep w B x l) :
    ∃ (oa : Option Addr) (cap : Nat), x = .slice oa l.length cap ∧ l.length ≤ cap ∧ l.length ≤ 9223372036854775807 ∧
      ∀ i v, l[i]? = some v → ∃ (b off : Nat) (oe : Option Addr) (ce : Nat), oa = some ⟨b, off, none⟩ ∧ b < B ∧
        w.cell? ⟨b, off + i * 4, none⟩ = some (.int .i64 v.t) ∧ w.cell? ⟨b, off + i * 4 + 1, none⟩ = some (.int .i64 v.n) ∧
        w.cell? ⟨b, off + i * 4 + 2, none⟩ = some (.string v.s) ∧ w.cell? ⟨b, off + i * 4 + 3, none⟩ = some (.slice oe v.l.length ce) ∧ VRep w B (.slice oe v.l.length ce) v.l := by
  cases h with
  | empty oa cap => exact ⟨oa, cap, rfl, Nat.zero_le _, by simp, fun i v hv => by simp at hv⟩
  | arr b off cap l sl hb hl hm hc hr =>
    refine ⟨_, cap, rfl, hl, hm, fun i v hv => ?_⟩
    obtain ⟨h0, h1, h2, h3⟩ := hc i v hv
    have hR := hr i v hv
    obtain ⟨oe, ce, he⟩ : ∃ oe ce, sl i = .slice oe v.l.length ce := by
      generalize sl i = x at *
      generalize v.l = m at *
      cases hR with
      | empty oa cap => exact ⟨oa, cap, rfl⟩
      | arr b' off' cap' => exact ⟨_, cap', rfl⟩
    rw [he] at h3 hR
    exact ⟨b, off, oe, ce, rfl, hb, h0, h1, h2, h3, hR⟩

/-- A list of one element, in a block of its own. -/
theorem VRep.one {w : World} {B b cap : Nat} {sl : Value} {v : V} (h : VRep w B sl v.l) (hb : b < B) (hcap : 1 ≤ cap)
    (h0 : w.cell? ⟨b, 0, none⟩ = some (.int .i64 v.t)) (h1 : w.cell? ⟨b, 1, none⟩ = some (.int .i64 v.n)) (h2 : w.cell? ⟨b, 2, none⟩ = some (.string v.s)) (h3 : w.cell? ⟨b, 3, none⟩ = some sl) :
    VRep w B (.slice (some ⟨b, 0, none⟩) 1 cap) [v] := by
  refine .arr b 0 cap [v] (fun _ => sl) hb hcap (by simp) (fun i x hx => ?_) (fun i x hx => ?_)
  · have hi : i = 0 := by
      have := (List.getElem?_eq_some_iff.1 hx).1
      simp at this
      omega
    subst hi
    simp at hx
    subst hx
    exact ⟨h0, h1, h2, h3⟩
  · have hi : i = 0 := by
      have := (List.getElem?_eq_some_iff.1 hx).1
      simp at this
      omega
    subst hi
    simp at hx
    subst hx
    exact h

/-- The four cells of a boxed value, in a later world. -/
theorem box_later {w w1 : World} {a b c d : Value} {t : Nat} (h : Below (w.heap.size + 1) (w.alloc (.cells #[a, b, c, d] t)) w1) :
    w1.cell? ⟨w.heap.size, 0, none⟩ = some a ∧ w1.cell? ⟨w.heap.size, 1, none⟩ = some b ∧ w1.cell? ⟨w.heap.size, 2, none⟩ = some c ∧ w1.cell? ⟨w.heap.size, 3, none⟩ = some d :=
  ⟨(h.cell (p := ⟨w.heap.size, 0, none⟩) (Nat.lt_succ_self _)).trans (cell_at _ _ _ _ _ rfl), (h.cell (p := ⟨w.heap.size, 1, none⟩) (Nat.lt_succ_self _)).trans (cell_at _ _ _ _ _ rfl),
    (h.cell (p := ⟨w.heap.size, 2, none⟩) (Nat.lt_succ_self _)).trans (cell_at _ _ _ _ _ rfl), (h.cell (p := ⟨w.heap.size, 3, none⟩) (Nat.lt_succ_self _)).trans (cell_at _ _ _ _ _ rfl)⟩

/-- A list of one element that has just been laid. -/
theorem VRep.new1 {w : World} {B C n : Nat} {sl : Value} {v : V} {t : Nat} (h : VRep w B sl v.l) (hB : B ≤ w.heap.size) (hn : w.heap.size = n) (hC : n + 1 ≤ C) :
    VRep (w.alloc (.cells #[.int .i64 v.t, .int .i64 v.n, .string v.s, sl] t)) C (.slice (some ⟨n, 0, none⟩) 1 1) [v] := by
  subst hn
  exact VRep.one ((h.later ((below1 w _).mono hB)).mono (by omega)) (by omega) (Nat.le_refl _) (cell_at _ _ _ _ _ rfl) (cell_at _ _ _ _ _ rfl) (cell_at _ _ _ _ _ rfl) (cell_at _ _ _ _ _ rfl)

theorem drop_v (l : List V) (k : Nat) (h : k < l.length) : l.drop k = l[k] :: l.drop (k + 1) := List.drop_eq_getElem_cons h

set_option maxHeartbeats 400000 in
theorem count_any (l : List V) : ∀ (sl : Value) (w : World) (B : Nat) (most : Int), VRep w B sl l → B ≤ w.heap.size →
    Calls Try.prog 57 #[sl, .int .i64 most] w fun e w' => e = .returned (.int .i64 (V.cnts most 0 l)) ∧ Below w.heap.size w w' := by
  induction l using V.inds with
  | h l ih =>
  intro sl w B most hrep hB
  obtain ⟨oa, cap, rfl, hlc, hm, hel⟩ := hrep.slice
  go_enter Try.func57, Try.ntmps57
  go_wp2_with fail
  go_loopw [5, 6] (fun s i wr => ∃ (k : Nat) (N : Int), k ≤ l.length ∧ i = .int .i64 k ∧ s = .int .i64 N ∧ Hid (V.cnts most N (l.drop k) = V.cnts most 0 l) ∧ Below w.heap.size w wr) (fun _ i _ => l.length - (intOf i).toNat)
  case atStart => exact ⟨0, 0, Nat.zero_le _, rfl, rfl, rfl, Below.refl _ _⟩
  case round =>
    obtain ⟨k, N, hk, rfl, rfl, HD, hbel⟩ := hrel
    by_cases hlt : k < l.length
    · by_cases hle : N ≤ most
      · obtain ⟨b, off, oe, ce, rfl, hb, h0, h1, h2, h3, hr⟩ := hel k _ (List.getElem?_eq_getElem hlt)
        rw [← hbel.cell (p := ⟨b, _, none⟩) (Nat.lt_of_lt_of_le hb hB)] at h0 h1 h2 h3
        have hs := hbel.size
        go_wp2_with fail
        refine (ih _ (List.getElem_mem hlt) _ _ B _ (hr.later (hbel.mono hB)) (by omega)).mono ?_
        rintro e w1 ⟨rfl, hb1⟩
        have HS := Lib.hid (drop_v l k hlt)
        go_wp2_with fail
        go_roundw
        case rel => exact ⟨k + 1, _, hlt, by go_num, rfl, by
          have h := HD.out
          rw [HS.out, V.cnts_in _ _ _ _ (by omega), V.cnt_eq] at h
          exact h, hbel.trans (hb1.mono (by omega))⟩
        case measure => simp [intOf]; omega
      · go_wp2_with fail
        go_ret
        exact ⟨ret_int (by rw [← HD.out, V.cnts_out _ _ _ (by omega)]), hbel⟩
    · go_wp2_with fail
      go_ret
      exact ⟨ret_int (by rw [← HD.out, List.drop_of_length_le (by omega), V.cnts_nil]), hbel⟩

set_option maxHeartbeats 400000 in
theorem shallow_any (v : V) : ∀ (sl : Value) (w : World) (B : Nat) (d : Int), VRep w B sl v.l → B ≤ w.heap.size →
    Calls Try.prog 58 #[.agg #[.int .i64 v.t, .int .i64 v.n, .string v.s, sl], .int .i64 d] w fun e w' => e = .returned (.bool (v.sh d)) ∧ Below w.heap.size w w' := by
  induction v using V.ind with
  | h v ih =>
  intro sl w B d hrep hB
  obtain ⟨oa, cap, rfl, hlc, hm, hel⟩ := hrep.slice
  by_cases hd : d = 0
  · have hz : v.sh d = false := by rw [V.sh_eq, if_pos (.inl hd)]
    subst hd
    rw [hz]; clear hz
    go_enter Try.func58, Try.ntmps58
    go_wp2_with fail
    go_ret
    exact ⟨rfl, below1 _ _⟩
  have hd' : (d == 0) = false := beq_eq_false_iff_ne.2 hd
  by_cases ht : 100 < (v.s.size : Int)
  · have hz : v.sh d = false := by rw [V.sh_eq, if_pos (.inr (by omega))]
    rw [hz]; clear hz hd
    go_enter Try.func58, Try.ntmps58
    go_wp2_with fail
    go_ret
    exact ⟨rfl, below1 _ _⟩
  have hz : v.sh d = V.shs (wrap64 (d - 1)) v.l := by rw [V.sh_eq, if_neg (by omega)]
  rw [hz]; clear hz hd
  go_enter Try.func58, Try.ntmps58
  go_wp2_with fail
  go_loopw [5] (fun i wr => ∃ (k : Nat), k ≤ v.l.length ∧ i = .int .i64 k ∧ Hid (V.shs (wrap64 (d - 1)) (v.l.drop k) = V.shs (wrap64 (d - 1)) v.l) ∧ Below (w.heap.size + 1) (w.alloc (.cells #[.int .i64 v.t, .int .i64 v.n, .string v.s, .slice oa v.l.length cap] 64)) wr) (fun i _ => v.l.length - (intOf i).toNat)
  case atStart => exact ⟨0, Nat.zero_le _, rfl, rfl, Below.refl _ _⟩
  case round =>
    obtain ⟨k, hk, rfl, HD, hbel'⟩ := hrel
    have hbel : Below w.heap.size w wr := (below1 _ _).trans (hbel'.mono (by omega))
    have hown : wr.cell? ⟨w.heap.size, 3, none⟩ = some (.slice oa v.l.length cap) := by
      rw [hbel'.cell (p := ⟨w.heap.size, 3, none⟩) (Nat.lt_succ_self _)]
      rw [World.cell?_alloc_at _ _ _ _ rfl]; rfl
    by_cases hlt : k < v.l.length
    · obtain ⟨b, off, oe, ce, rfl, hb, h0, h1, h2, h3, hr⟩ := hel k _ (List.getElem?_eq_getElem hlt)
      rw [← hbel.cell (p := ⟨b, _, none⟩) (Nat.lt_of_lt_of_le hb hB)] at h0 h1 h2 h3
      have hs := hbel.size
      go_wp2_with fail
      refine (ih _ (List.getElem_mem hlt) _ _ B _ (hr.later (hbel.mono hB)) (by omega)).mono ?_
      rintro e w1 ⟨rfl, hb1⟩
      have hs1 := hbel'.size
      have HS := Lib.hid (drop_v v.l k hlt)
      cases hr : v.l[k].sh (wrap64 (d - 1))
      · have HR := Lib.hid hr
        go_wp2_with fail
        go_ret
        exact ⟨ret_bool (by rw [← HD.out, HS.out, V.shs_cons, if_neg (by rw [HR.out]; simp)]), hbel.trans (hb1.mono (by omega))⟩
      · have HR := Lib.hid hr
        go_wp2_with fail
        go_roundw
        case rel => exact ⟨k + 1, hlt, by go_num, by
          have h := HD.out
          rw [HS.out, V.shs_cons, if_pos HR.out] at h
          exact h, hbel'.trans (hb1.mono (by simp at hs1; omega))⟩
        case measure => simp [intOf]; omega
    · go_wp2_with fail
      go_ret
      exact ⟨ret_bool (by rw [← HD.out, List.drop_of_length_le (by omega), V.shs_nil]), hbel⟩

set_option maxHeartbeats 400000 in
theorem smallV_any (v : V) (sl : Value) (w : World) (B : Nat) (hrep : VRep w B sl v.l) (hB : B ≤ w.heap.size) :
    Calls Try.prog 46 #[.agg #[.int .i64 v.t, .int .i64 v.n, .string v.s, sl]] w fun e w' => e = .returned (.bool v.small) ∧ Below w.heap.size w w' := by
  obtain ⟨oa, cap, rfl, hlc, hm, hel⟩ := hrep.slice
  go_enter Try.func46, Try.ntmps46
  go_wp2_with fail
  have hR := VRep.new1 (t := 64) (hrep.later ((below1 w (.cells #[.int .i64 v.t, .int .i64 v.n, .string v.s, .slice oa v.l.length cap] 64)).mono hB)) (by simp; omega) (n := w.heap.size + 1) (by simp) (Nat.le_refl _)
  refine (count_any [v] _ _ _ _ hR (by simp)).mono ?_
  rintro e w1 ⟨rfl, hb1⟩
  have hb2 : Below (w.heap.size + 1) (w.alloc (.cells #[.int .i64 v.t, .int .i64 v.n, .string v.s, .slice oa v.l.length cap] 64)) w1 :=
    (((Below.refl _ _).alloc (by simp) _).trans (hb1.mono (by simp)))
  have hb3 : Below w.heap.size w w1 := (below1 _ _).trans (hb2.mono (by omega))
  obtain ⟨c0, c1, c2, c3⟩ := box_later hb2
  clear hb2
  have hs := hb3.size
  by_cases hn : V.cnts 90 0 [v] ≤ 90
  · have HN := Lib.hid hn
    go_wp2_with fail
    refine (shallow_any v _ _ B 8 (hrep.later (hb3.mono hB)) (by omega)).mono ?_
    rintro e w2 ⟨rfl, hb4⟩
    go_wp2_with fail
    go_ret
    exact ⟨ret_bool (by simp [V.small, HN.out]), hb3.trans (hb4.mono (by omega))⟩
  · have HN := Lib.hid hn
    go_wp2_with fail
    go_ret
    exact ⟨ret_bool (by have := HN.out; simp [V.small]; omega), hb3⟩

/-- A symbol, a rule, a language of package api. -/
structure Sym where
  nm : ByteArray
  t : Int
structure Rul where
  sy : Int
  k : Int
  i : Int
  c : V
  op : ByteArray
  ags : List Int
structure Lan where
  nm : ByteArray
  ins : List Int
  sys : List Sym
  rs : List Rul

/-- .. a list of symbols. -/
def HoldsY (w : World) (B : Nat) (x : Value) (l : List Sym) : Prop :=
  ∃ (oa : Option Addr) (cap : Nat), x = .slice oa l.length cap ∧ l.length ≤ cap ∧ cap ≤ 9223372036854775807 ∧
    ∀ (i : Nat) s, l[i]? = some s → ∃ b off : Nat, oa = some ⟨b, off, none⟩ ∧ b < B ∧ w.cell? ⟨b, off + i * 2, none⟩ = some (.string s.nm) ∧ w.cell? ⟨b, off + i * 2 + 1, none⟩ = some (.int .i64 s.t)
theorem HoldsY.later {w w' : World} {B : Nat} {x : Value} {l : List Sym} (h : HoldsY w B x l) (hb : Below B w w') : HoldsY w' B x l := by
  obtain ⟨oa, cap, rfl, hl, hm, hel⟩ := h
  refine ⟨oa, cap, rfl, hl, hm, fun i z hz => ?_⟩
  obtain ⟨b, off, rfl, hlt, h1, h2⟩ := hel i z hz
  exact ⟨b, off, rfl, hlt, (hb.cell (p := ⟨b, _, none⟩) hlt).trans h1, (hb.cell (p := ⟨b, _, none⟩) hlt).trans h2⟩
theorem HoldsY.mono {w : World} {B C : Nat} {x : Value} {l : List Sym} (h : HoldsY w B x l) (hBC : B ≤ C) : HoldsY w C x l := by
  obtain ⟨oa, cap, rfl, hl, hm, hel⟩ := h
  refine ⟨oa, cap, rfl, hl, hm, fun i z hz => ?_⟩
  obtain ⟨b, off, rfl, hlt, hc⟩ := hel i z hz
  exact ⟨b, off, rfl, Nat.lt_of_lt_of_le hlt hBC, hc⟩
theorem HoldsY.form {w : World} {B : Nat} {x : Value} {l : List Sym} (h : HoldsY w B x l) : ∃ oa cap, x = .slice oa l.length cap ∧ l.length ≤ cap ∧ cap ≤ 9223372036854775807 := by
  obtain ⟨oa, cap, rfl, h1, h2, _⟩ := h
  exact ⟨oa, cap, rfl, h1, h2⟩
theorem HoldsY.at_ {w : World} {B n c i : Nat} {oa : Option Addr} {l : List Sym} {s : Sym} (h : HoldsY w B (.slice oa n c) l) (hz : l[i]? = some s) : ∃ b off : Nat, oa = some ⟨b, off, none⟩ ∧ b < B ∧ w.cell? ⟨b, off + i * 2, none⟩ = some (.string s.nm) ∧ w.cell? ⟨b, off + i * 2 + 1, none⟩ = some (.int .i64 s.t) := by
  obtain ⟨oa', cap, he, _, _, hel⟩ := h
  cases he
  exact hel i s hz
theorem HoldsY.nil (w : World) (B : Nat) : HoldsY w B (.slice none 0 0) [] := ⟨none, 0, rfl, Nat.le_refl _, by simp, fun i z h => by simp at h⟩

/-- A rule lies at a place: nine cells; the constant's elements and the arguments behind them. -/
def RuleAt (w : World) (B b o : Nat) (r : Rul) : Prop :=
  w.cell? ⟨b, o, none⟩ = some (.int .i64 r.sy) ∧ w.cell? ⟨b, o + 1, none⟩ = some (.int .i64 r.k) ∧ w.cell? ⟨b, o + 2, none⟩ = some (.int .i64 r.i) ∧
  w.cell? ⟨b, o + 3, none⟩ = some (.int .i64 r.c.t) ∧ w.cell? ⟨b, o + 4, none⟩ = some (.int .i64 r.c.n) ∧ w.cell? ⟨b, o + 5, none⟩ = some (.string r.c.s) ∧
  (∃ xi, w.cell? ⟨b, o + 6, none⟩ = some xi ∧ VRep w B xi r.c.l) ∧ w.cell? ⟨b, o + 7, none⟩ = some (.string r.op) ∧ (∃ xa, w.cell? ⟨b, o + 8, none⟩ = some xa ∧ HoldsI w B xa r.ags)
theorem RuleAt.later {w w' : World} {B b o : Nat} {r : Rul} (h : RuleAt w B b o r) (hb : b < B) (hw : Below B w w') : RuleAt w' B b o r := by
  obtain ⟨h0, h1, h2, h3, h4, h5, ⟨xi, h6, hi⟩, h7, ⟨xa, h8, ha⟩⟩ := h
  have go := fun o => hw.cell (p := ⟨b, o, none⟩) hb
  exact ⟨(go _).trans h0, (go _).trans h1, (go _).trans h2, (go _).trans h3, (go _).trans h4, (go _).trans h5, ⟨xi, (go _).trans h6, hi.later hw⟩, (go _).trans h7, ⟨xa, (go _).trans h8, ha.later hw⟩⟩
theorem RuleAt.mono {w : World} {B C b o : Nat} {r : Rul} (h : RuleAt w B b o r) (hBC : B ≤ C) : RuleAt w C b o r := by
  obtain ⟨h0, h1, h2, h3, h4, h5, ⟨xi, h6, hi⟩, h7, ⟨xa, h8, ha⟩⟩ := h
  exact ⟨h0, h1, h2, h3, h4, h5, ⟨xi, h6, hi.mono hBC⟩, h7, ⟨xa, h8, ha.mono hBC⟩⟩
/-- .. a list of rules. -/
def HoldsU (w : World) (B : Nat) (x : Value) (l : List Rul) : Prop :=
  ∃ (oa : Option Addr) (cap : Nat), x = .slice oa l.length cap ∧ l.length ≤ cap ∧ cap ≤ 9223372036854775807 ∧
    ∀ (i : Nat) r, l[i]? = some r → ∃ b off : Nat, oa = some ⟨b, off, none⟩ ∧ b < B ∧ RuleAt w B b (off + i * 9) r
theorem HoldsU.later {w w' : World} {B : Nat} {x : Value} {l : List Rul} (h : HoldsU w B x l) (hb : Below B w w') : HoldsU w' B x l := by
  obtain ⟨oa, cap, rfl, hl, hm, hel⟩ := h
  refine ⟨oa, cap, rfl, hl, hm, fun i z hz => ?_⟩
  obtain ⟨b, off, rfl, hlt, h1⟩ := hel i z hz
  exact ⟨b, off, rfl, hlt, h1.later hlt hb⟩
theorem HoldsU.mono {w : World} {B C : Nat} {x : Value} {l : List Rul} (h : HoldsU w B x l) (hBC : B ≤ C) : HoldsU w C x l := by
  obtain ⟨oa, cap, rfl, hl, hm, hel⟩ := h
  refine ⟨oa, cap, rfl, hl, hm, fun i z hz => ?_⟩
  obtain ⟨b, off, rfl, hlt, hc⟩ := hel i z hz
  exact ⟨b, off, rfl, Nat.lt_of_lt_of_le hlt hBC, hc.mono hBC⟩
theorem HoldsU.form {w : World} {B : Nat} {x : Value} {l : List Rul} (h : HoldsU w B x l) : ∃ oa cap, x = .slice oa l.length cap ∧ l.length ≤ cap ∧ cap ≤ 9223372036854775807 := by
  obtain ⟨oa, cap, rfl, h1, h2, _⟩ := h
  exact ⟨oa, cap, rfl, h1, h2⟩
theorem HoldsU.at_ {w : World} {B n c i : Nat} {oa : Option Addr} {l : List Rul} {r : Rul} (h : HoldsU w B (.slice oa n c) l) (hz : l[i]? = some r) : ∃ b off : Nat, oa = some ⟨b, off, none⟩ ∧ b < B ∧ RuleAt w B b (off + i * 9) r := by
  obtain ⟨oa', cap, he, _, _, hel⟩ := h
  cases he
  exact hel i r hz
theorem HoldsU.nil (w : World) (B : Nat) : HoldsU w B (.slice none 0 0) [] := ⟨none, 0, rfl, Nat.le_refl _, by simp, fun i z h => by simp at h⟩

/-- .. a language: its three lists. -/
def HoldsL (w : World) (B : Nat) (x1 x2 x3 : Value) (L : Lan) : Prop := HoldsI w B x1 L.ins ∧ HoldsY w B x2 L.sys ∧ HoldsU w B x3 L.rs
theorem HoldsL.later {w w' : World} {B : Nat} {x1 x2 x3 : Value} {L : Lan} (h : HoldsL w B x1 x2 x3 L) (hb : Below B w w') : HoldsL w' B x1 x2 x3 L := ⟨h.1.later hb, h.2.1.later hb, h.2.2.later hb⟩
theorem HoldsL.mono {w : World} {B C : Nat} {x1 x2 x3 : Value} {L : Lan} (h : HoldsL w B x1 x2 x3 L) (hBC : B ≤ C) : HoldsL w C x1 x2 x3 L := ⟨h.1.mono hBC, h.2.1.mono hBC, h.2.2.mono hBC⟩
/-- A language as the call's argument. -/
abbrev lanV (L : Lan) (x1 x2 x3 : Value) : Value := .agg #[.string L.nm, x1, x2, x3]

end Go.Proofs.Ytdfhfljmcakilaa
