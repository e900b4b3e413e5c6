/-
  Automata in memory: their positions; After, Before, Reads, Last. Nothing is assumed.
-/
import Derived.Test.YtaipaddfehpmgaaDoorPtSet
namespace Go.Proofs.YtaipaddfehpmgaaDoor
open Go.RowKit

def Ps.cs (p : Ps) : List Value := [.int .u64 p.s.a, .int .u64 p.s.b, .int .u64 p.s.c, .int .u64 p.s.d, .int .u64 p.n]
def flatQ (l : List Ps) : List Value := l.flatMap Ps.cs
theorem flatQ_len (l : List Ps) : (flatQ l).length = l.length * 5 := by
  induction l with
  | nil => rfl
  | cons a l ih => simp only [flatQ, List.flatMap_cons, List.length_append, List.length_cons] at *; rw [ih]; simp [Ps.cs]; omega
theorem flatQ_at (l : List Ps) : ∀ (i j : Nat) (p : Ps), l[i]? = some p → j < 5 → (flatQ l)[i * 5 + j]? = p.cs[j]? := by
  induction l with
  | nil => intro i j p h; simp at h
  | cons a l ih =>
    intro i j p h hj
    cases i with
    | zero =>
      simp only [List.getElem?_cons_zero, Option.some.injEq] at h
      subst h
      simp only [flatQ, List.flatMap_cons]
      rw [List.getElem?_append_left (by simp [Ps.cs]; omega)]
      simp
    | succ i =>
      have := ih i j p (by simpa using h) hj
      simp only [flatQ, List.flatMap_cons]
      rw [List.getElem?_append_right (by simp [Ps.cs]; omega)]
      have e : (i + 1) * 5 + j - a.cs.length = i * 5 + j := by simp [Ps.cs]; omega
      rw [e]
      exact this
theorem flatQ_snoc (l : List Ps) (p : Ps) : flatQ (l ++ [p]) = flatQ l ++ p.cs := by simp [flatQ]
theorem flatQ_set (l : List Ps) : ∀ (i : Nat) (p : Ps) (n : Int), l[i]? = some p → flatQ (l.set i ⟨p.s, n⟩) = (flatQ l).set (i * 5 + 4) (.int .u64 n) := by
  induction l with
  | nil => intro i p n h; simp at h
  | cons a l ih =>
    intro i p n h
    cases i with
    | zero =>
      simp only [List.getElem?_cons_zero, Option.some.injEq] at h
      subst h
      simp [flatQ, Ps.cs]
    | succ i =>
      have := ih i p n (by simpa using h)
      rw [List.set_cons_succ]
      simp only [flatQ, List.flatMap_cons] at *
      rw [this, List.set_append_right _ _ (by simp [Ps.cs]; omega)]
      have e : (i + 1) * 5 + 4 - a.cs.length = i * 5 + 4 := by simp [Ps.cs]; omega
      rw [e]

theorem infoPos : (Tryd.prog.info? 117).map (fun i => (i.zero, i.size, i.bytes)) = some (some (.agg #[.int .u64 0, .int .u64 0, .int .u64 0, .int .u64 0, .int .u64 0]), 5, 40) := by kernel_rfl

/-- The slice value holds the list of positions, in a block of a set. -/
def HQ (w : World) (S : Nat → Prop) (x : Value) (l : List Ps) : Prop :=
  ∃ (oa : Option Addr) (cap : Nat), x = .slice oa l.length cap ∧ l.length ≤ 1000000 ∧ ∀ i p, l[i]? = some p → ∃ b off : Nat, oa = some ⟨b, off, none⟩ ∧ S b ∧ ∀ j u, p.cs[j]? = some u → w.cell? ⟨b, off + i * 5 + j, none⟩ = some u
theorem HQ.later {w w' : World} {S T : Nat → Prop} {x : Value} {l : List Ps} (h : HQ w S x l) (hT : ∀ b, S b → T b) (hS : ∀ b, S b → ∀ o, w'.cell? ⟨b, o, none⟩ = w.cell? ⟨b, o, none⟩) : HQ w' T x l := by
  obtain ⟨oa, cap, rfl, hm, hel⟩ := h
  refine ⟨oa, cap, rfl, hm, fun i p hp => ?_⟩
  obtain ⟨b, off, rfl, hb, hc⟩ := hel i p hp
  exact ⟨b, off, rfl, hT b hb, fun j u hu => by rw [hS b hb]; exact hc j u hu⟩
theorem HQ.below {w w' : World} {B : Nat} {x : Value} {l : List Ps} (h : HQ w (· < B) x l) (hb : Below B w w') {C : Nat} (hC : B ≤ C) : HQ w' (· < C) x l :=
  h.later (fun _ hb' => Nat.lt_of_lt_of_le hb' hC) fun b hb' o => hb.cell (p := ⟨b, o, none⟩) hb'
theorem HQ.form {w : World} {S : Nat → Prop} {x : Value} {l : List Ps} (h : HQ w S x l) : ∃ oa cap, x = .slice oa l.length cap ∧ l.length ≤ 1000000 := by
  obtain ⟨oa, cap, h1, h2, _⟩ := h
  exact ⟨oa, cap, h1, h2⟩
theorem HQ.at_ {w : World} {S : Nat → Prop} {oa : Option Addr} {n cap : Nat} {l : List Ps} (h : HQ w S (.slice oa n cap) l) {i : Nat} {p : Ps} (hp : l[i]? = some p) :
    ∃ b off : Nat, oa = some ⟨b, off, none⟩ ∧ S b ∧ w.cell? ⟨b, off + i * 5, none⟩ = some (.int .u64 p.s.a) ∧ w.cell? ⟨b, off + i * 5 + 1, none⟩ = some (.int .u64 p.s.b) ∧ w.cell? ⟨b, off + i * 5 + 2, none⟩ = some (.int .u64 p.s.c) ∧
      w.cell? ⟨b, off + i * 5 + 3, none⟩ = some (.int .u64 p.s.d) ∧ w.cell? ⟨b, off + i * 5 + 4, none⟩ = some (.int .u64 p.n) := by
  obtain ⟨oa', cap', e, _, hel⟩ := h
  cases e
  obtain ⟨b, off, h1, h2, h3⟩ := hel i p hp
  exact ⟨b, off, h1, h2, h3 0 _ rfl, h3 1 _ rfl, h3 2 _ rfl, h3 3 _ rfl, h3 4 _ rfl⟩

theorem afterL_drop (s : Int) (l : List Ps) (k : Nat) (a : Int) (h : k < l.length) : afterL s k (l.drop k) a = afterL s (k + 1) (l.drop (k + 1)) (if bitQ s k = true then orS a (l[k]'h).n else a) := by
  rw [List.drop_eq_getElem_cons h, afterL]
theorem beforeL_drop (s : Int) (l : List Ps) (k : Nat) (a : Int) (h : k < l.length) : beforeL s k (l.drop k) a = beforeL s (k + 1) (l.drop (k + 1)) (if bits BinOp.and IntKind.u64 (l[k]'h).n s = 0 then a else orS a (oneS k)) := by
  rw [List.drop_eq_getElem_cons h, beforeL]
theorem readsL_drop (c : Nat) (l : List Ps) (k : Nat) (a : Int) (h : k < l.length) : readsL c k (l.drop k) a = readsL c (k + 1) (l.drop (k + 1)) (if (l[k]'h).s.has c = true then orS a (oneS k) else a) := by
  rw [List.drop_eq_getElem_cons h, readsL]


set_option maxRecDepth 100000 in
set_option maxHeartbeats 1600000 in
theorem after_any (w : World) (B : Nat) (sl : Value) (ps : List Ps) (last : Int) (s : Int) (h : HQ w (· < B) sl ps) (hB : B ≤ w.heap.size) :
    Calls Tryd.prog 31 #[.agg #[sl, .int .u64 last], .int .u64 s] w fun e w' => e = .returned (.int .u64 (afterL s 0 ps 0)) ∧ Below w.heap.size w w' := by
  obtain ⟨oa, cap, rfl, hm⟩ := h.form
  have HH := Lib.hid h
  clear h
  have hmi : (ps.length : Int) ≤ 1000000 := by omega
  have HC := Lib.hid (cell_at w #[.slice oa ps.length cap, .int .u64 last] 44 0 _ rfl)
  go_enter Tryd.func31, Tryd.ntmps31
  go_wp2_with fail
  go_loopw [5, 10] (fun x v wr => ∃ (k : Nat) (a : Int), k ≤ ps.length ∧ v = .int .i64 k ∧ x = .int .u64 a ∧ Hid (afterL s 0 ps 0 = afterL s k (ps.drop k) a) ∧ wr = w.alloc (.cells #[.slice oa ps.length cap, .int .u64 last] 44)) (fun _ v _ => ps.length - (intOf v).toNat)
  case atStart => exact ⟨0, 0, Nat.zero_le _, rfl, rfl, Lib.hid rfl, rfl⟩
  case round =>
    obtain ⟨k, a, hk, rfl, rfl, HE, rfl⟩ := hrel
    by_cases hlt : k < ps.length
    · obtain ⟨b, off, rfl, hb, c0, c1, c2, c3, c4⟩ := HH.out.at_ (List.getElem?_eq_getElem hlt)
      have hlow : ∀ o, (w.alloc (.cells #[.slice (some ⟨b, off, none⟩) ps.length cap, .int .u64 last] 44)).cell? ⟨b, o, none⟩ = w.cell? ⟨b, o, none⟩ := fun o => (below1 w _).cell (p := ⟨b, o, none⟩) (Nat.lt_of_lt_of_le hb hB)
      have e0 := (hlow _).trans c0
      have e1 := (hlow _).trans c1
      have e2 := (hlow _).trans c2
      have e3 := (hlow _).trans c3
      have e4 := (hlow _).trans c4
      have hbne : b ≠ w.heap.size := by omega
      have HE1 := Lib.hid (HE.out.trans (afterL_drop s ps k a hlt))
      clear hlow HE
      cases hb2 : bitQ s k
      · have hq : (bits BinOp.and IntKind.u64 (s / 2 ^ min k 64) 1 == 1) = false := hb2
        rw [hb2] at HE1
        replace HE1 : Hid (afterL s 0 ps 0 = afterL s (k + 1) (ps.drop (k + 1)) a) := HE1
        go_wp2_with fail
        go_roundw
        case rel => exact ⟨k + 1, _, hlt, by go_num, rfl, HE1, by first | rfl | trivial⟩
        case measure => simp [intOf]; omega
      · have hq : (bits BinOp.and IntKind.u64 (s / 2 ^ min k 64) 1 == 1) = true := hb2
        rw [hb2] at HE1
        replace HE1 : Hid (afterL s 0 ps 0 = afterL s (k + 1) (ps.drop (k + 1)) (orS a ps[k].n)) := HE1
        go_wp2_with fail
        go_roundw
        case rel => exact ⟨k + 1, _, hlt, by go_num, rfl, HE1, by first | rfl | trivial⟩
        case measure => simp [intOf]; omega
    · obtain rfl : k = ps.length := by omega
      go_wp2_with fail
      go_ret
      refine ⟨ret_int ?_, below1 _ _⟩
      rw [HE.out, List.drop_length, afterL]

set_option maxRecDepth 100000 in
set_option maxHeartbeats 1600000 in
theorem before_any (w : World) (B : Nat) (sl : Value) (ps : List Ps) (last : Int) (s : Int) (h : HQ w (· < B) sl ps) (hB : B ≤ w.heap.size) :
    Calls Tryd.prog 50 #[.agg #[sl, .int .u64 last], .int .u64 s] w fun e w' => e = .returned (.int .u64 (beforeL s 0 ps 0)) ∧ Below w.heap.size w w' := by
  obtain ⟨oa, cap, rfl, hm⟩ := h.form
  have HH := Lib.hid h
  clear h
  have hmi : (ps.length : Int) ≤ 1000000 := by omega
  have HC := Lib.hid (cell_at w #[.slice oa ps.length cap, .int .u64 last] 44 0 _ rfl)
  go_enter Tryd.func50, Tryd.ntmps50
  go_wp2_with fail
  go_loopw [5, 10] (fun x v wr => ∃ (k : Nat) (a : Int), k ≤ ps.length ∧ v = .int .i64 k ∧ x = .int .u64 a ∧ Hid (beforeL s 0 ps 0 = beforeL s k (ps.drop k) a) ∧ wr = w.alloc (.cells #[.slice oa ps.length cap, .int .u64 last] 44)) (fun _ v _ => ps.length - (intOf v).toNat)
  case atStart => exact ⟨0, 0, Nat.zero_le _, rfl, rfl, Lib.hid rfl, rfl⟩
  case round =>
    obtain ⟨k, a, hk, rfl, rfl, HE, rfl⟩ := hrel
    by_cases hlt : k < ps.length
    · obtain ⟨b, off, rfl, hb, c0, c1, c2, c3, c4⟩ := HH.out.at_ (List.getElem?_eq_getElem hlt)
      have hlow : ∀ o, (w.alloc (.cells #[.slice (some ⟨b, off, none⟩) ps.length cap, .int .u64 last] 44)).cell? ⟨b, o, none⟩ = w.cell? ⟨b, o, none⟩ := fun o => (below1 w _).cell (p := ⟨b, o, none⟩) (Nat.lt_of_lt_of_le hb hB)
      have e0 := (hlow _).trans c0
      have e1 := (hlow _).trans c1
      have e2 := (hlow _).trans c2
      have e3 := (hlow _).trans c3
      have e4 := (hlow _).trans c4
      have hbne : b ≠ w.heap.size := by omega
      have HE1 := Lib.hid (HE.out.trans (beforeL_drop s ps k a hlt))
      clear hlow HE
      by_cases hb2 : bits BinOp.and IntKind.u64 ps[k].n s = 0
      · have hq := hb2
        rw [if_pos hb2] at HE1
        go_wp2_with fail
        go_roundw
        case rel => exact ⟨k + 1, _, hlt, by go_num, rfl, HE1, by first | rfl | trivial⟩
        case measure => simp [intOf]; omega
      · have hq := hb2
        rw [if_neg hb2] at HE1
        replace HE1 : Hid (beforeL s 0 ps 0 = beforeL s (k + 1) (ps.drop (k + 1)) (bits BinOp.or IntKind.u64 a (IntKind.u64.wrap (2 ^ min k 64)))) := HE1
        go_wp2_with fail
        go_roundw
        case rel => exact ⟨k + 1, _, hlt, by go_num, rfl, HE1, by first | rfl | trivial⟩
        case measure => simp [intOf]; omega
    · obtain rfl : k = ps.length := by omega
      go_wp2_with fail
      go_ret
      refine ⟨ret_int ?_, below1 _ _⟩
      rw [HE.out, List.drop_length, beforeL]

set_option maxRecDepth 100000 in
set_option maxHeartbeats 1600000 in
theorem reads_any (w : World) (B : Nat) (sl : Value) (ps : List Ps) (last : Int) (c : Nat) (hc : c < 256) (h : HQ w (· < B) sl ps) (hB : B ≤ w.heap.size) :
    Calls Tryd.prog 33 #[.agg #[sl, .int .u64 last], .int .u8 (c : Int)] w fun e w' => e = .returned (.int .u64 (readsL c 0 ps 0)) ∧ Below w.heap.size w w' := by
  obtain ⟨oa, cap, rfl, hm⟩ := h.form
  have HH := Lib.hid h
  clear h
  have hmi : (ps.length : Int) ≤ 1000000 := by omega
  have HC := Lib.hid (cell_at w #[.slice oa ps.length cap, .int .u64 last] 44 0 _ rfl)
  go_enter Tryd.func33, Tryd.ntmps33
  go_wp2_with fail
  go_loopw [5, 10] (fun x v wr => ∃ (k : Nat) (a : Int), k ≤ ps.length ∧ v = .int .i64 k ∧ x = .int .u64 a ∧ Hid (readsL c 0 ps 0 = readsL c k (ps.drop k) a) ∧ wr = w.alloc (.cells #[.slice oa ps.length cap, .int .u64 last] 44)) (fun _ v _ => ps.length - (intOf v).toNat)
  case atStart => exact ⟨0, 0, Nat.zero_le _, rfl, rfl, Lib.hid rfl, rfl⟩
  case round =>
    obtain ⟨k, a, hk, rfl, rfl, HE, rfl⟩ := hrel
    by_cases hlt : k < ps.length
    · obtain ⟨b, off, rfl, hb, c0, c1, c2, c3, c4⟩ := HH.out.at_ (List.getElem?_eq_getElem hlt)
      have hlow : ∀ o, (w.alloc (.cells #[.slice (some ⟨b, off, none⟩) ps.length cap, .int .u64 last] 44)).cell? ⟨b, o, none⟩ = w.cell? ⟨b, o, none⟩ := fun o => (below1 w _).cell (p := ⟨b, o, none⟩) (Nat.lt_of_lt_of_le hb hB)
      have e0 := (hlow _).trans c0
      have e1 := (hlow _).trans c1
      have e2 := (hlow _).trans c2
      have e3 := (hlow _).trans c3
      have e4 := (hlow _).trans c4
      have hbne : b ≠ w.heap.size := by omega
      have HE1 := Lib.hid (HE.out.trans (readsL_drop c ps k a hlt))
      clear hlow HE
      rcases div64 hc with h6 | h6 | h6 | h6
      · cases hb2 : ps[k].s.has c
        · have hq : (bits BinOp.and IntKind.u64 (ps[k].s.a / 2 ^ (c % 64)) 1 == 1) = false := by
            have := hb2
            unfold S4.has hasQ at this
            rw [h6] at this
            exact this
          rw [hb2] at HE1
          replace HE1 : Hid (readsL c 0 ps 0 = readsL c (k + 1) (ps.drop (k + 1)) a) := HE1
          clear hb2
          go_wp2_with fail
          go_roundw
          case rel => exact ⟨k + 1, _, hlt, by go_num, rfl, HE1, by first | rfl | trivial⟩
          case measure => simp [intOf]; omega
        · have hq : (bits BinOp.and IntKind.u64 (ps[k].s.a / 2 ^ (c % 64)) 1 == 1) = true := by
            have := hb2
            unfold S4.has hasQ at this
            rw [h6] at this
            exact this
          rw [hb2] at HE1
          replace HE1 : Hid (readsL c 0 ps 0 = readsL c (k + 1) (ps.drop (k + 1)) (bits BinOp.or IntKind.u64 a (IntKind.u64.wrap (2 ^ min k 64)))) := HE1
          clear hb2
          go_wp2_with fail
          go_roundw
          case rel => exact ⟨k + 1, _, hlt, by go_num, rfl, HE1, by first | rfl | trivial⟩
          case measure => simp [intOf]; omega
      · cases hb2 : ps[k].s.has c
        · have hq : (bits BinOp.and IntKind.u64 (ps[k].s.b / 2 ^ (c % 64)) 1 == 1) = false := by
            have := hb2
            unfold S4.has hasQ at this
            rw [h6] at this
            exact this
          rw [hb2] at HE1
          replace HE1 : Hid (readsL c 0 ps 0 = readsL c (k + 1) (ps.drop (k + 1)) a) := HE1
          clear hb2
          go_wp2_with fail
          go_roundw
          case rel => exact ⟨k + 1, _, hlt, by go_num, rfl, HE1, by first | rfl | trivial⟩
          case measure => simp [intOf]; omega
        · have hq : (bits BinOp.and IntKind.u64 (ps[k].s.b / 2 ^ (c % 64)) 1 == 1) = true := by
            have := hb2
            unfold S4.has hasQ at this
            rw [h6] at this
            exact this
          rw [hb2] at HE1
          replace HE1 : Hid (readsL c 0 ps 0 = readsL c (k + 1) (ps.drop (k + 1)) (bits BinOp.or IntKind.u64 a (IntKind.u64.wrap (2 ^ min k 64)))) := HE1
          clear hb2
          go_wp2_with fail
          go_roundw
          case rel => exact ⟨k + 1, _, hlt, by go_num, rfl, HE1, by first | rfl | trivial⟩
          case measure => simp [intOf]; omega
      · cases hb2 : ps[k].s.has c
        · have hq : (bits BinOp.and IntKind.u64 (ps[k].s.c / 2 ^ (c % 64)) 1 == 1) = false := by
            have := hb2
            unfold S4.has hasQ at this
            rw [h6] at this
            exact this
          rw [hb2] at HE1
          replace HE1 : Hid (readsL c 0 ps 0 = readsL c (k + 1) (ps.drop (k + 1)) a) := HE1
          clear hb2
          go_wp2_with fail
          go_roundw
          case rel => exact ⟨k + 1, _, hlt, by go_num, rfl, HE1, by first | rfl | trivial⟩
          case measure => simp [intOf]; omega
        · have hq : (bits BinOp.and IntKind.u64 (ps[k].s.c / 2 ^ (c % 64)) 1 == 1) = true := by
            have := hb2
            unfold S4.has hasQ at this
            rw [h6] at this
            exact this
          rw [hb2] at HE1
          replace HE1 : Hid (readsL c 0 ps 0 = readsL c (k + 1) (ps.drop (k + 1)) (bits BinOp.or IntKind.u64 a (IntKind.u64.wrap (2 ^ min k 64)))) := HE1
          clear hb2
          go_wp2_with fail
          go_roundw
          case rel => exact ⟨k + 1, _, hlt, by go_num, rfl, HE1, by first | rfl | trivial⟩
          case measure => simp [intOf]; omega
      · cases hb2 : ps[k].s.has c
        · have hq : (bits BinOp.and IntKind.u64 (ps[k].s.d / 2 ^ (c % 64)) 1 == 1) = false := by
            have := hb2
            unfold S4.has hasQ at this
            rw [h6] at this
            exact this
          rw [hb2] at HE1
          replace HE1 : Hid (readsL c 0 ps 0 = readsL c (k + 1) (ps.drop (k + 1)) a) := HE1
          clear hb2
          go_wp2_with fail
          go_roundw
          case rel => exact ⟨k + 1, _, hlt, by go_num, rfl, HE1, by first | rfl | trivial⟩
          case measure => simp [intOf]; omega
        · have hq : (bits BinOp.and IntKind.u64 (ps[k].s.d / 2 ^ (c % 64)) 1 == 1) = true := by
            have := hb2
            unfold S4.has hasQ at this
            rw [h6] at this
            exact this
          rw [hb2] at HE1
          replace HE1 : Hid (readsL c 0 ps 0 = readsL c (k + 1) (ps.drop (k + 1)) (bits BinOp.or IntKind.u64 a (IntKind.u64.wrap (2 ^ min k 64)))) := HE1
          clear hb2
          go_wp2_with fail
          go_roundw
          case rel => exact ⟨k + 1, _, hlt, by go_num, rfl, HE1, by first | rfl | trivial⟩
          case measure => simp [intOf]; omega
    · obtain rfl : k = ps.length := by omega
      go_wp2_with fail
      go_ret
      refine ⟨ret_int ?_, below1 _ _⟩
      rw [HE.out, List.drop_length, readsL]

set_option maxRecDepth 100000 in
theorem last_any (w : World) (oa : Option Addr) (n cap : Nat) (last : Int) :
    Calls Tryd.prog 49 #[.agg #[.slice oa n cap, .int .u64 last]] w fun e w' => e = .returned (.int .u64 last) ∧ Below w.heap.size w w' := by
  go_enter Tryd.func49, Tryd.ntmps49
  go_wp2_with fail
  go_ret
  exact ⟨rfl, below1 _ _⟩
end Go.Proofs.YtaipaddfehpmgaaDoor
