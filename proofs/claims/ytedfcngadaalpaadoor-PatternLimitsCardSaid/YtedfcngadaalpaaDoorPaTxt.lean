/-
  What Words and Same say of the texts that are matched. With no program in it. Nothing is assumed.
-/
import Derived.Test.YtedfcngadaalpaaDoorPaGra
import Derived.Test.YtedfcngadaalpaaDoorPaAl
namespace Go.Proofs.YtedfcngadaalpaaDoor
open Go.RowKit

theorem bt_nat {n : Nat} (hn : n < 2 ^ 64) (i : Nat) : bt (n : Int) i = n.testBit i := by
  unfold bt
  rw [BitVec.ofInt_natCast, BitVec.getLsbD_ofNat]
  by_cases hi : i < 64
  · simp [hi]
  · have : n.testBit i = false := Nat.testBit_lt_two_pow (Nat.lt_of_lt_of_le hn (Nat.pow_le_pow_right (by decide) (by omega)))
    simp [hi, this]
theorem u_small {x : Int} (h : U6 x) {k : Nat} (hb : ∀ i, k ≤ i → bt x i = false) : ∃ n : Nat, x = (n : Int) ∧ n < 2 ^ k := by
  obtain ⟨n, rfl⟩ := Int.eq_ofNat_of_zero_le h.1
  have hn : n < 2 ^ 64 := by have := h.2; omega
  refine ⟨n, rfl, Nat.lt_pow_two_of_testBit n fun i hi => ?_⟩
  have := hb i hi
  rwa [bt_nat hn] at this
/-- A step of a machine. -/
def stB (ps : List Ps) (b : Nat) (x : Int) : Int := bits BinOp.and IntKind.u64 (afterL x 0 ps 0) (readsL b 0 ps 0)
theorem step_mem {ps : List Ps} {x : Int} {b : Nat} (h : 32 ≤ b ∧ b ≤ 126) : stB ps b x ∈ stepL ps x := by
  unfold stepL rdL
  rw [List.map_map, List.mem_map]
  exact ⟨b - 32, List.mem_range.2 (by omega), by show bits BinOp.and IntKind.u64 (afterL x 0 ps 0) (readsL (32 + (b - 32)) 0 ps 0) = _; rw [show 32 + (b - 32) = b by omega]; rfl⟩
theorem step_of {ps : List Ps} {x y : Int} (h : y ∈ stepL ps x) : ∃ b, (32 ≤ b ∧ b ≤ 126) ∧ y = stB ps b x := by
  unfold stepL rdL at h
  rw [List.map_map, List.mem_map] at h
  obtain ⟨k, hk, rfl⟩ := h
  exact ⟨32 + k, by have := List.mem_range.1 hk; omega, rfl⟩
theorem step_zip {ps qs : List Ps} {x y : Int} {b : Nat} (h : 32 ≤ b ∧ b ≤ 126) : (stB ps b x, stB qs b y) ∈ stepP ps qs (x, y) := by
  unfold stepP stepL rdL
  rw [List.map_map, List.map_map]
  refine List.mem_iff_getElem?.2 ⟨b - 32, ?_⟩
  refine List.getElem?_zip_eq_some.2 ⟨?_, ?_⟩
  · rw [List.getElem?_map, List.getElem?_range (by omega)]
    show some (bits BinOp.and IntKind.u64 (afterL x 0 ps 0) (readsL (32 + (b - 32)) 0 ps 0)) = _
    rw [show 32 + (b - 32) = b by omega]; rfl
  · rw [List.getElem?_map, List.getElem?_range (by omega)]
    show some (bits BinOp.and IntKind.u64 (afterL y 0 qs 0) (readsL (32 + (b - 32)) 0 qs 0)) = _
    rw [show 32 + (b - 32) = b by omega]; rfl
theorem step_bt {ps : List Ps} {b : Nat} {x : Int} (i : Nat) (h : ps.length ≤ i) : bt (stB ps b x) i = false := by
  unfold stB
  rw [bt_and]
  cases hr : bt (readsL b 0 ps 0) i with
  | false => rw [Bool.and_false]
  | true =>
    obtain ⟨p, hp, _⟩ := (reads_bt b ps i).1 hr
    have := (List.getElem?_eq_some_iff.1 hp).1
    omega
theorem build_len (t : PT) (hl : 1 + t.lv ≤ 64) : (buildT t).1.length ≤ 1 + t.lv := by
  obtain ⟨k1, _⟩ := add_spec t [⟨.zero, 0⟩] (by simpa using hl)
  unfold buildT
  dsimp only
  rw [List.length_set]
  simpa using k1
/-- A machine with few positions has few states. -/
theorem few_states {ps : List Ps} (hp : ps.length ≤ 11) {F : List Int} {E : List (List Nat)} (h : ExG (stepL ps) 1 F E) : F.length ≤ 2048 := by
  have h1 := h.rc (fun x => ∃ n : Nat, x = (n : Int) ∧ n < 2048) ⟨1, rfl, by decide⟩ (fun x _ y hy => by
    obtain ⟨b, _, rfl⟩ := step_of hy
    obtain ⟨n, h2, h3⟩ := u_small (x := stB ps b x) (and_u _ _) (k := 11) (fun i hi => step_bt i (by omega))
    exact ⟨n, h2, h3⟩)
  have := nodup_sub F ((List.range 2048).map fun n : Nat => (n : Int)) h.nd (fun x hx => by
    obtain ⟨n, rfl, h2⟩ := h1 x hx
    exact List.mem_map.2 ⟨n, List.mem_range.2 h2, rfl⟩)
  simpa using this
/-- How many texts of a length a tree has; no more than the greatest number and one. -/
def cntT (t : PT) (n : Nat) : Int := cntG (stepL (buildT t).1) (accQ (buildT t).2) n 1
theorem acc0_at (last : Int) (F : List Int) (i : Nat) (x : Int) (h : F[i]? = some x) : (acc0 last F)[i]? = some (if accQ last x = true then 1 else 0) := by
  unfold acc0 accQ
  rw [List.getElem?_map, h]
  simp only [Option.map_some, decide_eq_true_eq]
theorem words_whole {t : PT} {F : List Int} {E : List (List Nat)} (h : Whole (stepL (buildT t).1) 1 F E) (he : exL (stepL (buildT t).1) 4098 [1] [] = some (F, E)) (n : Nat) :
    wordsT t n = if 1152921504606846976 < cntT t n then (0, 11) else (cntT t n, 0) := by
  have h1 : hd0 (iterL E (acc0 (buildT t).2 F) n) = cntT t n := by
    unfold hd0
    rw [h.count (accQ (buildT t).2) (acc0_at _ _) n 0 1 h.g.hd]
    rfl
  unfold wordsT
  rw [he]
  dsimp only
  rw [h1]
theorem words_few {t : PT} (hl : t.lv ≤ 10) (n : Nat) : wordsT t n = if 1152921504606846976 < cntT t n then (0, 11) else (cntT t n, 0) := by
  have hp := build_len t (by omega)
  rcases search (next := stepL (buildT t).1) (1 : Int) with ⟨_, F, E, h1, h2⟩ | ⟨F, E, h1, h2⟩
  · have := few_states (by omega) h1
    omega
  · exact words_whole h2 h1 n
theorem cnt_of_fwd (ps : List Ps) (last : Int) : ∀ (L : List UInt8) (x : Int), AlL L → accQ last (fwdL ps L x) = true → 1 ≤ cntG (stepL ps) (accQ last) L.length x
  | [], x, _, h => by
    rw [fwdL] at h
    show 1 ≤ cntG (stepL ps) (accQ last) 0 x
    rw [cntG, if_pos h]
    decide
  | c :: r, x, hA, h => by
    rw [fwdL] at h
    rw [List.length_cons]
    exact cnt_pos (stepL ps) (accQ last) (step_mem (hA c (List.mem_cons_self ..))) (cnt_of_fwd ps last r _ (fun d hd => hA d (List.mem_cons_of_mem _ hd)) h)
theorem acc_fwd (ps : List Ps) (last : Int) (L : List UInt8) : accT ps last L = accQ last (fwdL ps L 1) := rfl
theorem acc_al {t : PT} (hl : 1 + t.lv ≤ 64) (ha : AlT t) {L : List UInt8} (h : accT (buildT t).1 (buildT t).2 L = true) : AlL L := lg_al t ha L ((build_acc t hl L).1 h)
theorem cnt_of_acc {t : PT} (hl : 1 + t.lv ≤ 64) (ha : AlT t) {L : List UInt8} (h : accT (buildT t).1 (buildT t).2 L = true) : 1 ≤ cntT t L.length := by
  have hA := acc_al hl ha h
  rw [acc_fwd] at h
  exact cnt_of_fwd _ _ L 1 hA h
/-- What is told where two patterns are the same. -/
theorem same_pairs {t u : PT} (h : sameT t u = (true, 0)) : ∃ F : List P2, (1, 1) ∈ F ∧ (∀ x y, (x, y) ∈ F → ∀ z, z ∈ stepP (buildT t).1 (buildT u).1 (x, y) → z ∈ F) ∧ ∀ x y, (x, y) ∈ F → accQ (buildT t).2 x = accQ (buildT u).2 y := by
  rcases search (next := stepP (buildT t).1 (buildT u).1) ((1 : Int), (1 : Int)) with ⟨h1, _⟩ | ⟨F, E, h1, h2⟩
  · unfold sameT at h
    rw [h1] at h
    cases h
  · unfold sameT at h
    rw [h1] at h
    have h3 : alikeL (buildT t).2 (buildT u).2 F = true := congrArg Prod.fst h
    refine ⟨F, h2.start, fun x y hx z hz => h2.closed hx hz, fun x y hx => ?_⟩
    unfold alikeL at h3
    have := List.all_eq_true.1 h3 (x, y) hx
    simpa using this
theorem same_cnt {t u : PT} (h : sameT t u = (true, 0)) (n : Nat) : cntT t n = cntT u n := by
  obtain ⟨F, h1, h2, h3⟩ := same_pairs h
  exact cnt_pair (F := F) (fun x y => by rw [stepL_len, stepL_len]) (fun x y hx z hz => h2 x y hx z hz) h3 n 1 1 h1
theorem same_fwd {ps qs : List Ps} {F : List P2} (h2 : ∀ x y, (x, y) ∈ F → ∀ z, z ∈ stepP ps qs (x, y) → z ∈ F) : ∀ (L : List UInt8) (x y : Int), AlL L → (x, y) ∈ F → (fwdL ps L x, fwdL qs L y) ∈ F
  | [], _, _, _, h => h
  | c :: r, x, y, hA, h => same_fwd h2 r _ _ (fun d hd => hA d (List.mem_cons_of_mem _ hd)) (h2 x y h _ (step_zip (hA c (List.mem_cons_self ..))))
theorem same_acc {t u : PT} (h : sameT t u = (true, 0)) (hl : 1 + t.lv ≤ 64) (hu : 1 + u.lv ≤ 64) (ha : AlT t) (hb : AlT u) (L : List UInt8) : accT (buildT t).1 (buildT t).2 L = accT (buildT u).1 (buildT u).2 L := by
  by_cases hA : AlL L
  · obtain ⟨F, h1, h2, h3⟩ := same_pairs h
    exact h3 _ _ (same_fwd h2 L 1 1 hA h1)
  · cases h1 : accT (buildT t).1 (buildT t).2 L with
    | true => exact absurd (acc_al hl ha h1) hA
    | false =>
      cases h2 : accT (buildT u).1 (buildT u).2 L with
      | true => exact absurd (acc_al hu hb h2) hA
      | false => rfl
end Go.Proofs.YtedfcngadaalpaaDoor
