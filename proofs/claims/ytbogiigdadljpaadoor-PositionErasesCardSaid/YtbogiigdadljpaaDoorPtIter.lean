/-
  The iterator over the matches of a pattern: its contract at every loop body. Nothing is assumed.
-/
import Derived.Test.YtbogiigdadljpaaDoorPtFind
import Derived.Test.YtbogiigdadljpaaDoorScopeIn
import Derived.RangeFuncBox
import Derived.RangeFuncBound
import Derived.RangeFuncNested
import Derived.RangeFuncLeaves
import Derived.Shelf.Abstract
import Derived.Shelf.RegionOpen
import Derived.WalkKit
import Derived.OwnWalkIn
import Derived.TacticsInMore
import Derived.LoopNIn
import Derived.LoopIn
import Derived.Sort.QuietTacIn
import Derived.Lib.QuietBelow
namespace Go.Proofs.YtbogiigdadljpaaDoor
open Go.RowKit Go.Shelf

attribute [local go_sem] Oper.semAt_some

theorem wpIn_region_quiet_below {F : Fence} {n : Nat} {P : Program} {id : Nat} {Q : Exit → Act → World → Prop} {a : Act} {w : World} {l : List Oper} (hro : F.round = none) (hm : P.follows .mixedOrders = true) (hB : Region.lexB .any l.toArray = true)
    (h : wpQuietIn F n P l.toArray (fun w' => ∃ p : Regrown, w' = Go.Sort.grow (redrawn w p.d) p.os) (fun a' => ∀ w', (∃ p : Regrown, w' = Go.Sort.grow (redrawn w p.d) p.os) → Q .normal a' w') l a) : (Code.region id l.toArray true).wpIn F n P Q a w :=
  wpIn_region_quiet (C := fun w' => ∃ p : Regrown, w' = Go.Sort.grow (redrawn w p.d) p.os) hro hm hB ⟨⟨w.drawn + 1, #[]⟩, by rw [Go.Sort.grow_empty]; rfl⟩ (by simpa using h)

/-- A match as the program hands it on. -/
def enM (x : Nat × Nat) : Value := .agg #[.int .i64 (x.1 : Int), .int .i64 (x.2 : Int)]
theorem and_zero (x : Int) : bits BinOp.and IntKind.u64 x 0 = 0 := by
  simp [bits]
  rfl
theorem hope_last (ps : List Ps) (last : Int) (L : List UInt8) : (hopeL ps last L)[L.length]? = some 0 := by
  induction L with
  | nil => rfl
  | cons c r ih => rw [hopeL]; simpa using ih
theorem matL_step (ps : List Ps) (H : List Int) (n g i : Nat) (h : i < n) : matL ps H n (g + 1) i = if i < runL ps (H.drop i) 1 i then (i, runL ps (H.drop i) 1 i) :: matL ps H n g (runL ps (H.drop i) 1 i) else matL ps H n g (i + 1) := by
  rw [matL, if_pos h]
theorem matL_end (ps : List Ps) (H : List Int) (n g i : Nat) (h : ¬ i < n) : matL ps H n g i = [] := by
  cases g with
  | zero => rfl
  | succ g => rw [matL, if_neg h]
theorem matL_len (ps : List Ps) (H : List Int) (n : Nat) : ∀ g i, (matL ps H n g i).length ≤ g := by
  intro g
  induction g with
  | zero => intro i; exact Nat.le_refl _
  | succ g ih =>
    intro i
    rw [matL]
    split
    · split
      · have := ih (runL ps (H.drop i) 1 i); simp; omega
      · have := ih (i + 1); omega
    · simp
theorem runL_step (ps : List Ps) (H : List Int) (j : Nat) (s x : Int) (h : H[j]? = some x) : runL ps (H.drop j) s j = if bits BinOp.and IntKind.u64 (afterL s 0 ps 0) x = 0 then j else runL ps (H.drop (j + 1)) (bits BinOp.and IntKind.u64 (afterL s 0 ps 0) x) (j + 1) := by
  have hj := (List.getElem?_eq_some_iff.1 h).1
  rw [List.drop_eq_getElem_cons hj, runL]
  have : H[j] = x := (List.getElem?_eq_some_iff.1 h).2
  rw [this]

set_option maxRecDepth 100000 in
set_option maxHeartbeats 2000000 in
theorem mat_in (n l n₀ bs bm bh g c : Nat) (oa : Option Addr) (cap : Nat) (ps : List Ps) (last : Int) (s : ByteArray) (hs : s.size ≤ 1000) (J Jx : List (Nat × Nat) → World → Prop) (hJ : ∀ p W W', J p W → Below W.heap.size W W' → J p W')
    (hY : ∀ pre x W, J pre W → pre.length < s.size + 1 → pre ++ [x] <+: matL ps (hopeL ps last s.data.toList) s.size (s.size + 1) 0 → YieldAt Fence.wide (n - 1) Tryd.prog l #[enM x] W fun e W' =>
      (e = .returned (.bool true) ∧ J (pre ++ [x]) W' ∧ Below n₀ W W') ∨ (e = .returned (.bool false) ∧ Jx (pre ++ [x]) W'))
    (W : World) (hI : IsIt W n₀ bs bm bh g c oa cap ps last s) (h0 : J [] W) :
    CallsIn Fence.wide n Tryd.prog 49 #[.func (.yield l) #[] #[], .pointer (some ⟨bs, 0, none⟩), .pointer (some ⟨bm, 0, none⟩), .pointer (some ⟨bh, 0, none⟩)] W fun e W' => (∃ v, e = .returned v) ∧
      (J (matL ps (hopeL ps last s.data.toList) s.size (s.size + 1) 0) W' ∨ ∃ pre, pre <+: matL ps (hopeL ps last s.data.toList) s.size (s.size + 1) 0 ∧ Jx pre W') := by
  have hsI : (s.size : Int) ≤ 1000 := by omega
  have hHl := hopeL_len ps last s.data.toList
  rw [lt_len] at hHl
  have hHz := hope_last ps last s.data.toList
  rw [lt_len] at hHz
  have hML := matL_len ps (hopeL ps last s.data.toList) s.size (s.size + 1) 0
  have HHL := Lib.hid hHl
  have HHZ := Lib.hid hHz
  have HI := Lib.hid hI
  obtain ⟨H, hH⟩ : ∃ H, hopeL ps last s.data.toList = H := ⟨_, rfl⟩
  have HST := Lib.hid hI.st
  have HHT := Lib.hid hH
  rw [hH] at HHL HHZ hML hY ⊢
  obtain ⟨MS, hMS⟩ : ∃ MS, matL ps H s.size (s.size + 1) 0 = MS := ⟨_, rfl⟩
  rw [hMS] at hML hY ⊢
  have HMS := Lib.hid hMS
  have HJ := Lib.hid hJ
  have HYY := Lib.hid hY
  clear hI hHl hHz hH hMS hJ hY
  have noD : ∀ k : Nat, (Fence.wide.depth.isSome = true → 1 ≤ k) := fun k h => by cases h
  have c0 := HI.out.text
  refine callsIn_of_wp Tryd.func49 rfl trivial ?_ rfl
  simp only [Tryd.ntmps49, List.size_toArray, List.length_cons, List.length_nil, Nat.reduceAdd, Nat.reduceSub, Array.replicate_succ, Array.replicate_zero, List.push_toArray, List.append_toArray, List.nil_append, List.cons_append]
  gi_wp2
  apply wpIn_scope_straight
  gi_wp2
  apply wpIn_label
  gi_wp2
  gi_loopw [5, 6, 7] (fun v v6 v7 wr => ∃ (gk i : Nat) (pre : List (Nat × Nat)), v = .int .i64 (i : Int) ∧ i ≤ s.size ∧ s.size < i + gk ∧ Hid (MS = pre ++ matL ps H s.size gk i) ∧ J pre wr ∧ Below n₀ W wr) (fun v _ _ _ => s.size + 1 - (intOf v).toNat)
  case atStart => exact ⟨s.size + 1, 0, [], rfl, Nat.zero_le _, by omega, Lib.hid HMS.out.symm, h0, Below.refl _ _⟩
  case round =>
    obtain ⟨gk, i, pre, rfl, hi, hgk, HE, hJr, hbr⟩ := hrel
    have hIr := HI.out.later hbr
    have c1 := hIr.text
    by_cases hlt : i < s.size
    · have hltI : (i : Int) < (s.size : Int) := by omega
      obtain ⟨g', rfl⟩ : ∃ g', gk = g' + 1 := ⟨gk - 1, by omega⟩
      have HMT := Lib.hid (matL_step ps H s.size g' i hlt)
      clear hIr
      gi_wp2
      gi_loopw [5, 6, 7] (fun v5 v6 v7 wq => ∃ (st : Int) (j : Nat), v5 = .int .i64 (i : Int) ∧ v6 = .int .u64 st ∧ v7 = .int .i64 (j : Int) ∧ i ≤ j ∧ j ≤ s.size ∧ Hid (runL ps (H.drop i) 1 i = runL ps (H.drop j) st j) ∧ J pre wq ∧ Below n₀ W wq) (fun _ _ v _ => s.size + 1 - (intOf v).toNat)
      case atStart => exact ⟨1, i, rfl, rfl, rfl, Nat.le_refl _, by omega, Lib.hid rfl, hJr, hbr⟩
      case round =>
        clear c1 hJr hbr
        obtain ⟨st, j, rfl, rfl, rfl, hij, hjs, HR, hJq, hbq⟩ := hrel
        obtain ⟨WQ, hWQ⟩ : ∃ WQ : World, WQ = wr := ⟨_, rfl⟩
        subst hWQ
        have hIq := HI.out.later hbq
        have hjH : j < H.length := by have := HHL.out; omega
        obtain ⟨x, hx⟩ : ∃ x, H[j]? = some x := ⟨_, List.getElem?_eq_getElem hjH⟩
        have HRS := Lib.hid (runL_step ps H j st x hx)
        have hxc := hIq.st j x (by
          have h := HST.out
          exact HHT.out ▸ hx)
        have rm0 := fun d os => cell_regrown hIq.mach d os
        have rm1 := fun d os => cell_regrown hIq.last' d os
        have rh := fun d os => cell_regrown hIq.hope d os
        have rx := fun d os => cell_regrown hxc d os
        have rt := fun d os => cell_regrown hIq.text d os
        have ra : ∀ d os, Calls Tryd.prog 33 #[.agg #[.slice oa ps.length cap, .int .u64 last], .int .u64 st] (Go.Sort.grow (redrawn WQ d) os) fun e w'' => e = .returned (.int .u64 (afterL st 0 ps 0)) ∧ ∃ p : Regrown, w'' = Go.Sort.grow (redrawn WQ p.d) p.os := fun d os => by
          have hb := below_regrown WQ d os
          exact Calls.regrown_of (after_any (Go.Sort.grow (redrawn WQ d) os) n₀ _ ps last st (hIq.pos.below (hb.mono hIq.le) (Nat.le_refl _)) (Nat.le_trans hIq.le hb.size))
        have hj0 : (0 : Int) ≤ (j : Int) := by omega
        have hj1 : (j : Int) < (s.size : Int) + 1 := by omega
        have hj2 : (j : Int) < ((s.size + 1 : Nat) : Int) := by omega
        have RA := Lib.hid ra
        clear hIq hxc ra
        gi_wp2
        refine wpIn_region_quiet_below rfl (by kernel_rfl) (by kernel_rfl) ?_
        repeat
          refine wpQuietIn_step ?_ (fun K hK => ?_)
          · first | exact fun _ _ _ _ => trivial | quiet_asked_in
          go_simp
          first
            | (refine hK _ ?_
               clear hK K)
            | (refine ⟨_, fun a => ⟨noD _, callsIn_wide.2 (RA.out a.d a.os)⟩, hK _ ?_⟩
               clear hK K)
        refine wpQuietIn_nil ?_
        intro w' hw'
        obtain ⟨p, rfl⟩ := hw'
        have hbp := below_regrown WQ p.d p.os
        have hJ5 := HJ.out pre WQ _ hJq hbp
        have hb5 := hbq.trans (hbp.mono (HI.out.later hbq).le)
        generalize Go.Sort.grow (redrawn WQ p.d) p.os = W5 at *
        clear rm0 rm1 rh rx rt RA hbp hbq hJq
        by_cases hz : bits BinOp.and IntKind.u64 (afterL st 0 ps 0) x = 0
        · have HRZ : Hid (runL ps (H.drop i) 1 i = j) := Lib.hid (by rw [HR.out, HRS.out, if_pos hz])
          clear HR HRS
          by_cases hgt : i < j
          · have hgtI : (i : Int) < (j : Int) := by omega
            have hmx : max ((i : Int) + 1) (j : Int) = (j : Int) := by omega
            have HE2 : Hid (MS = (pre ++ [(i, j)]) ++ matL ps H s.size g' j) := Lib.hid (by rw [HE.out, HMT.out, HRZ.out, if_pos hgt]; simp)
            have hpl : pre.length < s.size + 1 := by
              have := congrArg List.length HE2.out
              simp at this
              omega
            obtain ⟨fn, tmps, assign, body, hy, hR⟩ := HYY.out pre (i, j) W5 hJ5 hpl ⟨_, HE2.out.symm⟩
            simp only [enM] at hy
            clear HE HMT HRZ
            gi_wp2
            refine ⟨noD _, ?_⟩
            refine hR.mono ?_
            clear hR hy
            rintro e W6 (⟨rfl, hJ6, hk6⟩ | ⟨rfl, hx6⟩)
            case inr =>
              gi_wp2
              rw [Exit.noGoto_ret]
              exact bodyPost_ret (v := .tuple #[]) (by simp [results, Tryd.results49, go_sem]) rfl ⟨⟨_, rfl⟩, Or.inr ⟨pre ++ [(i, j)], ⟨_, HE2.out.symm⟩, hx6⟩⟩
            gi_wp2
            go_roundw
            case rel => exact ⟨g', j, pre ++ [(i, j)], rfl, hjs, by omega, HE2, hJ6, hb5.trans hk6⟩
            case measure => simp [intOf]; omega
          · obtain rfl : i = j := by omega
            have hmx : max ((i : Int) + 1) (i : Int) = (i : Int) + 1 := by omega
            have HE2 : Hid (MS = pre ++ matL ps H s.size g' (i + 1)) := Lib.hid (by rw [HE.out, HMT.out, HRZ.out, if_neg hgt])
            clear HE HMT HRZ
            gi_wp2
            refine ⟨fun _ h => (nomatch h), ?_⟩
            gi_wp2
            go_roundw
            case rel => exact ⟨g', i + 1, pre, by go_num, hlt, by omega, HE2, hJ5, hb5⟩
            case measure => simp [intOf]; omega
        · have hjlt : j < s.size := by
            rcases Nat.lt_or_ge j s.size with h | h
            · exact h
            · obtain rfl : j = s.size := by omega
              rw [HHZ.out] at hx
              cases hx
              exact absurd (and_zero _) hz
          have HR2 : Hid (runL ps (H.drop i) 1 i = runL ps (H.drop (j + 1)) (bits BinOp.and IntKind.u64 (afterL st 0 ps 0) x) (j + 1)) := Lib.hid (by rw [HR.out, HRS.out, if_neg hz])
          clear HR HRS
          gi_wp2
          go_roundw
          case rel => exact ⟨_, j + 1, rfl, rfl, by go_num, by omega, by omega, HR2, hJ5, hb5⟩
          case measure => simp [intOf]; omega
    · gi_wp2
      rw [Exit.noGoto_normal]
      gi_wp2
      go_end0
      refine ⟨⟨_, rfl⟩, Or.inl ?_⟩
      have h := HE.out
      rw [matL_end _ _ _ _ _ hlt, List.append_nil] at h
      rw [h]
      exact hJr
/-- The iterator, as a consumer asks for it. -/
theorem mat_stops (n n₀ bs bm bh g c : Nat) (oa : Option Addr) (cap : Nat) (ps : List Ps) (last : Int) (s : ByteArray) (hs : s.size ≤ 1000) (w : World) (hI : IsIt w n₀ bs bm bh g c oa cap ps last s) :
    SeqStopsK Fence.wide n Tryd.prog 49 #[.pointer (some ⟨bs, 0, none⟩), .pointer (some ⟨bm, 0, none⟩), .pointer (some ⟨bh, 0, none⟩)] (fun x => #[enM x]) (Below n₀)
      (fun xs => xs = matL ps (hopeL ps last s.data.toList) s.size (s.size + 1) 0) (fun pre => pre <+: matL ps (hopeL ps last s.data.toList) s.size (s.size + 1) 0) (s.size + 1) w := fun l J Jx W hW hJ _ hY h0 =>
  (mat_in n l n₀ bs bm bh g c oa cap ps last s hs J Jx (fun p W1 W2 hj hb => hJ p W1 W2 none hj ⟨hb.os, hb.tape, hb.output, hb.size, fun k hk _ => hb.block k hk⟩ (fun r e => by cases e)) (fun pre x W1 h1 h2 _ => hY pre x W1 h1 h2) W (hI.later (hW.mono hI.le)) h0).mono
    fun e w' ⟨h1, h2⟩ => ⟨h1, h2.imp (fun h => ⟨_, rfl, h⟩) (fun ⟨pre, hp, h⟩ => ⟨pre, hp, h⟩)⟩

/-- The iterator, to a consumer that never stops and wants to know how a match follows those before it. -/
theorem mat_goes (n n₀ bs bm bh g c : Nat) (oa : Option Addr) (cap : Nat) (ps : List Ps) (last : Int) (s : ByteArray) (hs : s.size ≤ 1000) (w : World) (hI : IsIt w n₀ bs bm bh g c oa cap ps last s) (l : Nat) (J : List (Nat × Nat) → World → Prop) (W : World) (hW : Below w.heap.size w W)
    (hJ : ∀ p A B, J p A → Below A.heap.size A B → J p B)
    (hY : ∀ pre x A, J pre A → pre ++ [x] <+: matL ps (hopeL ps last s.data.toList) s.size (s.size + 1) 0 → YieldAt Fence.wide (n - 1) Tryd.prog l #[enM x] A fun e B => e = .returned (.bool true) ∧ J (pre ++ [x]) B ∧ Below n₀ A B) (h0 : J [] W) :
    CallsIn Fence.wide n Tryd.prog 49 (#[.func (.yield l) #[] #[]] ++ #[.pointer (some ⟨bs, 0, none⟩), .pointer (some ⟨bm, 0, none⟩), .pointer (some ⟨bh, 0, none⟩)]) W fun e B =>
      (∃ v, e = .returned v) ∧ J (matL ps (hopeL ps last s.data.toList) s.size (s.size + 1) 0) B :=
  (mat_in n l n₀ bs bm bh g c oa cap ps last s hs J (fun _ _ => False) hJ (fun pre x A h1 _ h2 => by
    obtain ⟨fn, tmps, assign, body, hy, hR⟩ := hY pre x A h1 h2
    exact ⟨fn, tmps, assign, body, hy, hR.mono fun e B h => Or.inl h⟩) W (hI.later (hW.mono hI.le)) h0).mono fun e B ⟨h1, h2⟩ => ⟨h1, h2.elim id fun ⟨_, _, h⟩ => h.elim⟩

end Go.Proofs.YtbogiigdadljpaaDoor
