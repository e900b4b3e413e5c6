/-
  Shortest of package pattern. Nothing is assumed.
-/
import Derived.Test.YtaipaddfehpmgaaDoorPtAcc
import Derived.Test.YtaipaddfehpmgaaDoorGlD
import Derived.Laws.IdiomStrings
namespace Go.Proofs.YtaipaddfehpmgaaDoor

section
open Go.RowKit

/-- The least byte from b on, at most n further, that a position of a state reads. -/
def lrL (ps : List Ps) (st : Int) : Nat → Nat → Nat
  | 0, b => b
  | n + 1, b => if bits BinOp.and IntKind.u64 (readsL b 0 ps 0) st = 0 then lrL ps st n (b + 1) else b

set_option maxRecDepth 100000 in
set_option maxHeartbeats 1600000 in
theorem leastRead_any (w : World) (B : Nat) (oa : Option Addr) (cap : Nat) (ps : List Ps) (last st : Int) (h : HQ w (· < B) (.slice oa ps.length cap) ps) (hB : B ≤ w.heap.size) :
    Calls Tryd.prog 32 #[.agg #[.slice oa ps.length cap, .int .u64 last], .int .u64 st] w fun e w' => e = .returned (.int .u8 (lrL ps st 94 32 : Nat)) ∧ Below w.heap.size w w' := by
  obtain ⟨w1, hw1⟩ : ∃ w1, w1 = w.alloc (.cells #[.slice oa ps.length cap, .int .u64 last] 44) := ⟨_, rfl⟩
  have HW1 := Lib.hid hw1
  have hb1 : Below w.heap.size w w1 := by rw [hw1]; exact below1 _ _
  have hs1 : w1.heap.size = w.heap.size + 1 := by rw [hw1]; simp
  have HM1 : Hid (MB w1 w.heap.size (.slice oa ps.length cap) last) := Lib.hid (by rw [hw1]; exact MB.new _ _ _)
  have HB1 := Lib.hid hb1
  have HH := Lib.hid h
  have HR0 : Hid (lrL ps st 94 32 = lrL ps st 94 32) := Lib.hid rfl
  obtain ⟨R, hR⟩ : ∃ R, R = lrL ps st 94 32 := ⟨_, rfl⟩
  have HR := Lib.hid hR
  rw [← hR]
  clear hw1 hb1 h hR HR0
  go_enter Tryd.func32, Tryd.ntmps32
  go_wp2_with fail
  rw [← HW1.out]
  go_loopw [5] (fun v wr => ∃ (b n : Nat), v = .int .u8 (b : Int) ∧ b + n = 126 ∧ 32 ≤ b ∧ Hid (R = lrL ps st n b) ∧ Hid (Below w.heap.size w wr) ∧ Hid (MB wr w.heap.size (.slice oa ps.length cap) last) ∧ w.heap.size + 1 ≤ wr.heap.size) (fun v _ => 126 - (intOf v).toNat)
  case atStart => exact ⟨32, 94, rfl, rfl, Nat.le_refl _, HR, HB1, HM1, by omega⟩
  case round =>
    obtain ⟨b, n, rfl, hbn, hb32, HE, HBr, HMr, hsr⟩ := hrel
    clear HB1 HM1
    obtain ⟨c0, c1⟩ := HMr.out.cells
    rcases n with _ | n
    · obtain rfl : b = 126 := by omega
      have HRe : Hid (R = 126) := Lib.hid (by rw [HE.out, lrL])
      go_wp2_with fail
      go_ret
      exact ⟨by rw [HRe.out]; rfl, HBr.out⟩
    · have hbI : (b : Int) < 126 := by omega
      have hwb : IntKind.u8.wrap ((b : Int) + 1) = ((b + 1 : Nat) : Int) := by rw [IntKind.wrap_u8]; omega
      have HC := Lib.hid (reads_any wr B _ ps last b (by omega) (HH.out.below (HBr.out.mono hB) (Nat.le_refl _)) (by omega))
      by_cases hz : bits BinOp.and IntKind.u64 (readsL b 0 ps 0) st = 0
      · have HE2 : Hid (R = lrL ps st n (b + 1)) := Lib.hid (by rw [HE.out, lrL, if_pos hz])
        go_wp2_with fail
        refine HC.out.mono ?_
        rintro e w5 ⟨rfl, hb5⟩
        have HB5 := Lib.hid (HBr.out.trans (hb5.mono (by omega)))
        have HM5 := Lib.hid (HMr.out.below hb5)
        have hs5 : w.heap.size + 1 ≤ w5.heap.size := Nat.le_trans hsr hb5.size
        clear hb5 HC
        go_wp2_with fail
        go_roundw
        case rel => exact ⟨b + 1, n, by first | rfl | go_num, by omega, by omega, HE2, HB5, HM5, hs5⟩
        case measure => simp [intOf]; omega
      · have HRe : Hid (R = b) := Lib.hid (by rw [HE.out, lrL, if_neg hz])
        go_wp2_with fail
        refine HC.out.mono ?_
        rintro e w5 ⟨rfl, hb5⟩
        have HB5 := Lib.hid (HBr.out.trans (hb5.mono (by omega)))
        clear hb5 HC
        go_wp2_with fail
        go_ret
        exact ⟨by rw [HRe.out]; rfl, HB5.out⟩
end

section
open Go.RowKit

theorem count_lt {α : Type} {p q : α → Bool} (h : ∀ x, q x = true → p x = true) : ∀ (l : List α), l.countP q ≤ l.countP p ∧ ∀ x, x ∈ l → p x = true → q x = false → l.countP q < l.countP p
  | [] => ⟨Nat.le_refl _, fun _ hx => by cases hx⟩
  | a :: l => by
    obtain ⟨h1, h2⟩ := count_lt h l
    have ha := h a
    rw [List.countP_cons, List.countP_cons]
    refine ⟨?_, fun x hx hp hq => ?_⟩
    · cases hqa : q a <;> cases hpa : p a <;> simp_all <;> omega
    · rcases List.mem_cons.1 hx with rfl | hx
      · rw [hp, hq]
        simp
        omega
      · have := h2 x hx hp hq
        cases hqa : q a <;> cases hpa : p a <;> simp_all <;> omega
/-- The positions that are still free. -/
def frS (x : Int) : Nat := (List.range 64).countP fun i => !bt x i
theorem fr_lt {x y : Int} (h0 : y ≠ 0) (hu : U6 y) (hd : ∀ i, bt y i = true → bt x i = false) : frS (orS x y) < frS x := by
  obtain ⟨i, hi⟩ := (ne_zero hu).1 h0
  refine (count_lt (fun j hj => ?_) (List.range 64)).2 i (List.mem_range.2 (bt_lt hi)) ?_ ?_
  · rw [bt_or] at hj
    cases hb : bt x j
    · rfl
    · rw [hb] at hj; simp at hj
  · rw [hd i hi]; rfl
  · rw [bt_or, hi]; simp
/-- The layers of positions by their distance from the end. -/
def distL (ps : List Ps) : Nat → Int → Int → List Int → Option (List Int)
  | 0, _, _, _ => none
  | g + 1, layer, seen, acc => if layer = 0 then none else if bits BinOp.and IntKind.u64 (orS seen layer) 1 = 0 then
      distL ps g (bits BinOp.andNot IntKind.u64 (beforeL layer 0 ps 0) (orS seen layer)) (orS seen layer) (acc ++ [layer]) else some (acc ++ [layer])
theorem andNotU (x y : Int) : U6 (bits BinOp.andNot IntKind.u64 x y) := andNot_U x y

/-- A row of states. -/
def OwnW (w : World) (base : Nat) (v : Value) (l : List Int) : Prop := w.ownsRow base 42 1 v l.length (l.map (Value.int .u64))
theorem infoW : (Tryd.prog.info? 42).map (fun i => (i.zero, i.size, i.bytes)) = some (some (.int .u64 0), 1, 8) := by kernel_rfl
/-- What distances returns. -/
def DisR (w w' : World) (e : Ending) : Option (List Int) → Prop
  | none => e = .returned (.tuple #[.slice none 0 0, .bool false])
  | some l => ∃ oa cap, e = .returned (.tuple #[.slice oa l.length cap, .bool true]) ∧ OwnW w' w.heap.size (.slice oa l.length cap) l
set_option maxRecDepth 100000 in
set_option maxHeartbeats 3200000 in
theorem distances_any (w : World) (B : Nat) (oa : Option Addr) (cap : Nat) (ps : List Ps) (last : Int) (hu : U6 last) (h : HQ w (· < B) (.slice oa ps.length cap) ps) (hB : B ≤ w.heap.size) :
    Calls Tryd.prog 30 #[.agg #[.slice oa ps.length cap, .int .u64 last]] w fun e w' => DisR w w' e (distL ps 65 last 0 []) ∧ Below w.heap.size w w' := by
  obtain ⟨i0, hi0, hz0, hz1, hz2⟩ := info_parts infoW
  obtain ⟨w1, hw1⟩ : ∃ w1, w1 = w.alloc (.cells #[.slice oa ps.length cap, .int .u64 last] 44) := ⟨_, rfl⟩
  have HW1 := Lib.hid hw1
  have hb1 : Below w.heap.size w w1 := by rw [hw1]; exact below1 _ _
  have hs1 : w1.heap.size = w.heap.size + 1 := by rw [hw1]; simp
  have HM1 : Hid (MB w1 w.heap.size (.slice oa ps.length cap) last) := Lib.hid (by rw [hw1]; exact MB.new _ _ _)
  have HB1 := Lib.hid hb1
  have HH := Lib.hid h
  have HU := Lib.hid hu
  obtain ⟨R, hR⟩ : ∃ R, R = distL ps 65 last 0 [] := ⟨_, rfl⟩
  have HR := Lib.hid hR
  have HLa := Lib.hid (last_any w1 oa ps.length cap last)
  obtain ⟨c0, c1⟩ := HM1.out.cells
  rw [← hR]
  clear hw1 hb1 h hR hu
  go_enter Tryd.func30, Tryd.ntmps30
  go_wp2_with fail
  rw [← HW1.out]
  refine HLa.out.mono ?_
  rintro e w2 ⟨rfl, hb2⟩
  have HB2 := Lib.hid (HB1.out.trans (hb2.mono (by omega)))
  have HM2 := Lib.hid (HM1.out.below hb2)
  have hs2 : w.heap.size + 1 ≤ w2.heap.size := by have := hb2.size; omega
  clear hb2 HLa c0 c1 HB1 HM1
  go_wp2_with fail
  go_loopg [4, 5, 6] 65 (fun g v4 v5 v6 wr => ∃ (acc : List Int) (oc : Option Addr) (cc : Nat) (seen layer : Int), v4 = .slice oc acc.length cc ∧ v5 = .int .u64 seen ∧ v6 = .int .u64 layer ∧ acc.length + g = 65 ∧ Hid (U6 layer) ∧ Hid (∀ i, bt layer i = true → bt seen i = false) ∧ Hid (frS seen < g) ∧ Hid (R = distL ps g layer seen acc) ∧ Hid (OwnW wr (w.heap.size + 1) (.slice oc acc.length cc) acc) ∧ Hid (MB wr w.heap.size (.slice oa ps.length cap) last) ∧ Hid (Below w.heap.size w wr) ∧ w.heap.size + 1 ≤ wr.heap.size)
  case atStart => exact ⟨[], none, 0, 0, last, rfl, rfl, rfl, rfl, HU, Lib.hid (fun i _ => bt_zero i), Lib.hid (by have := List.countP_le_length (p := fun i => !bt 0 i) (l := List.range 64); rw [List.length_range] at this; show (List.range 64).countP _ < 65; omega), HR, Lib.hid ⟨rfl, .inl ⟨rfl, rfl⟩⟩, HM2, HB2, hs2⟩
  case round =>
    obtain ⟨acc, oc, cc, seen, layer, rfl, rfl, rfl, hag, HUl, HD, HF, HE, HO, HM, HB, hsz⟩ := hrel
    clear HB2 HM2 HR
    obtain ⟨g, rfl⟩ : ∃ g', gk = g' + 1 := ⟨gk - 1, by have := HF.out; omega⟩
    by_cases hz : layer = 0
    · have HRe : Hid (R = none) := Lib.hid (by rw [HE.out, distL, if_pos hz])
      subst hz
      go_wp2_with fail
      go_ret2
      exact ⟨by rw [HRe.out]; rfl, HB.out⟩
    · have HZ := Lib.hid hz
      have HE1 : Hid (R = if bits BinOp.and IntKind.u64 (orS seen layer) 1 = 0 then distL ps g (bits BinOp.andNot IntKind.u64 (beforeL layer 0 ps 0) (orS seen layer)) (orS seen layer) (acc ++ [layer]) else some (acc ++ [layer])) := Lib.hid (by rw [HE.out, distL, if_neg hz])
      have hb5 := below1 wr (.cells #[.int .u64 layer] 42)
      have HO5 : Hid ((wr.alloc (.cells #[.int .u64 layer] 42)).ownsRow (w.heap.size + 1) 42 1 (.slice oc acc.length cc) acc.length (acc.map (Value.int .u64))) := Lib.hid (owns_kp (X := fun _ => False) HO.out (.of hb5 (Nat.le_refl _)) (Nat.le_refl _) (fun _ _ h => h))
      have HB5 := Lib.hid (HB.out.trans (hb5.mono (by omega)))
      have HM5 := Lib.hid (HM.out.below hb5)
      have hnw : (wr.alloc (.cells #[.int .u64 layer] 42)).heap[wr.heap.size]? = some (.cells #[.int .u64 layer] 42 (0, 0)) := by
        show (wr.heap.push _)[wr.heap.size]? = some _
        rw [Array.getElem?_push, if_pos rfl]
      have HNW := Lib.hid hnw
      have hsz2 : (wr.alloc (.cells #[.int .u64 layer] 42)).heap.size = wr.heap.size + 1 := by simp
      have hn1 : acc.length + 1 ≤ maxLen := by unfold maxLen; omega
      have hby : (acc.length + 1) * 8 ≤ 140737488355328 := by omega
      clear HE HO HB HM hb5 hnw
      go_wp2_with (at_builtin; refine wpList_append_lies _ rfl _ _ _ rfl (w.heap.size + 1) 42 i0 _ 1 8 Tryd.underlying55 hi0 hz0 hz1 hz2 rfl (by omega) (.slice oc acc.length cc) acc.length (acc.map (Value.int .u64)) rfl HO5.out ⟨wr.heap.size, 0, none⟩ 1 1 [.int .u64 layer] rfl rfl (World.news_of_block (cs := #[.int .u64 layer]) (t := 42) (fr := (0, 0)) HNW.out) (by simp [Value.oneCell']) (by omega) hn1 hby (by simp; omega) (wr.heap.size + 1) hsz2 ?_)
      intro gg cap2 w7 hown7 hgrow hat hgl
      have HO7 : Hid (OwnW w7 (w.heap.size + 1) (.slice (some ⟨gg, 0, none⟩) (acc.length + 1) cap2) (acc ++ [layer])) := Lib.hid (by unfold OwnW; rw [List.length_append, List.map_append]; exact hown7)
      have HB7 : Hid (Below w.heap.size w w7) := Lib.hid (HB5.out.trans ⟨hgrow.os, hgrow.tape, hgrow.output, hgrow.size, fun q hq => hgrow.block q (by rw [hsz2]; omega) (fun e => by have := (own_lt HO5.out q e.symm).1; omega)⟩)
      have HM7 : Hid (MB w7 w.heap.size (.slice oa ps.length cap) last) := Lib.hid ((hgrow.block w.heap.size (by rw [hsz2]; omega) (fun e => by have := (own_lt HO5.out w.heap.size e.symm).1; omega)).trans HM5.out)
      have hs7 : w.heap.size + 1 ≤ w7.heap.size := by have := hgrow.size; rw [hsz2] at this; omega
      clear hown7 hgrow hat hgl HO5 HB5 HM5 HNW
      by_cases h1 : bits BinOp.and IntKind.u64 (orS seen layer) 1 = 0
      · have HE2 : Hid (R = distL ps g (bits BinOp.andNot IntKind.u64 (beforeL layer 0 ps 0) (orS seen layer)) (orS seen layer) (acc ++ [layer])) := Lib.hid (by rw [HE1.out, if_pos h1])
        have HF2 : Hid (frS (orS seen layer) < g) := Lib.hid (by have := fr_lt HZ.out HUl.out HD.out; have := HF.out; omega)
        have HD2 : Hid (∀ i, bt (bits BinOp.andNot IntKind.u64 (beforeL layer 0 ps 0) (orS seen layer)) i = true → bt (orS seen layer) i = false) := Lib.hid (fun i hi => by
          rw [andNot_bt, Bool.and_eq_true] at hi
          simpa using hi.2)
        have HU2 : Hid (U6 (bits BinOp.andNot IntKind.u64 (beforeL layer 0 ps 0) (orS seen layer))) := Lib.hid (andNot_U _ _)
        have HC := Lib.hid (before_any w7 B _ ps last layer (HH.out.below (HB7.out.mono hB) (Nat.le_refl _)) (by omega))
        obtain ⟨c0, c1⟩ := HM7.out.cells
        clear HE1 HUl HD HF
        unfold orS at h1 HE2 HF2 HD2 HU2
        go_wp2_with fail
        refine HC.out.mono ?_
        rintro e w8 ⟨rfl, hb8⟩
        have HO8 : Hid (OwnW w8 (w.heap.size + 1) (.slice (some ⟨gg, 0, none⟩) (acc.length + 1) cap2) (acc ++ [layer])) := Lib.hid (owns_kp (X := fun _ => False) HO7.out (.of hb8 (Nat.le_refl _)) (Nat.le_refl _) (fun _ _ h => h))
        have HB8 := Lib.hid (HB7.out.trans (hb8.mono (by omega)))
        have HM8 := Lib.hid (HM7.out.below hb8)
        have hs8 : w.heap.size + 1 ≤ w8.heap.size := Nat.le_trans hs7 hb8.size
        clear hb8 HC c0 c1 HO7 HB7 HM7
        go_wp2_with fail
        go_roundg g
        case measure => omega
        case rel => exact ⟨acc ++ [layer], some ⟨gg, 0, none⟩, cap2, _, _, by rw [List.length_append]; rfl, rfl, rfl, by rw [List.length_append]; show acc.length + 1 + g = 65; omega, HU2, HD2, HF2, HE2, by rw [List.length_append]; exact HO8, HM8, HB8, hs8⟩
      · have HRe : Hid (R = some (acc ++ [layer])) := Lib.hid (by rw [HE1.out, if_neg h1])
        clear HE1
        unfold orS at h1
        go_wp2_with fail
        go_ret2
        rw [HRe.out]
        refine ⟨⟨some ⟨gg, 0, none⟩, cap2, by rw [List.length_append]; rfl, ?_⟩, HB7.out⟩
        have h7 := HO7.out
        rw [List.length_append]
        refine ⟨h7.1, ?_⟩
        rcases h7.2 with h2 | ⟨g2, cap3, cur, hv, hg, r⟩
        · exact .inl h2
        · exact .inr ⟨g2, cap3, cur, hv, by omega, r⟩
end

section
open Go.RowKit

theorem lr_le (ps : List Ps) (st : Int) : ∀ n b, lrL ps st n b ≤ b + n
  | 0, b => Nat.le_refl _
  | n + 1, b => by
    rw [lrL]
    split
    · have := lr_le ps st n (b + 1); omega
    · omega
/-- The least text, from the layers on. -/
def shoL (ps : List Ps) (lay : List Int) : Nat → Int → List UInt8 → List UInt8
  | 0, _, acc => acc
  | k + 1, st, acc => shoL ps lay k (bits BinOp.and IntKind.u64 (bits BinOp.and IntKind.u64 (afterL st 0 ps 0) ((lay[k]?).getD 0)) (readsL (lrL ps (bits BinOp.and IntKind.u64 (afterL st 0 ps 0) ((lay[k]?).getD 0)) 94 32) 0 ps 0))
      (acc ++ [UInt8.ofNat (lrL ps (bits BinOp.and IntKind.u64 (afterL st 0 ps 0) ((lay[k]?).getD 0)) 94 32)])
/-- What Shortest returns. -/
def shortT (t : PT) : Value := match distL (buildT t).1 65 (buildT t).2 0 [] with
  | none => .tuple #[.string ⟨#[]⟩, .int .i64 7]
  | some lay => .tuple #[.string ⟨(shoL (buildT t).1 lay (lay.length - 1) 1 []).toArray⟩, .int .i64 0]
theorem infoU8 : (Tryd.prog.info? 5).map (fun i => (i.zero, i.size, i.bytes)) = some (some (.int .u8 0), 1, 1) := by kernel_rfl
/-- A row of bytes. -/
def OwnC (w : World) (base : Nat) (v : Value) (l : List UInt8) : Prop := w.ownsRow base 5 1 v l.length (l.map fun c => Value.int .u8 (c.toNat : Int))
theorem distL_pos (ps : List Ps) : ∀ (g : Nat) (layer seen : Int) (acc lay : List Int), distL ps g layer seen acc = some lay → 1 ≤ lay.length ∧ lay.length ≤ acc.length + g
  | 0, _, _, _, _, h => by cases h
  | g + 1, layer, seen, acc, lay, h => by
    rw [distL] at h
    split at h
    · cases h
    · split at h
      · have := distL_pos ps g _ _ _ _ h
        rw [List.length_append] at this
        simp at this
        omega
      · cases h
        simp

set_option maxRecDepth 100000 in
set_option maxHeartbeats 3200000 in
theorem shortest_any (p : ByteArray) (t : PT) (ht : TP p t) (w : World) (hA : AL w) :
    Calls Tryd.prog 10 #[.string p] w fun e w' => e = .returned (shortT t) ∧ Below w.heap.size w w' := by
  obtain ⟨i0, hi0, hz0, hz1, hz2⟩ := info_parts infoU8
  have HC := Lib.hid (compile_any p w hA)
  have HTP := Lib.hid ht
  have HU := Lib.hid (build_u t ht.lv)
  have HSh : Hid (shortT t = match distL (buildT t).1 65 (buildT t).2 0 [] with
    | none => .tuple #[.string ⟨#[]⟩, .int .i64 7]
    | some lay => .tuple #[.string ⟨(shoL (buildT t).1 lay (lay.length - 1) 1 []).toArray⟩, .int .i64 0]) := Lib.hid rfl
  clear ht hA
  go_enter Tryd.func10, Tryd.ntmps10
  go_wp2_with fail
  refine HC.out.mono ?_
  rintro e w1 ⟨⟨hne, _⟩ | ⟨t', m, g, cap, _, hq, rfl, hQ⟩, hb1⟩
  · exact absurd HTP.out.err hne
  have htt : t' = t := by
    obtain ⟨m', hm'⟩ := HTP.out.parse
    rw [hq] at hm'
    cases hm'
    rfl
  subst htt
  have HQ1 := Lib.hid hQ
  have HB1 := Lib.hid hb1
  obtain ⟨n, hn⟩ : ∃ n, n = (buildT t').1.length := ⟨_, rfl⟩
  have HDi := distances_any (w1.alloc (.cells #[.slice (some ⟨g, 0, none⟩) (buildT t').1.length cap, .int .u64 (buildT t').2] 44)) w1.heap.size (some ⟨g, 0, none⟩) cap (buildT t').1 (buildT t').2 HU.out (hQ.below (below1 _ _) (Nat.le_refl _)) (by simp)
  have HDi := Lib.hid HDi
  generalize (buildT t').1 = ps at *
  generalize (buildT t').2 = last at *
  have HPos := Lib.hid (distL_pos ps 65 last 0 [])
  generalize hdl : distL ps 65 last 0 [] = D at *
  obtain ⟨w2, hw2⟩ : ∃ w2, w2 = w1.alloc (.cells #[.slice (some ⟨g, 0, none⟩) ps.length cap, .int .u64 last] 44) := ⟨_, rfl⟩
  rw [← hw2] at HDi
  have HW2 := Lib.hid hw2
  have hb2 : Below w1.heap.size w1 w2 := by rw [hw2]; exact below1 _ _
  have hs2 : w2.heap.size = w1.heap.size + 1 := by rw [hw2]; simp
  have HM2 : Hid (MB w2 w1.heap.size (.slice (some ⟨g, 0, none⟩) ps.length cap) last) := Lib.hid (by rw [hw2]; exact MB.new _ _ _)
  have HB2 : Hid (Below w.heap.size w w2) := Lib.hid (HB1.out.trans (hb2.mono HB1.out.size))
  have HQ2 : Hid (HQ w2 (· < w1.heap.size) (.slice (some ⟨g, 0, none⟩) ps.length cap) ps) := Lib.hid (HQ1.out.below hb2 (Nat.le_refl _))
  obtain ⟨c0, c1⟩ := HM2.out.cells
  have hw1s := HB1.out.size
  clear hq hQ hb1 HC hn hw2 hb2 hdl HB1 HQ1
  go_wp2_with fail
  rw [← HW2.out]
  refine HDi.out.mono ?_
  cases D with
  | none =>
    rintro e w3 ⟨hd, hb3⟩
    obtain rfl : e = .returned (.tuple #[.slice none 0 0, .bool false]) := hd
    have HB3 := Lib.hid (HB2.out.trans (hb3.mono (by omega)))
    clear hb3
    go_wp2_with fail
    go_ret2
    exact ⟨by rw [HSh.out]; rfl, HB3.out⟩
  | some lay =>
    rintro e w3 ⟨⟨oa, ca, rfl, hO⟩, hb3⟩
    obtain ⟨hl1, hl2⟩ := HPos.out lay rfl
    simp only [List.length_nil, Nat.zero_add] at hl2
    have HB3 := Lib.hid (HB2.out.trans (hb3.mono (by omega)))
    have HM3 := Lib.hid (HM2.out.below hb3)
    have HQ3 : Hid (HQ w3 (· < w1.heap.size) (.slice (some ⟨g, 0, none⟩) ps.length cap) ps) := Lib.hid (HQ2.out.below (hb3.mono (by omega)) (Nat.le_refl _))
    have hs3 : w1.heap.size + 1 ≤ w3.heap.size := by have := hb3.size; omega
    obtain ⟨gl, hoa⟩ : ∃ gl, oa = some ⟨gl, 0, none⟩ := by
      rcases hO.2 with ⟨hv, h0⟩ | ⟨gl, cq, cur, hv, _⟩
      · omega
      · cases hv; exact ⟨gl, rfl⟩
    subst hoa
    have HLc : Hid (∀ V, Below w3.heap.size w3 V → ∀ k x, lay[k]? = some x → V.cell? ⟨gl, k, none⟩ = some (.int .u64 x)) := Lib.hid (fun V hV k x hx => by
      have hg := (World.ownsRow.lt hO gl rfl).2
      have hk := (List.getElem?_eq_some_iff.1 hx).1
      rw [hV.cell (p := ⟨gl, k, none⟩) hg, World.ownsRow.cellAt hO k (by omega), List.getElem?_map, hx]
      rfl)
    obtain ⟨RES, hRES⟩ : ∃ RES, RES = shoL ps lay (lay.length - 1) 1 [] := ⟨_, rfl⟩
    have HSR : Hid (shortT t' = .tuple #[.string ⟨RES.toArray⟩, .int .i64 0]) := Lib.hid (by rw [HSh.out, hRES])
    have HE0 := Lib.hid hRES
    have hwl : IntKind.i64.wrap ((lay.length : Int) - 2) = (lay.length : Int) - 2 := IntWalk.i64_in _ (by omega)
    clear hb3 hO hRES HSh HB2 HM2 HQ2 c0 c1
    go_wp2_with fail
    go_loopw [8, 9, 10] (fun v8 v9 v wr => ∃ (acc : List UInt8) (oc : Option Addr) (cc : Nat) (st : Int) (k : Nat), v8 = .slice oc acc.length cc ∧ v9 = .int .u64 st ∧ v = .int .i64 ((k : Int) - 1) ∧ k + 1 ≤ lay.length ∧ acc.length + k + 1 = lay.length ∧ Hid (OwnC wr w3.heap.size (.slice oc acc.length cc) acc) ∧ Hid (RES = shoL ps lay k st acc) ∧ Hid (Below w3.heap.size w3 wr)) (fun _ _ v _ => (intOf v + 1).toNat)
    case atStart => exact ⟨[], none, 0, 1, lay.length - 1, rfl, rfl, by rw [show ((lay.length - 1 : Nat) : Int) - 1 = (lay.length : Int) - 2 by omega], by omega, by simp; omega, Lib.hid ⟨rfl, .inl ⟨rfl, rfl⟩⟩, HE0, Lib.hid (Below.refl _ _)⟩
    case round =>
      obtain ⟨acc, oc, cc, st, k, rfl, rfl, rfl, hkl, hak, HO, HE, HB⟩ := hrel
      clear HE0
      have hsr := HB.out.size
      rcases k with _ | k
      · have hng : ¬ (0 : Int) ≤ ((0 : Nat) : Int) - 1 := by omega
        have HRe : Hid (RES = acc) := Lib.hid (by rw [HE.out, shoL])
        have HBe := Lib.hid (HB3.out.trans (HB.out.mono (by omega)))
        clear HE
        rcases HO.out.2 with ⟨hv, h0⟩ | ⟨gq, cq, cur, hv, _⟩
        · obtain rfl : acc = [] := List.eq_nil_of_length_eq_zero h0
          cases hv
          have hback : (convert 88 9 (.slice none 0 0)).run Tryd.prog wr = .ok (.string ⟨#[]⟩) wr := by
            rw [run_convert_bytes_string wr 88 9 5 none 0 0 Tryd.underlying88 Tryd.underlying5 Tryd.underlying9]
            simp [Conv.bytesToString, go_sem]
            rfl
          go_wp2_with fail
          go_ret2
          exact ⟨by rw [HSR.out, HRe.out]; rfl, HBe.out⟩
        · cases hv
          have hback := run_convert_bytes_back (P := Tryd.prog) wr 88 9 5 ⟨gq, 0, none⟩ cc acc Tryd.underlying88 Tryd.underlying5 Tryd.underlying9 (fun j hj => by
            have ea : (⟨gq, 0, none⟩ : Addr).add j = ⟨gq, j, none⟩ := by simp [Addr.add]; exact fun h => h.symm
            rw [ea, World.ownsRow.cellAt HO.out j (by omega), List.getElem?_map, List.getElem?_eq_getElem hj]
            rfl)
          go_wp2_with fail
          go_ret2
          exact ⟨by rw [HSR.out, HRe.out]; rfl, HBe.out⟩
      · have hv : ((k + 1 : Nat) : Int) - 1 = (k : Int) := by omega
        rw [hv]
        have hk0 : (0 : Int) ≤ (k : Int) := by omega
        have hkI : (k : Int) < (lay.length : Int) := by omega
        have hwk : IntKind.i64.wrap ((k : Int) - 1) = (k : Int) - 1 := IntWalk.i64_in _ (by omega)
        obtain ⟨lx, hlx⟩ : ∃ lx, lay[k]? = some lx := ⟨_, List.getElem?_eq_getElem (by omega)⟩
        have HE1 : Hid (RES = shoL ps lay k (bits BinOp.and IntKind.u64 (bits BinOp.and IntKind.u64 (afterL st 0 ps 0) lx) (readsL (lrL ps (bits BinOp.and IntKind.u64 (afterL st 0 ps 0) lx) 94 32) 0 ps 0)) (acc ++ [UInt8.ofNat (lrL ps (bits BinOp.and IntKind.u64 (afterL st 0 ps 0) lx) 94 32)])) := Lib.hid (by rw [HE.out, shoL, hlx]; rfl)
        have HS : Hid (∀ V, Below wr.heap.size wr V → V.cell? ⟨w1.heap.size, 0, none⟩ = some (.slice (some ⟨g, 0, none⟩) ps.length cap) ∧ V.cell? ⟨w1.heap.size, 1, none⟩ = some (.int .u64 last) ∧ V.cell? ⟨gl, k, none⟩ = some (.int .u64 lx)) := Lib.hid (fun V hV => by
          have h1 := HB.out.trans (hV.mono hsr)
          have h2 := (HM3.out.below h1).cells
          exact ⟨h2.1, h2.2, HLc.out V h1 k lx hlx⟩)
        have HQV : Hid (∀ V, Below wr.heap.size wr V → HQ V (· < w1.heap.size) (.slice (some ⟨g, 0, none⟩) ps.length cap) ps) := Lib.hid (fun V hV => HQ3.out.below ((HB.out.trans (hV.mono hsr)).mono (by omega)) (Nat.le_refl _))
        have HAf := Lib.hid (after_any wr.drew w1.heap.size _ ps last st (HQV.out _ (Below.refl _ _).drew) (by show w1.heap.size ≤ wr.heap.size; omega))
        obtain ⟨ka, kb, kc⟩ := HS.out wr.drew (Below.refl _ _).drew
        clear HE hlx hv
        go_wp2_with fail
        go_region_held_law (fun V => V.cell? ⟨w1.heap.size, 0, none⟩ = some (.slice (some ⟨g, 0, none⟩) ps.length cap) ∧ V.cell? ⟨w1.heap.size, 1, none⟩ = some (.int .u64 last) ∧ V.cell? ⟨gl, k, none⟩ = some (.int .u64 lx)) (first | exact ⟨ka, kb, kc⟩ | exact k5) (first
          | (go_simp; go_at_call 31; refine HAf.out.mono ?_; rintro e w5 ⟨rfl, hb5⟩
             have hq5 : Below wr.heap.size wr w5 := (Below.refl _ _).drew.trans hb5
             have k5 := HS.out w5 hq5
             have HB5 := Lib.hid hq5
             clear hb5 hq5
             dsimp only))
        all_goals
          have hs5 : wr.heap.size ≤ w5.heap.size := HB5.out.size
          obtain ⟨s1, hs1⟩ : ∃ s1, s1 = bits BinOp.and IntKind.u64 (afterL st 0 ps 0) lx := ⟨_, rfl⟩
          rw [← hs1] at HE1 ⊢
          have hlr := lr_le ps s1 94 32
          have HLR := Lib.hid (leastRead_any w5 w1.heap.size (some ⟨g, 0, none⟩) cap ps last s1 (HQV.out w5 HB5.out) (by omega))
          obtain ⟨bb, hbb⟩ : ∃ bb, bb = lrL ps s1 94 32 := ⟨_, rfl⟩
          rw [← hbb] at HE1 HLR hlr
          obtain ⟨kd, ke, kf⟩ := HS.out w5 HB5.out
          clear hs1 hbb ka kb kc k5
          go_wp2_with fail
          refine HLR.out.mono ?_
          rintro e w6 ⟨rfl, hb6⟩
          have HB6 := Lib.hid (HB5.out.trans (hb6.mono hs5))
          have hs6 : wr.heap.size ≤ w6.heap.size := Nat.le_trans hs5 hb6.size
          have HRd := Lib.hid (reads_any w6 w1.heap.size _ ps last bb (by omega) (HQV.out w6 HB6.out) (by omega))
          obtain ⟨kg, kh, ki⟩ := HS.out w6 HB6.out
          clear hb6 HLR kd ke kf
          go_wp2_with fail
          refine HRd.out.mono ?_
          rintro e w7 ⟨rfl, hb7⟩
          have HB7 := Lib.hid (HB6.out.trans (hb7.mono hs6))
          have hs7 : wr.heap.size ≤ w7.heap.size := Nat.le_trans hs6 hb7.size
          have hub : ((UInt8.ofNat bb).toNat : Int) = (bb : Int) := by
            have : (UInt8.ofNat bb).toNat = bb % 256 := rfl
            rw [this]; omega
          have hb8 := below1 w7 (.cells #[.int .u8 (bb : Int)] 5)
          have HO8 : Hid ((w7.alloc (.cells #[.int .u8 (bb : Int)] 5)).ownsRow w3.heap.size 5 1 (.slice oc acc.length cc) acc.length (acc.map fun c => Value.int .u8 (c.toNat : Int))) := Lib.hid (owns_kp (X := fun _ => False) HO.out (.of (HB7.out.trans (hb8.mono hs7)) (Nat.le_refl _)) (Nat.le_refl _) (fun _ _ h => h))
          have HB8 : Hid (Below w3.heap.size w3 (w7.alloc (.cells #[.int .u8 (bb : Int)] 5))) := Lib.hid (HB.out.trans ((HB7.out.trans (hb8.mono hs7)).mono hsr))
          have hnw : (w7.alloc (.cells #[.int .u8 (bb : Int)] 5)).heap[w7.heap.size]? = some (.cells #[.int .u8 (bb : Int)] 5 (0, 0)) := by
            show (w7.heap.push _)[w7.heap.size]? = some _
            rw [Array.getElem?_push, if_pos rfl]
          have HNW := Lib.hid hnw
          have HUB := Lib.hid hub
          have hsz2 : (w7.alloc (.cells #[.int .u8 (bb : Int)] 5)).heap.size = w7.heap.size + 1 := by simp
          have hn1 : acc.length + 1 ≤ maxLen := by unfold maxLen; omega
          have hby : (acc.length + 1) * 1 ≤ 140737488355328 := by omega
          clear hb7 HRd kg kh ki hb8 hnw hub HB5 HB6 HB7
          go_wp2_with (at_builtin; refine wpList_append_lies _ rfl _ _ _ rfl w3.heap.size 5 i0 _ 1 1 Tryd.underlying88 hi0 hz0 hz1 hz2 rfl (by omega) (.slice oc acc.length cc) acc.length (acc.map fun c => Value.int .u8 (c.toNat : Int)) rfl HO8.out ⟨w7.heap.size, 0, none⟩ 1 1 [.int .u8 (bb : Int)] rfl rfl (World.news_of_block (cs := #[.int .u8 (bb : Int)]) (t := 5) (fr := (0, 0)) HNW.out) (by simp [Value.oneCell']) (by omega) hn1 hby (by simp; omega) (w7.heap.size + 1) hsz2 ?_)
          intro gg cap2 w9 hown9 hgrow hat hgl
          have HO9 : Hid (OwnC w9 w3.heap.size (.slice (some ⟨gg, 0, none⟩) (acc.length + 1) cap2) (acc ++ [UInt8.ofNat bb])) := Lib.hid (by unfold OwnC; rw [List.length_append, List.map_append]; simp only [List.map_cons, List.map_nil, HUB.out]; exact hown9)
          have HB9 : Hid (Below w3.heap.size w3 w9) := Lib.hid (HB8.out.trans ⟨hgrow.os, hgrow.tape, hgrow.output, hgrow.size, fun q hq => hgrow.block q (by rw [hsz2]; omega) (fun e => by have := (own_lt HO8.out q e.symm).1; omega)⟩)
          clear hown9 hgrow hat hgl HO8 HB8 HNW HUB
          go_wp2_with fail
          go_roundw
          case rel => exact ⟨acc ++ [UInt8.ofNat bb], some ⟨gg, 0, none⟩, cap2, _, k, by rw [List.length_append]; rfl, rfl, by first | rfl | go_num, by omega, by rw [List.length_append]; show acc.length + 1 + k + 1 = lay.length; omega, by rw [List.length_append]; exact HO9, HE1, HB9⟩
          case measure => simp [intOf]
end

end Go.Proofs.YtaipaddfehpmgaaDoor
