/-
  proper of the specification Nothing is assumed.
-/
import Derived.Test.YtkogldlhidppaaaDoorRfQ
import Derived.Test.YtkogldlhidppaaaDoorPaCnt
import Derived.Test.YtkogldlhidppaaaDoorPaPlain
namespace Go.Proofs.YtkogldlhidppaaaDoor
open Go.RowKit

/-- The head of a tree is as it must be, but for the bytes of its set. -/
def okK (v : PT) : Bool := (v.s.isZ != decide (v.k = 3)) && mayH v.k v.l.length
theorem prop_ref (v : PT) : v.prop = (okK v && (v.s.without S4.alpha).isZ && v.l.all PT.prop) := by
  rw [PT.prop_eq, PT.props_eq]
  unfold PT.okH okK
  cases (v.s.isZ != decide (v.k = 3)) <;> cases (v.s.without S4.alpha).isZ <;> cases mayH v.k v.l.length <;> rfl
/-- The outcome of proper at a tree. -/
def RpOk (v : PT) : Prop := ∀ (w : World) (N : Nat) (oe : Option Addr) (ce : Nat), Sok v → HT w (· < N) (.slice oe v.l.length ce) v.l → N ≤ w.heap.size →
    Calls Tryd.prog 20 #[v.val (.slice oe v.l.length ce)] w fun e w' => e = .returned (.bool v.prop) ∧ Below w.heap.size w w'

set_option maxRecDepth 100000 in
set_option maxHeartbeats 6400000 in
theorem rproper_step (v : PT) (ih : ∀ x, x ∈ v.l → RpOk x) : RpOk v := by
  intro w N oe ce hs hT hN
  obtain ⟨w1, hw1⟩ : ∃ w1, w1 = w.alloc (.cells #[.int .i64 v.k, .int .u64 v.s.a, .int .u64 v.s.b, .int .u64 v.s.c, .int .u64 v.s.d, .slice oe v.l.length ce] 26) := ⟨_, rfl⟩
  have HW1 := Lib.hid hw1
  have hs1 : w1.heap.size = w.heap.size + 1 := by rw [hw1]; simp
  have hX1 : Box6 w1 w.heap.size (.int .i64 v.k) (.int .u64 v.s.a) (.int .u64 v.s.b) (.int .u64 v.s.c) (.int .u64 v.s.d) (.slice oe v.l.length ce) := by
    rw [hw1]
    exact Box6.new _ _ _ _ _ _ _ rfl
  have HX1 := Lib.hid hX1
  have HB1 := Lib.hid (show Below w.heap.size w w1 by rw [hw1]; exact below1 _ _)
  have HT0 := Lib.hid hT
  have HIH := Lib.hid ih
  have HSK := Lib.hid hs
  have HSO := Lib.hid hs.here
  obtain ⟨hl1, hl2⟩ := HT.len hT
  have HP := Lib.hid (prop_ref v)
  have hzq := zQ_isZ v.s
  have hlI : (v.l.length : Int) ≤ 1000000 := by omega
  obtain ⟨x0, x1, x2, x3, x4, x5, -⟩ := hX1
  rw [hw1] at x0 x1 x2 x3 x4 x5
  have HOK := Lib.hid (show okK v = ((v.s.isZ != decide (v.k = 3)) && mayH v.k v.l.length) from rfl)
  have HHA := Lib.hid (fun b hb V => rHas_any v.s HSO.out b hb V)
  unfold S4.val at HHA
  obtain ⟨okv, hokv⟩ : ∃ okv, okK v = okv := ⟨_, rfl⟩
  obtain ⟨zz, hzz⟩ : ∃ zz, v.s.isZ = zz := ⟨_, rfl⟩
  obtain ⟨kk, hkk⟩ : ∃ kk, v.k = kk := ⟨_, rfl⟩
  rw [hokv] at HP
  rw [hokv, hzz, hkk] at HOK
  rw [hzz] at hzq
  rw [hkk] at x0 x1 x2 x3 x4 x5 HX1 HW1
  unfold PT.val
  rw [hkk]
  clear hw1 hT ih hs hokv hzz hkk
  have hkc : kk = 1 ∨ kk = 2 ∨ kk = 3 ∨ kk = 4 ∨ kk = 5 ∨ kk = 6 ∨ (kk ≠ 1 ∧ kk ≠ 2 ∧ kk ≠ 3 ∧ kk ≠ 4 ∧ kk ≠ 5 ∧ kk ≠ 6) := by omega
  rcases hkc with rfl | rfl | rfl | rfl | rfl | rfl | ⟨k1, k2, k3, k4, k5, k6⟩
  all_goals
    cases zz
  all_goals
    go_enter Tryd.func20, Tryd.ntmps20
    go_wp2_with fail
  all_goals
    clear x0 x1 x2 x3 x4 x5
    rw [← HW1.out]
  all_goals
    go_loopw [6] (fun bv wr => ∃ b : Nat, bv = .int .i64 (b : Int) ∧ b ≤ 256 ∧ Hid (∀ d, d < b → v.s.has d = true → inA d = true) ∧ Hid (Below w1.heap.size w1 wr)) (fun bv _ => 256 - (intOf bv).toNat)
    case atStart => exact ⟨0, rfl, by omega, Lib.hid (fun d hd => by omega), Lib.hid (Below.refl _ _)⟩
    case round =>
      obtain ⟨b, rfl, hb, HAl, HBr⟩ := hrel
      have HBw := Lib.hid (HB1.out.trans (HBr.out.mono (by omega)))
      obtain ⟨x0, x1, x2, x3, x4, x5, -⟩ := HX1.out.later HBr.out (by omega)
      by_cases hlt : b < 256
      · have hbI : (b : Int) < 256 := by omega
        have hwb : IntKind.i64.wrap ((b : Int) + 1) = ((b + 1 : Nat) : Int) := by rw [IntWalk.i64_in _ (by omega)]; omega
        have hw8 : IntKind.u8.wrap (b : Int) = (b : Int) := by
          show (b : Int) % 256 = b
          omega
        have HC0 := Lib.hid (HHA.out b hlt wr)
        have HI := Lib.hid (fun V => rIn_any b V)
        have HK1 := Lib.hid (show b + 1 ≤ 256 from hlt)
        have HLT := Lib.hid hlt
        clear hlt hb
        cases hhb : v.s.has b
        · rw [hhb] at HC0
          have HN : Hid (∀ d, d < b + 1 → v.s.has d = true → inA d = true) := Lib.hid (fun d hd hh => by
            by_cases e : d = b
            · rw [e, hhb] at hh; cases hh
            · exact HAl.out d (by omega) hh)
          clear hhb
          go_wp2_with fail
          refine HC0.out.mono ?_
          rintro e w5 ⟨rfl, hb5⟩
          have HB5 := Lib.hid (HBr.out.trans (hb5.mono HBr.out.size))
          clear hb5 x0 x1 x2 x3 x4 x5
          go_wp2_with fail
          go_roundw
          case rel => exact ⟨b + 1, by first | rfl | go_num, HK1.out, HN, HB5⟩
          case measure => have := HK1.out; simp [intOf]; omega
        · rw [hhb] at HC0
          have HHB := Lib.hid hhb
          clear hhb
          cases hin : inA b
          · rw [hin] at HI
            have HPF : Hid (v.prop = false) := Lib.hid (by
              have hz : (v.s.without S4.alpha).isZ = false := by
                cases hq : (v.s.without S4.alpha).isZ with
                | false => rfl
                | true =>
                  have := (alpha_iff HSO.out).1 hq b HLT.out HHB.out
                  rw [hin] at this; cases this
              rw [HP.out, hz, Bool.and_false, Bool.false_and])
            clear hin
            go_wp2_with fail
            refine HC0.out.mono ?_
            rintro e w5 ⟨rfl, hb5⟩
            have HB5 := Lib.hid (HBw.out.trans (hb5.mono HBw.out.size))
            clear hb5 x0 x1 x2 x3 x4 x5
            go_wp2_with fail
            refine (HI.out _).mono ?_
            rintro e w6 ⟨rfl, rfl⟩
            go_wp2_with fail
            go_ret
            exact ⟨by rw [HPF.out]; rfl, HB5.out⟩
          · rw [hin] at HI
            have HN : Hid (∀ d, d < b + 1 → v.s.has d = true → inA d = true) := Lib.hid (fun d hd hh => by
              by_cases e : d = b
              · rw [e, hin]
              · exact HAl.out d (by omega) hh)
            clear hin
            go_wp2_with fail
            refine HC0.out.mono ?_
            rintro e w5 ⟨rfl, hb5⟩
            have HB5 := Lib.hid (HBr.out.trans (hb5.mono HBr.out.size))
            clear hb5 x0 x1 x2 x3 x4 x5
            go_wp2_with fail
            refine (HI.out _).mono ?_
            rintro e w6 ⟨rfl, rfl⟩
            go_wp2_with fail
            go_roundw
            case rel => exact ⟨b + 1, by first | rfl | go_num, HK1.out, HN, HB5⟩
            case measure => have := HK1.out; simp [intOf]; omega
      · have hbI : ¬ (b : Int) < 256 := by omega
        obtain rfl : b = 256 := by omega
        have hz : (v.s.without S4.alpha).isZ = true := (alpha_iff HSO.out).2 HAl.out
        have HP2 : Hid (v.prop = (okv && v.l.all PT.prop)) := Lib.hid (by rw [HP.out, hz, Bool.and_true])
        have HB2 := Lib.hid HBr.out
        clear hz hlt hb HAl HBw x0 x1 x2 x3 x4 x5
        go_wp2_with fail
        clear hbI
        go_loopw [7, 5] (fun uv ov w2 => ∃ (i : Nat) (o : Bool), uv = .int .i64 (i : Int) ∧ ov = .bool o ∧ i ≤ v.l.length ∧ Hid (o = (okv && (v.l.take i).all PT.prop)) ∧ Hid (Below w1.heap.size w1 w2)) (fun uv _ _ => v.l.length - (intOf uv).toNat)
        case atStart =>
          refine ⟨0, _, rfl, rfl, Nat.zero_le _, Lib.hid ?_, HB2⟩
          rw [HOK.out, List.take_zero, List.all_nil, Bool.and_true]
          unfold mayH
          first
            | rfl
            | (rw [Bool.eq_iff_iff]; simp; done)
            | (rw [Bool.eq_iff_iff]; simp; omega)
            | (simp [*]; done)
        case round =>
          clear HB2 HBr
          obtain ⟨i, o, rfl, rfl, hi, HO, HBr⟩ := hrel
          have HBw := Lib.hid (HB1.out.trans (HBr.out.mono (by omega)))
          obtain ⟨x0, x1, x2, x3, x4, x5, -⟩ := HX1.out.later HBr.out (by omega)
          by_cases hlt : i < v.l.length
          · have hltI : (i : Int) < (v.l.length : Int) := by omega
            have hi0 : (0 : Int) ≤ (i : Int) := by omega
            have hwi : IntKind.i64.wrap ((i : Int) + 1) = ((i + 1 : Nat) : Int) := by rw [IntWalk.i64_in _ (by omega)]; omega
            cases o
            · have HPF : Hid (v.prop = false) := Lib.hid (by
                rw [HP2.out, ← List.take_append_drop i v.l, List.all_append, ← Bool.and_assoc, ← HO.out]
                rfl)
              go_wp2_with fail
              go_ret
              exact ⟨by rw [HPF.out]; rfl, HBw.out⟩
            · obtain ⟨x, hx⟩ : ∃ x, v.l[i]? = some x := ⟨_, List.getElem?_eq_getElem hlt⟩
              have hxm := List.mem_of_getElem? hx
              have hTr : HT _ (· < N) (.slice oe v.l.length ce) v.l := HT0.out.later (fun _ h => h) fun b hb o => HBw.out.cell (p := ⟨b, o, none⟩) (Nat.lt_of_lt_of_le hb hN)
              obtain ⟨b, off, ox, cx, rfl, hb, hTx, q0, q1, q2, q3, q4, q5⟩ := HT.at_ hTr hx
              have HC := Lib.hid (HIH.out x hxm _ N ox cx (HSK.out.mem hxm) hTx (Nat.le_trans hN HBw.out.size))
              unfold PT.val at HC
              have HN : Hid (x.prop = (okv && (v.l.take (i + 1)).all PT.prop)) := Lib.hid (by
                have h := HO.out
                rw [List.take_add_one, hx, List.all_append, ← Bool.and_assoc, ← h]
                simp)
              have HK1 := Lib.hid (show i + 1 ≤ v.l.length from hlt)
              generalize x.prop = xp at *
              clear hlt hx hxm hTr hTx hb
              go_wp2_with fail
              refine HC.out.mono ?_
              rintro e w5 ⟨rfl, hb5⟩
              have HB5 := Lib.hid (HBr.out.trans (hb5.mono HBr.out.size))
              clear hb5 HC q0 q1 q2 q3 q4 q5 x0 x1 x2 x3 x4 x5
              go_wp2_with fail
              go_roundw
              case rel => exact ⟨i + 1, xp, by first | rfl | go_num, rfl, HK1.out, HN, HB5⟩
              case measure => have := HK1.out; simp [intOf]; omega
          · have hltI : ¬ ((i : Int) < (v.l.length : Int)) := by omega
            obtain rfl : i = v.l.length := by omega
            have HPF : Hid (v.prop = o) := Lib.hid (by rw [HP2.out, HO.out, List.take_length])
            go_wp2_with fail
            go_ret
            exact ⟨by rw [HPF.out]; rfl, HBw.out⟩
theorem rproper_any (v : PT) : RpOk v := by
  induction v using PT.ind with
  | h v ih => exact rproper_step v ih
end Go.Proofs.YtkogldlhidppaaaDoor
