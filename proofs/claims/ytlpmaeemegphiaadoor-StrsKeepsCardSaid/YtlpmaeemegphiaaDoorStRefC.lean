/-
  The contracts of the reference's Upper, Lower and Trim. Nothing is assumed.
-/
import Derived.Test.YtlpmaeemegphiaaDoorStRune
import Derived.Test.YtlpmaeemegphiaaDoorStCase
import Derived.OwnWalk
import Derived.Deep.LoopGhost
namespace Go.Proofs.YtlpmaeemegphiaaDoor
open Go.RowKit

theorem infoByte : (Tryd.prog.info? 5).map (fun i => (i.zero, i.size, i.bytes)) = some (some (.int .u8 0), 1, 1) := by kernel_rfl
theorem empty_string (w : World) : (convert 51 9 (.slice none 0 0)).run Tryd.prog w = .ok (.string ⟨#[]⟩) w := by
  rw [run_convert_bytes_string w _ _ 5 none 0 0 Tryd.underlying51 Tryd.underlying5 Tryd.underlying9]
  rfl

def bcells (l : List UInt8) : List Value := l.map fun c => Value.int .u8 (c.toNat : Int)
/-- Bytes that the call has built. -/
def OwnB (w : World) (base : Nat) (v : Value) (l : List UInt8) : Prop := w.ownsRow base 5 1 v l.length (bcells l)
theorem OwnB.none (w : World) (base : Nat) : OwnB w base (.slice none 0 0) [] := ⟨rfl, .inl ⟨rfl, rfl⟩⟩
theorem ownB_far {w : World} {base : Nat} {v : Value} {l : List UInt8} (h : OwnB w base v l) {g : Nat} (hg : g < base) : v.ownBlock ≠ some g := by
  rcases h.2 with ⟨rfl, _⟩ | ⟨g', cap, cur, rfl, hb, _⟩
  · simp [Value.ownBlock]
  · simp [Value.ownBlock]; omega
/-- string(b) of bytes that the call has built. -/
theorem OwnB.string {w : World} {base : Nat} {v : Value} {l : List UInt8} (h : OwnB w base v l) : (convert 51 9 v).run Tryd.prog w = .ok (.string (str l)) w := by
  rcases h.2 with ⟨rfl, h0⟩ | ⟨g, cap, cur, rfl, hg, hh, hcap, _, hsz, htk⟩
  · obtain rfl := List.eq_nil_of_length_eq_zero h0
    exact empty_string w
  · exact run_convert_bytes_back (P := Tryd.prog) w 51 9 5 ⟨g, 0, Option.none⟩ cap l Tryd.underlying51 Tryd.underlying5 Tryd.underlying9 (fun j hj => by
      have ea : (⟨g, 0, Option.none⟩ : Addr).add j = ⟨g, j, Option.none⟩ := by simp [Addr.add]; exact fun h => h.symm
      have h1 : cur.toList[j]? = some (.int .u8 (l[j].toNat : Int)) := by
        have : (bcells l)[j]? = some (.int .u8 (l[j].toNat : Int)) := by simp [bcells, hj]
        rw [← htk, List.getElem?_take] at this
        rw [if_pos (by omega)] at this
        exact this
      rw [ea]
      unfold World.cell?
      rw [hh]
      simpa using h1)
theorem byte_news (W : World) (v : Value) (t : TypeId) : ∀ (j : Nat) u, [v][j]? = some u → (W.alloc (.cells #[v] t)).cell? ((⟨W.heap.size, 0, none⟩ : Addr).add j) = some u := fun j u hj => by
  match j, hj with
  | 0, hj => simp at hj; subst hj; simp [Addr.add]
  | j + 1, hj => simp at hj
theorem byte_cells (n : Int) : ∀ u, u ∈ [Value.int .u8 n] → u.oneCell' = true := fun u hu => by simp at hu; subst hu; rfl
theorem take_byte (s : ByteArray) (f : UInt8 → UInt8) (k : Nat) (h : k < s.size) : (s.data.toList.take (k + 1)).map f = (s.data.toList.take k).map f ++ [f (s[k]'h)] := by
  have hk : k < s.data.toList.length := by rw [Array.length_toList]; exact h
  rw [List.take_succ_eq_append_getElem hk, List.map_append]
  rfl

set_option maxRecDepth 100000 in
set_option maxHeartbeats 1600000 in
theorem changedUpper_any (s : ByteArray) (w : World) (hs : s.size ≤ 1000) :
    Calls Tryd.prog 42 #[.string s, .int .u8 97, .int .u8 122, .int .i64 (-32)] w fun e w' => e = .returned (.string (str (upper s.data.toList))) ∧ Below w.heap.size w w' := by
  obtain ⟨i0, hi, hz0, hz1, hz2⟩ := info_parts infoByte
  go_enter Tryd.func42, Tryd.ntmps42
  go_wp2_with fail
  go_loopw [9, 10] (fun v j wr => ∃ k : Nat, k ≤ s.size ∧ j = .int .i64 k ∧ Hid (OwnB wr w.heap.size v ((s.data.toList.take k).map up1)) ∧ Below w.heap.size w wr) (fun _ j _ => s.size - (intOf j).toNat)
  case atStart => exact ⟨0, Nat.zero_le _, rfl, OwnB.none _ _, Below.refl _ _⟩
  case round =>
    obtain ⟨k, hk, rfl, HO, hbel⟩ := hrel
    have hsz := hbel.size
    have HL : Hid (((s.data.toList.take k).map up1).length ≤ s.size) := Lib.hid (by rw [List.length_map, List.length_take]; omega)
    by_cases hlt : k < s.size
    · have hk0 : (0 : Int) ≤ (k : Int) := by omega
      have hk1 : (k : Int) < (s.size : Int) := by omega
      have hN := take_byte s up1 k hlt
      obtain ⟨A, hA⟩ : ∃ A, (s.data.toList.take k).map up1 = A := ⟨_, rfl⟩
      rw [hA] at HO HL hN
      have HN := Lib.hid hN
      clear hA hN
      have HU := Lib.hid (up1_hit (s[k]'hlt))
      have HM := Lib.hid (up1_miss (s[k]'hlt))
      have hc256 : (s[k]'hlt).toNat < 256 := (s[k]'hlt).toNat_lt
      obtain ⟨c, hc⟩ : ∃ c : Nat, (s[k]'hlt).toNat = c := ⟨_, rfl⟩
      have HC := Lib.hid hc
      rw [hc] at hc256
      have key : ∀ (n : Int) (w2 : World) (v' : Value), n = ((up1 (s[k]'hlt)).toNat : Int) →
          w2.ownsRow w.heap.size 5 1 v' (A.length + 1) (bcells A ++ [.int .u8 n]) → Hid (OwnB w2 w.heap.size v' ((s.data.toList.take (k + 1)).map up1)) := fun n w2 v' hn h => Lib.hid (by
        subst hn
        rw [HN.out]
        unfold OwnB
        rw [List.length_append]
        unfold bcells at *
        rw [List.map_append]
        exact h)
      have KEY := Lib.hid key; clear key
      by_cases hl : 97 ≤ c ∧ c ≤ 122
      · obtain ⟨h1, h2⟩ := hl
        have hh := HU.out (by rw [HC.out]; exact h1) (by rw [HC.out]; exact h2)
        rw [hc] at hh
        have HH := Lib.hid hh
        clear hh
        go_wp2_with (first | (at_builtin; refine wpList_append_own _ rfl _ _ 51 rfl w.heap.size 5 i0 (.int .u8 0) 1 1 Tryd.underlying51 hi hz0 hz1 hz2 rfl (by decide) _ _ _ rfl (HO.out.alloc _) ⟨wr.heap.size, 0, none⟩ 1 1 [.int .u8 ((c : Int) + -32)] rfl rfl (byte_news _ _ _) (byte_cells _) (by have := HL.out; unfold maxLen; omega) (by have := HL.out; omega) (by simp; omega) ?_))
        intro v' w2 hown' hgrow _
        have hbw : Below w.heap.size w w2 := (hbel.alloc hsz _).grown hgrow (by simp; omega) (fun g hg => by
          rcases Nat.lt_or_ge g w.heap.size with h | h
          · exact absurd hg (ownB_far HO.out h)
          · exact h)
        have HO2 := KEY.out ((c : Int) + -32) _ _ (by rw [HH.out]; omega) hown'
        clear hown' hgrow
        go_wp2_with fail
        go_roundw
        case rel => exact ⟨k + 1, hlt, by go_num, HO2, hbw⟩
        case measure => simp [intOf]; omega
      · have hmiss : c < 97 ∨ 122 < c := by omega
        have hh := HM.out (by rw [HC.out]; exact hmiss)
        have HH := Lib.hid hh
        clear hh hl
        rcases hmiss with h1 | h1
        · skip
          go_wp2_with (first | (at_builtin; refine wpList_append_own _ rfl _ _ 51 rfl w.heap.size 5 i0 (.int .u8 0) 1 1 Tryd.underlying51 hi hz0 hz1 hz2 rfl (by decide) _ _ _ rfl (HO.out.alloc _) ⟨wr.heap.size, 0, none⟩ 1 1 [.int .u8 ((c : Int))] rfl rfl (byte_news _ _ _) (byte_cells _) (by have := HL.out; unfold maxLen; omega) (by have := HL.out; omega) (by simp; omega) ?_))
          intro v' w2 hown' hgrow _
          have hbw : Below w.heap.size w w2 := (hbel.alloc hsz _).grown hgrow (by simp; omega) (fun g hg => by
            rcases Nat.lt_or_ge g w.heap.size with h | h
            · exact absurd hg (ownB_far HO.out h)
            · exact h)
          have HO2 := KEY.out ((c : Int)) _ _ (by rw [HH.out, HC.out]) hown'
          clear hown' hgrow
          go_wp2_with fail
          go_roundw
          case rel => exact ⟨k + 1, hlt, by go_num, HO2, hbw⟩
          case measure => simp [intOf]; omega
        · have h2 : 97 ≤ c := by omega
          go_wp2_with (first | (at_builtin; refine wpList_append_own _ rfl _ _ 51 rfl w.heap.size 5 i0 (.int .u8 0) 1 1 Tryd.underlying51 hi hz0 hz1 hz2 rfl (by decide) _ _ _ rfl (HO.out.alloc _) ⟨wr.heap.size, 0, none⟩ 1 1 [.int .u8 ((c : Int))] rfl rfl (byte_news _ _ _) (byte_cells _) (by have := HL.out; unfold maxLen; omega) (by have := HL.out; omega) (by simp; omega) ?_))
          intro v' w2 hown' hgrow _
          have hbw : Below w.heap.size w w2 := (hbel.alloc hsz _).grown hgrow (by simp; omega) (fun g hg => by
            rcases Nat.lt_or_ge g w.heap.size with h | h
            · exact absurd hg (ownB_far HO.out h)
            · exact h)
          have HO2 := KEY.out ((c : Int)) _ _ (by rw [HH.out, HC.out]) hown'
          clear hown' hgrow
          go_wp2_with fail
          go_roundw
          case rel => exact ⟨k + 1, hlt, by go_num, HO2, hbw⟩
          case measure => simp [intOf]; omega
    · obtain rfl : k = s.size := by omega
      have hback := HO.out.string
      rw [List.take_of_length_le (by rw [Array.length_toList]; exact Nat.le_refl _), ← upper_map] at hback
      go_wp2_with fail
      go_ret
      exact ⟨rfl, hbel⟩

theorem rupper_any (s : ByteArray) (w : World) (hs : s.size ≤ 1000) :
    Calls Tryd.prog 22 #[.string s] w fun e w' => e = .returned (.string (str (upper s.data.toList))) ∧ Below w.heap.size w w' := by
  go_enter Tryd.func22, Tryd.ntmps22
  go_wp2_with fail
  refine (changedUpper_any s _ hs).mono ?_
  rintro e w1 ⟨rfl, hb⟩
  go_wp2_with fail
  go_ret
  exact ⟨rfl, hb⟩

set_option maxRecDepth 100000 in
set_option maxHeartbeats 1600000 in
theorem changedLower_any (s : ByteArray) (w : World) (hs : s.size ≤ 1000) :
    Calls Tryd.prog 42 #[.string s, .int .u8 65, .int .u8 90, .int .i64 32] w fun e w' => e = .returned (.string (str (lower s.data.toList))) ∧ Below w.heap.size w w' := by
  obtain ⟨i0, hi, hz0, hz1, hz2⟩ := info_parts infoByte
  go_enter Tryd.func42, Tryd.ntmps42
  go_wp2_with fail
  go_loopw [9, 10] (fun v j wr => ∃ k : Nat, k ≤ s.size ∧ j = .int .i64 k ∧ Hid (OwnB wr w.heap.size v ((s.data.toList.take k).map lo1)) ∧ Below w.heap.size w wr) (fun _ j _ => s.size - (intOf j).toNat)
  case atStart => exact ⟨0, Nat.zero_le _, rfl, OwnB.none _ _, Below.refl _ _⟩
  case round =>
    obtain ⟨k, hk, rfl, HO, hbel⟩ := hrel
    have hsz := hbel.size
    have HL : Hid (((s.data.toList.take k).map lo1).length ≤ s.size) := Lib.hid (by rw [List.length_map, List.length_take]; omega)
    by_cases hlt : k < s.size
    · have hk0 : (0 : Int) ≤ (k : Int) := by omega
      have hk1 : (k : Int) < (s.size : Int) := by omega
      have hN := take_byte s lo1 k hlt
      obtain ⟨A, hA⟩ : ∃ A, (s.data.toList.take k).map lo1 = A := ⟨_, rfl⟩
      rw [hA] at HO HL hN
      have HN := Lib.hid hN
      clear hA hN
      have HU := Lib.hid (lo1_hit (s[k]'hlt))
      have HM := Lib.hid (lo1_miss (s[k]'hlt))
      have hc256 : (s[k]'hlt).toNat < 256 := (s[k]'hlt).toNat_lt
      obtain ⟨c, hc⟩ : ∃ c : Nat, (s[k]'hlt).toNat = c := ⟨_, rfl⟩
      have HC := Lib.hid hc
      rw [hc] at hc256
      have key : ∀ (n : Int) (w2 : World) (v' : Value), n = ((lo1 (s[k]'hlt)).toNat : Int) →
          w2.ownsRow w.heap.size 5 1 v' (A.length + 1) (bcells A ++ [.int .u8 n]) → Hid (OwnB w2 w.heap.size v' ((s.data.toList.take (k + 1)).map lo1)) := fun n w2 v' hn h => Lib.hid (by
        subst hn
        rw [HN.out]
        unfold OwnB
        rw [List.length_append]
        unfold bcells at *
        rw [List.map_append]
        exact h)
      have KEY := Lib.hid key; clear key
      by_cases hl : 65 ≤ c ∧ c ≤ 90
      · obtain ⟨h1, h2⟩ := hl
        have hh := HU.out (by rw [HC.out]; exact h1) (by rw [HC.out]; exact h2)
        rw [hc] at hh
        have HH := Lib.hid hh
        clear hh
        go_wp2_with (first | (at_builtin; refine wpList_append_own _ rfl _ _ 51 rfl w.heap.size 5 i0 (.int .u8 0) 1 1 Tryd.underlying51 hi hz0 hz1 hz2 rfl (by decide) _ _ _ rfl (HO.out.alloc _) ⟨wr.heap.size, 0, none⟩ 1 1 [.int .u8 ((c : Int) + 32)] rfl rfl (byte_news _ _ _) (byte_cells _) (by have := HL.out; unfold maxLen; omega) (by have := HL.out; omega) (by simp; omega) ?_))
        intro v' w2 hown' hgrow _
        have hbw : Below w.heap.size w w2 := (hbel.alloc hsz _).grown hgrow (by simp; omega) (fun g hg => by
          rcases Nat.lt_or_ge g w.heap.size with h | h
          · exact absurd hg (ownB_far HO.out h)
          · exact h)
        have HO2 := KEY.out ((c : Int) + 32) _ _ (by rw [HH.out]; omega) hown'
        clear hown' hgrow
        go_wp2_with fail
        go_roundw
        case rel => exact ⟨k + 1, hlt, by go_num, HO2, hbw⟩
        case measure => simp [intOf]; omega
      · have hmiss : c < 65 ∨ 90 < c := by omega
        have hh := HM.out (by rw [HC.out]; exact hmiss)
        have HH := Lib.hid hh
        clear hh hl
        rcases hmiss with h1 | h1
        · skip
          go_wp2_with (first | (at_builtin; refine wpList_append_own _ rfl _ _ 51 rfl w.heap.size 5 i0 (.int .u8 0) 1 1 Tryd.underlying51 hi hz0 hz1 hz2 rfl (by decide) _ _ _ rfl (HO.out.alloc _) ⟨wr.heap.size, 0, none⟩ 1 1 [.int .u8 ((c : Int))] rfl rfl (byte_news _ _ _) (byte_cells _) (by have := HL.out; unfold maxLen; omega) (by have := HL.out; omega) (by simp; omega) ?_))
          intro v' w2 hown' hgrow _
          have hbw : Below w.heap.size w w2 := (hbel.alloc hsz _).grown hgrow (by simp; omega) (fun g hg => by
            rcases Nat.lt_or_ge g w.heap.size with h | h
            · exact absurd hg (ownB_far HO.out h)
            · exact h)
          have HO2 := KEY.out ((c : Int)) _ _ (by rw [HH.out, HC.out]) hown'
          clear hown' hgrow
          go_wp2_with fail
          go_roundw
          case rel => exact ⟨k + 1, hlt, by go_num, HO2, hbw⟩
          case measure => simp [intOf]; omega
        · have h2 : 65 ≤ c := by omega
          go_wp2_with (first | (at_builtin; refine wpList_append_own _ rfl _ _ 51 rfl w.heap.size 5 i0 (.int .u8 0) 1 1 Tryd.underlying51 hi hz0 hz1 hz2 rfl (by decide) _ _ _ rfl (HO.out.alloc _) ⟨wr.heap.size, 0, none⟩ 1 1 [.int .u8 ((c : Int))] rfl rfl (byte_news _ _ _) (byte_cells _) (by have := HL.out; unfold maxLen; omega) (by have := HL.out; omega) (by simp; omega) ?_))
          intro v' w2 hown' hgrow _
          have hbw : Below w.heap.size w w2 := (hbel.alloc hsz _).grown hgrow (by simp; omega) (fun g hg => by
            rcases Nat.lt_or_ge g w.heap.size with h | h
            · exact absurd hg (ownB_far HO.out h)
            · exact h)
          have HO2 := KEY.out ((c : Int)) _ _ (by rw [HH.out, HC.out]) hown'
          clear hown' hgrow
          go_wp2_with fail
          go_roundw
          case rel => exact ⟨k + 1, hlt, by go_num, HO2, hbw⟩
          case measure => simp [intOf]; omega
    · obtain rfl : k = s.size := by omega
      have hback := HO.out.string
      rw [List.take_of_length_le (by rw [Array.length_toList]; exact Nat.le_refl _), ← lower_map] at hback
      go_wp2_with fail
      go_ret
      exact ⟨rfl, hbel⟩

theorem rlower_any (s : ByteArray) (w : World) (hs : s.size ≤ 1000) :
    Calls Tryd.prog 23 #[.string s] w fun e w' => e = .returned (.string (str (lower s.data.toList))) ∧ Below w.heap.size w w' := by
  go_enter Tryd.func23, Tryd.ntmps23
  go_wp2_with fail
  refine (changedLower_any s _ hs).mono ?_
  rintro e w1 ⟨rfl, hb⟩
  go_wp2_with fail
  go_ret
  exact ⟨rfl, hb⟩

end Go.Proofs.YtlpmaeemegphiaaDoor
