/-
  The contract of words of the package. Nothing is assumed.
-/
import Derived.Test.YtlpmaeemegphiaaDoorStWordP
import Derived.Deep.LoopGhost
namespace Go.Proofs.YtlpmaeemegphiaaDoor
open Go.RowKit

theorem tail_size (s : ByteArray) (p : Nat) : (s.extract p s.size).size = s.size - p := by simp
theorem tail_at (s : ByteArray) (p j : Nat) (h : j < (s.extract p s.size).size) : ∃ h' : p + j < s.size, (s.extract p s.size)[j]'h = s[p + j]'h' := by
  have := h
  rw [tail_size] at this
  exact ⟨by omega, by simp [ByteArray.getElem_extract]⟩

/-- No space in T before place q. -/
def NoSp (T : ByteArray) (q : Nat) : Prop := ∀ j, j < q → ∀ hj : j < T.size, T[j]'hj ≠ 32

theorem byte_ne {c : UInt8} (h : c.toNat ≠ 32) : c ≠ 32 := fun e => h (by rw [e]; rfl)
theorem byte_eq {c : UInt8} (h : c.toNat = 32) : c = 32 := UInt8.toNat_inj.1 (by rw [h]; rfl)

theorem one_news (W : World) (v : Value) (t : TypeId) : ∀ (j : Nat) u, [v][j]? = some u → (W.alloc (.cells #[v] t)).cell? ((⟨W.heap.size, 0, none⟩ : Addr).add j) = some u := fun j u hj => by
  match j, hj with
  | 0, hj => simp at hj; subst hj; simp [Addr.add]
  | j + 1, hj => simp at hj
theorem one_cells (s : ByteArray) : ∀ u, u ∈ [Value.string s] → u.oneCell' = true := fun u hu => by simp at hu; subst hu; rfl

set_option maxRecDepth 100000 in
set_option maxHeartbeats 3200000 in
theorem words_any (s : ByteArray) (w : World) (hs : s.size ≤ 1000) :
    Calls Tryd.prog 38 #[.string s] w fun e w' => RetS w.heap.size (WS s 0) e w' ∧ Below w.heap.size w w' := by
  obtain ⟨i0, hi, hz0, hz1, hz2⟩ := info_parts infoStr
  go_enter Tryd.func38, Tryd.ntmps38
  go_wp2_with fail
  go_step3
  go_wp2_with fail
  go_step3
  go_wp2_with fail
  go_loopg [3, 4] s.size (fun g v j wr => ∃ (p : Nat) (F : List ByteArray), p + g = s.size ∧ j = .int .i64 p ∧ Hid (OwnS wr w.heap.size v F) ∧ Hid (F ++ WS s p = WS s 0) ∧ Below w.heap.size w wr)
  case atStart => exact ⟨0, [], by omega, rfl, OwnS.none _ _, rfl, Below.refl _ _⟩
  case round =>
    obtain ⟨p, F, hpg, rfl, HO, HF, hbel⟩ := hrel
    have HPG := Lib.hid hpg
    have hp : p ≤ s.size := by omega
    clear hpg
    have hsz := hbel.size
    have HFL : Hid (F.length ≤ s.size) := Lib.hid (by
      have h1 := congrArg List.length HF.out
      have h2 := WS_len s 0
      rw [List.length_append] at h1
      omega)
    by_cases hlt : p < s.size
    · have hpi : (p : Int) < (s.size : Int) := by omega
      have hpi2 : (p : Int) ≤ (s.size : Int) := by omega
      obtain ⟨T, hT⟩ : ∃ T, s.extract p s.size = T := ⟨_, rfl⟩
      have hTs : Hid (T.size = s.size - p) := Lib.hid (by rw [← hT]; exact tail_size s p)
      have hTat : Hid (∀ j (h : j < T.size), ∃ h' : p + j < s.size, T[j]'h = s[p + j]'h') := Lib.hid (by rw [← hT]; exact tail_at s p)
      go_wp2_with fail
      clear hT
      have hK : w.heap.size ≤ wr.heap.size := hsz
      have HO1 : Hid (OwnS (wr.iter T 0) w.heap.size u3 F) := Lib.hid (HO.out.alloc _)
      have hit1 : (wr.iter T 0).heap[wr.heap.size]? = some (.stringIter T 0) := World.iter_heap _ _ _
      have hbel1 : Below w.heap.size w (wr.iter T 0) := hbel.alloc hsz _
      have hKlt : wr.heap.size < (wr.iter T 0).heap.size := by simp [World.iter]
      clear HO hbel
      generalize wr.heap.size = K at *
      go_loopg [3, 4] T.size (fun g v j wy => ∃ q : Nat, q + g = T.size ∧ j = .int .i64 p ∧ wy.heap[K]? = some (.stringIter T q) ∧ Hid (OwnS wy w.heap.size v F) ∧ Hid (NoSp T q) ∧ Below w.heap.size w wy ∧ K < wy.heap.size)
      case atStart => exact ⟨0, by omega, rfl, hit1, HO1, fun j hj => absurd hj (Nat.not_lt_zero j), hbel1, hKlt⟩
      case round =>
        obtain ⟨q, hqg, rfl, hit, HO, HN, hbel, hKl⟩ := hrel
        have HQG := Lib.hid hqg
        have hq : q ≤ T.size := by omega
        clear hqg HO1 hit1 hbel1 hKlt
        have hsz2 := hbel.size
        by_cases hql : q < T.size
        · obtain ⟨r1, r2, r3⟩ := rune_conts T q hql
          have hnext := fun ty => Lib.run_next_any_at (P := Tryd.prog) wr K T q ty hit hql
          have hit2 := Lib.iterAt_heap wr K T q (q + (Utf8.decode T q).2) hit
          have HO2 : Hid (OwnS (wr.iterAt K T (q + (Utf8.decode T q).2)) w.heap.size u3 F) := Lib.hid (HO.out.of_block (fun g _ o ho hc => by
            rw [Lib.iterAt_other _ _ _ _ _ (fun e => by subst e; rw [hit] at ho; cases ho; obtain ⟨_, _, _, h⟩ := hc; cases h)]
            exact ho))
          have hbel2 : Below w.heap.size w (wr.iterAt K T (q + (Utf8.decode T q).2)) := Lib.below_iterAt hbel hK _ _
          have hsz3 : w.heap.size ≤ (wr.iterAt K T (q + (Utf8.decode T q).2)).heap.size := hbel2.size
          have hKl2 : K < (wr.iterAt K T (q + (Utf8.decode T q).2)).heap.size := by rw [Lib.iterAt_size]; exact hKl
          have hlow : (T[q]'hql).toNat < 128 → (Utf8.decode T q).1 = (T[q]'hql).toNat ∧ (Utf8.decode T q).2 = 1 := fun h => by rw [decode_ascii T q hql h]; exact ⟨rfl, rfl⟩
          have hhigh : 128 ≤ (T[q]'hql).toNat → 128 ≤ (Utf8.decode T q).1 := fun h => (decode_high T q hql h).1
          by_cases hsp : (T[q]'hql).toNat = 32
          · obtain ⟨e1, e2⟩ := hlow (by omega)
            rw [e1, e2, hsp] at hnext
            rw [e2] at hit2 HO2 hbel2 hsz3 hKl2
            have hps : p + q < s.size := by have := hTs.out; omega
            have HW : Hid (WS s p = (if q = 0 then [] else [s.extract p (p + q)]) ++ WS s (p + q + 1)) := Lib.hid (WS_hit s p q hps (fun j hj hj' => by
              obtain ⟨h1, h2⟩ := hTat.out j (by have := hTs.out; omega)
              rw [← h2]
              exact HN.out j hj _) (by
              obtain ⟨h1, h2⟩ := hTat.out q hql
              rw [← h2]
              exact byte_eq hsp))
            clear e1 e2 hlow hhigh hsp r1 r2 r3
            generalize wr.iterAt K T (q + 1) = W1 at *
            by_cases hq0 : q = 0
            · subst hq0
              go_wp2_with fail
              go_roundg (s.size - (p + 0 + 1))
              case measure => have := HPG.out; omega
              case rel => exact ⟨p + 0 + 1, F, by omega, by go_num, HO2, by have h := HW.out; simp only [if_true, List.nil_append] at h; have h2 := HF.out; rw [h] at h2; exact h2, hbel2⟩
            · have hq1 : (0 : Int) < (q : Int) := by omega
              obtain ⟨m, hm⟩ : ∃ m : Nat, (p : Int) + (q : Int) = (m : Int) := ⟨p + q, by omega⟩
              have hm' : p + q = m := by omega
              have HM := Lib.hid hm'
              have hm2 : m ≤ s.size := by omega
              have hm3 : p ≤ m := by omega
              obtain ⟨U, hU⟩ : ∃ U, s.extract p m = U := ⟨_, rfl⟩
              have HU := Lib.hid hU
              go_wp2_with (first | (at_builtin; refine wpList_append_own _ rfl _ _ 45 rfl w.heap.size 9 i0 (.string ⟨#[]⟩) 1 16 Tryd.underlying45 hi hz0 hz1 hz2 rfl (by decide) _ _ _ rfl (HO2.out.alloc _) ⟨W1.heap.size, 0, none⟩ 1 1 [.string U] rfl rfl (one_news _ _ _) (one_cells _) (by have := HFL.out; unfold maxLen; omega) (by have := HFL.out; omega) (by simp; omega) ?_))
              intro v' w2 hown' hgrow _
              have hbw : Below w.heap.size w w2 := (hbel2.alloc hsz3 _).grown hgrow (by simp; omega) (fun g hg => by
                rcases Nat.lt_or_ge g w.heap.size with h | h
                · exact absurd hg (ownS_far HO2.out h)
                · exact h)
              have HO3 : Hid (OwnS w2 w.heap.size v' (F ++ [U])) := Lib.hid (by
                unfold OwnS
                rw [List.length_append, List.map_append]
                exact hown')
              clear hown' hgrow hm hm' hit2 hbel2
              go_wp2_with fail
              go_roundg (s.size - (p + q + 1))
              case measure => have := HPG.out; omega
              case rel => exact ⟨p + q + 1, F ++ [U], by omega, by go_num, HO3, by have h := HW.out; rw [if_neg hq0, HM.out, HU.out] at h; have h2 := HF.out; rw [h] at h2; rw [List.append_assoc, HM.out]; exact h2, hbw⟩
          · have HN2 : Hid (NoSp T (q + (Utf8.decode T q).2)) := Lib.hid (fun j hj hj' => by
              rcases Nat.lt_trichotomy j q with h | h | h
              · exact HN.out j h hj'
              · subst h; exact byte_ne hsp
              · have := r3 j h hj hj'
                exact byte_ne (by omega))
            have hr : (Utf8.decode T q).1 ≠ 32 := by
              rcases Nat.lt_or_ge (T[q]'hql).toNat 128 with h | h
              · rw [(hlow h).1]; exact hsp
              · have := hhigh h; omega
            clear hlow hhigh hsp r3
            generalize (Utf8.decode T q).1 = r at *
            generalize (Utf8.decode T q).2 = k at *
            generalize wr.iterAt K T (q + k) = W1 at *
            have hrn : ((r : Int) == 32) = false := by simp; omega
            go_wp2_with fail
            go_roundg (T.size - (q + k))
            case measure => have := HQG.out; omega
            case rel => exact ⟨q + k, by omega, rfl, hit2, HO2, HN2, hbel2, hKl2⟩
        · obtain rfl : q = T.size := by omega
          have hnext := fun ty => Lib.run_next_end_at (P := Tryd.prog) wr K T T.size ty hit hql
          have HW : Hid (WS s p = [s.extract p s.size]) := Lib.hid (WS_none s p hlt (fun j hj hj' => by
            obtain ⟨h1, h2⟩ := hTat.out (j - p) (by have := hTs.out; omega)
            have h3 := HN.out (j - p) (by have := hTs.out; omega) (by have := hTs.out; omega)
            rw [h2] at h3
            have e : p + (j - p) = j := by omega
            simp only [e] at h3
            exact h3))
          go_wp2_with (first | (at_builtin; refine wpList_append_own _ rfl _ _ 45 rfl w.heap.size 9 i0 (.string ⟨#[]⟩) 1 16 Tryd.underlying45 hi hz0 hz1 hz2 rfl (by decide) _ _ _ rfl (HO.out.alloc _) ⟨wr.heap.size, 0, none⟩ 1 1 [.string (s.extract p s.size)] rfl rfl (one_news _ _ _) (one_cells _) (by have := HFL.out; unfold maxLen; omega) (by have := HFL.out; omega) (by simp; omega) ?_))
          intro v' w2 hown' hgrow _
          have hbw : Below w.heap.size w w2 := (hbel.alloc hsz2 _).grown hgrow (by simp; omega) (fun g hg => by
                rcases Nat.lt_or_ge g w.heap.size with h | h
                · exact absurd hg (ownS_far HO.out h)
                · exact h)
          have HO3 : Hid (OwnS w2 w.heap.size v' (WS s 0)) := Lib.hid (by
            have h2 := HF.out
            rw [HW.out] at h2
            rw [← h2]
            unfold OwnS
            rw [List.length_append, List.map_append]
            exact hown')
          clear hown' hgrow
          go_wp2_with fail
          try rw [Exit.noGoto_ret]
          go_ret
          exact ⟨⟨_, rfl, HO3.out⟩, hbw⟩
    · obtain rfl : p = s.size := by omega
      have HW : Hid (F = WS s 0) := Lib.hid (by
        have h := HF.out
        rw [WS_end s s.size (Nat.le_refl _), List.append_nil] at h
        exact h)
      go_wp2_with fail
      try rw [Exit.noGoto_ret]
      go_ret
      exact ⟨⟨_, rfl, by rw [← HW.out]; exact HO.out⟩, hbel⟩
end Go.Proofs.YtlpmaeemegphiaaDoor
