/-
  The pattern of a text matches that text alone; the walk of PatternLiterals. Nothing is assumed.
-/
import Derived.Test.YtlonddlemlkhoaaDoorPaLawM
namespace Go.Proofs.YtlonddlemlkhoaaDoor
open Go.RowKit

theorem pk_app (P M : List UInt8) (j : Nat) : pk (P ++ M) (P.length + j) = pk M j := by
  unfold pk
  rw [List.getElem?_append_right (Nat.le_add_right _ _), Nat.add_sub_cancel_left]
theorem pk_app0 (P M : List UInt8) : pk (P ++ M) P.length = pk M 0 := pk_app P M 0
theorem isPl_ne {c : Nat} (h : isSp c = false) : c ≠ 40 ∧ c ≠ 91 ∧ c ≠ 46 ∧ c ≠ 92 ∧ c ≠ 42 ∧ c ≠ 124 := by
  refine ⟨?_, ?_, ?_, ?_, ?_, ?_⟩ <;> (rintro rfl; revert h; decide)
theorem pk_lits (R : List UInt8) (hR : ∀ c ∈ R, inA c.toNat = true) : pk (litsL R) 0 ≠ 42 ∧ pk (litsL R) 0 ≠ 124 := by
  cases R with
  | nil => exact ⟨by decide, by decide⟩
  | cons c R =>
    rw [litsL]
    unfold escL
    split
    · exact ⟨(by decide : (92 : Nat) ≠ 42), (by decide : (92 : Nat) ≠ 124)⟩
    · rename_i h
      have h' : isSp c.toNat = false := by simpa using h
      have := isPl_ne h'
      exact ⟨this.2.2.2.2.1, this.2.2.2.2.2⟩
theorem rep_lit (pat : Nat → PR PT) (P R : List UInt8) (c : UInt8) (hc : inA c.toNat = true) (hR : ∀ c ∈ R, inA c.toNat = true) :
    repL pat (P ++ (escL c ++ litsL R)) P.length = .ok (oneT c.toNat) (P.length + (escL c).length) ∧ begA (pk (P ++ (escL c ++ litsL R)) P.length) = true := by
  have hn := (pk_lits R hR).1
  unfold repL atomL
  by_cases hs : isSp c.toNat = true
  · have e1 : escL c = [92, c] := by unfold escL; rw [if_pos hs]
    rw [e1]
    have p0 : pk (P ++ ([92, c] ++ litsL R)) P.length = 92 := pk_app0 _ _
    have p1 : pk (P ++ ([92, c] ++ litsL R)) (P.length + 1) = c.toNat := pk_app _ _ 1
    have p2 : pk (P ++ ([92, c] ++ litsL R)) (P.length + 2) ≠ 42 := by
      rw [pk_app]
      exact hn
    rw [p0, p1]
    refine ⟨?_, by decide⟩
    rw [if_neg (by decide), if_neg (by decide), if_neg (by decide), if_pos rfl, if_pos hs]
    show (if pk (P ++ ([92, c] ++ litsL R)) (P.length + 2) = 42 then _ else _) = _
    rw [if_neg p2]
    rfl
  · have hs' : isSp c.toNat = false := by simpa using hs
    have e1 : escL c = [c] := by unfold escL; rw [if_neg hs]
    rw [e1]
    have p0 : pk (P ++ ([c] ++ litsL R)) P.length = c.toNat := pk_app0 _ _
    have p1 : pk (P ++ ([c] ++ litsL R)) (P.length + 1) ≠ 42 := by
      rw [pk_app]
      exact hn
    obtain ⟨n1, n2, n3, n4, -, -⟩ := isPl_ne hs'
    have hpl : isPl c.toNat = true := by unfold isPl; rw [hc, hs']; rfl
    rw [p0]
    refine ⟨?_, by unfold begA; rw [hpl]; rfl⟩
    rw [if_neg n1, if_neg n2, if_neg n3, if_neg n4, if_pos hpl]
    show (if pk (P ++ ([c] ++ litsL R)) (P.length + 1) = 42 then _ else _) = _
    rw [if_neg p1]
    rfl
theorem sev_lit (pat : Nat → PR PT) (L : List UInt8) : ∀ (R P : List UInt8) (g : Nat) (acc : List PT), L = P ++ litsL R → (∀ c ∈ R, inA c.toNat = true) → (acc ≠ [] ∨ R ≠ []) → R.length < g →
    sevL (repL pat L) (sepC L) g acc P.length = .ok (acc ++ R.map (fun c => oneT c.toNat)) L.length
  | [], P, g, acc, hL, _, ha, hg => by
    obtain ⟨g, rfl⟩ : ∃ g', g = g' + 1 := ⟨g - 1, by simp at hg; omega⟩
    have ha' : acc ≠ [] := by rcases ha with h | h; exact h; exact absurd rfl h
    have hl : acc.length ≠ 0 := fun h => ha' (List.length_eq_zero_iff.1 h)
    obtain rfl : L = P := by rw [hL, litsL, List.append_nil]
    rw [sevL, if_neg hl]
    have hb : sepC L L.length = none := by
      unfold sepC
      rw [pk_out L _ (Nat.le_refl _)]
      rfl
    rw [hb, List.map_nil, List.append_nil]
  | c :: R, P, g, acc, hL, hR, _, hg => by
    obtain ⟨g, rfl⟩ : ∃ g', g = g' + 1 := ⟨g - 1, by simp at hg; omega⟩
    have hR' : ∀ x ∈ R, inA x.toNat = true := fun x hx => hR x (List.mem_cons_of_mem _ hx)
    obtain ⟨h1, h2⟩ := rep_lit pat P R c (hR c (List.mem_cons_self ..)) hR'
    have hL' : L = P ++ (escL c ++ litsL R) := by rw [hL, litsL]
    rw [← hL'] at h1 h2
    have ih := sev_lit pat L R (P ++ escL c) g (acc ++ [oneT c.toNat]) (by rw [hL', List.append_assoc]) hR' (.inl (by simp)) (by simp at hg; omega)
    rw [List.length_append] at ih
    have ex : acc ++ List.map (fun c => oneT c.toNat) (c :: R) = acc ++ [oneT c.toNat] ++ List.map (fun c => oneT c.toNat) R := by simp
    have hb : sepC L P.length = some P.length := by
      unfold sepC
      rw [h2]
      rfl
    rw [sevL, hb, ex]
    split
    · rw [h1]
      exact ih
    · show (repL pat L P.length).bind _ = _
      rw [h1]
      exact ih
theorem lits_le (R : List UInt8) : R.length ≤ (litsL R).length := by
  induction R with
  | nil => exact Nat.le_refl _
  | cons c R ih =>
    have : 1 ≤ (escL c).length := by unfold escL; split <;> simp
    rw [litsL, List.length_append, List.length_cons]
    omega
theorem parse_lit (R : List UInt8) (hR : ∀ c ∈ R, inA c.toNat = true) (hn : R ≠ []) : parseT (litsL R) = .ok (joinT 4 (R.map fun c => oneT c.toNat)) (litsL R).length := by
  obtain ⟨L, hL⟩ : ∃ L, L = litsL R := ⟨_, rfl⟩
  rw [← hL]
  have hlen : R.length ≤ L.length := by rw [hL]; exact lits_le R
  have hpos : 0 < R.length := by cases R with
    | nil => exact absurd rfl hn
    | cons c R => simp
  have hc : catL (patL L L.length) L 0 = .ok (joinT 4 (R.map fun c => oneT c.toNat)) L.length := by
    unfold catL
    have := sev_lit (patL L L.length) L R [] (L.length + 1) [] (by rw [hL]; rfl) hR (.inr hn) (by omega)
    rw [show ([] : List UInt8).length = 0 from rfl] at this
    rw [this]
    rfl
  have hp : patL L (L.length + 1) 0 = .ok (joinT 4 (R.map fun c => oneT c.toNat)) L.length := by
    rw [patL, sevL, if_pos (show ([] : List PT).length = 0 from rfl), hc]
    show (sevL (catL (patL L L.length) L) (sepP L) L.length ([] ++ [joinT 4 (R.map fun c => oneT c.toNat)]) L.length).map (joinT 5) = _
    have hb : sepP L L.length = none := by
      unfold sepP
      rw [pk_out L _ (Nat.le_refl _)]
      rfl
    have hg : ∀ g, 0 < g → sevL (catL (patL L L.length) L) (sepP L) g ([] ++ [joinT 4 (R.map fun c => oneT c.toNat)]) L.length = .ok [joinT 4 (R.map fun c => oneT c.toNat)] L.length := by
      intro g h
      obtain ⟨g, rfl⟩ : ∃ g', g = g' + 1 := ⟨g - 1, by omega⟩
      rw [sevL, if_neg (by simp), hb]
      rfl
    rw [hg _ (by omega)]
    rfl
  unfold parseT
  rw [hp]
  show (if L.length = L.length then _ else _) = _
  rw [if_pos rfl]
theorem one_lg (c : UInt8) (u : List UInt8) : Lg (oneT c.toNat) u ↔ u = [c] := by
  have hh : ∀ d : UInt8, (S4.zero.add c.toNat).has d.toNat = decide (c.toNat = d.toNat) := fun d => by
    rw [has_add S4.zero_ok (UInt8.toNat_lt _) (UInt8.toNat_lt _), has_zero, Bool.false_or]
  have e : oneT c.toNat = .mk 3 (S4.zero.add c.toNat) [] := by
    unfold oneT classT
    split
    · rename_i h
      exfalso
      have h1 := hh c
      unfold S4.isZ at h
      simp only [Bool.and_eq_true, beq_iff_eq] at h
      have hz : S4.zero.add c.toNat = S4.zero := by
        generalize S4.zero.add c.toNat = x at *
        obtain ⟨a, b, c', d⟩ := x
        obtain ⟨⟨⟨h2, h3⟩, h4⟩, h5⟩ := h
        have h2' : a = 0 := h2
        have h3' : b = 0 := h3
        have h4' : c' = 0 := h4
        have h5' : d = 0 := h5
        rw [h2', h3', h4', h5']; rfl
      rw [hz, has_zero] at h1
      simp at h1
    · rfl
  rw [e, Lg]
  constructor
  · rintro (⟨h, -⟩ | ⟨-, d, rfl, h⟩ | ⟨h, -⟩ | ⟨h, -⟩ | ⟨h, -⟩)
    · exact absurd h (by decide)
    · rw [hh d] at h
      have h1 : c.toNat = d.toNat := by simpa using h
      rw [UInt8.toNat_inj.1 h1]
    · exact absurd h (by decide)
    · exact absurd h (by decide)
    · exact absurd h (by decide)
  · rintro rfl
    exact .inr (.inl ⟨rfl, c, rfl, by rw [hh c]; simp⟩)
theorem cat_lg : ∀ (R u : List UInt8), LgC (R.map fun c => oneT c.toNat) u ↔ u = R
  | [], u => by rw [List.map_nil, LgC]
  | c :: R, u => by
    rw [List.map_cons, LgC]
    constructor
    · rintro ⟨x, y, rfl, hx, hy⟩
      rw [(one_lg c x).1 hx, (cat_lg R y).1 hy]
      rfl
    · rintro rfl
      exact ⟨[c], R, rfl, (one_lg c _).2 rfl, (cat_lg R R).2 rfl⟩
theorem join_lg (R u : List UInt8) : Lg (joinT 4 (R.map fun c => oneT c.toNat)) u ↔ u = R := by
  match R with
  | [] =>
    show Lg (.mk 4 .zero []) u ↔ _
    rw [Lg]
    constructor
    · rintro (⟨h, -⟩ | ⟨h, -⟩ | ⟨-, h⟩ | ⟨h, -⟩ | ⟨h, -⟩)
      · exact absurd h (by decide)
      · exact absurd h (by decide)
      · rw [LgC] at h; exact h
      · exact absurd h (by decide)
      · exact absurd h (by decide)
    · rintro rfl
      exact .inr (.inr (.inl ⟨rfl, by rw [LgC]⟩))
  | [c] => exact one_lg c u
  | c :: d :: R =>
    have hc := cat_lg (c :: d :: R) u
    show Lg (.mk 4 .zero ((c :: d :: R).map fun c => oneT c.toNat)) u ↔ _
    rw [Lg]
    constructor
    · rintro (⟨h, -⟩ | ⟨h, -⟩ | ⟨-, h⟩ | ⟨h, -⟩ | ⟨h, -⟩)
      · exact absurd h (by decide)
      · exact absurd h (by decide)
      · exact hc.1 h
      · exact absurd h (by decide)
      · exact absurd h (by decide)
    · intro h
      exact .inr (.inr (.inl ⟨rfl, hc.2 h⟩))
theorem acc_of {p : ByteArray} {t : PT} {m : Nat} (hs : ¬ (p.size < 1 ∨ 40 < p.size)) (hp : parseT p.data.toList = .ok t m) (s : ByteArray) : errP p = 0 ∧ (accZ p s = true ↔ Lg t s.data.toList) := by
  have h0 : errP p = 0 := by unfold errP; rw [if_neg hs, hp]
  refine ⟨h0, ?_⟩
  obtain ⟨t', h⟩ := TP.of h0
  obtain ⟨m', h1⟩ := h.parse
  obtain ⟨rfl, rfl⟩ : t = t' ∧ m = m' := by rw [hp] at h1; cases h1; exact ⟨rfl, rfl⟩
  unfold accZ
  rw [if_pos h0]
  unfold accS
  rw [hp]
  exact build_acc t h.lv s.data.toList
theorem ba_ext {s t : ByteArray} (h : s.data.toList = t.data.toList) : s = t := by
  cases s; cases t
  simp only [ByteArray.mk.injEq]
  exact Array.toList_inj.1 h
theorem lit_acc (s : ByteArray) (h : litS s ≠ ⟨#[]⟩) : errP (litS s) = 0 ∧ ∀ t, accZ (litS s) t = decide (s = t) := by
  have key : ∀ (T : PT) (m : Nat), ¬ ((litS s).size < 1 ∨ 40 < (litS s).size) → parseT (litS s).data.toList = .ok T m → (∀ u, Lg T u ↔ u = s.data.toList) → errP (litS s) = 0 ∧ ∀ t, accZ (litS s) t = decide (s = t) := by
    intro T m hs hp hl
    refine ⟨(acc_of hs hp s).1, fun t => ?_⟩
    have h1 := (acc_of hs hp t).2
    rw [Bool.eq_iff_iff, h1, hl, decide_eq_true_iff]
    exact ⟨fun h => ba_ext h.symm, fun h => by rw [h]⟩
  unfold litS at h key ⊢
  by_cases h0 : s.size = 0
  · rw [if_pos h0] at key ⊢
    refine key (.mk 2 .zero []) 2 (by decide) (by kernel_rfl) fun u => ?_
    have hs0 : s.data.toList = [] := List.length_eq_zero_iff.1 (by rw [lt_len]; exact h0)
    rw [hs0, Lg]
    constructor
    · rintro (⟨-, h⟩ | ⟨h, -⟩ | ⟨h, -⟩ | ⟨h, -⟩ | ⟨h, -⟩)
      · exact h
      · exact absurd h (by decide)
      · exact absurd h (by decide)
      · exact absurd h (by decide)
      · exact absurd h (by decide)
    · intro h
      exact .inl ⟨rfl, h⟩
  · rw [if_neg h0] at h key ⊢
    by_cases h1 : 40 < s.size
    · rw [if_pos h1] at h; exact absurd rfl h
    rw [if_neg h1] at h key ⊢
    by_cases h2 : s.data.toList.all (fun c => inA c.toNat) = true
    · rw [if_pos h2] at h key ⊢
      by_cases h3 : 40 < (litsL s.data.toList).length
      · rw [if_pos h3] at h; exact absurd rfl h
      rw [if_neg h3] at h key ⊢
      have hlist : (str (litsL s.data.toList)).data.toList = litsL s.data.toList := by simp [str]
      have hsz : (str (litsL s.data.toList)).size = (litsL s.data.toList).length := by show (litsL s.data.toList).toArray.size = _; simp
      have hle := lits_le s.data.toList
      rw [lt_len] at hle
      refine key (joinT 4 (s.data.toList.map fun c => oneT c.toNat)) (litsL s.data.toList).length (by rw [hsz]; omega) ?_ (join_lg _)
      rw [hlist]
      refine parse_lit _ (List.all_eq_true.1 h2) fun h => ?_
      have : s.data.toList.length = 0 := by rw [h]; rfl
      rw [lt_len] at this
      omega
    · rw [if_neg h2] at h; exact absurd rfl h

set_option maxRecDepth 100000 in
set_option maxHeartbeats 3200000 in
theorem law_pliterals (s t : ByteArray) (w : World) (hA : AL w) : Calls Tryd.prog 7 #[.string s, .string t] w fun e w' => e = .returned (.bool true) ∧ Below w.heap.size w w' := by
  by_cases hbig : 30 < s.size
  · have HA := Lib.hid (awake_any w hA)
    have hbI : (s.size : Int) > 30 := by omega
    clear hbig
    go_enter Tryd.func7, Tryd.ntmps7
    go_wp2_with fail
    refine HA.out.mono ?_
    rintro e w1 ⟨rfl, hb⟩
    go_wp2_with fail
    go_ret
    exact ⟨rfl, hb⟩
  have hsI : ¬ (s.size : Int) > 30 := by omega
  by_cases hbig2 : 30 < t.size
  · have HA := Lib.hid (awake_any w hA)
    have hbI : (t.size : Int) > 30 := by omega
    clear hbig hbig2
    go_enter Tryd.func7, Tryd.ntmps7
    go_wp2_with fail
    refine HA.out.mono ?_
    rintro e w1 ⟨rfl, hb⟩
    go_wp2_with fail
    go_ret
    exact ⟨rfl, hb⟩
  have htI : ¬ (t.size : Int) > 30 := by omega
  have HL := Lib.hid (literal_any s w hA)
  by_cases hem : litS s = ⟨#[]⟩
  · rw [hem] at HL
    have HAI := Lib.hid hA
    clear hA hbig hbig2
    go_enter Tryd.func7, Tryd.ntmps7
    go_wp2_with fail
    refine HL.out.mono ?_
    rintro e w1 ⟨rfl, hb1⟩
    have HB1 := Lib.hid hb1
    have HAw := Lib.hid (awake_any w1 (HAI.out.later HB1.out))
    clear hb1
    go_wp2_with fail
    refine HAw.out.mono ?_
    rintro e w2 ⟨rfl, hb2⟩
    have HB2 := Lib.hid (HB1.out.trans (hb2.mono HB1.out.size))
    clear hb2
    go_wp2_with fail
    go_ret
    exact ⟨rfl, HB2.out⟩
  obtain ⟨he, ha⟩ := lit_acc s hem
  have HM := Lib.hid (fun (V : World) (hV : AL V) => match_all (litS s) s V hV (by omega))
  have HM' := Lib.hid (fun (V : World) (hV : AL V) => match_all (litS s) t V hV (by omega))
  have hss : decide (s = s) = true := by simp
  have hst : decide (s = t) = (s.toList == t.toList) := by
    rw [Bool.eq_iff_iff, decide_eq_true_iff, beq_iff_eq, ByteArray.toList_eq, ByteArray.toList_eq]
    exact ⟨fun h => by rw [h], ba_ext⟩
  rw [he, ha, hss] at HM
  rw [he, ha, hst] at HM'
  have HAI := Lib.hid hA
  have hpe : (litS s).toList.isEmpty = false := by
    rw [ByteArray.toList_eq]
    cases hq : (litS s).data.toList with
    | nil => exact absurd (ba_ext (t := ⟨#[]⟩) hq) hem
    | cons a l => rfl
  clear hA hbig hbig2 he ha hss hst hem
  generalize litS s = p at *
  go_enter Tryd.func7, Tryd.ntmps7
  go_wp2_with fail
  refine HL.out.mono ?_
  rintro e w1 ⟨rfl, hb1⟩
  have HB1 := Lib.hid hb1
  clear hb1 HL
  go_wp2_with fail
  refine (HM.out w1 (HAI.out.later HB1.out)).mono ?_
  rintro e w2 ⟨rfl, hb2⟩
  have HB2 := Lib.hid (HB1.out.trans (hb2.mono HB1.out.size))
  clear hb2 HM HB1
  go_wp2_with fail
  refine (HM'.out w2 (HAI.out.later HB2.out)).mono ?_
  rintro e w3 ⟨rfl, hb3⟩
  have HB3 := Lib.hid (HB2.out.trans (hb3.mono HB2.out.size))
  have HAw := Lib.hid (awake_any w3 (HAI.out.later HB3.out))
  clear hb3 HM' HB2
  go_wp2_with fail
  refine HAw.out.mono ?_
  rintro e w4 ⟨rfl, hb4⟩
  have HB4 := Lib.hid (HB3.out.trans (hb4.mono HB3.out.size))
  clear hb4
  go_wp2_with fail
  go_ret
  exact ⟨rfl, HB4.out⟩
end Go.Proofs.YtlonddlemlkhoaaDoor
