/-
  The state of the specification of the cache in memory; appends of texts and of terms. Nothing is assumed.
-/
import Derived.Test.YtbimpfciadbnjaaCaStr
import Derived.Test.YtbimpfciadbnjaaCaMem
import Derived.Maps.AppendAt
import Derived.Deep.RegionLaw
namespace Go.Proofs.Ytbimpfciadbnjaa
open Go.RowKit

theorem HoldsS.take {w : World} {P : Nat → Prop} {n c k : Nat} {oa : Option Addr} {l : List ByteArray} (h : HoldsS w P (.slice oa n c) l) (hk : k ≤ n) : HoldsS w P (.slice oa k c) (l.take k) := by
  obtain ⟨h1, h2, h3⟩ := h.len
  have hlen : (l.take k).length = k := by simp; omega
  refine ⟨oa, c, by rw [hlen], by omega, h3, fun i z hz => h.at_ ?_⟩
  rw [List.getElem?_take] at hz
  split at hz
  · exact hz
  · cases hz
theorem HoldsS.drop {w : World} {P : Nat → Prop} {n c k b off : Nat} {l : List ByteArray} (h : HoldsS w P (.slice (some ⟨b, off, none⟩) n c) l) (hk : k ≤ n) : HoldsS w P (.slice (some ⟨b, off + k, none⟩) (n - k) (c - k)) (l.drop k) := by
  obtain ⟨h1, h2, h3⟩ := h.len
  refine ⟨_, c - k, by rw [List.length_drop, h1], by simp; omega, by omega, fun i z hz => ?_⟩
  rw [List.getElem?_drop] at hz
  obtain ⟨b', off', he, hp, hcc⟩ := h.at_ hz
  cases he
  exact ⟨b, off + k, rfl, hp, by rw [Nat.add_assoc]; exact hcc⟩
theorem HoldsS.empty (w : World) (P : Nat → Prop) (oa : Option Addr) : HoldsS w P (.slice oa 0 0) [] := ⟨oa, 0, rfl, Nat.le_refl _, by omega, fun i z h => by simp at h⟩
theorem run_src (ty : TypeId) {w : World} (H : Nat) (v : Value) (l : List ByteArray) (hown : OwnS w H v l) (oa : Option Addr) (m c : Nat) (news : List ByteArray) (hm : news.length = m)
    (hn : ∀ (j : Nat) z, news[j]? = some z → ∃ ad, oa = some ad ∧ w.cell? (ad.add j) = some (.string z)) (hlen : l.length + m ≤ 1000) (hH : H ≤ w.heap.size) :
    ∃ v' w', (Builtin.append_ #[29, 29] ty #[v, .slice oa m c]).run Try.prog w = .ok v' w' ∧ OwnS w' H v' (l ++ news) ∧ w.grownBy w' v.ownBlock ∧ (v'.ownBlock = v.ownBlock ∨ v'.ownBlock = some w.heap.size) := by
  obtain ⟨i0, hi, hz0, hz1, hz2⟩ := info_parts infoText
  cases oa with
  | none =>
    have hnil : news = [] := by
      cases news with
      | nil => rfl
      | cons z r =>
        obtain ⟨ad, he, _⟩ := hn 0 z rfl
        cases he
    subst hnil
    obtain rfl : m = 0 := hm.symm
    refine ⟨v, w, ?_, by simpa using hown, World.grownBy.refl w _, .inl rfl⟩
    rcases hown.2 with ⟨rfl, h0⟩ | ⟨g, cap, cur, rfl, _, _, hnc, _⟩
    · simp [Builtin.append_, run_underlying Try.underlying29, sizeOf, typeInfo, hi, Builtin.lenOf, Builtin.firstCells]
    · simp [Builtin.append_, run_underlying Try.underlying29, sizeOf, typeInfo, hi, Builtin.lenOf, Builtin.firstCells, hnc, storeCells]
  | some ad =>
    obtain ⟨v', w', hr, h1, h2, _, h3⟩ := run_append_own_at (P := Try.prog) w H 29 ty 9 i0 (.string ⟨#[]⟩) 1 16 Try.underlying29 hi hz0 hz1 hz2 rfl (by decide) v l.length (l.map Value.string) hown ad m c (news.map Value.string) (by simp [hm]) (fun j u hu => by
        simp only [List.getElem?_map, Option.map_eq_some_iff] at hu
        obtain ⟨z, hz, rfl⟩ := hu
        obtain ⟨ad', he, hc⟩ := hn j z hz
        cases he
        exact hc)
      (fun u hu => by simp only [List.mem_map] at hu; obtain ⟨z, _, rfl⟩ := hu; rfl) (by unfold maxLen; omega) (by omega) hH
    refine ⟨v', w', hr, ?_, h2, h3⟩
    unfold OwnS
    rw [List.length_append, List.map_append, hm]
    exact h1
theorem step_src {w : World} {ops : Array Oper} {o : Oper} {a : Act} {K : Act → World → Prop} {Q : Exit → Act → World → Prop} {E : Prop} (hgd : o.guard = none) (s x : Operand)
    (ho : o.op = .call { callee := .builtin .append, args := #[s, x], argTypes := #[29, 29] }) (H : Nat) (v : Value) (l : List ByteArray) (hs : a.eval s = v) (hown : OwnS w H v l)
    (oa : Option Addr) (m c : Nat) (hx : a.eval x = .slice oa m c) (news : List ByteArray) (hm : news.length = m) (hn : ∀ (j : Nat) z, news[j]? = some z → ∃ ad, oa = some ad ∧ w.cell? (ad.add j) = some (.string z))
    (hlen : l.length + m ≤ 1000) (hH : H ≤ w.heap.size) (h : ∀ v' w', OwnS w' H v' (l ++ news) → w.grownBy w' v.ownBlock → (v'.ownBlock = v.ownBlock ∨ v'.ownBlock = some w.heap.size) → K (a.put o.dst v') w') :
    if Region.wanted o (yielded ops a.tmps) = true then Oper.wp Try.prog o a w K Q else E := by
  have hw : Region.wanted o (yielded ops a.tmps) = true := by simp [Region.wanted, hgd]
  rw [if_pos hw]
  obtain ⟨v', w', hr, h1, h2, h3⟩ := run_src o.type H v l hown oa m c news hm hn hlen hH
  unfold Oper.wp execOp
  simp only [ho, resolve, invoke, builtin, Sem.run_bind, Sem.run_pure, Result.andThen_ok, List.map_toArray, List.map_cons, List.map_nil, hs, hx, hr]
  exact h v' w' h1 h2 h3

/-! ### Lists of terms -/
theorem RP.slice {w : World} {P : Nat → Prop} {n c : Nat} {oa : Option Addr} {l : List T} (h : RP w P (.slice oa n c) l) : l.length = n ∧ (n = 0 ∨ n ≤ c) ∧ n ≤ 9223372036854775807 ∧
    ∀ (i : Nat) v, l[i]? = some v → ∃ (b off : Nat) (oe : Option Addr) (ce : Nat), oa = some ⟨b, off, none⟩ ∧ P b ∧ w.cell? ⟨b, off + i * 2, none⟩ = some (.int .i64 v.r) ∧ w.cell? ⟨b, off + i * 2 + 1, none⟩ = some (.slice oe v.l.length ce) ∧ RP w P (.slice oe v.l.length ce) v.l := by
  generalize hx : Value.slice oa n c = x at h
  cases h with
  | empty oa' cap =>
    cases hx
    exact ⟨rfl, .inl rfl, by omega, fun i v hv => by simp at hv⟩
  | arr b off cap l sl hb hl hm hc hr =>
    cases hx
    refine ⟨rfl, .inr hl, hm, fun i v hv => ?_⟩
    obtain ⟨h0, h1⟩ := hc i v hv
    have hR := hr i v hv
    obtain ⟨oe, ce, he, _, _⟩ := hR.form
    rw [he] at h1 hR
    exact ⟨b, off, oe, ce, rfl, hb, h0, h1, hR⟩
theorem RP.mk {w : World} {P : Nat → Prop} {n c : Nat} {oa : Option Addr} {l : List T} (hn : l.length = n) (hnc : n ≤ c) (hm : n ≤ 9223372036854775807)
    (h : ∀ (i : Nat) v, l[i]? = some v → ∃ (b off : Nat) (s : Value), oa = some ⟨b, off, none⟩ ∧ P b ∧ w.cell? ⟨b, off + i * 2, none⟩ = some (.int .i64 v.r) ∧ w.cell? ⟨b, off + i * 2 + 1, none⟩ = some s ∧ RP w P s v.l) : RP w P (.slice oa n c) l := by
  subst hn
  by_cases hl : l.length = 0
  · have := List.eq_nil_of_length_eq_zero hl
    subst this
    exact .empty _ _
  · obtain ⟨b, off, s, rfl, hb, _⟩ := h 0 _ (List.getElem?_eq_getElem (by omega))
    refine .arr b off c l (fun i => (w.cell? ⟨b, off + i * 2 + 1, none⟩).getD .nilIface) hb hnc hm (fun i v hv => ?_) (fun i v hv => ?_)
    · obtain ⟨b', off', s', e, _, h0, h1, _⟩ := h i v hv
      cases e
      exact ⟨h0, by rw [h1]; rfl⟩
    · obtain ⟨b', off', s', e, _, h0, h1, h2⟩ := h i v hv
      cases e
      simp only [h1, Option.getD_some]
      exact h2
theorem RP.take {w : World} {P : Nat → Prop} {n c k : Nat} {oa : Option Addr} {l : List T} (h : RP w P (.slice oa n c) l) (hk : k ≤ n) : RP w P (.slice oa k c) (l.take k) := by
  obtain ⟨h1, h2, h3, h4⟩ := h.slice
  refine RP.mk (by simp; omega) (by omega) (by omega) fun i v hv => ?_
  rw [List.getElem?_take] at hv
  split at hv
  · obtain ⟨b, off, oe, ce, e, hb, c0, c1, hr⟩ := h4 i v hv
    exact ⟨b, off, _, e, hb, c0, c1, hr⟩
  · cases hv
theorem RP.drop {w : World} {P : Nat → Prop} {n c k b off : Nat} {l : List T} (h : RP w P (.slice (some ⟨b, off, none⟩) n c) l) (hk : k ≤ n) (hkc : n ≤ c) : RP w P (.slice (some ⟨b, off + k * 2, none⟩) (n - k) (c - k)) (l.drop k) := by
  obtain ⟨h1, h2, h3, h4⟩ := h.slice
  refine RP.mk (by simp; omega) (by omega) (by omega) fun i v hv => ?_
  rw [List.getElem?_drop] at hv
  obtain ⟨b', off', oe, ce, e, hb, c0, c1, hr⟩ := h4 (k + i) v hv
  cases e
  refine ⟨b, off + k * 2, _, rfl, hb, ?_, ?_, hr⟩
  · rw [show off + k * 2 + i * 2 = off + (k + i) * 2 by omega]; exact c0
  · rw [show off + k * 2 + i * 2 = off + (k + i) * 2 by omega]; exact c1

/-- The cells of terms. -/
def TmX (w : World) (P : Nat → Prop) (xs : List (Int × Value)) (ts : List T) : Prop := xs.length = ts.length ∧ ∀ (i : Nat) x t, xs[i]? = some x → ts[i]? = some t → x.1 = t.r ∧ RP w P x.2 t.l
theorem TmX.keep {w w' : World} {P P' : Nat → Prop} {xs : List (Int × Value)} {ts : List T} (h : TmX w P xs ts) (hw : ∀ k, P k → w'.heap[k]? = w.heap[k]?) (hP : ∀ k, P k → P' k) : TmX w' P' xs ts :=
  ⟨h.1, fun i x t hx ht => ⟨(h.2 i x t hx ht).1, (h.2 i x t hx ht).2.keep hw hP⟩⟩
theorem TmX.app {w : World} {P : Nat → Prop} {xs ys : List (Int × Value)} {ts us : List T} (h : TmX w P xs ts) (k : TmX w P ys us) : TmX w P (xs ++ ys) (ts ++ us) := by
  refine ⟨by simp [h.1, k.1], fun i x t hx ht => ?_⟩
  by_cases hi : i < xs.length
  · rw [List.getElem?_append_left hi] at hx
    rw [List.getElem?_append_left (by rw [← h.1]; exact hi)] at ht
    exact h.2 i x t hx ht
  · rw [List.getElem?_append_right (by omega)] at hx
    rw [List.getElem?_append_right (by rw [← h.1]; omega), ← h.1] at ht
    exact k.2 _ x t hx ht
theorem TmX.nil (w : World) (P : Nat → Prop) : TmX w P [] [] := ⟨rfl, fun i x t hx => by simp at hx⟩
theorem TmX.one {w : World} {P : Nat → Prop} {t : T} {s : Value} (h : RP w P s t.l) : TmX w P [(t.r, s)] [t] := ⟨rfl, fun i x u hx hu => by
  match i, hx, hu with
  | 0, hx, hu => simp at hx hu; subst hx hu; exact ⟨rfl, h⟩
  | i + 1, hx, _ => simp at hx⟩
theorem flatT_app (xs ys : List (Int × Value)) : flatT (xs ++ ys) = flatT xs ++ flatT ys := by simp [flatT]
theorem flatT_get (xs : List (Int × Value)) : ∀ (j : Nat) (u : Value), (flatT xs)[j]? = some u → ∃ x, xs[j / 2]? = some x ∧ ((j % 2 = 0 ∧ u = .int .i64 x.1) ∨ (j % 2 = 1 ∧ u = x.2)) := by
  induction xs with
  | nil => intro j u h; simp [flatT] at h
  | cons a xs ih =>
    intro j u h
    have e : flatT (a :: xs) = .int .i64 a.1 :: a.2 :: flatT xs := by simp [flatT]
    rw [e] at h
    match j, h with
    | 0, h => simp at h; exact ⟨a, rfl, .inl ⟨rfl, h.symm⟩⟩
    | 1, h => simp at h; exact ⟨a, rfl, .inr ⟨rfl, h.symm⟩⟩
    | j + 2, h =>
      simp at h
      obtain ⟨x, h1, h2⟩ := ih j u h
      refine ⟨x, ?_, ?_⟩
      · rw [show (j + 2) / 2 = j / 2 + 1 by omega]; exact h1
      · rw [show (j + 2) % 2 = j % 2 by omega]; exact h2
/-- The terms of a slice, cell by cell. -/
theorem RP.src {w : World} {P : Nat → Prop} {n c : Nat} {oa : Option Addr} {l : List T} (h : RP w P (.slice oa n c) l) : ∃ xs : List (Int × Value), xs.length = n ∧ TmX w P xs l ∧ (∀ (j : Nat) u, (flatT xs)[j]? = some u → ∃ ad, oa = some ad ∧ w.cell? (ad.add j) = some u) ∧ ∀ u ∈ flatT xs, u.oneCell' = true := by
  obtain ⟨h1, h2, h3, h4⟩ := h.slice
  obtain ⟨f, hf⟩ : ∃ f : Nat → Int × Value, ∀ (i : Nat) v, l[i]? = some v → (f i).1 = v.r ∧ (∃ oe ce, (f i).2 = .slice oe v.l.length ce) ∧ RP w P (f i).2 v.l ∧ ∃ b off, oa = some ⟨b, off, none⟩ ∧ w.cell? ⟨b, off + i * 2, none⟩ = some (.int .i64 (f i).1) ∧ w.cell? ⟨b, off + i * 2 + 1, none⟩ = some (f i).2 := by
    refine ⟨fun i => match oa, l[i]? with
      | some ad, some v => (v.r, (w.cell? ⟨ad.block, ad.off + i * 2 + 1, none⟩).getD .nilIface)
      | _, _ => (0, .nilIface), fun i v hv => ?_⟩
    obtain ⟨b, off, oe, ce, rfl, _, c0, c1, hr⟩ := h4 i v hv
    simp only [hv, c1, Option.getD_some]
    exact ⟨trivial, ⟨oe, ce, rfl⟩, hr, b, off, rfl, c0, c1⟩
  refine ⟨(List.range n).map f, by simp, ⟨by simp [h1], fun i x t hx ht => ?_⟩, fun j u hj => ?_, fun u hu => ?_⟩
  · have hi : i < n := by have := (List.getElem?_eq_some_iff.1 hx).1; simpa using this
    rw [List.getElem?_map, List.getElem?_range hi] at hx
    simp at hx
    subst hx
    obtain ⟨e1, _, e2, _⟩ := hf i t ht
    exact ⟨e1, e2⟩
  · obtain ⟨x, hx, hu⟩ := flatT_get _ j u hj
    have hi : j / 2 < n := by have := (List.getElem?_eq_some_iff.1 hx).1; simpa using this
    rw [List.getElem?_map, List.getElem?_range hi] at hx
    simp at hx
    subst hx
    obtain ⟨_, _, _, b, off, rfl, c0, c1⟩ := hf (j / 2) _ (List.getElem?_eq_getElem (by omega))
    have had : (⟨b, off, none⟩ : Addr).add j = ⟨b, off + j, none⟩ := by
      unfold Addr.add
      split
      · rename_i h0; subst h0; rfl
      · rfl
    refine ⟨_, rfl, ?_⟩
    rw [had]
    rcases hu with ⟨hm, rfl⟩ | ⟨hm, rfl⟩
    · rw [show off + j = off + j / 2 * 2 by omega]; exact c0
    · rw [show off + j = off + j / 2 * 2 + 1 by omega]; exact c1
  · obtain ⟨j, hj⟩ := List.getElem?_of_mem hu
    obtain ⟨x, hx, hu'⟩ := flatT_get _ j u hj
    have hi : j / 2 < n := by have := (List.getElem?_eq_some_iff.1 hx).1; simpa using this
    rw [List.getElem?_map, List.getElem?_range hi] at hx
    simp at hx
    subst hx
    obtain ⟨_, ⟨oe, ce, he⟩, _⟩ := hf (j / 2) _ (List.getElem?_eq_getElem (by omega))
    rcases hu' with ⟨_, rfl⟩ | ⟨_, rfl⟩
    · rfl
    · rw [he]; rfl
/-- A row of terms of the call's own, as a list of terms. -/
theorem own_rp {w : World} {base : Nat} {v : Value} {xs : List (Int × Value)} {ts : List T} {P : Nat → Prop} (h : w.ownsRow base 36 2 v xs.length (flatT xs)) (hx : TmX w P xs ts) (hP : ∀ g, base ≤ g → g < w.heap.size → P g) (hm : xs.length ≤ 1000) : RP w P v ts := by
  rcases h.2 with ⟨rfl, h0⟩ | ⟨g, cap, cur, rfl, hg, hh, hcap, hmx, hsz, htk⟩
  · have : ts = [] := List.eq_nil_of_length_eq_zero (by rw [← hx.1, h0])
    subst this
    exact .empty _ _
  · have hlt : g < w.heap.size := (Array.getElem?_eq_some_iff.1 hh).1
    refine RP.mk hx.1.symm hcap (by omega) fun i t ht => ?_
    have hi : i < xs.length := by rw [hx.1]; exact (List.getElem?_eq_some_iff.1 ht).1
    obtain ⟨e1, e2⟩ := hx.2 i _ t (List.getElem?_eq_getElem hi) ht
    obtain ⟨f0, f1⟩ := flatT_at xs i _ (List.getElem?_eq_getElem hi)
    have cc : ∀ (j : Nat) u, (flatT xs)[j]? = some u → w.cell? ⟨g, j, none⟩ = some u := fun j u hj => by
      have hjl : j < (flatT xs).length := (List.getElem?_eq_some_iff.1 hj).1
      rw [flatT_len] at hjl
      have h1 : cur.toList[j]? = some u := by
        rw [← htk, List.getElem?_take] at hj
        rw [if_pos (by omega)] at hj
        exact hj
      unfold World.cell?
      rw [hh]
      simpa using h1
    refine ⟨g, 0, xs[i].2, rfl, hP g hg hlt, ?_, ?_, e2⟩
    · rw [Nat.zero_add, ← e1]; exact cc _ _ f0
    · rw [Nat.zero_add]; exact cc _ _ f1
theorem run_tms (ty : TypeId) {w : World} (H : Nat) (v : Value) (xs ys : List (Int × Value)) (hown : w.ownsRow H 36 2 v xs.length (flatT xs)) (oa : Option Addr) (m c : Nat) (hm : ys.length = m)
    (hn : ∀ (j : Nat) u, (flatT ys)[j]? = some u → ∃ ad, oa = some ad ∧ w.cell? (ad.add j) = some u) (h1 : ∀ u ∈ flatT ys, u.oneCell' = true) (hlen : xs.length + m ≤ 1000) (hH : H ≤ w.heap.size) :
    ∃ v' w', (Builtin.append_ #[30, 30] ty #[v, .slice oa m c]).run Try.prog w = .ok v' w' ∧ w'.ownsRow H 36 2 v' (xs ++ ys).length (flatT (xs ++ ys)) ∧ w.grownBy w' v.ownBlock := by
  obtain ⟨i0, hi, hz0, hz1, hz2⟩ := info_parts infoTerm
  cases oa with
  | none =>
    have hnil : ys = [] := by
      cases ys with
      | nil => rfl
      | cons z r =>
        obtain ⟨ad, he, _⟩ := hn 0 (.int .i64 z.1) rfl
        cases he
    subst hnil
    obtain rfl : m = 0 := hm.symm
    refine ⟨v, w, ?_, by simpa using hown, World.grownBy.refl w _⟩
    rcases hown.2 with ⟨rfl, h0⟩ | ⟨g, cap, cur, rfl, _, _, hnc, _⟩
    · simp [Builtin.append_, run_underlying Try.underlying30, sizeOf, typeInfo, hi, Builtin.lenOf, Builtin.firstCells]
    · simp [Builtin.append_, run_underlying Try.underlying30, sizeOf, typeInfo, hi, Builtin.lenOf, Builtin.firstCells, hnc, storeCells]
  | some ad =>
    obtain ⟨v', w', hr, g1, g2, _⟩ := run_append_own (P := Try.prog) w H 30 ty 36 i0 (.agg #[.int .i64 0, .slice none 0 0]) 2 32 Try.underlying30 hi hz0 hz1 hz2 rfl (by decide) v xs.length (flatT xs) hown ad m c (flatT ys) (by rw [flatT_len, hm]) (fun j u hu => by
        obtain ⟨ad', he, hc⟩ := hn j u hu
        cases he
        exact hc) h1 (by unfold maxLen; omega) (by omega) hH
    refine ⟨v', w', hr, ?_, g2⟩
    rw [List.length_append, hm, flatT_app]
    exact g1
theorem step_tms {w : World} {ops : Array Oper} {o : Oper} {a : Act} {K : Act → World → Prop} {Q : Exit → Act → World → Prop} {E : Prop} (hgd : o.guard = none) (s x : Operand)
    (ho : o.op = .call { callee := .builtin .append, args := #[s, x], argTypes := #[30, 30] }) (H : Nat) (v : Value) (xs ys : List (Int × Value)) (hs : a.eval s = v) (hown : w.ownsRow H 36 2 v xs.length (flatT xs))
    (oa : Option Addr) (m c : Nat) (hx : a.eval x = .slice oa m c) (hm : ys.length = m) (hn : ∀ (j : Nat) u, (flatT ys)[j]? = some u → ∃ ad, oa = some ad ∧ w.cell? (ad.add j) = some u) (h1 : ∀ u ∈ flatT ys, u.oneCell' = true)
    (hlen : xs.length + m ≤ 1000) (hH : H ≤ w.heap.size) (h : ∀ v' w', w'.ownsRow H 36 2 v' (xs ++ ys).length (flatT (xs ++ ys)) → w.grownBy w' v.ownBlock → K (a.put o.dst v') w') :
    if Region.wanted o (yielded ops a.tmps) = true then Oper.wp Try.prog o a w K Q else E := by
  have hw : Region.wanted o (yielded ops a.tmps) = true := by simp [Region.wanted, hgd]
  rw [if_pos hw]
  obtain ⟨v', w', hr, g1, g2⟩ := run_tms o.type H v xs ys hown oa m c hm hn h1 hlen hH
  unfold Oper.wp execOp
  simp only [ho, resolve, invoke, builtin, Sem.run_bind, Sem.run_pure, Result.andThen_ok, List.map_toArray, List.map_cons, List.map_nil, hs, hx, hr]
  exact h v' w' g1 g2
theorem appendT_src {w : World} {ops : Array Oper} {rest : List Oper} {o : Oper} {a : Act} {Q : Exit → Act → World → Prop} (hgd : o.guard = none) (s x : Operand)
    (ho : o.op = .call { callee := .builtin .append, args := #[s, x], argTypes := #[30, 30] }) (H : Nat) (v : Value) (xs ys : List (Int × Value)) (hs : a.eval s = v) (hown : w.ownsRow H 36 2 v xs.length (flatT xs))
    (oa : Option Addr) (m c : Nat) (hx : a.eval x = .slice oa m c) (hm : ys.length = m) (hn : ∀ (j : Nat) u, (flatT ys)[j]? = some u → ∃ ad, oa = some ad ∧ w.cell? (ad.add j) = some u) (h1 : ∀ u ∈ flatT ys, u.oneCell' = true)
    (hlen : xs.length + m ≤ 1000) (hH : H ≤ w.heap.size) (h : ∀ v' w', w'.ownsRow H 36 2 v' (xs ++ ys).length (flatT (xs ++ ys)) → w.grownBy w' v.ownBlock → wpList Try.prog ops Q rest (a.put o.dst v') w') : wpList Try.prog ops Q (o :: rest) a w := by
  refine wpList_plain hgd fun K hK => ?_
  obtain ⟨v', w', hr, g1, g2⟩ := run_tms o.type H v xs ys hown oa m c hm hn h1 hlen hH
  unfold Oper.wp execOp
  simp only [ho, resolve, invoke, builtin, Sem.run_bind, Sem.run_pure, Result.andThen_ok, List.map_toArray, List.map_cons, List.map_nil, hs, hx, hr]
  exact hK _ _ (h v' w' g1 g2)

/-! ### The state -/
abbrev stV (cap h m r : Int) (xk xt : Value) : Value := .agg #[.int .i64 cap, xk, xt, .int .i64 h, .int .i64 m, .int .i64 r]
/-- The slices of a state hold the keys and the programs, in blocks of G. -/
def RefQ (w : World) (G : Nat → Prop) (xk xt : Value) (q : List Ent) : Prop := HoldsS w G xk (q.map Prod.fst) ∧ RP w G xt (q.map Prod.snd)
theorem RefQ.keep {w w' : World} {G G' : Nat → Prop} {xk xt : Value} {q : List Ent} (h : RefQ w G xk xt q) (hw : ∀ k, G k → w'.heap[k]? = w.heap[k]?) (hG : ∀ k, G k → G' k) : RefQ w' G' xk xt q :=
  ⟨h.1.keep (fun b hb _ => hG b hb) (fun b o hb _ => World.cell?_of_block (w := w) (a := ⟨b, o, none⟩) (hw b hb)), h.2.keep hw hG⟩
theorem RefQ.form {w : World} {G : Nat → Prop} {xk xt : Value} {q : List Ent} (h : RefQ w G xk xt q) : ∃ ok ck ot ct, xk = .slice ok q.length ck ∧ xt = .slice ot q.length ct ∧ q.length ≤ ck ∧ q.length ≤ ct ∧ ck ≤ 9223372036854775807 := by
  obtain ⟨ok, ck, e1, h1, h2⟩ := h.1.form
  obtain ⟨ot, ct, e2, h3, _⟩ := h.2.form
  rw [List.length_map] at e1 e2 h1 h3
  exact ⟨ok, ck, ot, ct, e1, e2, h1, h3, h2⟩

end Go.Proofs.Ytbimpfciadbnjaa
