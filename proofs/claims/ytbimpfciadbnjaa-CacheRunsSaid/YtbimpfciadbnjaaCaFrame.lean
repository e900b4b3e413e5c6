/-
  How an argument that is a list of calls opens; what a list of calls is in memory. Nothing is assumed.
-/
import Derived.Test.YtbimpfciadbnjaaTmFrame
import Derived.Test.YtbimpfciadbnjaaCaPure
namespace Go.Proofs.Ytbimpfciadbnjaa
open Go.ChangeShapes Go.WideShapes Go.ChangeAt Go.RowKit Go.Deep

theorem cStr : Try.prog.cellsOf 9 = 1 := by kernel_rfl
theorem cOp : Try.prog.cellsOf 38 = 4 := by kernel_rfl

section
variable {H : Type} {enc : TypeId × Value → H} {P : Program} {w : World} {base : Nat} {sp : Nat → Bool} {held : Bool} {tl te : TypeId}

/-- A slice whose elements take n cells each. -/
theorem open_slice_gen {α : Type} [Inhabited α] (n : Nat) (hn : 0 < n) (hs : P.underlying tl = some (.slice te)) (hc : P.cellsOf te = n) (R : α → List Value → Prop)
    (hR : ∀ (fuel : Nat) (cs : List Value) (x : DataW H × List MemPlace), DataW.trod enc P w base sp held fuel te cs = some x → ∃ a, R a cs)
    (fuel : Nat) (c : Value) (x : DataW H × List MemPlace) (h : DataW.trod enc P w base sp held fuel tl [c] = some x) :
    ∃ (l : List α) (oa : Option Addr) (cap : Nat), c = .slice oa l.length cap ∧ l.length ≤ cap ∧ cap ≤ 9223372036854775807 ∧
      ∀ i a, l[i]? = some a → ∃ (b off : Nat) (cs : List Value), oa = some ⟨b, off, none⟩ ∧ b < w.heap.size ∧ R a cs ∧ cs.length = n ∧ ∀ j, j < n → w.cell? ⟨b, off + i * n + j, none⟩ = cs[j]? := by
  rcases DataW.trod_slice hs h with ⟨e, _⟩ | ⟨a, len, cap, elems, rest, k, hk, e, _, hb, hlc, hm, hle, hel, _, _⟩
  · simp at e
    exact ⟨[], none, 0, e, Nat.le_refl _, by omega, fun i a h => by simp at h⟩
  · simp at e
    rw [hc] at hel
    have step : ∀ i, i < len → ∃ ac : α × List Value, R ac.1 ac.2 ∧ ac.2.length = n ∧ ∀ j, j < n → w.cell? (a.add (i * n + j)) = ac.2[j]? := by
      intro i hi
      have h := hel i hi
      rw [List.getElem?_eq_getElem (by omega)] at h
      obtain ⟨cs', hc', ht'⟩ := Option.bind_eq_some_iff.1 h
      obtain ⟨v, hv⟩ := hR _ _ _ ht'
      obtain ⟨_, hl', hcell⟩ := World.cells?_some hc'
      exact ⟨(v, cs'), hv, hl', fun j hj => by have := hcell j hj; rwa [add_add] at this⟩
    haveI : Inhabited (α × List Value) := ⟨(default, [])⟩
    obtain ⟨l, hll, hall⟩ := vals_of len (fun i (ac : α × List Value) => R ac.1 ac.2 ∧ ac.2.length = n ∧ ∀ j, j < n → w.cell? (a.add (i * n + j)) = ac.2[j]?) step
    refine ⟨l.map (·.1), some a, cap, by rw [e]; simp [hll], by simp; omega, by unfold maxLen at hm; omega, fun i u hu => ?_⟩
    simp only [List.getElem?_map, Option.map_eq_some_iff] at hu
    obtain ⟨ac, hac, rfl⟩ := hu
    obtain ⟨h1, h2, h3⟩ := hall i ac hac
    obtain ⟨b, off, spot⟩ := a
    have h30 := h3 0 hn
    rw [List.getElem?_eq_getElem (by omega)] at h30
    have hl0 : 0 < l.length := by have := (List.getElem?_eq_some_iff.1 hac).1; omega
    obtain ⟨_, f2, f3⟩ := hall 0 _ (List.getElem?_eq_getElem hl0)
    have f30 := f3 0 hn
    rw [List.getElem?_eq_getElem (by omega)] at f30
    have hspot : spot = none := by
      have := World.cell?_spot f30
      simpa [Addr.add] using this
    subst hspot
    rw [add_plain] at h30
    have hblt : b < w.heap.size := by
      have := World.block_lt_of_cell? _ _ h30
      simpa using this
    refine ⟨b, off, ac.2, rfl, hblt, h1, h2, fun j hj => ?_⟩
    have := h3 j hj
    rw [add_plain] at this
    rw [Nat.add_assoc]
    exact this
end

/-- A call of the law's: its kind, its key, its term. -/
structure Cl where
  kd : Int
  k : ByteArray
  t : T
instance : Inhabited Cl := ⟨⟨0, ⟨#[]⟩, .mk 0 []⟩⟩
/-- The slice value holds the calls. -/
def HoldsO (w : World) (B : Nat) (x : Value) (l : List Cl) : Prop :=
  ∃ (oa : Option Addr) (cap : Nat), x = .slice oa l.length cap ∧ l.length ≤ cap ∧ cap ≤ 9223372036854775807 ∧
    ∀ (i : Nat) c, l[i]? = some c → ∃ b off : Nat, oa = some ⟨b, off, none⟩ ∧ b < B ∧ w.cell? ⟨b, off + i * 4, none⟩ = some (.int .i64 c.kd) ∧ w.cell? ⟨b, off + i * 4 + 1, none⟩ = some (.string c.k) ∧ w.cell? ⟨b, off + i * 4 + 2, none⟩ = some (.int .i64 c.t.r) ∧ ∃ s, w.cell? ⟨b, off + i * 4 + 3, none⟩ = some s ∧ Rep w B s c.t.l
theorem HoldsO.form {w : World} {B : Nat} {x : Value} {l : List Cl} (h : HoldsO w B x l) : ∃ oa cap, x = .slice oa l.length cap ∧ l.length ≤ cap ∧ cap ≤ 9223372036854775807 := by
  obtain ⟨oa, cap, rfl, h1, h2, _⟩ := h
  exact ⟨oa, cap, rfl, h1, h2⟩
theorem HoldsO.at_ {w : World} {B n c i : Nat} {oa : Option Addr} {l : List Cl} {u : Cl} (h : HoldsO w B (.slice oa n c) l) (hu : l[i]? = some u) : ∃ (b off : Nat) (os : Option Addr) (cs : Nat), oa = some ⟨b, off, none⟩ ∧ b < B ∧ w.cell? ⟨b, off + i * 4, none⟩ = some (.int .i64 u.kd) ∧ w.cell? ⟨b, off + i * 4 + 1, none⟩ = some (.string u.k) ∧ w.cell? ⟨b, off + i * 4 + 2, none⟩ = some (.int .i64 u.t.r) ∧
    w.cell? ⟨b, off + i * 4 + 3, none⟩ = some (.slice os u.t.l.length cs) ∧ Rep w B (.slice os u.t.l.length cs) u.t.l := by
  obtain ⟨oa', cap, he, _, _, hel⟩ := h
  cases he
  obtain ⟨b, off, rfl, hb, h0, h1, h2, s, h3, h4⟩ := hel i u hu
  obtain ⟨os, cs, rfl, _, _⟩ := h4.form
  exact ⟨b, off, os, cs, rfl, hb, h0, h1, h2, h3, h4⟩
theorem HoldsO.later {w w' : World} {B : Nat} {x : Value} {l : List Cl} (h : HoldsO w B x l) (hb : Below B w w') : HoldsO w' B x l := by
  obtain ⟨oa, cap, rfl, hl, hm, hel⟩ := h
  refine ⟨oa, cap, rfl, hl, hm, fun i c hc => ?_⟩
  obtain ⟨b, off, rfl, hlt, h0, h1, h2, s, h3, h4⟩ := hel i c hc
  exact ⟨b, off, rfl, hlt, (hb.cell (p := ⟨b, _, none⟩) hlt).trans h0, (hb.cell (p := ⟨b, _, none⟩) hlt).trans h1, (hb.cell (p := ⟨b, _, none⟩) hlt).trans h2, s, (hb.cell (p := ⟨b, _, none⟩) hlt).trans h3, h4.later hb⟩

section
variable {H : Type} {enc : TypeId × Value → H} {w : World} {base : Nat} {sp : Nat → Bool} {held : Bool}
set_option maxRecDepth 100000 in
theorem opensO (fuel : Nat) (c : Value) (x : DataW H × List MemPlace) (h : DataW.trod enc Try.prog w base sp held fuel 22 [c] = some x) : ∃ l : List Cl, HoldsO w w.heap.size c l := by
  obtain ⟨l, oa, cap, rfl, h1, h2, h3⟩ := open_slice_gen (α := Cl) 4 (by decide) Try.underlying22 cOp
    (fun r cs => ∃ s, cs = [.int .i64 r.kd, .string r.k, .int .i64 r.t.r, s] ∧ Rep w w.heap.size s r.t.l) (fun fuel cs x h => by
    obtain ⟨xs, n, hfu, rfl, hl, hlen, hf⟩ := DataW.trod_struct Try.underlying38 h
    rw [cOp] at hl
    match cs, hl with
    | [a0, a1, a2, a3], _ =>
      have hx : xs.length = 3 := hlen
      match xs, hx with
      | [x0, x1, x2], _ =>
        have g0 : DataW.trod enc Try.prog w base sp held n 3 (([a0, a1, a2, a3].drop 0).take (Try.prog.cellsOf 3)) = some x0 := hf 0 _ rfl
        have g1 : DataW.trod enc Try.prog w base sp held n 9 (([a0, a1, a2, a3].drop 1).take (Try.prog.cellsOf 9)) = some x1 := hf 1 _ rfl
        have g2 : DataW.trod enc Try.prog w base sp held n 36 (([a0, a1, a2, a3].drop 2).take (Try.prog.cellsOf 36)) = some x2 := hf 2 _ rfl
        rw [cIntT] at g0
        rw [cStr] at g1
        rw [cTerm] at g2
        obtain ⟨z0, e0, _, _⟩ := DataW.trod_int Try.underlying3 g0
        obtain ⟨s, e1, _, _⟩ := DataW.trod_string Try.underlying9 g1
        obtain ⟨v, sl, e2, hv⟩ := open_cells_gen Try.underlying36 Try.underlying3 Try.underlying30 rfl rfl cIntT cTerms cTerm _ _ _ g2
        have e0' : a0 = .int .i64 z0 := by simpa using e0
        have e1' : a1 = .string s := by simpa using e1
        have e2' : a2 = .int .i64 v.r ∧ a3 = sl := by simpa using e2
        obtain ⟨q1, q2⟩ := e2'
        subst e0' e1' q1 q2
        exact ⟨⟨z0, s, v⟩, _, rfl, hv⟩) fuel c x h
  refine ⟨l, oa, cap, rfl, h1, h2, fun i r hr => ?_⟩
  obtain ⟨b, off, cs, e1, e2, ⟨s, rfl, hs⟩, _, e3⟩ := h3 i r hr
  have k0 := e3 0 (by decide)
  have k1 := e3 1 (by decide)
  have k2 := e3 2 (by decide)
  have k3 := e3 3 (by decide)
  exact ⟨b, off, e1, e2, by simpa using k0, by simpa using k1, by simpa using k2, s, by simpa using k3, hs⟩
end

/-- An argument that is a list of calls. -/
theorem open_ops {H : Type} {enc : TypeId × Value → H} {W : World} {base : Nat} {v0 : Value} {d0 : DataW H} {p0 : List MemPlace} (hv : Value.okWide Try.prog W .any base 22 v0)
    (h : DataW.Trod enc Try.prog W 0 (fun _ => true) true 22 v0 d0 p0) : ∃ l : List Cl, HoldsO W W.heap.size v0 l := by
  obtain ⟨a0, len, cap, rfl⟩ := okWide_slice Try.underlying22 hv
  obtain ⟨fuel, hf⟩ := h
  exact opensO fuel _ _ hf

end Go.Proofs.Ytbimpfciadbnjaa
