/-
  add and of of the specification: the machine of a tree. Nothing is assumed.
-/
import Derived.Test.YtaipaddfehpmgaaDoorRsA
import Derived.Test.YtaipaddfehpmgaaDoorGlD
import Derived.Test.YtaipaddfehpmgaaDoorPtAddP
import Derived.Deep.RegionHeld3
import Derived.Deep.DeepCutAuto
namespace Go.Proofs.YtaipaddfehpmgaaDoor
open Go.RowKit

/-- Two parts, one behind the other. -/
def rJoin (p q : Pa) : Pa := ⟨p.e && q.e, if p.e = true then orS p.f q.f else p.f, if q.e = true then orS p.t q.t else q.t⟩
mutual
/-- add: the positions of a tree behind those that there are. -/
def rAdd (m : List S4 × List Int) : PT → (List S4 × List Int) × Pa
  | .mk k s l => if k = 1 then (m, .zero) else if k = 2 then (m, ⟨true, 0, 0⟩) else if k = 3 then ((m.1 ++ [s], m.2 ++ [0]), ⟨false, oneS m.1.length, oneS m.1.length⟩) else if k = 6 then rRep m l else rSeq (k == 5) m ⟨k == 4, 0, 0⟩ l
def rSeq (alt : Bool) (m : List S4 × List Int) (p : Pa) : List PT → (List S4 × List Int) × Pa
  | [] => (m, p)
  | t :: l => let r := rAdd m t; if alt = true then rSeq alt r.1 (altS p r.2) l else rSeq alt (r.1.1, lnkL p.t r.2.f r.1.2) (rJoin p r.2) l
def rRep (m : List S4 × List Int) : List PT → (List S4 × List Int) × Pa
  | [] => (m, .zero)
  | t :: _ => let r := rAdd m t; ((r.1.1, lnkL r.2.t r.2.f r.1.2), ⟨true, r.2.f, r.2.t⟩)
end
theorem rAdd_eq (m : List S4 × List Int) (t : PT) : rAdd m t = if t.k = 1 then (m, .zero) else if t.k = 2 then (m, ⟨true, 0, 0⟩) else if t.k = 3 then ((m.1 ++ [t.s], m.2 ++ [0]), ⟨false, oneS m.1.length, oneS m.1.length⟩) else if t.k = 6 then rRep m t.l else rSeq (t.k == 5) m ⟨t.k == 4, 0, 0⟩ t.l := by
  cases t with
  | mk k s l => rw [rAdd]; rfl
theorem rSeq_cons (alt : Bool) (m : List S4 × List Int) (p : Pa) (t : PT) (l : List PT) : rSeq alt m p (t :: l) = if alt = true then rSeq alt (rAdd m t).1 (altS p (rAdd m t).2) l else rSeq alt ((rAdd m t).1.1, lnkL p.t (rAdd m t).2.f (rAdd m t).1.2) (rJoin p (rAdd m t).2) l := by rw [rSeq]
theorem u_zero6 : U6 0 := ⟨by decide, by decide⟩
/-- The sets of positions of a part are numbers of 64 bits. -/
def PU (p : Pa) : Prop := U6 p.f ∧ U6 p.t
theorem rJoin_u {p q : Pa} (hp : PU p) (hq : PU q) : PU (rJoin p q) := by
  unfold rJoin
  refine ⟨?_, ?_⟩
  · show U6 (if p.e = true then orS p.f q.f else p.f)
    split
    · exact or_u _ _
    · exact hp.1
  · show U6 (if q.e = true then orS p.t q.t else q.t)
    split
    · exact or_u _ _
    · exact hq.2
theorem rAdd_u (t : PT) : ∀ m, PU (rAdd m t).2 := by
  induction t using PT.ind with
  | h t ih =>
  intro m
  have hseq : ∀ (l : List PT) (alt : Bool) (m : List S4 × List Int) (p : Pa), (∀ x, x ∈ l → ∀ m, PU (rAdd m x).2) → PU p → PU (rSeq alt m p l).2 := by
    intro l
    induction l with
    | nil => intro alt m p _ hp; rw [rSeq]; exact hp
    | cons x l ihl =>
      intro alt m p hx hp
      rw [rSeq_cons]
      have h1 := hx x (List.mem_cons_self ..) m
      split
      · exact ihl alt _ _ (fun y hy => hx y (List.mem_cons_of_mem _ hy)) ⟨or_u _ _, or_u _ _⟩
      · exact ihl alt _ _ (fun y hy => hx y (List.mem_cons_of_mem _ hy)) (rJoin_u hp h1)
  rw [rAdd_eq]
  split
  · exact ⟨u_zero6, u_zero6⟩
  split
  · exact ⟨u_zero6, u_zero6⟩
  split
  · exact ⟨one_U _, one_U _⟩
  split
  · revert ih
    generalize t.l = l
    intro ih
    cases l with
    | nil => exact ⟨u_zero6, u_zero6⟩
    | cons x l => rw [rRep]; exact ih x (List.mem_cons_self ..) m
  · exact hseq t.l _ _ _ ih ⟨u_zero6, u_zero6⟩
theorem rAdd_len (t : PT) : ∀ m, (rAdd m t).1.1.length ≤ m.1.length + t.lv := by
  induction t using PT.ind with
  | h t ih =>
  intro m
  have hseq : ∀ (l : List PT) (alt : Bool) (m : List S4 × List Int) (p : Pa), (∀ x, x ∈ l → ∀ m, (rAdd m x).1.1.length ≤ m.1.length + x.lv) → (rSeq alt m p l).1.1.length ≤ m.1.length + PT.lvs l := by
    intro l
    induction l with
    | nil => intro alt m p _; rw [rSeq]; exact Nat.le_add_right _ _
    | cons x l ihl =>
      intro alt m p hx
      rw [rSeq_cons, PT.lvs_cons]
      have h1 := hx x (List.mem_cons_self ..) m
      split
      · have := ihl alt (rAdd m x).1 (altS p (rAdd m x).2) (fun y hy => hx y (List.mem_cons_of_mem _ hy))
        omega
      · have := ihl alt ((rAdd m x).1.1, lnkL p.t (rAdd m x).2.f (rAdd m x).1.2) (rJoin p (rAdd m x).2) (fun y hy => hx y (List.mem_cons_of_mem _ hy))
        dsimp only at this
        omega
  rw [rAdd_eq, PT.lv_eq]
  split
  · exact Nat.le_add_right _ _
  split
  · exact Nat.le_add_right _ _
  split
  · show (m.1 ++ [t.s]).length ≤ _
    rw [List.length_append, List.length_singleton]
    omega
  split
  · revert ih
    generalize t.l = l
    intro ih
    cases l with
    | nil => exact Nat.le_add_right _ _
    | cons x l =>
      rw [rRep, PT.lvs_cons]
      have := ih x (List.mem_cons_self ..) m
      show (rAdd m x).1.1.length ≤ _
      omega
  · have := hseq t.l (t.k == 5) m ⟨t.k == 4, 0, 0⟩ ih
    omega

/-- A part in a block of its own. -/
def P3 (w : World) (n : Nat) (p : Pa) : Prop := w.heap[n]? = some (.cells #[.bool p.e, .int .u64 p.f, .int .u64 p.t] 64 (0, 0))
theorem P3.cells {w : World} {n : Nat} {p : Pa} (h : P3 w n p) : w.cell? ⟨n, 0, none⟩ = some (.bool p.e) ∧ w.cell? ⟨n, 1, none⟩ = some (.int .u64 p.f) ∧ w.cell? ⟨n, 2, none⟩ = some (.int .u64 p.t) := by
  unfold World.cell?
  rw [h]
  exact ⟨rfl, rfl, rfl⟩
theorem P3.free {w : World} {n : Nat} {p : Pa} (h : P3 w n p) (k : Nat) : w.frozen? ⟨n, k, none⟩ = false := by unfold World.frozen?; rw [h]; simp
theorem P3.lt {w : World} {n : Nat} {p : Pa} (h : P3 w n p) : n < w.heap.size := (Array.getElem?_eq_some_iff.1 h).1
theorem P3.new (w : World) (p : Pa) : P3 (w.alloc (.cells #[.bool p.e, .int .u64 p.f, .int .u64 p.t] 64)) w.heap.size p := by
  show (w.heap.push _)[w.heap.size]? = some _
  rw [Array.getElem?_push, if_pos rfl]
theorem P3.set {w : World} {n : Nat} {p : Pa} (h : P3 w n p) (e : Bool) (f t : Int) : P3 (((w.setCell ⟨n, 0, none⟩ (.bool e)).setCell ⟨n, 1, none⟩ (.int .u64 f)).setCell ⟨n, 2, none⟩ (.int .u64 t)) n ⟨e, f, t⟩ := by
  unfold P3 at *
  simp [World.setCell, Array.getElem?_modify, h]
theorem P3.set0 {w : World} {n : Nat} {p : Pa} (h : P3 w n p) (e : Bool) : P3 (w.setCell ⟨n, 0, none⟩ (.bool e)) n ⟨e, p.f, p.t⟩ := by
  unfold P3 at *
  simp [World.setCell, Array.getElem?_modify, h]
theorem P3.later {w w' : World} {n B : Nat} {p : Pa} (h : P3 w n p) (hb : Below B w w') (hn : n < B) : P3 w' n p := (hb.block n hn).trans h
theorem M5.free {w : World} {n : Nat} {p : Pa} {x y : Value} (h : M5 w n p x y) (k : Nat) : w.frozen? ⟨n, k, none⟩ = false := by unfold World.frozen?; rw [h]; simp
theorem M5.set {w : World} {n : Nat} {p : Pa} {x y : Value} (h : M5 w n p x y) (q : Pa) (u v : Value) : M5 (((((w.setCell ⟨n, 0, none⟩ (.bool q.e)).setCell ⟨n, 1, none⟩ (.int .u64 q.f)).setCell ⟨n, 2, none⟩ (.int .u64 q.t)).setCell ⟨n, 3, none⟩ u).setCell ⟨n, 4, none⟩ v) n q u v := by
  unfold M5 at *
  simp [World.setCell, Array.getElem?_modify, h]
theorem below3s {B n : Nat} {w w1 : World} (h : Below B w w1) (hn : B ≤ n) (a b c : Value) : Below B w (((w1.setCell ⟨n, 0, none⟩ a).setCell ⟨n, 1, none⟩ b).setCell ⟨n, 2, none⟩ c) :=
  (((h.setCell (p := ⟨n, 0, none⟩) hn a).setCell (p := ⟨n, 1, none⟩) hn b).setCell (p := ⟨n, 2, none⟩) hn c)
theorem below5s {B n : Nat} {w w1 : World} (h : Below B w w1) (hn : B ≤ n) (a b c d e : Value) : Below B w (((((w1.setCell ⟨n, 0, none⟩ a).setCell ⟨n, 1, none⟩ b).setCell ⟨n, 2, none⟩ c).setCell ⟨n, 3, none⟩ d).setCell ⟨n, 4, none⟩ e) :=
  ((((h.setCell (p := ⟨n, 0, none⟩) hn a).setCell (p := ⟨n, 1, none⟩) hn b).setCell (p := ⟨n, 2, none⟩) hn c).setCell (p := ⟨n, 3, none⟩) hn d).setCell (p := ⟨n, 4, none⟩) hn e
/-- What add returns. -/
def RAddR (p : Pa) (r : (List S4 × List Int) × Pa) (w : World) (e : Ending) (w' : World) : Prop :=
  (∃ o1 c1 o2 c2, e = .returned (.tuple #[mV p (.slice o1 r.1.1.length c1) (.slice o2 r.1.2.length c2), r.2.val]) ∧ RM w' w'.heap.size o1 o2 r.1.1 r.1.2) ∧ Below w.heap.size w w'
/-- The zero machine and the zero part. -/
def zM : Obj := .cells #[.bool false, .int .u64 0, .int .u64 0, .slice none 0 0, .slice none 0 0] 68
def zP : Obj := .cells #[.bool false, .int .u64 0, .int .u64 0] 64
section
theorem step_app {w : World} {ops : Array Oper} {o : Oper} {a : Act} {K : Act → World → Prop} {Q : Exit → Act → World → Prop} {E : Prop} (hgd : o.guard = none) (s x : Operand) (t e : TypeId)
    (ho : o.op = .call { callee := .builtin .append, args := #[s, x], argTypes := #[t, t] }) (H : Nat) (i : TypeInfo) (z : Value) (size bytes : Nat) (ht : Tryd.prog.underlying t = some (.slice e)) (hi : Tryd.prog.info? e = some i) (hz : i.zero = some z)
    (hsize : i.size = size) (hby : i.bytes = bytes) (hzs : z.cells.size = size) (hsz : 0 < size) (hb : bytes ≤ 1000) (v : Value) (n : Nat) (xs : List Value) (hs : a.eval s = v) (hown : w.ownsRow H e size v n xs)
    (oa : Option Addr) (m c : Nat) (hx : a.eval x = .slice oa m c) (news : List Value) (hm : news.length = m * size) (hn : ∀ (j : Nat) u, news[j]? = some u → ∃ ad, oa = some ad ∧ w.cell? (ad.add j) = some u) (h1 : ∀ u ∈ news, u.oneCell' = true)
    (hlen : n + m ≤ 1000) (hH : H ≤ w.heap.size) (h : ∀ v' w', w'.ownsRow H e size v' (n + m) (xs ++ news) → w.grownBy w' v.ownBlock → K (a.put o.dst v') w') :
    if Region.wanted o (yielded ops a.tmps) = true then Oper.wp Tryd.prog o a w K Q else E := by
  have hw : Region.wanted o (yielded ops a.tmps) = true := by simp [Region.wanted, hgd]
  rw [if_pos hw]
  cases oa with
  | none =>
    have hnil : news = [] := by
      cases news with
      | nil => rfl
      | cons z r =>
        obtain ⟨ad, he, _⟩ := hn 0 z rfl
        cases he
    subst hnil
    obtain rfl : m = 0 := by
      rcases Nat.eq_zero_or_pos m with h0 | h0
      · exact h0
      · have := Nat.mul_pos h0 hsz
        simp at hm
        omega
    have hrun : (Builtin.append_ #[t, t] o.type #[v, .slice none 0 c]).run Tryd.prog w = .ok v w := by
      rcases hown.2 with ⟨rfl, h0⟩ | ⟨g, cap, cur, rfl, _, _, hnc, _⟩
      · simp [Builtin.append_, run_underlying ht, sizeOf, typeInfo, hi, Builtin.lenOf, Builtin.firstCells]
      · simp [Builtin.append_, run_underlying ht, sizeOf, typeInfo, hi, Builtin.lenOf, Builtin.firstCells, hnc, storeCells]
    unfold Oper.wp
    simp [execOp, ho, resolve, invoke, builtin, hs, hx, hrun, Result.andThen]
    exact h v w (by simpa using hown) (World.grownBy.refl w _)
  | some ad =>
    have hbb : (n + m) * bytes ≤ 140737488355328 := Nat.le_trans (Nat.mul_le_mul hlen hb) (by decide)
    obtain ⟨v', w', hr, k1, k2, _, _⟩ := run_append_own_at (P := Tryd.prog) w H t o.type e i z size bytes ht hi hz hsize hby hzs hsz v n xs hown ad m c news hm (fun j u hu => by
        obtain ⟨ad', he, hc⟩ := hn j u hu
        cases he
        exact hc)
      h1 (by unfold maxLen; omega) hbb hH
    unfold Oper.wp execOp
    simp only [ho, resolve, invoke, builtin, Sem.run_bind, Sem.run_pure, Result.andThen_ok, List.map_toArray, List.map_cons, List.map_nil, hs, hx, hr]
    exact h v' w' k1 k2
end
theorem al4 (w : World) (a b c d : Obj) : ((((w.alloc a).alloc b).alloc c).alloc d).heap[w.heap.size]? = some a ∧ ((((w.alloc a).alloc b).alloc c).alloc d).heap[w.heap.size + 1]? = some b ∧ ((((w.alloc a).alloc b).alloc c).alloc d).heap[w.heap.size + 2]? = some c ∧
    ((((w.alloc a).alloc b).alloc c).alloc d).heap[w.heap.size + 3]? = some d ∧ ((((w.alloc a).alloc b).alloc c).alloc d).heap.size = w.heap.size + 4 ∧ Below w.heap.size w ((((w.alloc a).alloc b).alloc c).alloc d) := by
  have e : ((((w.alloc a).alloc b).alloc c).alloc d).heap = (((w.heap.push a).push b).push c).push d := rfl
  refine ⟨?_, ?_, ?_, ?_, by simp, ((((Below.refl _ _).alloc (Nat.le_refl _) _).alloc (by simp) _).alloc (by simp; omega) _).alloc (by simp; omega) _⟩
  · simp only [e, Array.getElem?_push, Array.size_push]
    rw [if_neg (by omega), if_neg (by omega), if_neg (by omega), if_pos trivial]
  · simp only [e, Array.getElem?_push, Array.size_push]
    rw [if_neg (by omega), if_neg (by omega), if_pos trivial]
  · simp only [e, Array.getElem?_push, Array.size_push]
    rw [if_neg (by omega), if_pos trivial]
  · simp only [e, Array.getElem?_push, Array.size_push]
    rw [if_pos trivial]
theorem box6_of {w : World} {n : Nat} {a b c d e f : Value} {t : TypeId} (h : w.heap[n]? = some (.cells #[a, b, c, d, e, f] t (0, 0))) : Box6 w n a b c d e f := by
  refine ⟨?_, ?_, ?_, ?_, ?_, ?_, fun o => ?_⟩
  all_goals first
    | (unfold World.cell?; rw [h]; rfl)
    | (unfold World.frozen?; rw [h]; simp)
/-- A block's type. -/
def Ty (w : World) (b : Nat) (t : TypeId) : Prop := ∃ cs fr, w.heap[b]? = some (.cells cs t fr)
theorem Ty.set {w : World} {b : Nat} {t : TypeId} (h : Ty w b t) (q k : Nat) (v : Value) : Ty (w.setCell ⟨q, k, none⟩ v) b t := by
  obtain ⟨cs, fr, h⟩ := h
  unfold Ty
  by_cases he : q = b
  · subst he
    exact ⟨_, fr, by simp [World.setCell, Array.getElem?_modify, h]; rfl⟩
  · exact ⟨cs, fr, (Below.heap_setCell _ _ _ _ (fun e => he e.symm)).trans h⟩
theorem M5.ty {w : World} {n : Nat} {p : Pa} {x y : Value} (h : M5 w n p x y) : Ty w n 68 := ⟨_, _, h⟩
theorem P3.ty {w : World} {n : Nat} {p : Pa} (h : P3 w n p) : Ty w n 64 := ⟨_, _, h⟩
theorem RM.puM {w : World} {B b : Nat} {o1 o2 : Option Addr} {ss : List S4} {fs : List Int} (h : RM w B o1 o2 ss fs) (hb : Ty w b 68) (k : Nat) (v : Value) : RM (w.setCell ⟨b, k, none⟩ v) B o1 o2 ss fs := by
  obtain ⟨cs, fr, hb⟩ := hb
  exact h.put hb (by decide) (by decide) v
theorem RM.puP {w : World} {B b : Nat} {o1 o2 : Option Addr} {ss : List S4} {fs : List Int} (h : RM w B o1 o2 ss fs) (hb : Ty w b 64) (k : Nat) (v : Value) : RM (w.setCell ⟨b, k, none⟩ v) B o1 o2 ss fs := by
  obtain ⟨cs, fr, hb⟩ := hb
  exact h.put hb (by decide) (by decide) v
theorem RM.pu5 {w : World} {B b : Nat} {o1 o2 : Option Addr} {ss : List S4} {fs : List Int} (h : RM w B o1 o2 ss fs) (hb : Ty w b 68) (x0 x1 x2 x3 x4 : Value) :
    RM (((((w.setCell ⟨b, 0, none⟩ x0).setCell ⟨b, 1, none⟩ x1).setCell ⟨b, 2, none⟩ x2).setCell ⟨b, 3, none⟩ x3).setCell ⟨b, 4, none⟩ x4) B o1 o2 ss fs :=
  ((((h.puM hb _ _).puM (hb.set _ _ _) _ _).puM ((hb.set _ _ _).set _ _ _) _ _).puM (((hb.set _ _ _).set _ _ _).set _ _ _) _ _).puM ((((hb.set _ _ _).set _ _ _).set _ _ _).set _ _ _) _ _
theorem RM.pu3 {w : World} {B b : Nat} {o1 o2 : Option Addr} {ss : List S4} {fs : List Int} (h : RM w B o1 o2 ss fs) (hb : Ty w b 64) (x0 x1 x2 : Value) :
    RM (((w.setCell ⟨b, 0, none⟩ x0).setCell ⟨b, 1, none⟩ x1).setCell ⟨b, 2, none⟩ x2) B o1 o2 ss fs :=
  ((h.puP hb _ _).puP (hb.set _ _ _) _ _).puP ((hb.set _ _ _).set _ _ _) _ _
theorem ty5 {w : World} {b q : Nat} {t : TypeId} (hb : Ty w b t) (x0 x1 x2 x3 x4 : Value) : Ty (((((w.setCell ⟨q, 0, none⟩ x0).setCell ⟨q, 1, none⟩ x1).setCell ⟨q, 2, none⟩ x2).setCell ⟨q, 3, none⟩ x3).setCell ⟨q, 4, none⟩ x4) b t :=
  ((((hb.set _ _ _).set _ _ _).set _ _ _).set _ _ _).set _ _ _
/-- The results are laid into both boxes. -/
theorem fin8 {w W : World} {n2 n3 : Nat} {o1 o2 : Option Addr} {ss : List S4} {fs : List Int} (hn : Ty W n2 68) (hp : Ty W n3 64) (hM : RM W W.heap.size o1 o2 ss fs) (hb : Below w.heap.size w W) (h2 : w.heap.size ≤ n2) (h3 : w.heap.size ≤ n3) (x0 x1 x2 x3 x4 y0 y1 y2 : Value) :
    RM ((((((((W.setCell ⟨n2, 0, none⟩ x0).setCell ⟨n2, 1, none⟩ x1).setCell ⟨n2, 2, none⟩ x2).setCell ⟨n2, 3, none⟩ x3).setCell ⟨n2, 4, none⟩ x4).setCell ⟨n3, 0, none⟩ y0).setCell ⟨n3, 1, none⟩ y1).setCell ⟨n3, 2, none⟩ y2) ((((((((W.setCell ⟨n2, 0, none⟩ x0).setCell ⟨n2, 1, none⟩ x1).setCell ⟨n2, 2, none⟩ x2).setCell ⟨n2, 3, none⟩ x3).setCell ⟨n2, 4, none⟩ x4).setCell ⟨n3, 0, none⟩ y0).setCell ⟨n3, 1, none⟩ y1).setCell ⟨n3, 2, none⟩ y2).heap.size o1 o2 ss fs ∧
    Below w.heap.size w ((((((((W.setCell ⟨n2, 0, none⟩ x0).setCell ⟨n2, 1, none⟩ x1).setCell ⟨n2, 2, none⟩ x2).setCell ⟨n2, 3, none⟩ x3).setCell ⟨n2, 4, none⟩ x4).setCell ⟨n3, 0, none⟩ y0).setCell ⟨n3, 1, none⟩ y1).setCell ⟨n3, 2, none⟩ y2) := by
  refine ⟨?_, below3s (below5s hb h2 _ _ _ _ _) h3 _ _ _⟩
  simp only [World.size_setCell]
  exact (hM.pu5 hn _ _ _ _ _).pu3 (ty5 hp _ _ _ _ _) _ _ _
theorem top_at (W : World) (o : Obj) {n : Nat} (h : W.heap.size = n) : (W.alloc o).heap[n]? = some o := by
  subst h
  show (W.heap.push _)[W.heap.size]? = some _
  rw [Array.getElem?_push, if_pos rfl]
theorem old_at {W : World} {n : Nat} {x : Obj} (h : W.heap[n]? = some x) (o : Obj) : (W.alloc o).heap[n]? = some x := ((below1 W o).block n (Array.getElem?_eq_some_iff.1 h).1).trans h
theorem own4_at {W : World} {g base : Nat} (h : W.heap[g]? = some (.cells #[] 33 (0, 0))) (hg : base ≤ g) : W.ownsRow base 33 4 (.slice (some ⟨g, 0, none⟩) 0 0) 0 (c4 []) :=
  ⟨rfl, .inr ⟨g, 0, #[], rfl, hg, h, Nat.le_refl _, by unfold maxLen; omega, rfl, rfl⟩⟩
theorem own64_at {W : World} {g base : Nat} (h : W.heap[g]? = some (.cells #[] 32 (0, 0))) (hg : base ≤ g) : W.ownsRow base 32 1 (.slice (some ⟨g, 0, none⟩) 0 0) 0 (([] : List Int).map (Value.int .u64)) :=
  ⟨rfl, .inr ⟨g, 0, #[], rfl, hg, h, Nat.le_refl _, by unfold maxLen; omega, rfl, rfl⟩⟩
theorem src_one {W : World} {g : Nat} {cs : Array Value} {t : TypeId} (h : W.heap[g]? = some (.cells cs t (0, 0))) : ∀ (j : Nat) u, cs.toList[j]? = some u → ∃ ad, some (⟨g, 0, none⟩ : Addr) = some ad ∧ W.cell? (ad.add j) = some u := fun j u hu => by
  refine ⟨_, rfl, ?_⟩
  rw [add_zero_at]
  exact cell_block h (by simpa using hu)
theorem be4 (w : World) (a b c d : Obj) : Below w.heap.size w ((((w.alloc a).alloc b).alloc c).alloc d) := (al4 w a b c d).2.2.2.2.2
theorem c4_app (l m : List S4) : c4 (l ++ m) = c4 l ++ c4 m := by
  unfold c4
  rw [List.flatMap_append]
theorem own_form {w : World} {base e size n : Nat} {v : Value} {xs : List Value} (h : w.ownsRow base e size v n xs) : ∃ o c, v = .slice o n c := by
  rcases h.2 with ⟨hv, h0⟩ | ⟨g, cap, cur, hv, _⟩
  · exact ⟨none, 0, by rw [hv, h0]⟩
  · exact ⟨_, _, hv⟩
theorem M5.set3 {w : World} {n : Nat} {p : Pa} {x y : Value} (h : M5 w n p x y) (u : Value) : M5 (w.setCell ⟨n, 3, none⟩ u) n p u y := by
  unfold M5 at *
  simp [World.setCell, Array.getElem?_modify, h]
theorem M5.set4 {w : World} {n : Nat} {p : Pa} {x y : Value} (h : M5 w n p x y) (u : Value) : M5 (w.setCell ⟨n, 4, none⟩ u) n p x u := by
  unfold M5 at *
  simp [World.setCell, Array.getElem?_modify, h]
section
variable {w w5 : World} {p q : Pa} {o1 o2 : Option Addr} {n1 n2 c1 c2 : Nat} {ss : List S4} {fs : List Int}
/-- A machine and a part lie in boxes of their own. -/
def CutM (w wx : World) (b c : Nat) (p : Pa) (o1 : Option Addr) (n1 c1 : Nat) (o2 : Option Addr) (n2 c2 : Nat) (ss : List S4) (fs : List Int) (q : Pa) : Prop :=
  M5 wx b p (.slice o1 n1 c1) (.slice o2 n2 c2) ∧ P3 wx c q ∧ RM wx wx.heap.size o1 o2 ss fs ∧ Below w.heap.size w wx ∧ w.heap.size ≤ b ∧ w.heap.size ≤ c
theorem P3.ne5 {W : World} {b c : Nat} {x y : Value} {p q : Pa} (h : P3 W c q) (k : M5 W b p x y) : c ≠ b := fun e => by
  subst e
  have k' := Option.some.inj (h.symm.trans k)
  injection k' with _ e _
  exact absurd e (by decide)
theorem far3 {W : World} {b c : Nat} {x y : Value} (h : M5 W b p x y) (hc : b ≠ c) (a1 a2 a3 : Value) : M5 (((W.setCell ⟨c, 0, none⟩ a1).setCell ⟨c, 1, none⟩ a2).setCell ⟨c, 2, none⟩ a3) b p x y := by
  unfold M5 at *
  rw [Below.heap_setCell _ _ _ _ hc, Below.heap_setCell _ _ _ _ hc, Below.heap_setCell _ _ _ _ hc]
  exact h
theorem far5 {W : World} {b c : Nat} (h : P3 W c q) (hc : c ≠ b) (a1 a2 a3 a4 a5 : Value) : P3 (((((W.setCell ⟨b, 0, none⟩ a1).setCell ⟨b, 1, none⟩ a2).setCell ⟨b, 2, none⟩ a3).setCell ⟨b, 3, none⟩ a4).setCell ⟨b, 4, none⟩ a5) c q := by
  unfold P3 at *
  rw [Below.heap_setCell _ _ _ _ hc, Below.heap_setCell _ _ _ _ hc, Below.heap_setCell _ _ _ _ hc, Below.heap_setCell _ _ _ _ hc, Below.heap_setCell _ _ _ _ hc]
  exact h
theorem finA (hM : RM w5 w5.heap.size o1 o2 ss fs) (hb : Below w.heap.size w w5) : CutM w ((w5.alloc (.cells #[.bool p.e, .int .u64 p.f, .int .u64 p.t, .slice o1 n1 c1, .slice o2 n2 c2] 68)).alloc (.cells #[.bool q.e, .int .u64 q.f, .int .u64 q.t] 64)) w5.heap.size (w5.heap.size + 1) p o1 n1 c1 o2 n2 c2 ss fs q :=
  ⟨(M5.new w5 _ _ _).later (below1 _ _) (by simp), top_at _ _ (by simp), hM.later (below2 w5 _ _) (by simp; omega), hb.trans ((below2 w5 _ _).mono hb.size), hb.size, Nat.le_succ_of_le hb.size⟩
theorem finB (hM : RM w5 w5.heap.size o1 o2 ss fs) (hb : Below w.heap.size w w5) : CutM w ((w5.alloc (.cells #[.bool q.e, .int .u64 q.f, .int .u64 q.t] 64)).alloc (.cells #[.bool p.e, .int .u64 p.f, .int .u64 p.t, .slice o1 n1 c1, .slice o2 n2 c2] 68)) (w5.heap.size + 1) w5.heap.size p o1 n1 c1 o2 n2 c2 ss fs q :=
  ⟨top_at _ _ (by simp), (P3.new w5 _).later (below1 _ _) (by simp), hM.later (below2 w5 _ _) (by simp; omega), hb.trans ((below2 w5 _ _).mono hb.size), Nat.le_succ_of_le hb.size, hb.size⟩
theorem finC {b : Nat} {x y : Value} {r : Pa} (hx : M5 w5 b r x y) (hl : w.heap.size ≤ b) (hM : RM w5 w5.heap.size o1 o2 ss fs) (hb : Below w.heap.size w w5) : CutM w ((((((w5.setCell ⟨b, 0, none⟩ (.bool p.e)).setCell ⟨b, 1, none⟩ (.int .u64 p.f)).setCell ⟨b, 2, none⟩ (.int .u64 p.t)).setCell ⟨b, 3, none⟩ (.slice o1 n1 c1)).setCell ⟨b, 4, none⟩ (.slice o2 n2 c2)).alloc (.cells #[.bool q.e, .int .u64 q.f, .int .u64 q.t] 64)) b w5.heap.size p o1 n1 c1 o2 n2 c2 ss fs q := by
  have h1 := hx.set p (.slice o1 n1 c1) (.slice o2 n2 c2)
  have h2 := hM.pu5 hx.ty (.bool p.e) (.int .u64 p.f) (.int .u64 p.t) (.slice o1 n1 c1) (.slice o2 n2 c2)
  have h3 := below5s hb hl (.bool p.e) (.int .u64 p.f) (.int .u64 p.t) (.slice o1 n1 c1) (.slice o2 n2 c2)
  refine ⟨h1.later (below1 _ _) h1.lt, top_at _ _ (by simp only [World.size_setCell]), (h2.later (C := w5.heap.size + 1) ((below1 _ _).mono (by simp only [World.size_setCell]; exact Nat.le_refl _)) (by omega)).later (Below.refl _ _) (by simp), h3.trans ((below1 _ _).mono h3.size), hl, hb.size⟩
theorem finD {c : Nat} {r : Pa} (hx : P3 w5 c r) (hl : w.heap.size ≤ c) (hM : RM w5 w5.heap.size o1 o2 ss fs) (hb : Below w.heap.size w w5) : CutM w ((((w5.setCell ⟨c, 0, none⟩ (.bool q.e)).setCell ⟨c, 1, none⟩ (.int .u64 q.f)).setCell ⟨c, 2, none⟩ (.int .u64 q.t)).alloc (.cells #[.bool p.e, .int .u64 p.f, .int .u64 p.t, .slice o1 n1 c1, .slice o2 n2 c2] 68)) w5.heap.size c p o1 n1 c1 o2 n2 c2 ss fs q := by
  have h1 := hx.set q.e q.f q.t
  have h2 := hM.pu3 hx.ty (.bool q.e) (.int .u64 q.f) (.int .u64 q.t)
  have h3 := below3s hb hl (.bool q.e) (.int .u64 q.f) (.int .u64 q.t)
  refine ⟨top_at _ _ (by simp only [World.size_setCell]), h1.later (below1 _ _) h1.lt, (h2.later (C := w5.heap.size + 1) ((below1 _ _).mono (by simp only [World.size_setCell]; exact Nat.le_refl _)) (by omega)).later (Below.refl _ _) (by simp), h3.trans ((below1 _ _).mono h3.size), hb.size, hl⟩
theorem finE {b c : Nat} {x y : Value} {r r' : Pa} (hx : M5 w5 b r x y) (hy : P3 w5 c r') (hl : w.heap.size ≤ b) (hl' : w.heap.size ≤ c) (hM : RM w5 w5.heap.size o1 o2 ss fs) (hb : Below w.heap.size w w5) : CutM w ((((((((w5.setCell ⟨b, 0, none⟩ (.bool p.e)).setCell ⟨b, 1, none⟩ (.int .u64 p.f)).setCell ⟨b, 2, none⟩ (.int .u64 p.t)).setCell ⟨b, 3, none⟩ (.slice o1 n1 c1)).setCell ⟨b, 4, none⟩ (.slice o2 n2 c2)).setCell ⟨c, 0, none⟩ (.bool q.e)).setCell ⟨c, 1, none⟩ (.int .u64 q.f)).setCell ⟨c, 2, none⟩ (.int .u64 q.t)) b c p o1 n1 c1 o2 n2 c2 ss fs q := by
  have hne := hy.ne5 hx
  have h1 := far3 (hx.set p (.slice o1 n1 c1) (.slice o2 n2 c2)) hne.symm (.bool q.e) (.int .u64 q.f) (.int .u64 q.t)
  have h2 := (far5 hy hne (.bool p.e) (.int .u64 p.f) (.int .u64 p.t) (.slice o1 n1 c1) (.slice o2 n2 c2)).set q.e q.f q.t
  obtain ⟨h3, h4⟩ := fin8 (w := w) hx.ty hy.ty hM hb hl hl' (.bool p.e) (.int .u64 p.f) (.int .u64 p.t) (.slice o1 n1 c1) (.slice o2 n2 c2) (.bool q.e) (.int .u64 q.f) (.int .u64 q.t)
  exact ⟨h1, h2, h3, h4, hl, hl'⟩
end
theorem heap_drew (w : World) : w.drew.heap = w.heap := rfl
theorem M5.farC {W : World} {b c k : Nat} {p : Pa} {x y : Value} (h : M5 W b p x y) (hc : b ≠ c) (v : Value) : M5 (W.setCell ⟨c, k, none⟩ v) b p x y := (Below.heap_setCell _ _ _ _ hc).trans h
theorem P3.farC {W : World} {b c k : Nat} {p : Pa} (h : P3 W b p) (hc : b ≠ c) (v : Value) : P3 (W.setCell ⟨c, k, none⟩ v) b p := (Below.heap_setCell _ _ _ _ hc).trans h
theorem M5.dr {W : World} {b : Nat} {p : Pa} {x y : Value} (h : M5 W b p x y) : M5 W.drew b p x y := h
theorem P3.dr {W : World} {b : Nat} {p : Pa} (h : P3 W b p) : P3 W.drew b p := h
theorem mfar5 {W : World} {b c : Nat} {p : Pa} {x y : Value} (h : M5 W c p x y) (hc : c ≠ b) (a1 a2 a3 a4 a5 : Value) : M5 (((((W.setCell ⟨b, 0, none⟩ a1).setCell ⟨b, 1, none⟩ a2).setCell ⟨b, 2, none⟩ a3).setCell ⟨b, 3, none⟩ a4).setCell ⟨b, 4, none⟩ a5) c p x y := by
  unfold M5 at *
  rw [Below.heap_setCell _ _ _ _ hc, Below.heap_setCell _ _ _ _ hc, Below.heap_setCell _ _ _ _ hc, Below.heap_setCell _ _ _ _ hc, Below.heap_setCell _ _ _ _ hc]
  exact h
theorem pfar3 {W : World} {b c : Nat} {q : Pa} (h : P3 W b q) (hc : b ≠ c) (a1 a2 a3 : Value) : P3 (((W.setCell ⟨c, 0, none⟩ a1).setCell ⟨c, 1, none⟩ a2).setCell ⟨c, 2, none⟩ a3) b q := by
  unfold P3 at *
  rw [Below.heap_setCell _ _ _ _ hc, Below.heap_setCell _ _ _ _ hc, Below.heap_setCell _ _ _ _ hc]
  exact h
theorem RM.dr {w : World} {o1 o2 : Option Addr} {ss : List S4} {fs : List Int} (h : RM w w.heap.size o1 o2 ss fs) : RM w.drew w.drew.heap.size o1 o2 ss fs := ⟨h.s, h.f, h.len, h.lim, h.ok⟩
theorem end6 {w W : World} {n2 n3 k : Nat} {p q : Pa} {o1 o2 : Option Addr} {c1 c2 : Nat} {ss : List S4} {fs : List Int} (hn : Ty W n2 68) (hp : Ty W n3 64) (hM : RM W W.heap.size o1 o2 ss fs) (hb : Below w.heap.size w W) (h2 : w.heap.size ≤ n2) (h3 : w.heap.size ≤ n3) (x0 x1 x2 x3 x4 y0 y1 y2 : Value) (hk : k = fs.length) :
    RAddR p ((ss, fs), q) w (.returned (.tuple #[mV p (.slice o1 ss.length c1) (.slice o2 k c2), .agg #[.bool q.e, .int .u64 q.f, .int .u64 q.t]])) ((((((((W.setCell ⟨n2, 0, none⟩ x0).setCell ⟨n2, 1, none⟩ x1).setCell ⟨n2, 2, none⟩ x2).setCell ⟨n2, 3, none⟩ x3).setCell ⟨n2, 4, none⟩ x4).setCell ⟨n3, 0, none⟩ y0).setCell ⟨n3, 1, none⟩ y1).setCell ⟨n3, 2, none⟩ y2).drew := by
  subst hk
  obtain ⟨h4, h5⟩ := fin8 (w := w) hn hp hM hb h2 h3 x0 x1 x2 x3 x4 y0 y1 y2
  exact ⟨⟨o1, c1, o2, c2, rfl, h4.dr⟩, h5.drew⟩
theorem P3.putA {w : World} {n : Nat} {p : Pa} (h : P3 w n p) (e : Bool) (f t : Int) : P3 (((w.setCell ⟨n, 1, none⟩ (.int .u64 f)).setCell ⟨n, 2, none⟩ (.int .u64 t)).setCell ⟨n, 0, none⟩ (.bool e)) n ⟨e, f, t⟩ := by
  unfold P3 at *
  simp [World.setCell, Array.getElem?_modify, h]
theorem P3.putB {w : World} {n : Nat} {p : Pa} (h : P3 w n p) (e : Bool) (t : Int) : P3 ((w.setCell ⟨n, 2, none⟩ (.int .u64 t)).setCell ⟨n, 0, none⟩ (.bool e)) n ⟨e, p.f, t⟩ := by
  unfold P3 at *
  simp [World.setCell, Array.getElem?_modify, h]
theorem Box6.far5 {W : World} {b c : Nat} {a1 a2 a3 a4 a5 a6 : Value} (h : Box6 W c a1 a2 a3 a4 a5 a6) (hc : c ≠ b) (x1 x2 x3 x4 x5 : Value) : Box6 (((((W.setCell ⟨b, 0, none⟩ x1).setCell ⟨b, 1, none⟩ x2).setCell ⟨b, 2, none⟩ x3).setCell ⟨b, 3, none⟩ x4).setCell ⟨b, 4, none⟩ x5) c a1 a2 a3 a4 a5 a6 :=
  h.of_block (by rw [Below.heap_setCell _ _ _ _ hc, Below.heap_setCell _ _ _ _ hc, Below.heap_setCell _ _ _ _ hc, Below.heap_setCell _ _ _ _ hc, Below.heap_setCell _ _ _ _ hc])
theorem Box6.farC {W : World} {b c k : Nat} {a1 a2 a3 a4 a5 a6 : Value} (h : Box6 W c a1 a2 a3 a4 a5 a6) (hc : c ≠ b) (v : Value) : Box6 (W.setCell ⟨b, k, none⟩ v) c a1 a2 a3 a4 a5 a6 := h.of_block (Below.heap_setCell _ _ _ _ hc)
/-- What add keeps in a round of its loop. -/
structure Rnd (w wr : World) (p : Pa) (oa ob : Option Addr) (ca cb : Nat) (ss : List S4) (fs : List Int) (q : Pa) (a1 a2 a3 a4 a5 a6 : Value) : Prop where
  m : M5 wr w.heap.size p (.slice oa ss.length ca) (.slice ob fs.length cb)
  r : RM wr wr.heap.size oa ob ss fs
  q : P3 wr (w.heap.size + 4) q
  b : Below w.heap.size w wr
  x : Box6 wr (w.heap.size + 1) a1 a2 a3 a4 a5 a6
  n : M5 wr (w.heap.size + 2) .zero (.slice none 0 0) (.slice none 0 0)
  p : P3 wr (w.heap.size + 3) .zero
  s : w.heap.size + 5 ≤ wr.heap.size
theorem Rnd.put3 {w wr : World} {p : Pa} {oa ob : Option Addr} {ca cb : Nat} {ss : List S4} {fs : List Int} {q : Pa} {a1 a2 a3 a4 a5 a6 : Value} (h : Rnd w wr p oa ob ca cb ss fs q a1 a2 a3 a4 a5 a6) (e : Bool) (f t : Int) :
    Rnd w (((wr.setCell ⟨w.heap.size + 4, 0, none⟩ (.bool e)).setCell ⟨w.heap.size + 4, 1, none⟩ (.int .u64 f)).setCell ⟨w.heap.size + 4, 2, none⟩ (.int .u64 t)) p oa ob ca cb ss fs ⟨e, f, t⟩ a1 a2 a3 a4 a5 a6 where
  m := far3 h.m (by omega) _ _ _
  r := by simp only [World.size_setCell]; exact h.r.pu3 h.q.ty _ _ _
  q := h.q.set e f t
  b := below3s h.b (by omega) _ _ _
  x := ((h.x.farC (by omega) _).farC (by omega) _).farC (by omega) _
  n := far3 h.n (by omega) _ _ _
  p := pfar3 h.p (by omega) _ _ _
  s := by simp only [World.size_setCell]; exact h.s
theorem Rnd.putA {w wr : World} {p : Pa} {oa ob : Option Addr} {ca cb : Nat} {ss : List S4} {fs : List Int} {q : Pa} {a1 a2 a3 a4 a5 a6 : Value} (h : Rnd w wr p oa ob ca cb ss fs q a1 a2 a3 a4 a5 a6) (e : Bool) (f t : Int) :
    Rnd w (((wr.setCell ⟨w.heap.size + 4, 1, none⟩ (.int .u64 f)).setCell ⟨w.heap.size + 4, 2, none⟩ (.int .u64 t)).setCell ⟨w.heap.size + 4, 0, none⟩ (.bool e)) p oa ob ca cb ss fs ⟨e, f, t⟩ a1 a2 a3 a4 a5 a6 where
  m := ((h.m.farC (by omega) _).farC (by omega) _).farC (by omega) _
  r := by simp only [World.size_setCell]; exact ((h.r.puP h.q.ty _ _).puP (h.q.ty.set _ _ _) _ _).puP ((h.q.ty.set _ _ _).set _ _ _) _ _
  q := h.q.putA e f t
  b := ((h.b.setCell (p := ⟨w.heap.size + 4, 1, none⟩) (show w.heap.size ≤ w.heap.size + 4 by omega) _).setCell (p := ⟨w.heap.size + 4, 2, none⟩) (show w.heap.size ≤ w.heap.size + 4 by omega) _).setCell (p := ⟨w.heap.size + 4, 0, none⟩) (show w.heap.size ≤ w.heap.size + 4 by omega) _
  x := ((h.x.farC (by omega) _).farC (by omega) _).farC (by omega) _
  n := ((h.n.farC (by omega) _).farC (by omega) _).farC (by omega) _
  p := ((h.p.farC (by omega) _).farC (by omega) _).farC (by omega) _
  s := by simp only [World.size_setCell]; exact h.s
theorem Rnd.putB {w wr : World} {p : Pa} {oa ob : Option Addr} {ca cb : Nat} {ss : List S4} {fs : List Int} {q : Pa} {a1 a2 a3 a4 a5 a6 : Value} (h : Rnd w wr p oa ob ca cb ss fs q a1 a2 a3 a4 a5 a6) (e : Bool) (t : Int) :
    Rnd w ((wr.setCell ⟨w.heap.size + 4, 2, none⟩ (.int .u64 t)).setCell ⟨w.heap.size + 4, 0, none⟩ (.bool e)) p oa ob ca cb ss fs ⟨e, q.f, t⟩ a1 a2 a3 a4 a5 a6 where
  m := (h.m.farC (by omega) _).farC (by omega) _
  r := by simp only [World.size_setCell]; exact (h.r.puP h.q.ty _ _).puP (h.q.ty.set _ _ _) _ _
  q := h.q.putB e t
  b := (h.b.setCell (p := ⟨w.heap.size + 4, 2, none⟩) (show w.heap.size ≤ w.heap.size + 4 by omega) _).setCell (p := ⟨w.heap.size + 4, 0, none⟩) (show w.heap.size ≤ w.heap.size + 4 by omega) _
  x := (h.x.farC (by omega) _).farC (by omega) _
  n := (h.n.farC (by omega) _).farC (by omega) _
  p := (h.p.farC (by omega) _).farC (by omega) _
  s := by simp only [World.size_setCell]; exact h.s
end Go.Proofs.YtaipaddfehpmgaaDoor
