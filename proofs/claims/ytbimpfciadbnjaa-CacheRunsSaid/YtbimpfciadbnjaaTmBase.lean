/-
  Lists of numbers and terms in memory. Nothing is assumed.
-/
import Derived.Test.YtbimpfciadbnjaaTmPlain
import Derived.Test.YtbimpfciadbnjaaProg
import Derived.OwnWalk
import Derived.Deep.QuietTactic
import Derived.BigQuiet
import Derived.Deep.LoopGhost
import Derived.Deep.AppendLies
import Derived.Deep.RegionLaw
import Derived.WalkSpells
import Derived.WalkLawsBesides
import Derived.Lib.Hide
namespace Go.Proofs.Ytbimpfciadbnjaa
open Go.RowKit

theorem ret_int {k : IntKind} {a b : Int} (h : a = b) : Ending.returned (.int k a) = .returned (.int k b) := by rw [h]
theorem ret_bool {a b : Bool} (h : a = b) : Ending.returned (.bool a) = .returned (.bool b) := by rw [h]
theorem ret_two {a b c d : Int} (h : a = b) (h' : c = d) : Ending.returned (.tuple #[.int .i64 a, .int .i64 c]) = .returned (.tuple #[.int .i64 b, .int .i64 d]) := by rw [h, h']
theorem below1 (w : World) (o : Obj) : Below w.heap.size w (w.alloc o) := (Below.refl _ _).alloc (Nat.le_refl _) o

/-- The slice value holds the list of integers in the world, below block B. -/
def HoldsI (w : World) (B : Nat) (x : Value) (l : List Int) : Prop :=
  ∃ (oa : Option Addr) (cap : Nat), x = .slice oa l.length cap ∧ l.length ≤ cap ∧ cap ≤ 9223372036854775807 ∧
    ∀ (i : Nat) z, l[i]? = some z → ∃ b off : Nat, oa = some ⟨b, off, none⟩ ∧ b < B ∧ w.cell? ⟨b, off + i, none⟩ = some (.int .i64 z)
theorem HoldsI.later {w w' : World} {B : Nat} {x : Value} {l : List Int} (h : HoldsI w B x l) (hb : Below B w w') : HoldsI w' B x l := by
  obtain ⟨oa, cap, rfl, hl, hm, hel⟩ := h
  refine ⟨oa, cap, rfl, hl, hm, fun i z hz => ?_⟩
  obtain ⟨b, off, rfl, hlt, hc⟩ := hel i z hz
  exact ⟨b, off, rfl, hlt, (hb.cell (p := ⟨b, _, none⟩) hlt).trans hc⟩
theorem HoldsI.mono {w : World} {B C : Nat} {x : Value} {l : List Int} (h : HoldsI w B x l) (hBC : B ≤ C) : HoldsI w C x l := by
  obtain ⟨oa, cap, rfl, hl, hm, hel⟩ := h
  refine ⟨oa, cap, rfl, hl, hm, fun i z hz => ?_⟩
  obtain ⟨b, off, rfl, hlt, hc⟩ := hel i z hz
  exact ⟨b, off, rfl, Nat.lt_of_lt_of_le hlt hBC, hc⟩
/-- .. below the world's own size, in a later world. -/
theorem HoldsI.on {w w' : World} {x : Value} {l : List Int} (h : HoldsI w w.heap.size x l) (hb : Below w.heap.size w w') : HoldsI w' w'.heap.size x l := (h.later hb).mono hb.size

/-- A list of integers that the call has built. -/
def OwnI (w : World) (base : Nat) (v : Value) (l : List Int) : Prop := w.ownsRow base 3 1 v l.length (l.map (Value.int .i64))
theorem OwnI.holds {w : World} {base : Nat} {v : Value} {l : List Int} (h : OwnI w base v l) : HoldsI w w.heap.size v l := by
  rcases h.2 with ⟨rfl, h0⟩ | ⟨g, cap, cur, rfl, hg, hh, hcap, hmx, hsz, htk⟩
  · obtain rfl := List.eq_nil_of_length_eq_zero h0
    exact ⟨none, 0, rfl, Nat.le_refl _, by simp, fun i z hz => by simp at hz⟩
  · have hlt : g < w.heap.size := by
      rcases Nat.lt_or_ge g w.heap.size with h | h
      · exact h
      · rw [Array.getElem?_eq_none h] at hh; cases hh
    refine ⟨some ⟨g, 0, none⟩, cap, rfl, hcap, by unfold maxLen at hmx; omega, fun i z hz => ⟨g, 0, rfl, hlt, ?_⟩⟩
    have hi : i < l.length := (List.getElem?_eq_some_iff.1 hz).1
    have h1 : cur.toList[i]? = some (.int .i64 z) := by
      have : (l.map (Value.int .i64))[i]? = some (.int .i64 z) := by simp [hz]
      rw [← htk, List.getElem?_take] at this
      rw [if_pos (by omega)] at this
      exact this
    unfold World.cell?
    rw [hh]
    simpa using h1
theorem OwnI.later {w w' : World} {base : Nat} {v : Value} {l : List Int} (h : OwnI w base v l) (hb : Below w.heap.size w w') : OwnI w' base v l := by
  obtain ⟨h1, h2⟩ := h
  refine ⟨h1, ?_⟩
  rcases h2 with h2 | ⟨g, cap, cur, hv, hg, hh, r⟩
  · exact .inl h2
  · have hlt : g < w.heap.size := by
      rcases Nat.lt_or_ge g w.heap.size with h | h
      · exact h
      · rw [Array.getElem?_eq_none h] at hh; cases hh
    exact .inr ⟨g, cap, cur, hv, hg, (hb.block g hlt).trans hh, r⟩
theorem own_far {w : World} {base : Nat} {v : Value} {l : List Int} (h : OwnI w base v l) {g : Nat} (hg : g < base) : v.ownBlock ≠ some g := by
  rcases h.2 with ⟨rfl, _⟩ | ⟨g', cap, cur, rfl, hb, _⟩
  · simp [Value.ownBlock]
  · simp [Value.ownBlock]; omega
theorem OwnI.none (w : World) (base : Nat) : OwnI w base (.slice none 0 0) [] := ⟨rfl, .inl ⟨rfl, rfl⟩⟩

/-- A function that has built a list of integers has returned it. -/
def RetI (H : Nat) (l : List Int) (e : Ending) (w' : World) : Prop := ∃ v, e = .returned v ∧ OwnI w' H v l
theorem RetI.none (H : Nat) (w : World) : RetI H [] (.returned (.slice none 0 0)) w := ⟨_, rfl, OwnI.none _ _⟩

theorem below_drewN (w : World) (B n : Nat) : Below B w (w.drewN n) := ⟨rfl, rfl, rfl, Nat.le_refl _, fun _ _ => rfl⟩


/-- A function that has built a list of integers has returned it, with an error. -/
def RetE (H : Nat) (l : List Int) (n : Int) (e : Ending) (w' : World) : Prop := ∃ v, e = .returned (.tuple #[v, .int .i64 n]) ∧ OwnI w' H v l
theorem RetE.none (H : Nat) (n : Int) (w : World) : RetE H [] n (.returned (.tuple #[.slice none 0 0, .int .i64 n])) w := ⟨_, rfl, OwnI.none _ _⟩
theorem RetE.mk {H : Nat} {l m : List Int} {n k : Int} {v : Value} {w : World} (h : OwnI w H v l) (hl : l = m) (hn : n = k) : RetE H m k (.returned (.tuple #[v, .int .i64 n])) w := ⟨v, by rw [hn], hl ▸ h⟩
theorem RetI.mk {H : Nat} {l m : List Int} {v : Value} {w : World} (h : OwnI w H v l) (hl : l = m) : RetI H m (.returned v) w := ⟨v, rfl, hl ▸ h⟩

theorem infoInt : (Try.prog.info? 3).map (fun i => (i.zero, i.size, i.bytes)) = some (some (.int .i64 0), 1, 8) := by kernel_rfl

/-- One number, in a block of its own. -/
theorem one_cells (w : World) (t : TypeId) (z : Int) : ∀ (j : Nat) u, [Value.int .i64 z][j]? = some u → (w.alloc (.cells #[.int .i64 z] t)).cell? (Addr.add ⟨w.heap.size, 0, none⟩ j) = some u := by
  intro j u hj
  match j, hj with
  | 0, hj => simp at hj; subst hj; simp [Addr.add]
  | j + 1, hj => simp at hj
theorem one_one (z : Int) : ∀ u ∈ [Value.int .i64 z], u.oneCell' = true := by intro u hu; simp at hu; subst hu; rfl
theorem below_app {w wr w2 : World} {v : Value} {l : List Int} {o : Obj} (hbel : Below w.heap.size w wr) (HO : OwnI wr w.heap.size v l) (hg : (wr.alloc o).grownBy w2 v.ownBlock) : Below w.heap.size w w2 :=
  (hbel.alloc hbel.size _).grown hg (by simp; have := hbel.size; omega) (fun q hq => by
    rcases Nat.lt_or_ge q w.heap.size with h | h
    · exact absurd hq (own_far HO h)
    · exact h)
theorem own_snoc {w : World} {H : Nat} {v : Value} {l m : List Int} {z : Int} (h : w.ownsRow H 3 1 v (l.length + 1) (l.map (Value.int .i64) ++ [.int .i64 z])) (hm : m = l ++ [z]) : OwnI w H v m := by
  subst hm
  unfold OwnI
  rw [List.length_append, List.map_append]
  exact h

theorem OwnI.weak {w : World} {H H' : Nat} {v : Value} {l : List Int} (h : OwnI w H v l) (hH : H' ≤ H) : OwnI w H' v l := by
  refine ⟨h.1, ?_⟩
  rcases h.2 with h2 | ⟨g, cap, cur, hv, hg, r⟩
  · exact .inl h2
  · exact .inr ⟨g, cap, cur, hv, Nat.le_trans hH hg, r⟩
theorem below_grown {H : Nat} {w0 wr w2 : World} {v : Value} {l : List Int} (hbel : Below H w0 wr) (hH : H ≤ wr.heap.size) (HO : OwnI wr H v l) (hg : wr.grownBy w2 v.ownBlock) : Below H w0 w2 :=
  hbel.grown hg hH (fun q hq => by
    rcases Nat.lt_or_ge q H with h | h
    · exact absurd hq (own_far HO h)
    · exact h)
theorem HoldsI.form {w : World} {B n : Nat} {x : Value} {l : List Int} (h : HoldsI w B x l) (hn : l.length = n) : ∃ oa cap, x = .slice oa n cap ∧ n ≤ cap ∧ cap ≤ 9223372036854775807 ∧ HoldsI w B (.slice oa n cap) l := by
  subst hn
  have h' := h
  obtain ⟨oa, cap, rfl, h1, h2, _⟩ := h
  exact ⟨oa, cap, rfl, h1, h2, h'⟩
theorem HoldsI.at_ {w : World} {B n c i : Nat} {oa : Option Addr} {l : List Int} {z : Int} (h : HoldsI w B (.slice oa n c) l) (hz : l[i]? = some z) : ∃ b off : Nat, oa = some ⟨b, off, none⟩ ∧ b < B ∧ w.cell? ⟨b, off + i, none⟩ = some (.int .i64 z) := by
  obtain ⟨oa', cap, he, _, _, hel⟩ := h
  cases he
  exact hel i z hz
theorem HoldsI.len {w : World} {B n c : Nat} {oa : Option Addr} {l : List Int} (h : HoldsI w B (.slice oa n c) l) : l.length = n ∧ n ≤ c ∧ c ≤ 9223372036854775807 := by
  obtain ⟨oa', cap, he, h1, h2, _⟩ := h
  cases he
  exact ⟨rfl, h1, h2⟩
theorem HoldsI.src {w : World} {B n c : Nat} {oa : Option Addr} {l : List Int} (h : HoldsI w B (.slice oa n c) l) : ∀ (j : Nat) z, l[j]? = some z → ∃ ad, oa = some ad ∧ w.cell? (ad.add j) = some (.int .i64 z) := by
  intro j z hz
  obtain ⟨b, off, rfl, _, hc⟩ := h.at_ hz
  refine ⟨_, rfl, ?_⟩
  unfold Addr.add
  split
  · rename_i h0; subst h0; exact hc
  · exact hc
theorem HoldsI.take {w : World} {B n c k : Nat} {oa : Option Addr} {l : List Int} (h : HoldsI w B (.slice oa n c) l) (hk : k ≤ n) : HoldsI w B (.slice oa k c) (l.take k) := by
  obtain ⟨h1, h2, h3⟩ := h.len
  have hlen : (l.take k).length = k := by simp; omega
  refine ⟨oa, c, by rw [hlen], by omega, h3, fun i z hz => h.at_ ?_⟩
  rw [List.getElem?_take] at hz
  split at hz
  · exact hz
  · cases hz
theorem HoldsI.drop {w : World} {B n c k : Nat} {oa : Option Addr} {l : List Int} (h : HoldsI w B (.slice oa n c) l) (hk : k ≤ n) : HoldsI w B (.slice (oa.map (·.add k)) (n - k) (c - k)) (l.drop k) := by
  obtain ⟨h1, h2, h3⟩ := h.len
  refine ⟨_, c - k, by rw [List.length_drop, h1], by simp; omega, by omega, fun i z hz => ?_⟩
  rw [List.getElem?_drop] at hz
  obtain ⟨b, off, rfl, hb, hcc⟩ := h.at_ hz
  exact ⟨b, off + k, by simp [Addr.add]; done, hb, by rw [Nat.add_assoc]; exact hcc⟩
theorem HoldsI.dropped {w : World} {B n c k : Nat} {oa : Option Addr} {l : List Int} (h : HoldsI w B (.slice oa n c) l) (hk : k ≤ n) (hc : c = k) : HoldsI w B (.slice oa 0 0) (l.drop k) := by
  obtain ⟨h1, h2, h3⟩ := h.len
  rw [List.drop_of_length_le (by omega)]
  exact ⟨oa, 0, rfl, Nat.le_refl _, by omega, fun i z hz => by simp at hz⟩

/-- 'append(s, x...)' at a list of the call's own. -/
theorem append_src {w : World} {ops : Array Oper} {rest : List Oper} {o : Oper} {a : Act} {Q : Exit → Act → World → Prop} (hgd : o.guard = none) (s x : Operand)
    (ho : o.op = .call { callee := .builtin .append, args := #[s, x], argTypes := #[81, 81] }) (H : Nat) (v : Value) (l : List Int) (hs : a.eval s = v) (hown : OwnI w H v l)
    (oa : Option Addr) (m c : Nat) (hx : a.eval x = .slice oa m c) (news : List Int) (hm : news.length = m) (hn : ∀ (j : Nat) z, news[j]? = some z → ∃ ad, oa = some ad ∧ w.cell? (ad.add j) = some (.int .i64 z))
    (hlen : l.length + m ≤ 1000) (hH : H ≤ w.heap.size) (h : ∀ v' w', OwnI w' H v' (l ++ news) → w.grownBy w' v.ownBlock → wpList Try.prog ops Q rest (a.put o.dst v') w') : wpList Try.prog ops Q (o :: rest) a w := by
  obtain ⟨i0, hi, hz0, hz1, hz2⟩ := info_parts infoInt
  cases oa with
  | none =>
    have hnil : news = [] := by
      cases news with
      | nil => rfl
      | cons z r =>
        obtain ⟨ad, he, _⟩ := hn 0 z rfl
        cases he
    subst hnil
    obtain rfl : m = 0 := hm.symm
    refine wpList_plain hgd fun K hK => ?_
    have hrun : (Builtin.append_ #[81, 81] o.type #[v, .slice none 0 c]).run Try.prog w = .ok v w := by
      rcases hown.2 with ⟨rfl, h0⟩ | ⟨g, cap, cur, rfl, _, _, hnc, _⟩
      · simp [Builtin.append_, run_underlying Try.underlying81, sizeOf, typeInfo, hi, Builtin.lenOf, Builtin.firstCells]
      · simp [Builtin.append_, run_underlying Try.underlying81, sizeOf, typeInfo, hi, Builtin.lenOf, Builtin.firstCells, hnc, storeCells]
    unfold Oper.wp
    simp [execOp, ho, resolve, invoke, builtin, hs, hx, hrun, Result.andThen]
    exact hK _ _ (h v w (by simpa using hown) (World.grownBy.refl w _))
  | some ad =>
    refine wpList_append_own w hgd s x 81 ho H 3 i0 (.int .i64 0) 1 8 Try.underlying81 hi hz0 hz1 hz2 rfl (by decide) v l.length (l.map (Value.int .i64)) hs hown ad m c (news.map (Value.int .i64)) hx (by simp [hm]) (fun j u hu => ?_)
      (fun u hu => by simp only [List.mem_map] at hu; obtain ⟨z, _, rfl⟩ := hu; rfl) (by unfold maxLen; omega) (by omega) hH fun v' w' h1 h2 _ => h v' w' ?_ h2
    · simp only [List.getElem?_map, Option.map_eq_some_iff] at hu
      obtain ⟨z, hz, rfl⟩ := hu
      obtain ⟨ad', he, hc⟩ := hn j z hz
      cases he
      exact hc
    · unfold OwnI
      rw [List.length_append, List.map_append, hm]
      exact h1

theorem one_src (w : World) (t : TypeId) (z : Int) : ∀ (j : Nat) (y : Int), [z][j]? = some y → ∃ ad, some (⟨w.heap.size, 0, none⟩ : Addr) = some ad ∧ (w.alloc (.cells #[.int .i64 z] t)).cell? (ad.add j) = some (.int .i64 y) := by
  intro j y hj
  match j, hj with
  | 0, hj => simp at hj; subst hj; exact ⟨_, rfl, by simp [Addr.add]⟩
  | j + 1, hj => simp at hj


theorem below2 (w : World) (o o' : Obj) : Below w.heap.size w ((w.alloc o).alloc o') := ((Below.refl _ _).alloc (Nat.le_refl _) o).alloc (by simp) o'
theorem below3 (w : World) (o o' o'' : Obj) : Below w.heap.size w (((w.alloc o).alloc o').alloc o'') := (below2 w o o').alloc (by simp; omega) o''

/-- The slice value holds the list of terms in the world, all of it in blocks below B. -/
inductive Rep (w : World) (B : Nat) : Value → List T → Prop
  | empty (oa : Option Addr) (cap : Nat) : Rep w B (.slice oa 0 cap) []
  | arr (b off cap : Nat) (l : List T) (sl : Nat → Value) (hb : b < B) (hl : l.length ≤ cap) (hm : l.length ≤ 9223372036854775807)
      (hc : ∀ i v, l[i]? = some v → w.cell? ⟨b, off + i * 2, none⟩ = some (.int .i64 v.r) ∧ w.cell? ⟨b, off + i * 2 + 1, none⟩ = some (sl i))
      (hr : ∀ i v, l[i]? = some v → Rep w B (sl i) v.l) : Rep w B (.slice (some ⟨b, off, none⟩) l.length cap) l

/-- A later world in which all blocks below B are as they were. -/
theorem Rep.later {w w' : World} {B : Nat} {x : Value} {l : List T} (h : Rep w B x l) (hw : Below B w w') : Rep w' B x l := by
  induction h with
  | empty oa cap => exact .empty oa cap
  | arr b off cap l sl hb hl hm hc hr ih =>
    refine .arr b off cap l sl hb hl hm (fun i v hv => ?_) ih
    obtain ⟨h0, h1⟩ := hc i v hv
    exact ⟨(hw.cell (p := ⟨b, _, none⟩) hb).trans h0, (hw.cell (p := ⟨b, _, none⟩) hb).trans h1⟩
theorem Rep.mono {w : World} {B C : Nat} {x : Value} {l : List T} (h : Rep w B x l) (hBC : B ≤ C) : Rep w C x l := by
  induction h with
  | empty oa cap => exact .empty oa cap
  | arr b off cap l sl hb hl hm hc hr ih => exact .arr b off cap l sl (Nat.lt_of_lt_of_le hb hBC) hl hm hc ih
theorem Rep.on {w w' : World} {x : Value} {l : List T} (h : Rep w w.heap.size x l) (hb : Below w.heap.size w w') : Rep w' w'.heap.size x l := (h.later hb).mono hb.size
theorem Rep.nil {w : World} {B : Nat} : Rep w B (.slice none 0 0) [] := .empty none 0

/-- Opened in one form for a nil slice and any other. -/
theorem Rep.slice {w : World} {B : Nat} {x : Value} {l : List T} (h : Rep w B x l) :
    ∃ (oa : Option Addr) (cap : Nat), x = .slice oa l.length cap ∧ l.length ≤ cap ∧ l.length ≤ 9223372036854775807 ∧
      ∀ i v, l[i]? = some v → ∃ (b off : Nat) (oe : Option Addr) (ce : Nat), oa = some ⟨b, off, none⟩ ∧ b < B ∧
        w.cell? ⟨b, off + i * 2, none⟩ = some (.int .i64 v.r) ∧ w.cell? ⟨b, off + i * 2 + 1, none⟩ = some (.slice oe v.l.length ce) ∧ Rep w B (.slice oe v.l.length ce) v.l := by
  cases h with
  | empty oa cap => exact ⟨oa, cap, rfl, Nat.zero_le _, by simp, fun i v hv => by simp at hv⟩
  | arr b off cap l sl hb hl hm hc hr =>
    refine ⟨_, cap, rfl, hl, hm, fun i v hv => ?_⟩
    obtain ⟨h0, h1⟩ := hc i v hv
    have hR := hr i v hv
    obtain ⟨oe, ce, he⟩ : ∃ oe ce, sl i = .slice oe v.l.length ce := by
      generalize sl i = x at *
      generalize v.l = m at *
      cases hR with
      | empty oa cap => exact ⟨oa, cap, rfl⟩
      | arr b' off' cap' => exact ⟨_, cap', rfl⟩
    rw [he] at h1 hR
    exact ⟨b, off, oe, ce, rfl, hb, h0, h1, hR⟩
theorem Rep.form {w : World} {B : Nat} {x : Value} {l : List T} (h : Rep w B x l) : ∃ (oa : Option Addr) (cap : Nat), x = .slice oa l.length cap ∧ l.length ≤ cap ∧ l.length ≤ 9223372036854775807 := by
  obtain ⟨oa, cap, he, h1, h2, _⟩ := h.slice
  exact ⟨oa, cap, he, h1, h2⟩

theorem cell_at (w : World) (xs : Array Value) (t o : Nat) (x : Value) (h : xs[o]? = some x) : (w.alloc (.cells xs t)).cell? ⟨w.heap.size, o, none⟩ = some x := by
  rw [World.cell?_alloc_at _ _ _ _ rfl]; exact h

/-- A boxed term at block n. -/
def Box (w : World) (n : Nat) (v : T) (sl : Value) : Prop := w.cell? ⟨n, 0, none⟩ = some (.int .i64 v.r) ∧ w.cell? ⟨n, 1, none⟩ = some sl
theorem Box.later {w w1 : World} {n B : Nat} {v : T} {sl : Value} (h : Box w n v sl) (hb : Below B w w1) (hn : n < B) : Box w1 n v sl :=
  ⟨(hb.cell (p := ⟨n, _, none⟩) hn).trans h.1, (hb.cell (p := ⟨n, _, none⟩) hn).trans h.2⟩
theorem Box.new {w : World} {n : Nat} (v : T) (sl : Value) (t : Nat) (hn : w.heap.size = n) : Box (w.alloc (.cells #[.int .i64 v.r, sl] t)) n v sl := by
  subst hn
  exact ⟨cell_at _ _ _ _ _ rfl, cell_at _ _ _ _ _ rfl⟩

/-- One term in a block of its own, as a slice. -/
theorem Rep.new1 {w : World} {B C n : Nat} {sl : Value} {v : T} {t : Nat} (h : Rep w B sl v.l) (hB : B ≤ w.heap.size) (hn : w.heap.size = n) (hC : n + 1 ≤ C) :
    Rep (w.alloc (.cells #[.int .i64 v.r, sl] t)) C (.slice (some ⟨n, 0, none⟩) 1 1) [v] := by
  subst hn
  refine .arr w.heap.size 0 1 [v] (fun _ => sl) (by omega) (Nat.le_refl _) (by simp) (fun i x hx => ?_) (fun i x hx => ?_)
  · match i, hx with
    | 0, hx => simp at hx; subst hx; exact ⟨cell_at _ _ _ _ _ rfl, cell_at _ _ _ _ _ rfl⟩
    | i + 1, hx => simp at hx
  · match i, hx with
    | 0, hx => simp at hx; subst hx; exact (h.later ((below1 w _).mono hB)).mono (by omega)
    | i + 1, hx => simp at hx
theorem Rep.new2 {w : World} {B C n : Nat} {sl sl' : Value} {v v' : T} {t : Nat} (h : Rep w B sl v.l) (h' : Rep w B sl' v'.l) (hB : B ≤ w.heap.size) (hn : w.heap.size = n) (hC : n + 1 ≤ C) :
    Rep (w.alloc (.cells #[.int .i64 v.r, sl, .int .i64 v'.r, sl'] t)) C (.slice (some ⟨n, 0, none⟩) 2 2) [v, v'] := by
  subst hn
  refine .arr w.heap.size 0 2 [v, v'] (fun i => if i = 0 then sl else sl') (by omega) (Nat.le_refl _) (by simp) (fun i x hx => ?_) (fun i x hx => ?_)
  · match i, hx with
    | 0, hx => simp at hx; subst hx; exact ⟨cell_at _ _ _ _ _ rfl, cell_at _ _ _ _ _ rfl⟩
    | 1, hx => simp at hx; subst hx; exact ⟨cell_at _ _ _ _ _ rfl, cell_at _ _ _ _ _ rfl⟩
    | i + 2, hx => simp at hx
  · match i, hx with
    | 0, hx => simp at hx; subst hx; exact (h.later ((below1 w _).mono hB)).mono (by omega)
    | 1, hx => simp at hx; subst hx; exact (h'.later ((below1 w _).mono hB)).mono (by omega)
    | i + 2, hx => simp at hx
theorem Rep.new3 {w : World} {B C n : Nat} {sl sl' sl'' : Value} {v v' v'' : T} {t : Nat} (h : Rep w B sl v.l) (h' : Rep w B sl' v'.l) (h'' : Rep w B sl'' v''.l) (hB : B ≤ w.heap.size) (hn : w.heap.size = n) (hC : n + 1 ≤ C) :
    Rep (w.alloc (.cells #[.int .i64 v.r, sl, .int .i64 v'.r, sl', .int .i64 v''.r, sl''] t)) C (.slice (some ⟨n, 0, none⟩) 3 3) [v, v', v''] := by
  subst hn
  refine .arr w.heap.size 0 3 [v, v', v''] (fun i => if i = 0 then sl else if i = 1 then sl' else sl'') (by omega) (Nat.le_refl _) (by simp) (fun i x hx => ?_) (fun i x hx => ?_)
  · match i, hx with
    | 0, hx => simp at hx; subst hx; exact ⟨cell_at _ _ _ _ _ rfl, cell_at _ _ _ _ _ rfl⟩
    | 1, hx => simp at hx; subst hx; exact ⟨cell_at _ _ _ _ _ rfl, cell_at _ _ _ _ _ rfl⟩
    | 2, hx => simp at hx; subst hx; exact ⟨cell_at _ _ _ _ _ rfl, cell_at _ _ _ _ _ rfl⟩
    | i + 3, hx => simp at hx
  · match i, hx with
    | 0, hx => simp at hx; subst hx; exact (h.later ((below1 w _).mono hB)).mono (by omega)
    | 1, hx => simp at hx; subst hx; exact (h'.later ((below1 w _).mono hB)).mono (by omega)
    | 2, hx => simp at hx; subst hx; exact (h''.later ((below1 w _).mono hB)).mono (by omega)
    | i + 3, hx => simp at hx

end Go.Proofs.Ytbimpfciadbnjaa
