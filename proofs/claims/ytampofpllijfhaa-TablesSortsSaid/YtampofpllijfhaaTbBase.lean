/-
  Lists of texts and tables in memory. Nothing is assumed.
-/
import Derived.Test.YtampofpllijfhaaTbPlain
import Derived.Test.YtampofpllijfhaaProg
import Derived.OwnWalk
import Derived.Deep.QuietTactic
import Derived.BigQuiet
import Derived.Deep.LoopGhost
import Derived.Deep.AppendLies
import Derived.Deep.RegionLaw
import Derived.StillTailTactics
namespace Go.Proofs.Ytampofpllijfhaa
open Go.RowKit

theorem ret_int {k : IntKind} {a b : Int} (h : a = b) : Ending.returned (.int k a) = .returned (.int k b) := by rw [h]
theorem ret_bool {a b : Bool} (h : a = b) : Ending.returned (.bool a) = .returned (.bool b) := by rw [h]
theorem below1 (w : World) (o : Obj) : Below w.heap.size w (w.alloc o) := (Below.refl _ _).alloc (Nat.le_refl _) o
theorem below_drewN (w : World) (B n : Nat) : Below B w (w.drewN n) := ⟨rfl, rfl, rfl, Nat.le_refl _, fun _ _ => rfl⟩
theorem cell_lt {w : World} {b o : Nat} {v : Value} (h : w.cell? ⟨b, o, none⟩ = some v) : b < w.heap.size := by
  have := World.block_lt_of_cell? _ _ h
  simpa using this

/-- The slice value holds the list of texts in the world, in blocks with P. -/
def HoldsS (w : World) (P : Nat → Prop) (x : Value) (l : List ByteArray) : Prop :=
  ∃ (oa : Option Addr) (cap : Nat), x = .slice oa l.length cap ∧ l.length ≤ cap ∧ cap ≤ 9223372036854775807 ∧
    ∀ (i : Nat) z, l[i]? = some z → ∃ b off : Nat, oa = some ⟨b, off, none⟩ ∧ P b ∧ w.cell? ⟨b, off + i, none⟩ = some (.string z)
theorem HoldsS.keep {w w' : World} {P Q : Nat → Prop} {x : Value} {l : List ByteArray} (h : HoldsS w P x l) (hPQ : ∀ b, P b → b < w.heap.size → Q b) (hc : ∀ b o, P b → b < w.heap.size → w'.cell? ⟨b, o, none⟩ = w.cell? ⟨b, o, none⟩) : HoldsS w' Q x l := by
  obtain ⟨oa, cap, rfl, hl, hm, hel⟩ := h
  refine ⟨oa, cap, rfl, hl, hm, fun i z hz => ?_⟩
  obtain ⟨b, off, rfl, hp, hcc⟩ := hel i z hz
  exact ⟨b, off, rfl, hPQ b hp (cell_lt hcc), (hc b _ hp (cell_lt hcc)).trans hcc⟩
theorem HoldsS.later {w w' : World} {B : Nat} {x : Value} {l : List ByteArray} (h : HoldsS w (· < B) x l) (hb : Below B w w') : HoldsS w' (· < B) x l := h.keep (fun _ h _ => h) (fun b o h _ => hb.cell (p := ⟨b, o, none⟩) h)
theorem HoldsS.mono {w : World} {B C : Nat} {x : Value} {l : List ByteArray} (h : HoldsS w (· < B) x l) (hBC : B ≤ C) : HoldsS w (· < C) x l := h.keep (fun _ h _ => Nat.lt_of_lt_of_le h hBC) (fun _ _ _ _ => rfl)
theorem HoldsS.all {w : World} {P : Nat → Prop} {x : Value} {l : List ByteArray} (h : HoldsS w P x l) : HoldsS w (· < w.heap.size) x l := h.keep (fun _ _ h => h) (fun _ _ _ _ => rfl)
theorem HoldsS.at_ {w : World} {P : Nat → Prop} {n c i : Nat} {oa : Option Addr} {l : List ByteArray} {z : ByteArray} (h : HoldsS w P (.slice oa n c) l) (hz : l[i]? = some z) : ∃ b off : Nat, oa = some ⟨b, off, none⟩ ∧ P b ∧ w.cell? ⟨b, off + i, none⟩ = some (.string z) := by
  obtain ⟨oa', cap, he, _, _, hel⟩ := h
  cases he
  exact hel i z hz
theorem HoldsS.len {w : World} {P : Nat → Prop} {n c : Nat} {oa : Option Addr} {l : List ByteArray} (h : HoldsS w P (.slice oa n c) l) : l.length = n ∧ n ≤ c ∧ c ≤ 9223372036854775807 := by
  obtain ⟨oa', cap, he, h1, h2, _⟩ := h
  cases he
  exact ⟨rfl, h1, h2⟩
theorem HoldsS.nil (w : World) (P : Nat → Prop) : HoldsS w P (.slice none 0 0) [] := ⟨none, 0, rfl, Nat.le_refl _, by simp, fun i z h => by simp at h⟩
/-- .. with the slice's length and capacity as they are written. -/
theorem HoldsS.form {w : World} {P : Nat → Prop} {x : Value} {l : List ByteArray} (h : HoldsS w P x l) : ∃ oa cap, x = .slice oa l.length cap ∧ l.length ≤ cap ∧ cap ≤ 9223372036854775807 := by
  obtain ⟨oa, cap, rfl, h1, h2, _⟩ := h
  exact ⟨oa, cap, rfl, h1, h2⟩

/-- The slice value holds the table in the world, in blocks with P. -/
def HoldsT (w : World) (P : Nat → Prop) (x : Value) (t : List (List ByteArray)) : Prop :=
  ∃ (oa : Option Addr) (cap : Nat), x = .slice oa t.length cap ∧ t.length ≤ cap ∧ cap ≤ 9223372036854775807 ∧
    ∀ (i : Nat) r, t[i]? = some r → ∃ (b off : Nat) (xr : Value), oa = some ⟨b, off, none⟩ ∧ P b ∧ w.cell? ⟨b, off + i, none⟩ = some xr ∧ HoldsS w P xr r
theorem HoldsT.keep {w w' : World} {P Q : Nat → Prop} {x : Value} {t : List (List ByteArray)} (h : HoldsT w P x t) (hPQ : ∀ b, P b → b < w.heap.size → Q b) (hc : ∀ b o, P b → b < w.heap.size → w'.cell? ⟨b, o, none⟩ = w.cell? ⟨b, o, none⟩) : HoldsT w' Q x t := by
  obtain ⟨oa, cap, rfl, hl, hm, hel⟩ := h
  refine ⟨oa, cap, rfl, hl, hm, fun i z hz => ?_⟩
  obtain ⟨b, off, xr, rfl, hp, hcc, hr⟩ := hel i z hz
  exact ⟨b, off, xr, rfl, hPQ b hp (cell_lt hcc), (hc b _ hp (cell_lt hcc)).trans hcc, hr.keep hPQ hc⟩
theorem HoldsT.later {w w' : World} {B : Nat} {x : Value} {t : List (List ByteArray)} (h : HoldsT w (· < B) x t) (hb : Below B w w') : HoldsT w' (· < B) x t := h.keep (fun _ h _ => h) (fun b o h _ => hb.cell (p := ⟨b, o, none⟩) h)
theorem HoldsT.mono {w : World} {B C : Nat} {x : Value} {t : List (List ByteArray)} (h : HoldsT w (· < B) x t) (hBC : B ≤ C) : HoldsT w (· < C) x t := h.keep (fun _ h _ => Nat.lt_of_lt_of_le h hBC) (fun _ _ _ _ => rfl)
theorem HoldsT.all {w : World} {P : Nat → Prop} {x : Value} {t : List (List ByteArray)} (h : HoldsT w P x t) : HoldsT w (· < w.heap.size) x t := h.keep (fun _ _ h => h) (fun _ _ _ _ => rfl)
theorem HoldsT.on {w w' : World} {x : Value} {t : List (List ByteArray)} (h : HoldsT w (· < w.heap.size) x t) (hb : Below w.heap.size w w') : HoldsT w' (· < w'.heap.size) x t := (h.later hb).mono hb.size
theorem HoldsS.on {w w' : World} {x : Value} {l : List ByteArray} (h : HoldsS w (· < w.heap.size) x l) (hb : Below w.heap.size w w') : HoldsS w' (· < w'.heap.size) x l := (h.later hb).mono hb.size
theorem HoldsT.at_ {w : World} {P : Nat → Prop} {n c i : Nat} {oa : Option Addr} {t : List (List ByteArray)} {r : List ByteArray} (h : HoldsT w P (.slice oa n c) t) (hz : t[i]? = some r) : ∃ (b off : Nat) (o : Option Addr) (cr : Nat), oa = some ⟨b, off, none⟩ ∧ P b ∧ w.cell? ⟨b, off + i, none⟩ = some (.slice o r.length cr) ∧ HoldsS w P (.slice o r.length cr) r := by
  obtain ⟨oa', cap, he, _, _, hel⟩ := h
  cases he
  obtain ⟨b, off, xr, rfl, hp, hc, hr⟩ := hel i r hz
  obtain ⟨o, cr, rfl, _, _⟩ := hr.form
  exact ⟨b, off, o, cr, rfl, hp, hc, hr⟩
theorem HoldsT.len {w : World} {P : Nat → Prop} {n c : Nat} {oa : Option Addr} {t : List (List ByteArray)} (h : HoldsT w P (.slice oa n c) t) : t.length = n ∧ n ≤ c ∧ c ≤ 9223372036854775807 := by
  obtain ⟨oa', cap, he, h1, h2, _⟩ := h
  cases he
  exact ⟨rfl, h1, h2⟩
theorem HoldsT.nil (w : World) (P : Nat → Prop) : HoldsT w P (.slice none 0 0) [] := ⟨none, 0, rfl, Nat.le_refl _, by simp, fun i z h => by simp at h⟩
theorem HoldsT.form {w : World} {P : Nat → Prop} {x : Value} {t : List (List ByteArray)} (h : HoldsT w P x t) : ∃ oa cap, x = .slice oa t.length cap ∧ t.length ≤ cap ∧ cap ≤ 9223372036854775807 := by
  obtain ⟨oa, cap, rfl, h1, h2, _⟩ := h
  exact ⟨oa, cap, rfl, h1, h2⟩

theorem str_ne {a b : ByteArray} (h : a ≠ b) : (a.toList == b.toList) = false := by
  rw [beq_eq_false_iff_ne, ByteArray.toList_eq, ByteArray.toList_eq]
  intro e
  apply h
  cases a; cases b
  simp only [ByteArray.mk.injEq]
  exact Array.ext' e

end Go.Proofs.Ytampofpllijfhaa
