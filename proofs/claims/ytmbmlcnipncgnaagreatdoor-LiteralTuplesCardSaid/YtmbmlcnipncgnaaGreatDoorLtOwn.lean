/-
  Bytes that a call has built. Nothing is assumed.
-/
import Derived.Test.YtmbmlcnipncgnaaGreatDoorLtReader
import Derived.Test.YtmbmlcnipncgnaaGreatDoorStPlain
import Derived.OwnWalk
namespace Go.Proofs.YtmbmlcnipncgnaaGreatDoor
open Go.RowKit

theorem infoByte : (Tryz.prog.info? 5).map (fun i => (i.zero, i.size, i.bytes)) = some (some (.int .u8 0), 1, 1) := by kernel_rfl
theorem empty_string (w : World) : (convert 43 9 (.slice none 0 0)).run Tryz.prog w = .ok (.string ⟨#[]⟩) w := by
  rw [run_convert_bytes_string w _ _ 5 none 0 0 Tryz.underlying43 Tryz.underlying5 Tryz.underlying9]
  rfl

def bcells (l : List UInt8) : List Value := l.map fun c => Value.int .u8 (c.toNat : Int)
/-- Bytes that the call has built. -/
def OwnB (w : World) (base : Nat) (v : Value) (l : List UInt8) : Prop := w.ownsRow base 5 1 v l.length (bcells l)
theorem OwnB.none (w : World) (base : Nat) : OwnB w base (.slice none 0 0) [] := ⟨rfl, .inl ⟨rfl, rfl⟩⟩
theorem ownB_far {w : World} {base : Nat} {v : Value} {l : List UInt8} (h : OwnB w base v l) {g : Nat} (hg : g < base) : v.ownBlock ≠ some g := by
  rcases h.2 with ⟨rfl, _⟩ | ⟨g', cap, cur, rfl, hb, _⟩
  · simp [Value.ownBlock]
  · simp [Value.ownBlock]; omega
/-- string(b) of bytes that the call has built. -/
theorem OwnB.string {w : World} {base : Nat} {v : Value} {l : List UInt8} (h : OwnB w base v l) : (convert 43 9 v).run Tryz.prog w = .ok (.string (str l)) w := by
  rcases h.2 with ⟨rfl, h0⟩ | ⟨g, cap, cur, rfl, hg, hh, hcap, _, hsz, htk⟩
  · obtain rfl := List.eq_nil_of_length_eq_zero h0
    exact empty_string w
  · exact run_convert_bytes_back (P := Tryz.prog) w 43 9 5 ⟨g, 0, Option.none⟩ cap l Tryz.underlying43 Tryz.underlying5 Tryz.underlying9 (fun j hj => by
      have ea : (⟨g, 0, Option.none⟩ : Addr).add j = ⟨g, j, Option.none⟩ := by simp [Addr.add]; exact fun h => h.symm
      have h1 : cur.toList[j]? = some (.int .u8 (l[j].toNat : Int)) := by
        have : (bcells l)[j]? = some (.int .u8 (l[j].toNat : Int)) := by simp [bcells, hj]
        rw [← htk, List.getElem?_take] at this
        rw [if_pos (by omega)] at this
        exact this
      rw [ea]
      unfold World.cell?
      rw [hh]
      simpa using h1)
theorem byte_news (W : World) (v : Value) (t : TypeId) : ∀ (j : Nat) u, [v][j]? = some u → (W.alloc (.cells #[v] t)).cell? ((⟨W.heap.size, 0, none⟩ : Addr).add j) = some u := fun j u hj => by
  match j, hj with
  | 0, hj => simp at hj; subst hj; simp [Addr.add]
  | j + 1, hj => simp at hj
theorem byte_cells (n : Int) : ∀ u, u ∈ [Value.int .u8 n] → u.oneCell' = true := fun u hu => by simp at hu; subst hu; rfl
theorem own_form {w : World} {base : Nat} {v : Value} {n : Nat} {xs : List Value} (h : w.ownsRow base 5 1 v n xs) : ∃ ao cap, v = .slice ao n cap := by
  rcases h.2 with ⟨h1, h2⟩ | ⟨g, cap, cur, h1, _⟩
  · exact ⟨none, 0, by rw [h1, h2]⟩
  · exact ⟨_, _, h1⟩
theorem own_byte {w : World} {base : Nat} {v : Value} {A : List UInt8} {c : UInt8} (h : w.ownsRow base 5 1 v (A.length + 1) (bcells A ++ [.int .u8 (c.toNat : Int)])) : OwnB w base v (A ++ [c]) := by
  unfold OwnB
  rw [List.length_append]
  unfold bcells at *
  rw [List.map_append]
  exact h

end Go.Proofs.YtmbmlcnipncgnaaGreatDoor
