/-
  At of the program. Nothing is assumed.
-/
import Derived.Test.YtdfhfljmcakilaaTmPath
namespace Go.Proofs.Ytdfhfljmcakilaa
open Go.RowKit

theorem T.follow_size (p : List Int) : ∀ {v u : T}, v.follow p = some u → u.size ≤ v.size := by
  induction p with
  | nil => intro v u h; rw [T.follow] at h; cases h; exact Nat.le_refl _
  | cons i p ih =>
    intro v u h
    rw [T.follow] at h
    split at h
    · split at h
      · rename_i x hx
        have h1 := ih h
        have h2 := T.mem_sizes (List.mem_of_getElem? hx)
        have h3 := v.size_eq
        omega
      · cases h
    · cases h

/-- What At and Replace return: a term that they have built, or the error. -/
def RetA (w w' : World) (o : Option T) (e : Ending) : Prop := match o with
  | none => e = .returned (.tuple #[.agg #[.int .i64 0, .slice none 0 0], .int .i64 7])
  | some u => ∃ sl, e = .returned (.tuple #[.agg #[.int .i64 u.r, sl], .int .i64 0]) ∧ FR w' (fun k => w.heap.size ≤ k ∧ k < w'.heap.size) sl u.l
theorem RetA.none {w w' : World} {o : Option T} {e : Ending} (ho : o = none) (he : e = .returned (.tuple #[.agg #[.int .i64 0, .slice none 0 0], .int .i64 7])) : RetA w w' o e := by subst ho; exact he
theorem RetA.some {w w' : World} {o : Option T} {u : T} {e : Ending} {sl : Value} (ho : o = some u) (he : e = .returned (.tuple #[.agg #[.int .i64 u.r, sl], .int .i64 0])) (hF : FR w' (fun k => w.heap.size ≤ k ∧ k < w'.heap.size) sl u.l) : RetA w w' o e := by
  subst ho; exact ⟨sl, he, hF⟩

theorem frozen_new (w : World) (xs : Array Value) (t : Nat) (o : Nat) : (w.alloc (.cells xs t)).frozen? ⟨w.heap.size, o, none⟩ = false := by
  unfold World.frozen?
  rw [heap_alloc_new]
  simp

set_option maxRecDepth 100000 in
set_option maxHeartbeats 1600000 in
theorem at_any (v : T) (sl y : Value) (p : List Int) (w : World) (B : Nat) (hrep : Rep w B sl v.l) (hB : B ≤ w.heap.size) (hy : HoldsI w B y p) (hsz : v.size ≤ 1000) :
    Calls Try.prog 20 #[.agg #[.int .i64 v.r, sl], y] w fun e w' => RetA w w' (v.follow p) e ∧ Below w.heap.size w w' := by
  obtain ⟨oa, ca, rfl, _, _⟩ := hrep.form
  obtain ⟨oy, cy, rfl, _, _⟩ : ∃ oa cap, y = .slice oa p.length cap ∧ p.length ≤ cap ∧ cap ≤ 9223372036854775807 := by obtain ⟨a, b, c, d, e, _⟩ := hy; exact ⟨a, b, c, d, e⟩
  have HBB : Below w.heap.size w ((w.alloc (.cells #[.int .i64 v.r, .slice oa v.l.length ca] 24)).alloc (.cells #[.int .i64 0, .slice none 0 0] 24)) := below2 _ _ _
  have HBT : Box ((w.alloc (.cells #[.int .i64 v.r, .slice oa v.l.length ca] 24)).alloc (.cells #[.int .i64 0, .slice none 0 0] 24)) w.heap.size v (.slice oa v.l.length ca) := (Box.new v _ _ rfl).later (below1 _ _) (by simp)
  have HBR : Box ((w.alloc (.cells #[.int .i64 v.r, .slice oa v.l.length ca] 24)).alloc (.cells #[.int .i64 0, .slice none 0 0] 24)) (w.heap.size + 1) (.mk 0 []) (.slice none 0 0) := Box.new (.mk 0 []) _ _ (by simp)
  have hfr : ∀ o : Nat, ((w.alloc (.cells #[.int .i64 v.r, .slice oa v.l.length ca] 24)).alloc (.cells #[.int .i64 0, .slice none 0 0] 24)).frozen? ⟨w.heap.size + 1, o, none⟩ = false := by
    intro o
    have h := frozen_new (w.alloc (.cells #[.int .i64 v.r, .slice oa v.l.length ca] 24)) #[.int .i64 0, .slice none 0 0] 24 o
    rw [World.size_alloc] at h
    exact h
  have hzz : ((w.alloc (.cells #[.int .i64 v.r, .slice oa v.l.length ca] 24)).alloc (.cells #[.int .i64 0, .slice none 0 0] 24)).heap.size = w.heap.size + 2 := by simp
  have HR := Lib.hid (hrep.later (HBB.mono hB))
  have HY := Lib.hid (hy.later (HBB.mono hB))
  clear hrep hy
  go_enter Try.func20, Try.ntmps20
  go_wp2_with fail
  generalize (w.alloc (.cells #[.int .i64 v.r, .slice oa v.l.length ca] 24)).alloc (.cells #[.int .i64 0, .slice none 0 0] 24) = W at *
  refine (follow_any w.heap.size 0 v _ p W B ⟨oa, ca, HBT.1, HBT.2, HR.out⟩ HY.out).mono ?_
  rintro e w1 ⟨rfl, ⟨hF, rfl⟩ | ⟨b2, o2, u, hF, rfl, hP, hA⟩⟩
  · have HF := Lib.hid hF
    obtain ⟨r0, r1⟩ := HBR
    have f0 := hfr 0
    have f1 := hfr 1
    clear hF
    go_wp2_with fail
    refine bodyPost_ret (v := .tuple #[.agg #[.int .i64 0, .slice none 0 0], .int .i64 7]) (by simp [results, Try.results20, go_sem, *]) rfl ?_
    exact ⟨RetA.none HF.out rfl, HBB.trans (((Below.refl _ _).setCell (p := ⟨w.heap.size + 1, _, none⟩) (by simp) _).setCell (p := ⟨w.heap.size + 1, _, none⟩) (by simp) _)⟩
  · have HF := Lib.hid hF
    have husz := T.follow_size p hF
    obtain ⟨oe, ce, c0, c1, hre⟩ := hA
    have HC := Lib.hid (clone_any u _ w1 B hre (by omega) (by omega))
    clear hF husz hP hre
    go_wp2_with fail
    refine HC.out.mono ?_
    rintro e w3 ⟨⟨sl3, rfl, hf3⟩, hb3⟩
    obtain ⟨o3, cc3, rfl, _, _⟩ := hf3.form
    have HF3 := Lib.hid hf3
    obtain ⟨r0, r1⟩ := HBR.later hb3 (by omega)
    have f0 := (hb3.frozen (p := ⟨w.heap.size + 1, 0, none⟩) (by simp; omega)).trans (hfr 0)
    have f1 := (hb3.frozen (p := ⟨w.heap.size + 1, 1, none⟩) (by simp; omega)).trans (hfr 1)
    have hs3 := hb3.size
    clear hf3 c0 c1
    go_wp2_with fail
    refine bodyPost_ret (v := .tuple #[.agg #[.int .i64 u.r, .slice o3 u.l.length cc3], .int .i64 0]) (by simp [results, Try.results20, go_sem, *]) rfl ?_
    refine ⟨RetA.some HF.out rfl ((HF3.out.keep (fun q hq => set2_other _ _ _ _ _ _ _ (by omega))).mono (fun q hq => ⟨by omega, by rw [set2_size]; omega⟩)), HBB.trans (((hb3.mono (by omega)).setCell (p := ⟨w.heap.size + 1, _, none⟩) (by simp) _).setCell (p := ⟨w.heap.size + 1, _, none⟩) (by simp) _)⟩

end Go.Proofs.Ytdfhfljmcakilaa
