/-
  The walk of DomainAts. Nothing is assumed.
-/
import Derived.Test.YthfdlaphglpnpaaDoorDmRat
import Derived.Test.YthfdlaphglpnpaaDoorDmAlive
import Derived.Test.YthfdlaphglpnpaaDoorOrder
namespace Go.Proofs.YthfdlaphglpnpaaDoor
open Go.RowKit Go.Shelf

theorem V.eqs_self (l : List V) : V.eqs l l = true := by
  have h := V.antis l l (fun x _ b => V.anti x b)
  have h0 : V.cmps l l = 0 := by omega
  unfold V.eqs
  rw [h0]
  rfl
theorem at_any (l : List (List V)) (x : Value) (N : Int) (w : World) (B : Nat) (hx : LAx w B x l) (hB : B ≤ w.heap.size) (hl : l.length ≤ 1000) (hfit : ∀ a, a ∈ l → ∀ v, v ∈ a → v.fits = true) :
    Calls Tryd.prog 20 #[.agg #[x], .int .i64 N] w fun e w' => (∃ sl, e = .returned (.tuple #[sl, .int .i64 (atE l N)]) ∧ Rep w' w'.heap.size sl (atL l N)) ∧ Below w.heap.size w w' :=
  callsIn_wide.1 (at_in 10 (Nat.le_refl _) l x N w B hx hB hl hfit)

set_option maxRecDepth 100000 in
set_option maxHeartbeats 1600000 in
theorem lawAts_any (l : List (List V)) (x : Value) (N : Int) (w : World) (hx : LAx w w.heap.size x l) (hN : Names w) :
    Calls Tryd.prog 5 #[.agg #[x], .int .i64 N] w fun e w' => e = .returned (.bool true) ∧ Below w.heap.size w w' := by
  have HX := Lib.hid hx
  obtain ⟨oa, ca, rfl, _, hlm⟩ := hx.form
  clear hx
  obtain ⟨w0, hw0⟩ : ∃ w0, w0 = w.alloc (.cells #[.slice oa l.length ca] 24) := ⟨_, rfl⟩
  have hb0 : Below w.heap.size w w0 := by rw [hw0]; exact below1 _ _
  have hd : w0.cell? ⟨w.heap.size, 0, none⟩ = some (.slice oa l.length ca) := by rw [hw0]; exact cell_at _ _ _ _ _ rfl
  have hs0 : w.heap.size + 1 ≤ w0.heap.size := by rw [hw0]; simp
  have HX0 := Lib.hid (HX.out.later hb0)
  have HSM := Lib.hid (smallD_any l _ w0 w.heap.size HX0.out (by omega))
  have HN0 := Lib.hid (show ∀ w', Below w.heap.size w w' → Names w' from fun w' h => hN.later h)
  have HB0 := Lib.hid hb0
  rw [hw0] at HSM hd
  go_enter Tryd.func5, Tryd.ntmps5
  go_wp2_with fail
  refine HSM.out.mono ?_
  rw [← hw0] at hd ⊢
  rintro e w1 ⟨rfl, hb1⟩
  have HB1 := Lib.hid (hb0.trans (hb1.mono (by omega)))
  have hd1 := (hb1.cell (p := ⟨w.heap.size, 0, none⟩) (by simp; omega)).trans hd
  have HBX := Lib.hid (show Below (w.heap.size + 1) w0 w1 from hb1.mono hs0)
  have hs1 := hb1.size
  clear hb1 hb0 hd hw0 hN
  by_cases hsm : smD l = true
  · have HF := Lib.hid (smD_fits hsm)
    have HSM2 := Lib.hid hsm
    have HX1 := Lib.hid (HX.out.later HB1.out)
    have HA := Lib.hid (at_any l _ N w1 w.heap.size HX1.out (by omega) (by have := HF.out.1; omega) (fun a ha v hv => (HF.out.2 a ha).2 v hv))
    go_wp2_with fail
    refine HA.out.mono ?_
    rintro e w2 ⟨⟨sa, rfl, ha⟩, hb2⟩
    have hd2 := (hb2.cell (p := ⟨w.heap.size, 0, none⟩) (by simp; omega)).trans hd1
    have HB2 := Lib.hid (HB1.out.trans (hb2.mono (by omega)))
    have hs2 := hb2.size
    have HR := Lib.hid (rat_any l _ N w2 w.heap.size (HX.out.later HB2.out) (by omega) (by have := HF.out.1; omega))
    have HAA := Lib.hid ha
    obtain ⟨oa2, ca2, rfl, _, _, _⟩ := ha.slice
    clear hd1 hb2 ha
    go_wp2_with fail
    refine HR.out.mono ?_
    rintro e w3 ⟨⟨sb, rfl, hb⟩, hb3⟩
    have HB3 := Lib.hid (HB2.out.trans (hb3.mono (by omega)))
    have hs3 := hb3.size
    have HE := Lib.hid (equalAll_any (atL l N) (atL l N) _ sb w3 w3.heap.size ((HAA.out.later hb3).mono hs3) hb (Nat.le_refl _))
    rw [V.eqs_self] at HE
    obtain ⟨ob2, cb2, rfl, _, _, _⟩ := hb.slice
    clear hd2 hb3 hb
    go_wp2_with fail
    refine HE.out.mono ?_
    rintro e w4 ⟨rfl, hb4⟩
    have HB4 := Lib.hid (HB3.out.trans (hb4.mono (by omega)))
    have hs4 := hb4.size
    have HAL := Lib.hid (alive_any w4 (HN0.out _ HB4.out))
    clear hb4
    go_wp2_with fail
    refine HAL.out.mono ?_
    rintro e w5 ⟨rfl, hb5⟩
    have HB5 := Lib.hid (HB4.out.trans (hb5.mono (by omega)))
    clear hb5
    go_wp2_with fail
    go_ret
    exact ⟨rfl, HB5.out⟩
  · have HSM2 := Lib.hid hsm
    have HAL := Lib.hid (alive_any w1 (HN0.out _ HB1.out))
    go_wp2_with fail
    refine HAL.out.mono ?_
    rintro e w5 ⟨rfl, hb5⟩
    have HB5 := Lib.hid (HB1.out.trans (hb5.mono (by omega)))
    clear hb5
    go_wp2_with fail
    go_ret
    exact ⟨rfl, HB5.out⟩

end Go.Proofs.YthfdlaphglpnpaaDoor
