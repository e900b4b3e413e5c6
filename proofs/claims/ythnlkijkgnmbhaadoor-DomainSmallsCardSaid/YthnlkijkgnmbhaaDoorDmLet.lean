/-
  letters of package domain. Nothing is assumed.
-/
import Derived.Test.YthnlkijkgnmbhaaDoorDmSmall
import Derived.OwnWalk
namespace Go.Proofs.YthnlkijkgnmbhaaDoor
open Go.RowKit

def lenN (m : Nat) : Nat := if m = 0 then 0 else Nat.log2 m + 1

set_option maxRecDepth 100000 in
theorem len_tab : ∀ m (h : m < (⟨#[0, 1, 2, 2, 3, 3, 3, 3, 4, 4, 4, 4, 4, 4, 4, 4, 5, 5, 5, 5, 5, 5, 5, 5, 5, 5, 5, 5, 5, 5, 5, 5, 6, 6, 6, 6, 6, 6, 6, 6, 6, 6, 6, 6, 6, 6, 6, 6, 6, 6, 6, 6, 6, 6, 6, 6, 6, 6, 6, 6, 6, 6, 6, 6, 7, 7, 7, 7, 7, 7, 7, 7, 7, 7, 7, 7, 7, 7, 7, 7, 7, 7, 7, 7, 7, 7, 7, 7, 7, 7, 7, 7, 7, 7, 7, 7, 7, 7, 7, 7, 7, 7, 7, 7, 7, 7, 7, 7, 7, 7, 7, 7, 7, 7, 7, 7, 7, 7, 7, 7, 7, 7, 7, 7, 7, 7, 7, 7, 8, 8, 8, 8, 8, 8, 8, 8, 8, 8, 8, 8, 8, 8, 8, 8, 8, 8, 8, 8, 8, 8, 8, 8, 8, 8, 8, 8, 8, 8, 8, 8, 8, 8, 8, 8, 8, 8, 8, 8, 8, 8, 8, 8, 8, 8, 8, 8, 8, 8, 8, 8, 8, 8, 8, 8, 8, 8, 8, 8, 8, 8, 8, 8, 8, 8, 8, 8, 8, 8, 8, 8, 8, 8, 8, 8, 8, 8, 8, 8, 8, 8, 8, 8, 8, 8, 8, 8, 8, 8, 8, 8, 8, 8, 8, 8, 8, 8, 8, 8, 8, 8, 8, 8, 8, 8, 8, 8, 8, 8, 8, 8, 8, 8, 8, 8, 8, 8, 8, 8, 8, 8, 8, 8, 8, 8, 8, 8]⟩ : ByteArray).size), ((⟨#[0, 1, 2, 2, 3, 3, 3, 3, 4, 4, 4, 4, 4, 4, 4, 4, 5, 5, 5, 5, 5, 5, 5, 5, 5, 5, 5, 5, 5, 5, 5, 5, 6, 6, 6, 6, 6, 6, 6, 6, 6, 6, 6, 6, 6, 6, 6, 6, 6, 6, 6, 6, 6, 6, 6, 6, 6, 6, 6, 6, 6, 6, 6, 6, 7, 7, 7, 7, 7, 7, 7, 7, 7, 7, 7, 7, 7, 7, 7, 7, 7, 7, 7, 7, 7, 7, 7, 7, 7, 7, 7, 7, 7, 7, 7, 7, 7, 7, 7, 7, 7, 7, 7, 7, 7, 7, 7, 7, 7, 7, 7, 7, 7, 7, 7, 7, 7, 7, 7, 7, 7, 7, 7, 7, 7, 7, 7, 7, 8, 8, 8, 8, 8, 8, 8, 8, 8, 8, 8, 8, 8, 8, 8, 8, 8, 8, 8, 8, 8, 8, 8, 8, 8, 8, 8, 8, 8, 8, 8, 8, 8, 8, 8, 8, 8, 8, 8, 8, 8, 8, 8, 8, 8, 8, 8, 8, 8, 8, 8, 8, 8, 8, 8, 8, 8, 8, 8, 8, 8, 8, 8, 8, 8, 8, 8, 8, 8, 8, 8, 8, 8, 8, 8, 8, 8, 8, 8, 8, 8, 8, 8, 8, 8, 8, 8, 8, 8, 8, 8, 8, 8, 8, 8, 8, 8, 8, 8, 8, 8, 8, 8, 8, 8, 8, 8, 8, 8, 8, 8, 8, 8, 8, 8, 8, 8, 8, 8, 8, 8, 8, 8, 8, 8, 8, 8, 8]⟩ : ByteArray)[m]'h).toNat = lenN m := by
  have key : ∀ m : Fin 256, ((⟨#[0, 1, 2, 2, 3, 3, 3, 3, 4, 4, 4, 4, 4, 4, 4, 4, 5, 5, 5, 5, 5, 5, 5, 5, 5, 5, 5, 5, 5, 5, 5, 5, 6, 6, 6, 6, 6, 6, 6, 6, 6, 6, 6, 6, 6, 6, 6, 6, 6, 6, 6, 6, 6, 6, 6, 6, 6, 6, 6, 6, 6, 6, 6, 6, 7, 7, 7, 7, 7, 7, 7, 7, 7, 7, 7, 7, 7, 7, 7, 7, 7, 7, 7, 7, 7, 7, 7, 7, 7, 7, 7, 7, 7, 7, 7, 7, 7, 7, 7, 7, 7, 7, 7, 7, 7, 7, 7, 7, 7, 7, 7, 7, 7, 7, 7, 7, 7, 7, 7, 7, 7, 7, 7, 7, 7, 7, 7, 7, 8, 8, 8, 8, 8, 8, 8, 8, 8, 8, 8, 8, 8, 8, 8, 8, 8, 8, 8, 8, 8, 8, 8, 8, 8, 8, 8, 8, 8, 8, 8, 8, 8, 8, 8, 8, 8, 8, 8, 8, 8, 8, 8, 8, 8, 8, 8, 8, 8, 8, 8, 8, 8, 8, 8, 8, 8, 8, 8, 8, 8, 8, 8, 8, 8, 8, 8, 8, 8, 8, 8, 8, 8, 8, 8, 8, 8, 8, 8, 8, 8, 8, 8, 8, 8, 8, 8, 8, 8, 8, 8, 8, 8, 8, 8, 8, 8, 8, 8, 8, 8, 8, 8, 8, 8, 8, 8, 8, 8, 8, 8, 8, 8, 8, 8, 8, 8, 8, 8, 8, 8, 8, 8, 8, 8, 8, 8, 8]⟩ : ByteArray)[m.1]'m.2).toNat = lenN m.1 := by decide +kernel
  exact fun m h => key ⟨m, h⟩
theorem log2_lt (m : Nat) (hm : m < 256) : lenN m ≤ 8 := by
  unfold lenN
  split
  · omega
  · have := (Nat.log2_lt (n := m) (k := 8) (by omega)).2 hm
    omega

set_option maxRecDepth 100000 in
set_option maxHeartbeats 1600000 in
theorem len64_any (m : Nat) (hm : m < 256) (w : World) : Calls Tryd.prog 94 #[.int .u64 (m : Int)] w fun e w' => e = .returned (.int .i64 (lenN m : Nat)) ∧ w = w' := by
  have hm0 : (m : Int) < 256 := by omega
  have h1 : ¬ (4294967296 : Int) ≤ (m : Int) := by omega
  have h2 : ¬ (65536 : Int) ≤ (m : Int) := by omega
  have h3 : ¬ (256 : Int) ≤ (m : Int) := by omega
  have h4 : (0 : Int) ≤ (m : Int) := by omega
  go_enter Tryd.func94, Tryd.ntmps94
  go_wp2_with fail
  go_ret
  refine ⟨ret_int ?_, rfl⟩
  have hl := log2_lt m hm
  rw [len_tab m hm]
  have e : wrap64 ((lenN m : Nat) : Int) = ((lenN m : Nat) : Int) := IntWalk.wrap64_in ((lenN m : Nat) : Int) ⟨by omega, by omega⟩
  rw [e, e]

set_option maxHeartbeats 800000 in
theorem len_any (m : Nat) (hm : m < 256) (w : World) : Calls Tryd.prog 79 #[.int .u64 (m : Int)] w fun e w' => e = .returned (.int .i64 (lenN m : Nat)) ∧ w = w' := by
  have HC := Lib.hid (len64_any m hm w)
  go_enter Tryd.func79, Tryd.ntmps79
  go_wp2_with fail
  refine HC.out.mono ?_
  rintro e w2 ⟨rfl, rfl⟩
  go_wp2_with fail
  go_ret
  exact ⟨rfl, rfl⟩

theorem letL_two {m : Nat} (h : 2 ≤ m) : letL m = letL (m / 2) ++ [UInt8.ofNat (97 + m % 2)] := by
  rw [letL]
  exact dif_neg (by omega)
theorem letL_one {m : Nat} (h : m ≤ 1) : letL m = [] := by
  rw [letL]
  exact dif_pos h
theorem letL_len (m : Nat) : (letL m).length = Nat.log2 m := by
  induction m using Nat.strongRecOn with
  | _ m ih =>
    by_cases h : 2 ≤ m
    · have h2 := Nat.log2_def m
      rw [if_pos h] at h2
      rw [letL_two h, List.length_append, ih _ (by omega), h2]
      rfl
    · have h2 := Nat.log2_def m
      rw [if_neg h] at h2
      rw [letL_one (by omega), h2]
      rfl

/-- The block is the row of the bytes. -/
def BR (w : World) (g : Nat) (l : List Nat) : Prop := w.heap[g]? = some (.cells (l.map fun p : Nat => Value.int .u8 (p : Int)).toArray 5 (0, 0))
theorem BR.lt {w : World} {g : Nat} {q : List Nat} (h : BR w g q) : g < w.heap.size := (Array.getElem?_eq_some_iff.1 h).1
theorem BR.cell {w : World} {g i p : Nat} {q : List Nat} (h : BR w g q) (hi : q[i]? = some p) : w.cell? ⟨g, i, none⟩ = some (.int .u8 (p : Int)) := by
  unfold World.cell?
  rw [show w.heap[g]? = _ from h]
  simp [hi]
theorem BR.frozen {w : World} {g : Nat} {q : List Nat} (h : BR w g q) (i : Nat) : w.frozen? ⟨g, i, none⟩ = false := by
  unfold World.frozen?
  rw [show w.heap[g]? = _ from h]
  simp
theorem BR.set {w : World} {g : Nat} {q : List Nat} (h : BR w g q) (i p : Nat) : BR (w.setCell ⟨g, i, none⟩ (.int .u8 (p : Int))) g (q.set i p) := by
  have h1 := heap_setCell_same w g i _ _ (.int .u8 (p : Int)) h
  unfold BR
  rw [h1]
  simp [List.map_set]
theorem BR.made {w' : World} {g n base : Nat} (h : w'.ownsRow base 5 1 (.slice (some ⟨g, 0, none⟩) n n) n (madeCells #[.int .u8 0] n).toList) : BR w' g (List.replicate n 0) := by
  rcases h.2 with ⟨h0, _⟩ | ⟨g', cap, c, hv, hg, hh, hnc, hcm, hcs, htk⟩
  · cases h0
  · cases hv
    unfold BR
    rw [hh]
    have h1 : c.toList = (madeCells #[.int .u8 0] n).toList := by rw [← htk, List.take_of_length_le (by simp; omega)]
    have h2 : c = madeCells #[.int .u8 0] n := by cases c; simp at h1; simp [h1]
    rw [h2]
    congr 2
    apply Array.ext_getElem?
    intro i
    by_cases hi : i < n
    · simp [madeCells, hi, Nat.mod_one]
    · simp [madeCells, hi]
theorem infoU8 : (Tryd.prog.info? 5).map (fun i => (i.zero, i.size, i.bytes)) = some (some (.int .u8 0), 1, 1) := by kernel_rfl
theorem BR.string {w : World} {g c : Nat} {l : List UInt8} (h : BR w g (l.map UInt8.toNat)) : (convert 97 9 (.slice (some ⟨g, 0, none⟩) l.length c)).run Tryd.prog w = .ok (.string (strB l)) w := 
  run_convert_bytes_back (P := Tryd.prog) w 97 9 5 ⟨g, 0, Option.none⟩ c l Tryd.underlying97 Tryd.underlying5 Tryd.underlying9 (fun j hj => by
    have ea : (⟨g, 0, Option.none⟩ : Addr).add j = ⟨g, j, Option.none⟩ := by simp [Addr.add]; exact fun h => h.symm
    rw [ea]
    exact h.cell (by simp [hj]))

set_option maxRecDepth 100000 in
set_option maxHeartbeats 1600000 in
theorem letters_any (i : Nat) (hi : i ≤ 100) (w : World) : Calls Tryd.prog 64 #[.int .i64 (i : Int)] w fun e w' => e = .returned (.string (strB (letL (i + 1)))) ∧ Below w.heap.size w w' := by
  have HC := Lib.hid (len_any (i + 1) (by omega) w)
  obtain ⟨L, hL⟩ : ∃ L, (letL (i + 1)).length = L := ⟨_, rfl⟩
  have hlen : lenN (i + 1) = L + 1 := by
    unfold lenN
    rw [if_neg (by omega), ← hL, letL_len]
  have hL8 : L ≤ 7 := by
    have := log2_lt (i + 1) (by omega)
    omega
  rw [hlen] at HC
  have HL := Lib.hid hL
  obtain ⟨i0, hi', hz0, hz1, hz2⟩ := info_parts infoU8
  have hLw : IntKind.i64.wrap (L : Int) = (L : Int) := IntWalk.i64_in _ (by omega)
  obtain ⟨n0, hn0⟩ : ∃ n0 : Nat, n0 = i + 1 := ⟨_, rfl⟩
  have hii : (i : Int) + 1 = (n0 : Int) := by omega
  have hu : IntKind.u64.wrap (n0 : Int) = (n0 : Int) := by
    show (n0 : Int) % 18446744073709551616 = n0
    omega
  rw [← hn0] at HC ⊢
  have HN0 := Lib.hid hn0
  clear hn0 hlen hL
  go_enter Tryd.func64, Tryd.ntmps64
  go_wp2_with fail
  refine HC.out.mono ?_
  clear HC
  rintro e w1 ⟨rfl, rfl⟩
  go_wp2_with (at_make; refine wpList_make_full _ rfl _ _ 97 rfl w.heap.size 5 i0 _ 1 Tryd.underlying97 hi' hz0 hz1 _ _ _ _ L rfl rfl rfl rfl ?b2 ?b3 (Nat.le_refl _) ?_)
  case b2 => rw [hz2]; omega
  case b3 => unfold maxLen; omega
  intro w4 hown4 hgrow4
  have hb4 : Below w.heap.size w w4 := (Below.refl _ _).grown hgrow4 (Nat.le_refl _) (fun k e => by cases e)
  have HR4 := Lib.hid (BR.made hown4)
  have HB4 := Lib.hid hb4
  clear hown4 hgrow4 hb4 hz0 hz1 hz2 hi' hii hu
  go_wp2_with fail
  go_loopw [5, 3] (fun jv mv wr => ∃ (j m : Nat) (T : List UInt8), jv = .int .i64 ((j : Int) - 1) ∧ mv = .int .i64 (m : Int) ∧ Hid (j ≤ L ∧ m ≤ n0 ∧ (letL m).length = j ∧ letL n0 = letL m ++ T ∧ BR wr w.heap.size (List.replicate j 0 ++ T.map UInt8.toNat) ∧ Below w.heap.size w wr)) (fun jv _ _ => (intOf jv + 1).toNat)
  case atStart => exact ⟨L, n0, [], by first | rfl | simp, rfl, Lib.hid ⟨Nat.le_refl _, Nat.le_refl _, by rw [HN0.out]; exact HL.out, by simp, by simpa using HR4.out, HB4.out⟩⟩
  case round =>
    obtain ⟨j, m, T, rfl, rfl, HI⟩ := hrel
    cases j with
    | zero =>
      obtain ⟨_, _, h3, h4, h5, h6⟩ := HI.out
      have h7 : letL m = [] := List.eq_nil_of_length_eq_zero h3
      rw [h7, List.nil_append] at h4
      rw [List.replicate_zero, List.nil_append] at h5
      have hTL : T.length = L := by rw [← h4, HN0.out]; exact HL.out
      have hst := h5.string (c := L)
      rw [hTL] at hst
      have H4 := Lib.hid h4
      have H6 := Lib.hid h6
      clear h3 h4 h5 h6 h7 hTL
      go_wp2_with fail
      go_ret
      exact ⟨ret_string (by rw [H4.out]), H6.out⟩
    | succ j =>
      obtain ⟨h1, h2, h3, h4, h5, h6⟩ := HI.out
      have hm2 : 2 ≤ m := by
        by_cases h : 2 ≤ m
        · exact h
        · rw [letL_one (by omega)] at h3; cases h3
      obtain ⟨r, hr⟩ : ∃ r, m % 2 = r := ⟨_, rfl⟩
      obtain ⟨q, hq⟩ : ∃ q, m / 2 = q := ⟨_, rfl⟩
      have hr2 : r < 2 := by omega
      have hlm := letL_two hm2
      rw [hr, hq] at hlm
      have hsub : (((j + 1 : Nat) : Int) - 1) = (j : Int) := by omega
      have hrem : Int.tmod (m : Int) 2 = (r : Int) := by rw [← hr]; rfl
      have hu8 : IntKind.u8.wrap (r : Int) = (r : Int) := by
        show (r : Int) % 256 = r
        omega
      have hu8b : IntKind.u8.wrap (97 + (r : Int)) = 97 + (r : Int) := by
        show (97 + (r : Int)) % 256 = 97 + r
        omega
      have hcl := h5.cell (i := j) (p := 0) (by rw [List.getElem?_append_left (by simp), List.getElem?_replicate]; simp)
      have hfz := h5.frozen j
      have hj0 : (0 : Int) ≤ (j : Int) := by omega
      have hj1 : (j : Int) < (L : Int) := by omega
      have HH := Lib.hid (And.intro h1 (And.intro h2 (And.intro h3 (And.intro h4 (And.intro h5 (And.intro h6 hlm))))))
      have HQR := Lib.hid (And.intro hr hq)
      rw [hsub]
      clear h1 h2 h3 h4 h5 h6 hlm hr hq hsub HI
      go_wp2_with fail
      obtain ⟨h1, h2, h3, h4, h5, h6, hlm⟩ := HH.out
      have hb : (UInt8.ofNat (97 + r)).toNat = 97 + r := by
        rw [UInt8.toNat_ofNat']
        omega
      refine ⟨⟨j, q, UInt8.ofNat (97 + r) :: T, rfl, ?_, Lib.hid ⟨by omega, by have := HQR.out.2; omega, ?_, ?_, ?_, h6.setCell (p := ⟨w.heap.size, j, none⟩) (Nat.le_refl _) _⟩⟩, by simp [intOf]⟩
      · rw [← HQR.out.2, ← show ((m / 2 : Nat) : Int) = (m : Int) / 2 from Int.natCast_ediv m 2]
        rw [IntWalk.wrap64_in ((m / 2 : Nat) : Int) ⟨by omega, by have := HN0.out; omega⟩]
      · rw [hlm, List.length_append] at h3
        simpa using h3
      · rw [h4, hlm, List.append_assoc]
        rfl
      · have h := h5.set j (97 + r)
        rw [show (((97 + r : Nat)) : Int) = 97 + (r : Int) by omega] at h
        have e : (List.replicate (j + 1) 0 ++ List.map UInt8.toNat T).set j (97 + r) = List.replicate j 0 ++ List.map UInt8.toNat (UInt8.ofNat (97 + r) :: T) := by
          rw [List.replicate_succ', List.append_assoc, List.set_append_right _ _ (by simp), List.length_replicate, Nat.sub_self, List.map_cons, hb]
          rfl
        rw [e] at h
        exact h

end Go.Proofs.YthnlkijkgnmbhaaDoor
