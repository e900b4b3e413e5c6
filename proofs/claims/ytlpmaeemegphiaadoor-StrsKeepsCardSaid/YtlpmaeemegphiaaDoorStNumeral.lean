/-
  Show of the reference at every number; isNumeral of the package. Nothing is assumed.
-/
import Derived.Test.YtlpmaeemegphiaaDoorStShowN
import Derived.Test.YtlpmaeemegphiaaDoorStWordP
namespace Go.Proofs.YtlpmaeemegphiaaDoor
open Go.RowKit

theorem itoa0 : str (Lib.itoa 0) = ⟨#[48]⟩ := by
  unfold Lib.itoa
  rw [if_neg (by decide), show (0 : Int).toNat = 0 from rfl, dec_small (by decide)]
  rfl
theorem rshow_zero (w : World) : Calls Tryd.prog 32 #[.int .i64 0] w fun e w' => e = .returned (.string (str (Lib.itoa 0))) ∧ Below w.heap.size w w' := by
  rw [itoa0]
  go_enter Tryd.func32, Tryd.ntmps32
  go_wp2_with fail
  go_ret
  exact ⟨rfl, Below.refl _ _⟩
theorem rshow_any (n : Int) (w : World) (h0 : -9223372036854775808 ≤ n) (h1 : n ≤ 9223372036854775807) :
    Calls Tryd.prog 32 #[.int .i64 n] w fun e w' => e = .returned (.string (str (Lib.itoa n))) ∧ Below w.heap.size w w' := by
  rcases Int.lt_trichotomy n 0 with h | h | h
  · have e : n = -((n.natAbs : Nat) : Int) := by omega
    rw [e]
    exact rshow_neg n.natAbs (by omega) (by omega) w
  · subst h
    exact rshow_zero w
  · have e : n = ((n.toNat : Nat) : Int) := by omega
    rw [e]
    exact rshow_pos n.toNat (by omega) (by omega) w

theorem numl_bad (s : ByteArray) (j : Nat) (h : j < s.size) (hd : isDig (s[j]'h) = false) : numl s.data.toList = false := by
  unfold numl
  have : s.data.toList.all isDig = false := by
    rw [List.all_eq_false]
    exact ⟨_, List.mem_of_getElem? (list_at s j h), by simp [hd]⟩
  rw [this]
  rfl
theorem all_dig (s : ByteArray) (h : ∀ j (hj : j < s.size), isDig (s[j]'hj) = true) : s.data.toList.all isDig = true := by
  rw [List.all_eq_true]
  intro c hc
  obtain ⟨i, hi⟩ := List.getElem?_of_mem hc
  have hlt : i < s.size := by
    have := (List.getElem?_eq_some_iff.1 hi).1
    rwa [list_len] at this
  rw [list_at s i hlt] at hi
  cases hi
  exact h i hlt
theorem nil_of_sz {s : ByteArray} (h : s.size = 0) : s = ⟨#[]⟩ := by
  apply ByteArray.ext
  exact Array.eq_empty_of_size_eq_zero h
theorem nil_fct {s : ByteArray} (h : s.size = 0) : s.toList.isEmpty = true ∧ (s.toList == []) = true ∧ (s.toList == [48]) = false := by
  have := nil_of_sz h
  subst this
  rw [ByteArray.toList_eq]
  exact ⟨rfl, rfl, rfl⟩
theorem ne_fct {s : ByteArray} (h : s.size ≠ 0) : s.toList.isEmpty = false ∧ (s.toList == []) = false := by
  have hl : s.toList ≠ [] := by
    rw [ByteArray.toList_eq]
    intro e
    have := congrArg List.length e
    rw [list_len] at this
    exact h this
  cases hs : s.toList with
  | nil => exact absurd hs hl
  | cons c r => exact ⟨rfl, rfl⟩
theorem byte48 (c : UInt8) : ((c.toNat : Int) == 48) = decide (c = 48) := by
  rw [Bool.eq_iff_iff]
  simp
  constructor
  · intro h; exact UInt8.toNat_inj.1 (by show c.toNat = 48; omega)
  · intro h; subst h; rfl

set_option maxRecDepth 100000 in
set_option maxHeartbeats 1600000 in
theorem isNumeral_any (s : ByteArray) (w : World) (hs : s.size ≤ 1000) :
    Calls Tryd.prog 51 #[.string s] w fun e w' => e = .returned (.bool (numl s.data.toList)) ∧ Below w.heap.size w w' := by
  go_enter Tryd.func51, Tryd.ntmps51
  go_wp2_with fail
  go_loopw [4] (fun _ wr => ∃ pos : Nat, pos ≤ s.size ∧ Hid (∀ j, j < pos → ∀ hj : j < s.size, isDig (s[j]'hj) = true) ∧ wr = w.iter s pos) (fun _ wr => s.size - wr.iterPos w.heap.size)
  case atStart => exact ⟨0, Nat.zero_le _, fun j hj => absurd hj (Nat.not_lt_zero j), rfl⟩
  case round =>
    obtain ⟨pos, hpos, HD, rfl⟩ := hrel
    by_cases hlt : pos < s.size
    · have hlow : (s[pos]'hlt).toNat < 128 → (Utf8.decode s pos).1 = (s[pos]'hlt).toNat ∧ (Utf8.decode s pos).2 = 1 := fun h => by rw [decode_ascii s pos hlt h]; exact ⟨rfl, rfl⟩
      have hhigh : 128 ≤ (s[pos]'hlt).toNat → 128 ≤ (Utf8.decode s pos).1 := fun h => (decode_high s pos hlt h).1
      have hnext := fun ty => run_next_any (P := Tryd.prog) w s pos ty hlt
      by_cases hd : isDig (s[pos]'hlt) = true
      · have hb := isDig_yes hd
        obtain ⟨e1, e2⟩ := hlow (by omega)
        rw [e1, e2] at hnext
        have HD2 : Hid (∀ j, j < pos + 1 → ∀ hj : j < s.size, isDig (s[j]'hj) = true) := Lib.hid (fun j h hj => by
          rcases Nat.lt_or_ge j pos with h1 | h1
          · exact HD.out j h1 hj
          · obtain rfl : j = pos := by omega
            exact hd)
        clear hlow hhigh e1 e2 hd
        obtain ⟨hb1, hb2⟩ := hb
        generalize (s[pos]'hlt).toNat = c at *
        go_wp2_with fail
        go_roundw
        case rel => exact ⟨pos + 1, hlt, HD2, rfl⟩
        case measure => simp; omega
      · have hd' : isDig (s[pos]'hlt) = false := by simpa using hd
        have HN := Lib.hid (numl_bad s pos hlt hd')
        have hr : (Utf8.decode s pos).1 < 48 ∨ 57 < (Utf8.decode s pos).1 := by
          rcases Nat.lt_or_ge (s[pos]'hlt).toNat 128 with h | h
          · rw [(hlow h).1]; exact isDig_no hd'
          · have := hhigh h; omega
        clear hlow hhigh hd hd'
        generalize (Utf8.decode s pos).1 = r at *
        generalize (Utf8.decode s pos).2 = k at *
        have hbw : ∀ p, Below w.heap.size w (w.iter s p) := fun p => below1 w _
        rcases hr with h1 | h1
        · go_wp2_with fail
          go_ret
          exact ⟨ret_bool HN.out.symm, hbw _⟩
        · have h2 : ¬ ((r : Int) < 48) := by omega
          go_wp2_with fail
          go_ret
          exact ⟨ret_bool HN.out.symm, hbw _⟩
    · obtain rfl : pos = s.size := by omega
      have hnext := fun ty => run_next_end (P := Tryd.prog) w s s.size ty hlt
      have hall := all_dig s (fun j hj => HD.out j hj hj)
      have HN : Hid (numl s.data.toList = (decide (s.data.toList = [48]) || (decide (s.data.toList ≠ []) && decide (s.data.toList.head? ≠ some 48)))) := Lib.hid (by unfold numl; rw [hall, Bool.true_and])
      clear hall HD
      have hbw : ∀ p, Below w.heap.size w (w.iter s p) := fun p => below1 w _
      by_cases h0 : s.size = 0
      · obtain ⟨f1, f2, f3⟩ := nil_fct h0
        have HF : Hid (numl s.data.toList = false) := Lib.hid (by rw [nil_of_sz h0]; rfl)
        clear HN h0 hs hpos hlt
        go_wp2_with fail
        go_ret
        exact ⟨ret_bool HF.out.symm, hbw _⟩
      · obtain ⟨f1, f2⟩ := ne_fct h0
        have hp : 0 < s.size := by omega
        by_cases hz : s.data.toList = [48]
        · have f3 : (s.toList == [48]) = true := by rw [ByteArray.toList_eq, hz]; rfl
          have HF : Hid (numl s.data.toList = true) := Lib.hid (by rw [hz]; rfl)
          clear HN hz
          go_wp2_with fail
          go_ret
          exact ⟨ret_bool HF.out.symm, hbw _⟩
        · have f3 : (s.toList == [48]) = false := by rw [ByteArray.toList_eq]; simpa using hz
          have hh : s.data.toList.head? = some (s[0]'hp) := by
            rw [List.head?_eq_getElem?]
            exact list_at s 0 hp
          have hne : s.data.toList ≠ [] := by
            intro e
            rw [e] at hh
            cases hh
          have HF : Hid (numl s.data.toList = !decide ((s[0]'hp) = 48)) := Lib.hid (by
            rw [HN.out, hh]
            simp [hz, hne])
          have hb : (((s[0]'hp).toNat : Int) != 48) = !decide ((s[0]'hp) = 48) := by rw [bne, byte48]
          clear HN hz hh hne
          by_cases h48 : (s[0]'hp) = 48
          · rw [decide_eq_true h48] at HF hb
            go_wp2_with fail
            go_ret
            exact ⟨ret_bool HF.out.symm, hbw _⟩
          · rw [decide_eq_false h48] at HF hb
            go_wp2_with fail
            go_ret
            exact ⟨ret_bool HF.out.symm, hbw _⟩
end Go.Proofs.YtlpmaeemegphiaaDoor
