/-
  writeMember and writeRun of package pattern. Nothing is assumed.
-/
import Derived.Test.YtaipaddfehpmgaaDoorPtShelfB
namespace Go.Proofs.YtaipaddfehpmgaaDoor

section
open Go.RowKit Go.Shelf

def bren2 : Go.Shelf.Ren := ⟨fun | 166 => 59 | 167 => 62 | 240 => 74 | 276 => 85 | n => n, fun | 70 => 99 | 3 => 3 | 0 => 0 | 4 => 4 | 9 => 9 | 20 => 20 | 72 => 101 | 37 => 88 | 75 => 125 | 80 => 103 | 164 => 149 | 5 => 5 | n => n, fun | n => n⟩
theorem lays167 : Go.Proofs.Lays.n167 Tryd.prog bren2 := {
  mixed := by kernel_rfl
  f167 := Tryd.func62.trans (congrArg some (by kernel_rfl))
  f240 := Tryd.func74.trans (congrArg some (by kernel_rfl))
  f276 := Tryd.func85.trans (congrArg some (by kernel_rfl))
  t0 := Tryd.underlying0
  a0 := Tryd.isAgg0
  z0 := Tryd.sizeOf0
  v0 := Tryd.zeroValue0
  t4 := Tryd.underlying4
  a4 := Tryd.isAgg4
  z4 := Tryd.sizeOf4
  v4 := Tryd.zeroValue4
  t5 := Tryd.underlying5
  a5 := Tryd.isAgg5
  z5 := Tryd.sizeOf5
  v5 := Tryd.zeroValue5
  t9 := Tryd.underlying9
  a9 := Tryd.isAgg9
  z9 := Tryd.sizeOf9
  v9 := Tryd.zeroValue9
  t20 := Tryd.underlying20
  a20 := Tryd.isAgg20
  z20 := Tryd.sizeOf20
  v20 := Tryd.zeroValue20
  t37 := Tryd.underlying88
  a37 := Tryd.isAgg88
  z37 := Tryd.sizeOf88
  v37 := Tryd.zeroValue88
  t70 := Tryd.underlying99
  a70 := Tryd.isAgg99
  z70 := Tryd.sizeOf99
  v70 := Tryd.zeroValue99
  t72 := Tryd.underlying101
  a72 := Tryd.isAgg101
  z72 := Tryd.sizeOf101
  v72 := Tryd.zeroValue101
  t75 := Tryd.underlying125
  a75 := Tryd.isAgg125
  z75 := Tryd.sizeOf125
  v75 := Tryd.zeroValue125
  t164 := Tryd.underlying149
  a164 := Tryd.isAgg149
  z164 := Tryd.sizeOf149
  v164 := Tryd.zeroValue149 }
theorem bextra2 : Builder.Extra Tryd.prog bren2 := {
  sizeBuilder := by kernel_rfl
  liesBuilder := by kernel_rfl
  t5 := Tryd.underlying5
  a5 := Tryd.isAgg5
  z5 := Tryd.sizeOf5
  v5 := Tryd.zeroValue5
  infoByte := by kernel_rfl
  cellsByte := by kernel_rfl
  sizeByte := by kernel_rfl
  neB5 := by decide }

theorem byte_any (B : Nat) (l : List UInt8) (c : UInt8) (w : World) (h : IsB B l w) (hlen : l.length ≤ 1000000000) (hBw : B ≤ w.heap.size) :
    Calls Tryd.prog 62 #[.pointer (some ⟨B, 0, none⟩), .int .u8 (c.toNat : Int)] w fun e w' => e = .returned .nilIface ∧ IsB B (l ++ [c]) w' ∧ Below B w w' ∧ Lib.OthersKept 5 (some B) w w' :=
  (Any.Builder_WriteByte_k lays167 bextra2 B B _ (c.toNat : Int) w h (by rw [Lib.byteCells_length]; omega) hBw).mono fun _ _ ⟨h1, h2, h3, h4⟩ => ⟨h1, by
    unfold IsB
    rw [Lib.byteCells_append]
    exact Or.inr h2, h3, h4⟩
end

section
open Go.RowKit Go.Shelf

/-- The pattern of one byte. -/
def escL (c : UInt8) : List UInt8 := if isSp c.toNat = true then [92, c] else [c]
/-- The bytes up to the first one outside the alphabet, as patterns; whether there is none outside. -/
def litsL : List UInt8 → List UInt8
  | [] => []
  | c :: r => escL c ++ litsL r
theorem litsL_snoc (l : List UInt8) (c : UInt8) : litsL (l ++ [c]) = litsL l ++ escL c := by
  induction l with
  | nil => simp [litsL]
  | cons a l ih => simp [litsL, ih]
theorem escL_len (c : UInt8) : (escL c).length ≤ 2 := by unfold escL; split <;> simp
theorem litsL_len (l : List UInt8) : (litsL l).length ≤ 2 * l.length := by
  induction l with
  | nil => simp [litsL]
  | cons a l ih => have := escL_len a; simp only [litsL, List.length_append, List.length_cons]; omega
/-- Literal. -/
def litS (s : ByteArray) : ByteArray :=
  if s.size = 0 then ⟨#[40, 41]⟩ else if 40 < s.size then ⟨#[]⟩ else if s.data.toList.all (fun c => inA c.toNat) = true then
    (if 40 < (litsL s.data.toList).length then ⟨#[]⟩ else str (litsL s.data.toList)) else ⟨#[]⟩

theorem isB_later {B : Nat} {l : List UInt8} {W W' : World} (h : IsB B l W) (hb : Below W.heap.size W W') : IsB B l W' := by
  have hat : ∀ p, Lib.BuilderAtF 101 5 B B p (Lib.byteCells l) W → Lib.BuilderAtF 101 5 B B p (Lib.byteCells l) W' := fun p hp => by
    obtain ⟨hB, v, hb', hown, hne⟩ := hp
    have key : ∀ (k : Nat) (o : Obj), W.heap[k]? = some o → W'.heap[k]? = some o := fun k o hk => (hb.block k (Array.getElem?_eq_some_iff.1 hk).1).trans hk
    refine ⟨hB, v, key _ _ hb', ⟨hown.1, ?_⟩, hne⟩
    rcases hown.2 with hn | ⟨g, cap, cur, fz, hv, hbg, hg, rest⟩
    · exact .inl hn
    · exact .inr ⟨g, cap, cur, fz, hv, hbg, key _ _ hg, rest⟩
  exact h.elim (fun x => .inl (hat _ x)) (fun x => .inr (hat _ x))
set_option maxRecDepth 100000 in
set_option maxHeartbeats 800000 in
theorem writeByte_any (B : Nat) (l : List UInt8) (c : UInt8) (w : World) (h : IsB B l w) (hlen : l.length ≤ 100000) (hBw : B ≤ w.heap.size) :
    Calls Tryd.prog 43 #[.pointer (some ⟨B, 0, none⟩), .int .u8 (c.toNat : Int)] w fun e w' => e = .returned (.tuple #[]) ∧ IsB B (l ++ escL c) w' ∧ Below B w w' ∧ Lib.OthersKept 5 (some B) w w' := by
  have HS := Lib.hid (isSpecial_any c.toNat (UInt8.toNat_lt c) w)
  unfold escL
  cases hsp : isSp c.toNat
  · rw [hsp] at HS
    have H1 := Lib.hid (byte_any B l c w h (by omega) hBw)
    clear h
    go_enter Tryd.func43, Tryd.ntmps43
    go_wp2_with fail
    refine HS.out.mono ?_
    rintro e w1 ⟨rfl, h9⟩; subst w1
    go_wp2_with fail
    refine H1.out.mono ?_
    rintro e w2 ⟨rfl, hB, hb, hk⟩
    have HB := Lib.hid hB
    have HK := Lib.hid hk
    clear hB hk
    go_wp2_with fail
    go_end0
    exact ⟨rfl, HB.out, hb, HK.out⟩
  · rw [hsp] at HS
    have H1 := Lib.hid (byte_any B l 92 w h (by omega) hBw)
    clear h
    go_enter Tryd.func43, Tryd.ntmps43
    go_wp2_with fail
    refine HS.out.mono ?_
    rintro e w1 ⟨rfl, h9⟩; subst w1
    go_wp2_with fail
    refine H1.out.mono ?_
    rintro e w2 ⟨rfl, hB, hb, hk⟩
    have HK2 := Lib.hid hk
    clear hk
    have hs2 := hb.size
    have H2 := Lib.hid (byte_any B (l ++ [92]) c w2 hB (by rw [List.length_append]; show _ + 1 ≤ _; omega) (by omega))
    have HB2 := Lib.hid hb
    clear hB hb
    go_wp2_with fail
    refine H2.out.mono ?_
    rintro e w3 ⟨rfl, hB, hb, hk⟩
    have HB := Lib.hid hB
    have HB3 := Lib.hid (HB2.out.trans hb)
    have HK3 := Lib.hid (HK2.out.trans hk)
    clear hB hb hk
    go_wp2_with fail
    go_end0
    refine ⟨rfl, ?_, HB3.out, HK3.out⟩
    have := HB.out
    rw [List.append_assoc] at this
    exact this

set_option maxRecDepth 100000 in
theorem withinSize_any (p : ByteArray) (w : World) :
    Calls Tryd.prog 40 #[.string p] w fun e w' => e = .returned (if 40 < p.size then .tuple #[.string ⟨#[]⟩, .int .i64 2] else .tuple #[.string p, .int .i64 0]) ∧ w' = w := by
  by_cases h : 40 < p.size
  · have hI : (40 : Int) < (p.size : Int) := by omega
    rw [if_pos h]
    go_enter Tryd.func40, Tryd.ntmps40
    go_wp2_with fail
    go_ret2
    exact ⟨rfl, rfl⟩
  · have hI : ¬ (40 : Int) < (p.size : Int) := by omega
    rw [if_neg h]
    go_enter Tryd.func40, Tryd.ntmps40
    go_wp2_with fail
    go_ret2
    exact ⟨rfl, rfl⟩

set_option maxRecDepth 100000 in
set_option maxHeartbeats 1600000 in
theorem literal_any (s : ByteArray) (w : World) (hA : AL w) :
    Calls Tryd.prog 15 #[.string s] w fun e w' => e = .returned (.string (litS s)) ∧ Below w.heap.size w w' := by
  obtain ⟨R, hR⟩ : ∃ R, R = litS s := ⟨_, rfl⟩
  rw [← hR]
  unfold litS at hR
  by_cases h0 : s.size = 0
  · rw [if_pos h0] at hR
    obtain rfl : s = ⟨#[]⟩ := by
      apply ByteArray.ext
      apply Array.eq_empty_of_size_eq_zero
      exact h0
    subst hR
    go_enter Tryd.func15, Tryd.ntmps15
    go_wp2_with fail
    go_ret
    exact ⟨rfl, Below.refl _ _⟩
  · rw [if_neg h0] at hR
    have hneb : s.toList.isEmpty = false := by
      rw [ByteArray.toList_eq]
      cases hl : s.data.toList with
      | nil => exact absurd (by have := lt_len s; rw [hl] at this; exact this.symm) h0
      | cons a r => rfl
    by_cases h40 : 40 < s.size
    · rw [if_pos h40] at hR
      have hI : (40 : Int) < (s.size : Int) := by omega
      subst hR
      clear h0 h40
      go_enter Tryd.func15, Tryd.ntmps15
      go_wp2_with fail
      go_ret
      exact ⟨rfl, Below.refl _ _⟩
    · rw [if_neg h40] at hR
      have hI : ¬ (40 : Int) < (s.size : Int) := by omega
      have HR := Lib.hid hR
      have hs40 : s.size ≤ 40 := by omega
      have hb0 := below1 w (.cells #[.pointer none, .slice none 0 0] 101)
      have HB0 := Lib.hid hb0
      have HIB : Hid (IsB w.heap.size (litsL (s.data.toList.take 0)) (w.alloc (.cells #[.pointer none, .slice none 0 0] 101))) := Lib.hid (isB_fresh w)
      have HAL := Lib.hid hA
      clear hR h0 h40 hb0 hA
      go_enter Tryd.func15, Tryd.ntmps15
      go_wp2_with fail
      go_loopw [14] (fun v wr => ∃ i : Nat, v = .int .i64 (i : Int) ∧ i ≤ s.size ∧ Hid (IsB w.heap.size (litsL (s.data.toList.take i)) wr) ∧ Hid ((s.data.toList.take i).all (fun c => inA c.toNat) = true) ∧ Hid (Below w.heap.size w wr) ∧ w.heap.size ≤ wr.heap.size) (fun v _ => s.size - (intOf v).toNat)
      case atStart => exact ⟨0, rfl, Nat.zero_le _, HIB, Lib.hid rfl, HB0, by simp⟩
      case round =>
        obtain ⟨i, rfl, his, HIr, HAr, HBr, hsr⟩ := hrel
        clear HIB HB0
        by_cases hlt : i < s.size
        · have hltI : (i : Int) < (s.size : Int) := by omega
          have hi0 : (0 : Int) ≤ (i : Int) := by omega
          have hwi : IntKind.i64.wrap ((i : Int) + 1) = ((i + 1 : Nat) : Int) := by rw [IntWalk.i64_in _ (by omega)]; omega
          have hjl : i < s.data.toList.length := by rw [lt_len]; exact hlt
          have hsj : s.data.toList[i]'hjl = s[i]'hlt := by
            have := lt_at s i hlt
            rw [List.getElem?_eq_getElem hjl] at this
            exact Option.some.inj this
          have htk : s.data.toList.take (i + 1) = s.data.toList.take i ++ [s[i]'hlt] := by rw [List.take_add_one, List.getElem?_eq_getElem hjl, hsj]; rfl
          have hALr : AL wr := HAL.out.later HBr.out
          have HC := Lib.hid (inAlphabet_any (s[i]'hlt).toNat (UInt8.toNat_lt _) wr hALr)
          have HTK := Lib.hid htk
          have hll : (litsL (s.data.toList.take i)).length ≤ 100 := by
            have := litsL_len (s.data.toList.take i)
            rw [List.length_take, lt_len] at this
            omega
          clear hsj hjl htk hALr
          cases hin : inA (s[i]'hlt).toNat
          · rw [hin] at HC
            have HRe : Hid (R = ⟨#[]⟩) := Lib.hid (by
              rw [HR.out, if_neg]
              intro hall
              have := List.all_eq_true.1 hall (s[i]'hlt) (by
                have h := HTK.out
                exact List.mem_of_mem_take (i := i + 1) (by rw [h]; simp))
              rw [hin] at this
              cases this)
            go_wp2_with fail
            refine HC.out.mono ?_
            rintro e w5 ⟨rfl, hb5⟩
            have HB5 := Lib.hid (HBr.out.trans (hb5.mono hsr))
            clear hb5
            go_wp2_with fail
            go_ret
            exact ⟨by rw [HRe.out]; rfl, HB5.out⟩
          · rw [hin] at HC
            go_wp2_with fail
            refine HC.out.mono ?_
            rintro e w5 ⟨rfl, hb5⟩
            have HI5 : Hid (IsB w.heap.size (litsL (s.data.toList.take i)) w5) := Lib.hid (isB_later HIr.out hb5)
            have HB5 := Lib.hid (HBr.out.trans (hb5.mono hsr))
            have hs5 : w.heap.size ≤ w5.heap.size := Nat.le_trans hsr hb5.size
            have HW := Lib.hid (writeByte_any w.heap.size (litsL (s.data.toList.take i)) (s[i]'hlt) w5 HI5.out (by omega) hs5)
            clear hb5 HC HIr HBr
            go_wp2_with fail
            refine HW.out.mono ?_
            rintro e w6 ⟨rfl, hI6, hb6, _⟩
            have HI6 : Hid (IsB w.heap.size (litsL (s.data.toList.take (i + 1))) w6) := Lib.hid (by rw [HTK.out, litsL_snoc]; exact hI6)
            have HA6 : Hid ((s.data.toList.take (i + 1)).all (fun c => inA c.toNat) = true) := Lib.hid (by rw [HTK.out, List.all_append, HAr.out]; simp [hin])
            have HB6 := Lib.hid (HB5.out.trans hb6)
            have hs6 : w.heap.size ≤ w6.heap.size := Nat.le_trans hs5 hb6.size
            clear hI6 hb6 HW hin
            go_wp2_with fail
            go_roundw
            case rel => exact ⟨i + 1, by first | rfl | go_num, hlt, HI6, HA6, HB6, hs6⟩
            case measure => simp [intOf]; omega
        · have hltI : ¬ ((i : Int) < (s.size : Int)) := by omega
          obtain rfl : i = s.size := by omega
          have htk : s.data.toList.take s.size = s.data.toList := List.take_of_length_le (by rw [lt_len]; exact Nat.le_refl _)
          rw [htk] at HIr HAr
          have HRe : Hid (R = if 40 < (litsL s.data.toList).length then ⟨#[]⟩ else str (litsL s.data.toList)) := Lib.hid (by rw [HR.out, if_pos HAr.out])
          have HT := Lib.hid (text_any w.heap.size (litsL s.data.toList) wr HIr.out hsr)
          have hsz : (str (litsL s.data.toList)).size = (litsL s.data.toList).length := by show (litsL s.data.toList).toArray.size = _; simp
          have HWS := Lib.hid (withinSize_any (str (litsL s.data.toList)))
          rw [hsz] at HWS
          clear htk HR
          go_wp2_with fail
          refine HT.out.mono ?_
          rintro e w5 ⟨rfl, hb5⟩
          have HB5 := Lib.hid (HBr.out.trans hb5)
          clear hb5
          by_cases hbig : 40 < (litsL s.data.toList).length
          · rw [if_pos hbig] at HWS HRe
            go_wp2_with fail
            refine (HWS.out w5).mono ?_
            rintro e w6 ⟨rfl, h9⟩; subst w6
            go_wp2_with fail
            go_ret
            exact ⟨by rw [HRe.out]; rfl, HB5.out⟩
          · rw [if_neg hbig] at HWS HRe
            go_wp2_with fail
            refine (HWS.out w5).mono ?_
            rintro e w6 ⟨rfl, h9⟩; subst w6
            go_wp2_with fail
            go_ret
            exact ⟨by rw [HRe.out]; rfl, HB5.out⟩
end

section
open Go.RowKit Go.Shelf

/-- The text of one byte between brackets. -/
def memE (c : UInt8) : List UInt8 := if isSpM c.toNat = true then [92, c] else [c]
theorem memE_len (c : UInt8) : (memE c).length ≤ 2 := by unfold memE; split <;> simp
/-- The text of a run of bytes between brackets. -/
def runE (a b : UInt8) : List UInt8 := memE a ++ (if 1 < b.toNat - a.toNat then [45] else []) ++ (if a.toNat < b.toNat then memE b else [])
theorem runE_len (a b : UInt8) : (runE a b).length ≤ 5 := by
  have := memE_len a
  have := memE_len b
  unfold runE
  rw [List.length_append, List.length_append]
  split <;> split <;> simp <;> omega
set_option maxRecDepth 100000 in
set_option maxHeartbeats 800000 in
theorem writeMember_any (B : Nat) (l : List UInt8) (c : UInt8) (w : World) (h : IsB B l w) (hlen : l.length ≤ 100000) (hBw : B ≤ w.heap.size) :
    Calls Tryd.prog 86 #[.pointer (some ⟨B, 0, none⟩), .int .u8 (c.toNat : Int)] w fun e w' => e = .returned (.tuple #[]) ∧ IsB B (l ++ memE c) w' ∧ Below B w w' ∧ Lib.OthersKept 5 (some B) w w' := by
  have HS := Lib.hid (isSpecialMember_any c.toNat (UInt8.toNat_lt c) w)
  unfold memE
  cases hsp : isSpM c.toNat
  · rw [hsp] at HS
    have H1 := Lib.hid (byte_any B l c w h (by omega) hBw)
    clear h
    go_enter Tryd.func86, Tryd.ntmps86
    go_wp2_with fail
    refine HS.out.mono ?_
    rintro e w1 ⟨rfl, h9⟩; subst w1
    go_wp2_with fail
    refine H1.out.mono ?_
    rintro e w2 ⟨rfl, hB, hb, hk⟩
    have HB := Lib.hid hB
    have HK := Lib.hid hk
    clear hB hk
    go_wp2_with fail
    go_end0
    exact ⟨rfl, HB.out, hb, HK.out⟩
  · rw [hsp] at HS
    have H1 := Lib.hid (byte_any B l 92 w h (by omega) hBw)
    clear h
    go_enter Tryd.func86, Tryd.ntmps86
    go_wp2_with fail
    refine HS.out.mono ?_
    rintro e w1 ⟨rfl, h9⟩; subst w1
    go_wp2_with fail
    refine H1.out.mono ?_
    rintro e w2 ⟨rfl, hB, hb, hk⟩
    have HK2 := Lib.hid hk
    clear hk
    have hs2 := hb.size
    have H2 := Lib.hid (byte_any B (l ++ [92]) c w2 hB (by rw [List.length_append]; show _ + 1 ≤ _; omega) (by omega))
    have HB2 := Lib.hid hb
    clear hB hb
    go_wp2_with fail
    refine H2.out.mono ?_
    rintro e w3 ⟨rfl, hB, hb, hk⟩
    have HK3 := Lib.hid (HK2.out.trans hk)
    clear hk
    have HB := Lib.hid hB
    have HB3 := Lib.hid (HB2.out.trans hb)
    clear hB hb
    go_wp2_with fail
    go_end0
    refine ⟨rfl, ?_, HB3.out, HK3.out⟩
    have := HB.out
    rw [List.append_assoc] at this
    exact this

set_option maxRecDepth 100000 in
set_option maxHeartbeats 800000 in
theorem writeRun_any (B : Nat) (l : List UInt8) (a b : UInt8) (w : World) (h : IsB B l w) (hlen : l.length ≤ 99000) (hBw : B ≤ w.heap.size) (hab : a.toNat ≤ b.toNat) :
    Calls Tryd.prog 76 #[.pointer (some ⟨B, 0, none⟩), .int .u8 (a.toNat : Int), .int .u8 (b.toNat : Int)] w fun e w' => e = .returned (.tuple #[]) ∧ IsB B (l ++ runE a b) w' ∧ Below B w w' ∧ Lib.OthersKept 5 (some B) w w' := by
  have hb8 := UInt8.toNat_lt b
  have hml := memE_len a
  have H1 := Lib.hid (writeMember_any B l a w h (by omega) hBw)
  have hwd : IntKind.u8.wrap ((b.toNat : Int) - (a.toNat : Int)) = (b.toNat : Int) - (a.toNat : Int) := by rw [IntKind.wrap_u8]; omega
  have HRN : Hid (runE a b = memE a ++ (if 1 < b.toNat - a.toNat then [45] else []) ++ (if a.toNat < b.toNat then memE b else [])) := Lib.hid rfl
  clear h
  by_cases h2 : 1 < b.toNat - a.toNat
  · have h2I : (b.toNat : Int) - (a.toNat : Int) > 1 := by omega
    have h3 : a.toNat < b.toNat := by omega
    have h3I : (b.toNat : Int) > (a.toNat : Int) := by omega
    rw [if_pos h2, if_pos h3] at HRN
    go_enter Tryd.func76, Tryd.ntmps76
    go_wp2_with fail
    refine H1.out.mono ?_
    rintro e w1 ⟨rfl, hB1, hb1, hk1⟩
    have HK1 := Lib.hid hk1
    clear hk1
    have hs1 := hb1.size
    have H2 := Lib.hid (byte_any B (l ++ memE a) 45 w1 hB1 (by rw [List.length_append]; omega) (by omega))
    have HB1 := Lib.hid hb1
    clear hB1 hb1
    go_wp2_with fail
    refine H2.out.mono ?_
    rintro e w2 ⟨rfl, hB2, hb2, hk2⟩
    have HK2 := Lib.hid (HK1.out.trans hk2)
    clear hk2
    have hs2 := hb2.size
    have H3 := Lib.hid (writeMember_any B (l ++ memE a ++ [45]) b w2 hB2 (by rw [List.length_append, List.length_append]; show _ + 1 ≤ _; omega) (by omega))
    have HB2 := Lib.hid (HB1.out.trans hb2)
    clear hB2 hb2
    go_wp2_with fail
    refine H3.out.mono ?_
    rintro e w3 ⟨rfl, hB3, hb3, hk3⟩
    have HK3 := Lib.hid (HK2.out.trans hk3)
    clear hk3
    have HI := Lib.hid hB3
    have HB3 := Lib.hid (HB2.out.trans hb3)
    clear hB3 hb3
    go_wp2_with fail
    go_end0
    refine ⟨rfl, ?_, HB3.out, HK3.out⟩
    rw [HRN.out, ← List.append_assoc, ← List.append_assoc]
    exact HI.out
  · have h2I : ¬ ((b.toNat : Int) - (a.toNat : Int) > 1) := by omega
    rw [if_neg h2] at HRN
    by_cases h3 : a.toNat < b.toNat
    · have h3I : (b.toNat : Int) > (a.toNat : Int) := by omega
      rw [if_pos h3] at HRN
      go_enter Tryd.func76, Tryd.ntmps76
      go_wp2_with fail
      refine H1.out.mono ?_
      rintro e w1 ⟨rfl, hB1, hb1, hk1⟩
      have HK1 := Lib.hid hk1
      clear hk1
      have hs1 := hb1.size
      have H3 := Lib.hid (writeMember_any B (l ++ memE a) b w1 hB1 (by rw [List.length_append]; omega) (by omega))
      have HB1 := Lib.hid hb1
      clear hB1 hb1
      go_wp2_with fail
      refine H3.out.mono ?_
      rintro e w3 ⟨rfl, hB3, hb3, hk3⟩
      have HK3 := Lib.hid (HK1.out.trans hk3)
      clear hk3
      have HI := Lib.hid hB3
      have HB3 := Lib.hid (HB1.out.trans hb3)
      clear hB3 hb3
      go_wp2_with fail
      go_end0
      refine ⟨rfl, ?_, HB3.out, HK3.out⟩
      rw [HRN.out, List.append_nil, ← List.append_assoc]
      exact HI.out
    · have h3I : ¬ ((b.toNat : Int) > (a.toNat : Int)) := by omega
      rw [if_neg h3] at HRN
      go_enter Tryd.func76, Tryd.ntmps76
      go_wp2_with fail
      refine H1.out.mono ?_
      rintro e w1 ⟨rfl, hB1, hb1, hk1⟩
      have HK1 := Lib.hid hk1
      clear hk1
      have HI := Lib.hid hB1
      have HB1 := Lib.hid hb1
      clear hB1 hb1
      go_wp2_with fail
      go_end0
      refine ⟨rfl, ?_, HB1.out, HK1.out⟩
      rw [HRN.out, List.append_nil, List.append_nil]
      exact HI.out
end

end Go.Proofs.YtaipaddfehpmgaaDoor
