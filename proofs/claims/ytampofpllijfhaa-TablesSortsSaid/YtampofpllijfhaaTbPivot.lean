/-
  Pivot of the package. Nothing is assumed.
-/
import Derived.Test.YtampofpllijfhaaTbVal
import Derived.Test.YtampofpllijfhaaTbDist
import Derived.Test.YtampofpllijfhaaTbUnpB
namespace Go.Proofs.Ytampofpllijfhaa
open Go.RowKit

def pivRow (t : Tab) (names : Row) (key : ByteArray) (n : Nat) : Row := key :: (names.take n).map fun m => (valOf t (key, m)).getD ⟨#[]⟩
theorem pivRow_len (t : Tab) (names : Row) (key : ByteArray) (n : Nat) (h : n ≤ names.length) : (pivRow t names key n).length = n + 1 := by simp [pivRow]; omega
theorem pivRow_next (t : Tab) (names : Row) (key : ByteArray) (n : Nat) (h : n < names.length) : pivRow t names key (n + 1) = pivRow t names key n ++ [(valOf t (key, names[n])).getD ⟨#[]⟩] := by
  unfold pivRow
  rw [take_snoc names n h, List.map_append]
  rfl
def pivK (t : Tab) (names keys : Row) (k : Nat) : Tab := (⟨#[]⟩ :: names) :: (keys.take k).map fun key => pivRow t names key names.length
theorem pivK_next (t : Tab) (names keys : Row) (k : Nat) (h : k < keys.length) : pivK t names keys (k + 1) = pivK t names keys k ++ [pivRow t names keys[k] names.length] := by
  unfold pivK
  rw [take_snoc keys k h, List.map_append]
  rfl
theorem pivK_len (t : Tab) (names keys : Row) (k : Nat) (h : k ≤ keys.length) : (pivK t names keys k).length = k + 1 := by simp [pivK]; omega
def pivE (t : Tab) : Int := if valE t ≠ 0 then valE t else if 8 < 1 + (dst (colOf t 0)).length ∨ 8 < 1 + (dst (colOf t 1)).length then 2 else 0
def pivV (t : Tab) : Tab := if pivE t = 0 then pivK t (dst (colOf t 1)) (dst (colOf t 0)) (dst (colOf t 0)).length else []
theorem valE_zero {t : Tab} (h : valE t = 0) : chkT t = 0 ∧ 0 < t.length ∧ colsT t = 3 ∧ dupT t = false := by
  unfold valE at h
  split at h
  · rename_i h1; exact absurd h h1
  · rename_i h1
    split at h
    · exact absurd h (by decide)
    · split at h
      · exact absurd h (by decide)
      · split at h
        · exact absurd h (by decide)
        · rename_i h2 h3 h4
          exact ⟨by simpa using h1, by omega, by simpa using h3, by simpa using h4⟩
theorem dst_sub (l : Row) : ∀ s ∈ dst l, s ∈ l := by
  have h : ∀ (m acc : Row), (∀ s ∈ acc, s ∈ l) → (∀ s ∈ m, s ∈ l) → ∀ s ∈ m.foldl dstS acc, s ∈ l := by
    intro m
    induction m with
    | nil => intro acc ha _; exact ha
    | cons x m ih =>
      intro acc ha hm
      refine ih _ ?_ (fun s hs => hm s (List.mem_cons_of_mem _ hs))
      intro s hs
      unfold dstS at hs
      split at hs
      · exact ha s hs
      · rcases List.mem_append.1 hs with hs | hs
        · exact ha s hs
        · obtain rfl := List.mem_singleton.1 hs
          exact hm _ (List.mem_cons_self ..)
  exact h l [] (fun s hs => by cases hs) (fun s hs => hs)
theorem dst_len (l : Row) : (dst l).length ≤ l.length := by
  have := dstK_len l l.length (Nat.le_refl _)
  unfold dstK at this
  rwa [List.take_length] at this
theorem colOf_size {t : Tab} {c : Nat} (h : chkT t = 0) (hc : c < colsT t) : ∀ s ∈ colOf t c, s.size ≤ 64 := by
  intro s hs
  unfold colOf at hs
  obtain ⟨r, hr, rfl⟩ := List.mem_map.1 hs
  obtain ⟨h1, _, _, h2⟩ := (chkT_rows h).2 r hr
  rw [List.getElem?_eq_getElem (by omega)]
  exact h2 _ (List.getElem_mem _)
theorem own_one (w : World) (z : ByteArray) : OwnS (w.alloc (.cells #[.string z] 9)) w.heap.size (.slice (some ⟨w.heap.size, 0, Option.none⟩) 1 1) [z] :=
  ⟨rfl, .inr ⟨w.heap.size, 1, #[.string z], rfl, Nat.le_refl _, by show (w.heap.push _)[w.heap.size]? = _; exact Array.getElem?_push_size, Nat.le_refl _, by unfold maxLen; omega, rfl, rfl⟩⟩
theorem AccT.one {w : World} {H : Nat} {x : Value} {r : Row} (h : HoldsS w (Btw H w.heap.size) x r) (hH : H ≤ w.heap.size) : AccT (w.alloc (.cells #[x] 29)) H (.slice (some ⟨w.heap.size, 0, none⟩) 1 1) [r] := by
  refine ⟨[x], rfl, ⟨rfl, .inr ⟨w.heap.size, 1, #[x], rfl, hH, by show (w.heap.push _)[w.heap.size]? = _; exact Array.getElem?_push_size, Nat.le_refl _, by unfold maxLen; omega, rfl, rfl⟩⟩, fun i y q h1 h2 => ?_⟩
  match i, h1, h2 with
  | 0, h1, h2 =>
    simp at h1 h2
    subst h1
    subst h2
    refine h.keep (fun b hp _ => ⟨⟨hp.1, by have := hp.2; simp; omega⟩, ?_⟩) (fun b o _ hl => (below1 w _).cell (p := ⟨b, o, none⟩) hl)
    have := hp.2
    simp only [Value.ownBlock, ne_eq, Option.some.injEq]
    omega
  | i + 1, h1, _ => simp at h1
theorem part_head (w : World) (B : Nat) (y : Value) (q : Row) (a : ByteArray) (h : HoldsS w (· < B) y q) (hB : B ≤ w.heap.size) :
    HoldsT ((w.alloc (.cells #[.string a] 9)).alloc (.cells #[.slice (some ⟨w.heap.size, 0, none⟩) 1 1, y] 29)) (· < w.heap.size + 2) (.slice (some ⟨w.heap.size + 1, 0, none⟩) 2 2) [[a], q] := by
  have hb1 := below1 w (.cells #[.string a] 9)
  have hb2 := hb1.alloc (by simp : w.heap.size ≤ (w.alloc (.cells #[.string a] 9)).heap.size) (.cells #[.slice (some ⟨w.heap.size, 0, none⟩) 1 1, y] 29)
  refine ⟨_, 2, rfl, Nat.le_refl _, by omega, fun i z hi => ?_⟩
  match i, hi with
  | 0, hi =>
    simp at hi
    subst hi
    refine ⟨_, 0, _, rfl, by omega, by simp; rfl, ⟨_, 1, rfl, Nat.le_refl _, by omega, fun j z hz => ?_⟩⟩
    match j, hz with
    | 0, hz => simp at hz; subst hz; exact ⟨_, 0, rfl, by omega, by simp⟩
    | j + 1, hz => simp at hz
  | 1, hi =>
    simp at hi
    subst hi
    exact ⟨_, 0, y, rfl, by omega, by simp, (h.later (hb2.mono hB)).mono (by omega)⟩
  | i + 2, hi => simp at hi

set_option maxRecDepth 100000 in
set_option maxHeartbeats 3200000 in
theorem Pivot_any (x : Value) (t : List (List ByteArray)) (w : World) (B : Nat) (hx : HoldsT w (· < B) x t) (hB : B ≤ w.heap.size) :
    Calls Try.prog 35 #[x] w fun e w' => RetTE w w' (pivV t) (pivE t) e ∧ Below w.heap.size w w' := by
  have HC := Lib.hid (values_any x t w B hx hB)
  have HX := Lib.hid hx
  obtain ⟨oa, ca, rfl, _, _⟩ := hx.form
  clear hx
  by_cases hv : valE t = 0
  · obtain ⟨hc, hpos, hcols, _⟩ := valE_zero hv
    have h8 := (chkT_rows hc).1
    have HL0 : Hid (∀ r ∈ t, 0 < r.length) := Lib.hid (fun r hr => by have := ((chkT_rows hc).2 r hr).2.1; omega)
    have HL1 : Hid (∀ r ∈ t, 1 < r.length) := Lib.hid (fun r hr => by have := ((chkT_rows hc).2 r hr).1; omega)
    have HS0 : Hid (∀ s ∈ dst (colOf t 0), s.size ≤ maxLen) := Lib.hid (fun s hs => by have := colOf_size hc (by omega) s (dst_sub _ s hs); unfold maxLen; omega)
    have HS1 : Hid (∀ s ∈ dst (colOf t 1), s.size ≤ maxLen) := Lib.hid (fun s hs => by have := colOf_size hc (by omega) s (dst_sub _ s hs); unfold maxLen; omega)
    have HD0 := Lib.hid (dst_len (colOf t 0))
    have HD1 := Lib.hid (dst_len (colOf t 1))
    rw [colOf_len] at HD0 HD1
    have HE : Hid (pivE t = if 8 < 1 + (dst (colOf t 0)).length ∨ 8 < 1 + (dst (colOf t 1)).length then 2 else 0) := Lib.hid (if_neg (by simp [hv]))
    have HVV : Hid (pivE t = 0 → pivV t = pivK t (dst (colOf t 1)) (dst (colOf t 0)) (dst (colOf t 0)).length) := Lib.hid (fun h => if_pos h)
    have HVN : Hid (pivE t ≠ 0 → pivV t = []) := Lib.hid (fun h => if_neg h)
    have HV := Lib.hid hv
    clear hv hc hpos hcols
    go_enter Try.func35, Try.ntmps35
    go_wp2_with fail
    refine HC.out.mono ?_
    rintro e w1 ⟨hr, hb1⟩
    obtain ⟨M, hM, rfl, HM⟩ : ∃ M, w.heap.size ≤ M ∧ e = .returned (.tuple #[.map (some M), .int .i64 0]) ∧ Hid (MapF w1 M (valOf t)) := by
      rcases hr with ⟨_, M, h1, h2, h3⟩ | ⟨h1, _⟩
      · exact ⟨M, h1, h2, Lib.hid h3⟩
      · exact absurd HV.out h1
    clear hr
    have hs1 := hb1.size
    have HX1 := Lib.hid (HX.out.later (hb1.mono hB))
    have HC1 := Lib.hid (cellsOf_any _ t 0 w1 B HX1.out (by omega) h8 HL0.out)
    go_wp2_with fail
    refine HC1.out.mono ?_
    rintro e w2 ⟨⟨v2, rfl, h2⟩, hb2⟩
    have hs2 := hb2.size
    have HC2 := Lib.hid (distinct_any v2 (colOf t 0) w2 w2.heap.size h2.all (Nat.le_refl _) (by rw [colOf_len]; omega))
    obtain ⟨o2, c2, rfl, _, _⟩ := h2.form
    clear h2
    go_wp2_with fail
    refine HC2.out.mono ?_
    rintro e w3 ⟨⟨v3, rfl, h3⟩, hb3⟩
    have hs3 := hb3.size
    have hb13 : Below w.heap.size w w3 := hb1.trans ((hb2.trans (hb3.mono hs2)).mono hs1)
    have HX3 := Lib.hid (HX.out.later (hb13.mono hB))
    have HC3 := Lib.hid (cellsOf_any _ t 1 w3 B HX3.out (by omega) h8 HL1.out)
    have HK3 := Lib.hid h3.holds.all
    obtain ⟨o3, c3, rfl⟩ := owns_form h3
    clear h3
    go_wp2_with fail
    refine HC3.out.mono ?_
    rintro e w4 ⟨⟨v4, rfl, h4⟩, hb4⟩
    have hs4 := hb4.size
    have HC4 := Lib.hid (distinct_any v4 (colOf t 1) w4 w4.heap.size h4.all (Nat.le_refl _) (by rw [colOf_len]; omega))
    obtain ⟨o4, c4, rfl, _, _⟩ := h4.form
    clear h4
    go_wp2_with fail
    refine HC4.out.mono ?_
    rintro e w5 ⟨⟨v5, rfl, h5⟩, hb5⟩
    have hs5 := hb5.size
    have hb35 : Below w3.heap.size w3 w5 := hb4.trans (hb5.mono hs4)
    have HK := Lib.hid (HK3.out.on hb35)
    have HN := Lib.hid h5.holds.all
    have HM5 : Hid (MapF w5 M (valOf t)) := Lib.hid (HM.out.later ((hb2.trans (hb3.mono hs2)).trans (hb35.mono (by omega))) HM.out.lt)
    have hMlt := HM5.out.lt
    have HMLT := Lib.hid hMlt
    have HB5 : Hid (Below w.heap.size w w5) := Lib.hid (hb13.trans (hb35.mono (by omega)))
    obtain ⟨o5, c5, rfl⟩ := owns_form h5
    have hq5 : w.heap.size ≤ w5.heap.size := by omega
    clear h5 hb1 hb2 hb3 hb4 hb5 hb13 hb35 HX1 HX3 HC1 HC2 HC3 HC4 HK3 HM hs1 hs2 hs3 hs4 hs5 HL0 HL1 hMlt
    obtain ⟨K, hK⟩ : ∃ K, dst (colOf t 0) = K := ⟨_, rfl⟩
    obtain ⟨Nn, hNn⟩ : ∃ Nn, dst (colOf t 1) = Nn := ⟨_, rfl⟩
    rw [hK] at HK HS0 HE HVV HD0 ⊢
    rw [hNn] at HN HS1 HE HVV HD1 ⊢
    clear hK hNn
    have hKl := HD0.out
    have hNl := HD1.out
    by_cases hk8 : 8 < 1 + (K.length : Int)
    · have HEE : Hid (pivE t = 2 ∧ pivV t = []) := by
        have h : pivE t = 2 := by rw [HE.out, if_pos (Or.inl (by omega))]
        exact Lib.hid ⟨h, HVN.out (by rw [h]; decide)⟩
      go_wp2_with fail
      go_ret2
      exact ⟨RetTE.nil HEE.out.2 HEE.out.1.symm, HB5.out⟩
    by_cases hn8 : 8 < 1 + (Nn.length : Int)
    · have HEE : Hid (pivE t = 2 ∧ pivV t = []) := by
        have h : pivE t = 2 := by rw [HE.out, if_pos (Or.inr (by omega))]
        exact Lib.hid ⟨h, HVN.out (by rw [h]; decide)⟩
      go_wp2_with fail
      go_ret2
      exact ⟨RetTE.nil HEE.out.2 HEE.out.1.symm, HB5.out⟩
    have HEE : Hid (pivE t = 0 ∧ pivV t = pivK t Nn K K.length) := by
      have h : pivE t = 0 := by rw [HE.out, if_neg (by omega)]
      exact Lib.hid ⟨h, HVV.out h⟩
    clear HE HVV HVN
    have HP := part_head w5 w5.heap.size (.slice o5 Nn.length c5) Nn ⟨#[]⟩ HN.out (Nat.le_refl _)
    have HJ := Lib.hid (joined_any _ [[⟨#[]⟩], Nn] _ (w5.heap.size + 2) HP (by simp) (by simp; omega) (by simp))
    have hfl : [[(⟨#[]⟩ : ByteArray)], Nn].flatten = ⟨#[]⟩ :: Nn := by simp
    rw [hfl] at HJ
    clear HP hfl
    go_wp2_with fail
    refine HJ.out.mono ?_
    rintro e w6 ⟨⟨g, rfl, hg, ho⟩, hb6⟩
    have hs6 := hb6.size
    have hg6 : w5.heap.size ≤ g := by simp at hg; omega
    have HO := Lib.hid (AccT.one (H := w5.heap.size) (ho.holds (P := Btw w5.heap.size w6.heap.size) rfl (by simp; omega) ⟨hg6, ho.lt⟩) (by simp at hs6; omega))
    have hb56 : Below w5.heap.size w5 w6 := ((below1 w5 _).alloc (by simp) _).trans (hb6.mono (by simp; omega))
    have HB7 : Hid (Below w5.heap.size w5 (w6.alloc (.cells #[.slice (some ⟨g, 0, none⟩) (⟨#[]⟩ :: Nn : Row).length (⟨#[]⟩ :: Nn : Row).length] 29))) := Lib.hid (hb56.alloc hb56.size _)
    clear ho hb6 hb56 HJ hg hg6 hs6
    go_wp2_with fail
    go_loopw [8, 45] (fun v j wr => ∃ k : Nat, k ≤ K.length ∧ j = .int .i64 k ∧ Hid (AccT wr w5.heap.size v (pivK t Nn K k)) ∧ Below w5.heap.size w5 wr) (fun _ j _ => K.length - (intOf j).toNat)
    case atStart => exact ⟨0, Nat.zero_le _, rfl, HO, HB7.out⟩
    case round =>
      obtain ⟨k, hk, rfl, HA, hbel⟩ := hrel
      obtain ⟨wo, hwo⟩ : ∃ wo : World, wo = wr := ⟨_, rfl⟩
      subst hwo
      have hsz := hbel.size
      clear HB7 HO
      by_cases hlt : k < K.length
      · obtain ⟨b, off, rfl, hb, hc⟩ := HK.out.at_ (List.getElem?_eq_getElem hlt)
        rw [← hbel.cell (p := ⟨b, _, none⟩) hb] at hc
        have hks := HS0.out _ (List.getElem_mem hlt)
        have hnx := pivK_next t Nn K k hlt
        obtain ⟨key, hkey⟩ : ∃ key, K[k] = key := ⟨_, rfl⟩
        rw [hkey] at hc hks hnx
        have HNX := Lib.hid hnx
        have HLK := Lib.hid (pivK_len t Nn K k hk)
        have hki0 : (0 : Int) ≤ (k : Int) := by omega
        have hki1 : (k : Int) < (K.length : Int) := by omega
        have HW0 : Hid (OwnS (wo.alloc (.cells #[.string key] 9)) wo.heap.size (.slice (some ⟨wo.heap.size, 0, none⟩) 1 1) (pivRow t Nn key 0)) := Lib.hid (own_one wo key)
        have hbq0 := below1 wo (.cells #[.string key] 9)
        clear hkey hnx
        go_wp2_with fail
        clear hc
        go_loopw [11, 53] (fun v j wq => ∃ n : Nat, n ≤ Nn.length ∧ j = .int .i64 n ∧ Hid (OwnS wq wo.heap.size v (pivRow t Nn key n)) ∧ Below wo.heap.size wo wq) (fun _ j _ => Nn.length - (intOf j).toNat)
        case atStart => exact ⟨0, Nat.zero_le _, rfl, HW0, hbq0⟩
        case round =>
          obtain ⟨n, hn, rfl, HO2, hbel2⟩ := hrel
          clear HW0 hbq0
          have hsz2 := hbel2.size
          have hbf := hbel.trans (hbel2.mono hsz)
          have HLN := Lib.hid (pivRow_len t Nn key n hn)
          by_cases hnl : n < Nn.length
          · obtain ⟨b3, off3, e3, hb3, hd⟩ := HN.out.at_ (List.getElem?_eq_getElem hnl)
            subst e3
            rw [← hbf.cell (p := ⟨b3, _, none⟩) hb3] at hd
            have hns := HS1.out _ (List.getElem_mem hnl)
            have hrn := pivRow_next t Nn key n hnl
            obtain ⟨nm, hnm⟩ : ∃ nm, Nn[n] = nm := ⟨_, rfl⟩
            rw [hnm] at hd hns hrn
            have HRN := Lib.hid hrn
            have HMW := Lib.hid (HM5.out.later hbf HMLT.out)
            have hni0 : (0 : Int) ≤ (n : Int) := by omega
            have hni1 : (n : Int) < (Nn.length : Int) := by omega
            clear hnm hrn
            go_wp2_with (first
              | (at_lookup; refine lookup_pair _ rfl _ _ rfl M (valOf t) rfl HMW.out key nm rfl hks hns ?_)
              | (at_builtin; refine append_src rfl _ _ rfl wo.heap.size _ _ rfl (HO2.out.later (below1 _ _)) (some ⟨wr.heap.size, 0, none⟩) 1 1 rfl [(valOf t (key, nm)).getD ⟨#[]⟩] rfl (one_src _ _ _) ?c0 ?c1 ?_))
            case c0 => rw [HLN.out]; omega
            case c1 => simp; omega
            intro v2 w2 hown2 hgrow2
            have hb9 := below_grownT (hbel2.alloc hsz2 _) (by simp; omega) (HO2.out.later (below1 _ _)) hgrow2
            have HW := Lib.hid hown2
            clear hown2 hgrow2 hbf
            go_wp2_with fail
            go_roundw
            case rel => exact ⟨n + 1, hnl, by go_num, Lib.hid (by rw [HRN.out]; exact HW.out), hb9⟩
            case measure => simp [intOf]; omega
          · obtain rfl : n = Nn.length := by omega
            have HRW := Lib.hid (HO2.out.holds)
            obtain ⟨orow, crow, rfl⟩ := owns_form HO2.out
            have HA2 := Lib.hid ((HA.out.later hbel2).later (below1 wr (.cells #[.slice orow (pivRow t Nn key Nn.length).length crow] 29)))
            have HRW2 : Hid (HoldsS (wr.alloc (.cells #[.slice orow (pivRow t Nn key Nn.length).length crow] 29)) (Btw wo.heap.size (wr.alloc (.cells #[.slice orow (pivRow t Nn key Nn.length).length crow] 29)).heap.size) (.slice orow (pivRow t Nn key Nn.length).length crow) (pivRow t Nn key Nn.length)) :=
              Lib.hid (HRW.out.keep (fun b hp _ => ⟨hp.1, by have := hp.2; simp; omega⟩) (fun b o _ hl => (below1 wr _).cell (p := ⟨b, o, none⟩) hl))
            have HQ := Lib.hid (HA.out.lt)
            clear HRW
            go_wp2_with (at_builtin; refine AccT.append rfl _ _ rfl w5.heap.size _ _ rfl HA2.out ⟨wr.heap.size, 0, none⟩ (.slice orow (pivRow t Nn key Nn.length).length crow) (pivRow t Nn key Nn.length) rfl (by simp) wo.heap.size HRW2.out hsz (fun q hq => (HQ.out q hq).2) rfl ?c0 ?c1 ?_)
            case c0 => rw [HLK.out]; omega
            case c1 => simp; omega
            intro v3 w3 hacc hgrow
            have hb3 := (hbf.alloc (by omega : w5.heap.size ≤ wr.heap.size) (.cells #[.slice orow (pivRow t Nn key Nn.length).length crow] 29)).grown hgrow (by simp; omega) (fun q hq => (HA2.out.lt q hq).1)
            have HA3 := Lib.hid hacc
            clear hacc hgrow hbf
            go_wp2_with fail
            go_roundw
            case rel => exact ⟨k + 1, hlt, by go_num, Lib.hid (by rw [HNX.out]; exact HA3.out), hb3⟩
            case measure => simp [intOf]; omega
      · obtain rfl : k = K.length := by omega
        go_wp2_with fail
        go_ret2
        exact ⟨RetTE.mk (HA.out.holds.keep (fun b hp _ => ⟨Nat.le_trans hq5 hp.1, hp.2⟩) (fun _ _ _ _ => rfl)) HEE.out.2.symm HEE.out.1.symm, HB5.out.trans (hbel.mono hq5)⟩
  · have fc := neq_tT hv
    have HE : Hid (pivE t = valE t ∧ pivV t = []) := by
      have h : pivE t = valE t := if_pos hv
      exact Lib.hid ⟨h, if_neg (by rw [h]; exact hv)⟩
    have HV := Lib.hid hv
    clear hv
    go_enter Try.func35, Try.ntmps35
    go_wp2_with fail
    refine HC.out.mono ?_
    rintro e w1 ⟨hr, hb1⟩
    obtain rfl : e = .returned (.tuple #[.map none, .int .i64 (valE t)]) := by
      rcases hr with ⟨h1, _⟩ | ⟨_, h2⟩
      · exact absurd h1 HV.out
      · exact h2
    clear hr
    go_wp2_with fail
    go_ret2
    exact ⟨RetTE.nil HE.out.2 HE.out.1.symm, hb1⟩

end Go.Proofs.Ytampofpllijfhaa
