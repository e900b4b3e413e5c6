/-
  What is written for a valid value is read again. Nothing is assumed.
-/
import Derived.Test.YtmbmlcnipncgnaaDoorLtLoc
import Derived.Test.YtmbmlcnipncgnaaDoorLtLit
namespace Go.Proofs.YtmbmlcnipncgnaaDoor
open Go.RowKit

/-- What may follow a number. -/
def Stops (post : List UInt8) : Prop := ∀ c r, post = c :: r → isD c.toNat = false ∧ c.toNat ≠ 120
theorem Stops.nil : Stops [] := fun c r h => by cases h
theorem Stops.cons (c : UInt8) (r : List UInt8) (h1 : isD c.toNat = false) (h2 : c.toNat ≠ 120) : Stops (c :: r) := fun c' r' h => by cases h; exact ⟨h1, h2⟩
theorem pk_hit {L : List UInt8} {i : Nat} {c : UInt8} {r : List UInt8} (h : L.drop i = c :: r) : pk L i = c.toNat ∧ L.drop (i + 1) = r := by
  have hi : i < L.length := by
    rcases Nat.lt_or_ge i L.length with h1 | h1
    · exact h1
    · rw [List.drop_eq_nil_of_le h1] at h; cases h
  obtain ⟨d, h1, h2⟩ := pk_drop L i hi
  rw [h] at h1
  cases h1
  exact ⟨h2.symm, rfl⟩
theorem drop_add {L x post : List UInt8} {i : Nat} (h : L.drop i = x ++ post) : L.drop (i + x.length) = post := by
  rw [← List.drop_drop, h, List.drop_left]
theorem pk_stops {L post : List UInt8} {i : Nat} (h : L.drop i = post) (hs : Stops post) : isD (pk L i) = false ∧ pk L i ≠ 120 := by
  cases post with
  | nil =>
    have : pk L i = 0 := pk_out L i (by
      rcases Nat.lt_or_ge i L.length with h1 | h1
      · obtain ⟨d, h2, _⟩ := pk_drop L i h1
        rw [h] at h2; cases h2
      · exact h1)
    rw [this]
    exact ⟨rfl, by decide⟩
  | cons c r =>
    rw [(pk_hit h).1]
    exact hs c r rfl

theorem word_back : ∀ (w L post : List UInt8) (i : Nat), L.drop i = w ++ post → wordL w L i = .ok () (i + w.length)
  | [], L, post, i, _ => rfl
  | c :: w, L, post, i, h => by
    obtain ⟨h1, h2⟩ := pk_hit h
    rw [wordL, if_pos h1, word_back w L post (i + 1) h2, List.length_cons]
    congr 1
    omega
theorem isD_dig (c : UInt8) : isD c.toNat = isDig c := rfl
theorem num_back (post : List UInt8) (hs : Stops post) : ∀ (ds : List UInt8) (n i : Nat) (m : Int), 0 < n → (∀ c, c ∈ ds → isDig c = true) → nm (n : Int) ds = some m → numL (ds ++ post) n i = (m.toNat, i + ds.length)
  | [], n, i, m, hn, _, h => by
    cases h
    rw [List.nil_append]
    cases post with
    | nil => rfl
    | cons c r => rw [numL, if_neg (by rw [(hs c r rfl).1]; simp)]; rfl
  | c :: ds, n, i, m, hn, hd, h => by
    have hc := hd c (List.mem_cons_self ..)
    have hc2 := isDig_yes hc
    rw [nm] at h
    split at h
    · cases h
    · rename_i hle
      unfold dval at h hle
      have e : (n : Int) * 10 + ((c.toNat : Int) - 48) = ((10 * n + (c.toNat - 48) : Nat) : Int) := by omega
      rw [e] at h
      rw [List.cons_append, numL, if_pos ⟨hn, hc, by omega⟩, num_back post hs ds _ (i + 1) m (by omega) (fun d hd' => hd d (List.mem_cons_of_mem _ hd')) h, List.length_cons]
      congr 1
      omega
theorem nat_back {L post : List UInt8} {j u : Nat} (hu : u ≤ 1000000) (hs : Stops post) (h : L.drop j = Lib.decDigits u ++ post) :
    natL L j = (u, j + (Lib.decDigits u).length) ∧ isD (pk L j) = true ∧ (0 < u → pk L j ≠ 48) ∧ (u = 0 → pk L (j + 1) ≠ 120) := by
  have hall := dec_all u
  have hnm := dec_nm u
  have hne := dec_ne u
  have hhd := dec_head u
  have h0 : u = 0 → Lib.decDigits u = [48] := fun e => by subst e; rw [dec_small (by decide)]; rfl
  rw [if_pos hu] at hnm
  generalize Lib.decDigits u = D at *
  cases D with
  | nil => exact absurd rfl hne
  | cons c ds =>
    obtain ⟨h1, h2⟩ := pk_hit (r := ds ++ post) h
    rw [List.all_cons, Bool.and_eq_true, List.all_eq_true] at hall
    have hc := isDig_yes hall.1
    refine ⟨?_, by rw [h1]; exact hall.1, fun hp => ?_, fun h => ?_⟩
    · unfold natL
      rw [h2, h1]
      by_cases hu0 : u = 0
      · obtain ⟨rfl, rfl⟩ := List.cons.inj (h0 hu0)
        subst hu0
        show numL post 0 (j + 1) = (0, j + 1)
        cases post with
        | nil => rfl
        | cons d r => rw [numL, if_neg (by simp)]
      · have hc48 : c.toNat ≠ 48 := fun e => hhd (by omega) (by rw [List.head?_cons]; congr 1; exact UInt8.toNat_inj.1 e)
        rw [nm_in _ _ _ (by unfold dval; omega)] at hnm
        have e : (0 : Int) * 10 + dval c = ((c.toNat - 48 : Nat) : Int) := by unfold dval; omega
        rw [e] at hnm
        rw [num_back post hs ds _ (j + 1) _ (by omega) hall.2 hnm, List.length_cons]
        congr 1
        omega
    · rw [h1]
      intro e
      exact hhd hp (by rw [List.head?_cons]; congr 1; exact UInt8.toNat_inj.1 e)
    · obtain ⟨rfl, rfl⟩ := List.cons.inj (h0 h)
      exact (pk_stops h2 hs).2
theorem int_back {L post : List UInt8} {i : Nat} {n : Int} (h0 : -1000000 ≤ n) (h1 : n ≤ 1000000) (hs : Stops post) (h : L.drop i = Lib.itoa n ++ post) :
    intL L i = .ok (.mk 2 n ⟨#[]⟩ []) (i + (Lib.itoa n).length) ∧ (pk L i = 45 ∨ isD (pk L i) = true) ∧ ¬ (pk L i = 48 ∧ pk L (i + 1) = 120) := by
  unfold Lib.itoa at h ⊢
  by_cases hn : n < 0
  · rw [if_pos hn] at h ⊢
    obtain ⟨e1, e2⟩ := pk_hit h
    obtain ⟨k1, k2, k3, k4⟩ := nat_back (u := n.natAbs) (by omega) hs e2
    have e45 : pk L i = 45 := e1
    refine ⟨?_, .inl e45, by omega⟩
    unfold intL
    rw [if_pos e45, if_neg (by rw [k2]; simp; exact k3 (by omega)), k1, List.length_cons]
    congr 1
    · congr 1
      omega
    · simp only []
      omega
  · rw [if_neg hn] at h ⊢
    obtain ⟨k1, k2, k3, k4⟩ := nat_back (u := n.toNat) (by omega) hs h
    have hd := isD_lt k2
    refine ⟨?_, .inr k2, fun ⟨a, b⟩ => ?_⟩
    · unfold intL
      rw [if_neg (by omega), if_neg (by rw [k2]; simp), k1]
      congr 1
      congr 1
      show ((n.toNat : Nat) : Int) = n
      omega
    · by_cases hz : n.toNat = 0
      · exact k4 hz b
      · exact k3 (by omega) a

theorem qrun_text (least most : Nat) : ∀ (l C r : List UInt8) (i : Nat), C.length + l.length ≤ most → (∀ c, c ∈ l → 32 ≤ c.toNat ∧ c.toNat ≤ 126) →
    qrun least most false .whole C (escL l ++ r) i = qrun least most false .whole (C ++ l) r (i + (escL l).length)
  | [], C, r, i, _, _ => by simp [escL]
  | c :: l, C, r, i, h, hp => by
    rw [List.length_cons] at h
    have hc := hp c (List.mem_cons_self ..)
    have ih := qrun_text least most l (C ++ [c]) r (i + (escB c).length) (by simp; omega) (fun d hd => hp d (List.mem_cons_of_mem _ hd))
    have hgo : qrun least most false .whole C (escB c ++ (escL l ++ r)) i = qrun least most false .whole (C ++ [c]) (escL l ++ r) (i + (escB c).length) := by
      generalize escL l ++ r = R
      unfold escB
      by_cases h1 : c.toNat = 34 ∨ c.toNat = 92
      · rw [if_pos h1, List.cons_append, List.cons_append, List.nil_append]
        rw [qrun_go _ _ _ _ _ _ _ _ (by simp)]
        have e1 : qstep most false C (92 : UInt8).toNat .whole = some (.esc, C) := by
          simp only [qstep, show (92 : UInt8).toNat = 92 from rfl, if_true]
          rw [if_pos (by omega)]
        rw [e1]
        simp only []
        rw [qrun_go _ _ _ _ _ _ _ _ (by simp [QSt.isWhole])]
        have e2 : qstep most false C c.toNat .esc = some (.whole, C ++ [c]) := by
          simp only [qstep]
          rw [if_pos h1, ofNat_of]
        rw [e2]
        rfl
      · rw [if_neg h1, if_neg (by omega), List.cons_append, List.nil_append]
        rw [qrun_go _ _ _ _ _ _ _ _ (by simp [QSt.isWhole]; omega)]
        have e1 : qstep most false C c.toNat .whole = some (.whole, C ++ [c]) := by
          simp only [qstep]
          rw [if_neg (by omega), if_pos ⟨by omega, by omega, by omega, by omega⟩, ofNat_of]
        rw [e1]
        rfl
    rw [escL_cons, List.append_assoc, hgo, ih, List.length_append, List.append_assoc, List.cons_append, List.nil_append, Nat.add_assoc]
theorem q_back {L l post : List UInt8} {i least most : Nat} (hp : ∀ c, c ∈ l → 32 ≤ c.toNat ∧ c.toNat ≤ 126) (h1 : least ≤ l.length) (h2 : l.length ≤ most) (h : L.drop i = quoteL l ++ post) :
    qL least most false L i = .ok l (i + (quoteL l).length) := by
  unfold qL
  rw [h]
  unfold quoteL
  simp only [List.cons_append, List.append_assoc, List.nil_append]
  rw [if_pos (by rfl), qrun_text least most l [] (34 :: post) (i + 1) (by simpa using h2) hp, List.nil_append, qrun_end _ _ _ _ _ _ _ rfl h1]
  simp only [List.length_cons, List.length_append, List.length_nil]
  congr 1
  omega

/-! ### Lists -/
/-- What stands for the rest of a list. -/
def restL (acc l : List V) : List UInt8 := if acc = [] then V.lits l else V.litT l
theorem items_back (el : List V → Nat → PR V) (close : UInt8) (least : Nat) (L post : List UInt8) (all : List V) (hcl : isD close.toNat = false ∧ close.toNat ≠ 120 ∧ close.toNat ≠ 44) (hlen : least ≤ all.length)
    (hf : ∀ v, v ∈ all → ∃ c r, v.lit = c :: r ∧ c.toNat ≠ close.toNat)
    (hel : ∀ acc v rest, all = acc ++ v :: rest → ∀ j q, L.drop j = v.lit ++ q → Stops q → el acc j = .ok v (j + v.lit.length)) :
    ∀ (l acc : List V) (k i : Nat), all = acc ++ l → l.length ≤ k → L.drop i = restL acc l ++ close :: post → itemsL el close.toNat least L k acc i = .ok all (i + (restL acc l).length + 1)
  | [], acc, k, i, ha, _, h => by
    rw [List.append_nil] at ha
    subst ha
    have hr : restL all [] = [] := by unfold restL; rw [V.lits_nil, V.litT_nil]; split <;> rfl
    rw [hr] at h ⊢
    have hk := (pk_hit h).1
    cases k <;> rw [itemsL, if_pos ⟨hk, hlen⟩] <;> rfl
  | v :: l, acc, k, i, ha, hk, h => by
    cases k with
    | zero => simp at hk
    | succ k =>
      have hv : v ∈ all := by rw [ha]; simp
      obtain ⟨c, r, hlit, hc⟩ := hf v hv
      have hstop : Stops (V.litT l ++ close :: post) := by
        cases l with
        | nil => rw [V.litT_nil]; exact Stops.cons _ _ hcl.1 hcl.2.1
        | cons x l => rw [V.litT_cons]; exact Stops.cons _ _ rfl (by decide)
      have ih := fun i => items_back el close least L post all hcl hlen hf hel l (acc ++ [v]) k i (by rw [ha]; simp) (by rw [List.length_cons] at hk; omega)
      have hr2 : restL (acc ++ [v]) l = V.litT l := by unfold restL; rw [if_neg (by simp)]
      rw [hr2] at ih
      by_cases h0 : acc = []
      · subst h0
        have hr : restL [] (v :: l) = v.lit ++ V.litT l := by unfold restL; rw [if_pos rfl, V.lits_cons]
        rw [hr, List.append_assoc] at h
        have h1 : pk L i = c.toNat := (pk_hit (r := r ++ (V.litT l ++ close :: post)) (by rw [h, hlit, List.cons_append])).1
        rw [itemsL, if_neg (by rw [h1]; exact fun e => hc e.1)]
        unfold sepL
        rw [if_pos rfl, PR.bind_ok, hel [] v l ha i _ h hstop, PR.bind_ok, ih _ (drop_add h), hr, List.length_append]
        congr 1
        omega
      · have hr : restL acc (v :: l) = [44, 32] ++ (v.lit ++ V.litT l) := by unfold restL; rw [if_neg h0, V.litT_cons]; rfl
        rw [hr, List.append_assoc, List.append_assoc] at h
        have h1 : pk L i = 44 := (pk_hit (c := 44) (r := 32 :: (v.lit ++ (V.litT l ++ close :: post))) (by rw [h]; rfl)).1
        have h2 := drop_add h
        rw [itemsL, if_neg (by rw [h1]; exact fun e => hcl.2.2 e.1.symm)]
        unfold sepL
        rw [if_neg h0, word_back [44, 32] L _ i h, PR.bind_ok, hel acc v l ha _ _ h2 hstop, PR.bind_ok, ih _ (drop_add h2), hr, List.length_append, List.length_append]
        congr 1
        omega

/-! ### Values -/
theorem mk_eq {v : V} {t n : Int} {s : ByteArray} {l : List V} (h1 : v.t = t) (h2 : v.n = n) (h3 : v.s = s) (h4 : v.l = l) : v = .mk t n s l := by
  cases v
  simp only [V.t, V.n, V.s, V.l] at h1 h2 h3 h4
  subst h1; subst h2; subst h3; subst h4
  rfl
theorem first_quote (l post : List UInt8) : ∃ r, quoteL l ++ post = 34 :: r := ⟨escL l ++ [34] ++ post, by unfold quoteL; simp⟩
theorem lit_int {v : V} (h : v.t = 2) : v.lit = Lib.itoa v.n := by rw [V.lit_eq, h]; simp
theorem lit_text {v : V} (h : v.t = 3) : v.lit = quoteL v.s.data.toList := by rw [V.lit_eq, h]; simp
theorem lit_texts {v : V} (h : v.t = 6) : v.lit = 123 :: (V.lits v.l ++ [125]) := by rw [V.lit_eq, h]; simp
theorem first_int (n : Int) : ∃ c r, Lib.itoa n = c :: r ∧ (c.toNat = 45 ∨ isD c.toNat = true) := by
  unfold Lib.itoa
  split
  · exact ⟨45, _, rfl, .inl rfl⟩
  · have h1 := dec_all n.toNat
    have h2 := dec_ne n.toNat
    generalize Lib.decDigits n.toNat = D at *
    cases D with
    | nil => exact absurd rfl h2
    | cons c r =>
      rw [List.all_cons, Bool.and_eq_true] at h1
      exact ⟨c, r, rfl, .inr h1.1⟩
theorem text_back {v : V} {L post : List UInt8} {i : Nat} (hv : v.chk = 0) (ht : v.t = 3) (h : L.drop i = v.lit ++ post) : textL L i = .ok v (i + v.lit.length) := by
  rcases chk_cases hv with g | g | g | g | g | g | g | g <;> (try (have := g.1; omega))
  obtain ⟨_, hn, hs, hl⟩ := g
  obtain ⟨a, b, c⟩ := chkText_ok hs
  rw [lit_text ht] at h ⊢
  unfold textL
  rw [q_back c (Nat.zero_le _) (by rw [lt_len]; exact b) h, PR.bind_ok]
  congr 1
  exact (mk_eq ht hn (str_of v.s).symm hl).symm
theorem int_back2 {v : V} {L post : List UInt8} {i : Nat} (hv : v.chk = 0) (ht : v.t = 2) (hs : Stops post) (h : L.drop i = v.lit ++ post) : intL L i = .ok v (i + v.lit.length) := by
  rcases chk_cases hv with g | g | g | g | g | g | g | g <;> (try (have := g.1; omega))
  obtain ⟨_, h0, h1, hs', hl⟩ := g
  rw [lit_int ht] at h ⊢
  rw [(int_back h0 h1 hs h).1]
  congr 1
  exact (mk_eq ht rfl hs' hl).symm
theorem texts_back {v : V} {L post : List UInt8} {i least most : Nat} (hv : v.chk = 0) (ht : v.t = 6) (h1 : least ≤ v.l.length) (h2 : v.l.length ≤ most) (h : L.drop i = v.lit ++ post) : textsL least most L i = .ok v (i + v.lit.length) := by
  rcases chk_cases hv with g | g | g | g | g | g | g | g <;> (try (have := g.1; omega))
  obtain ⟨_, hn, hs, hl, hc⟩ := g
  have hm := chkL_mem 3 v.l hc
  rw [lit_texts ht, List.cons_append, List.append_assoc] at h
  obtain ⟨e1, e2⟩ := pk_hit h
  unfold textsL
  rw [if_pos (show pk L i = 123 from e1)]
  have := items_back (fun _ j => textL L j) 125 least L post v.l (by decide) h1 (fun x hx => ?_) (fun acc x rest ha j q hd hq => ?_) v.l [] most (i + 1) rfl h2 (by unfold restL; rw [if_pos rfl]; exact e2)
  · rw [show (125 : UInt8).toNat = 125 from rfl] at this
    rw [this, PR.bind_ok]
    unfold restL
    rw [if_pos rfl, lit_texts ht, List.length_cons, List.length_append]
    congr 1
    · exact (mk_eq ht hn hs rfl).symm
    · simp only [List.length_cons, List.length_nil]
      omega
  · rw [lit_text (hm x hx).1]
    exact ⟨34, _, rfl, by decide⟩
  · have hx : x ∈ v.l := by rw [ha]; simp
    exact text_back (hm x hx).2 (hm x hx).1 hd
theorem back {v : V} {L post : List UInt8} {i : Nat} (hv : v.chk = 0) (hs : Stops post) (h : L.drop i = v.lit ++ post) : oneL L i = .ok v (i + v.lit.length) := by
  rcases chk_cases hv with g | g | g | g | g | g | g | g
  · obtain ⟨ht, hn, hs', hl⟩ := g
    rcases hn with hn | hn
    · have hx : v.lit = wFalse := by rw [V.lit_eq, ht, hn]; simp
      rw [hx] at h ⊢
      have e1 : pk L i = 102 := (pk_hit (c := 102) h).1
      unfold oneL boolL
      rw [if_neg (by omega), if_pos e1, word_back _ _ _ _ h, PR.bind_ok]
      congr 1
      exact (mk_eq ht hn hs' hl).symm
    · have hx : v.lit = wTrue := by rw [V.lit_eq, ht, hn]; simp
      rw [hx] at h ⊢
      have e1 : pk L i = 116 := (pk_hit (c := 116) h).1
      unfold oneL boolL
      rw [if_pos e1, word_back _ _ _ _ h, PR.bind_ok]
      congr 1
      exact (mk_eq ht hn hs' hl).symm
  · obtain ⟨ht, h0, h1, hs', hl⟩ := g
    have hk := int_back2 hv ht hs h
    rw [lit_int ht] at h
    obtain ⟨_, k2, k3⟩ := int_back h0 h1 hs h
    have k4 : pk L i = 45 ∨ (48 ≤ pk L i ∧ pk L i ≤ 57) := k2.imp id isD_lt
    unfold oneL
    rw [if_neg (by omega), if_neg (by omega), if_neg (by omega), if_neg (by omega), if_neg (by omega), if_neg (by omega), if_neg (by omega), if_neg k3]
    exact hk
  · obtain ⟨ht, h0, h1, hs', hl⟩ := g
    have hx : v.lit = [48, 120, hx (v.n.toNat / 16), hx (v.n.toNat % 16)] := by rw [V.lit_eq, ht]; simp
    rw [hx] at h ⊢
    obtain ⟨e1, h⟩ := pk_hit h
    obtain ⟨e2, h⟩ := pk_hit h
    obtain ⟨e3, h⟩ := pk_hit h
    obtain ⟨e4, h⟩ := pk_hit h
    have e1' : pk L i = 48 := e1
    have e2' : pk L (i + 1) = 120 := e2
    unfold oneL
    rw [if_neg (by omega), if_neg (by omega), if_neg (by omega), if_neg (by omega), if_neg (by omega), if_neg (by omega), if_neg (by omega), if_pos ⟨e1', e2'⟩]
    unfold bitsL
    rw [show i + 1 + 1 = i + 2 from rfl] at e3
    rw [show i + 1 + 1 + 1 = i + 3 from rfl] at e4
    rw [e3, hexv_hx (by omega), e4, hexv_hx (by omega)]
    simp only []
    congr 1
    refine (mk_eq ht ?_ hs' hl).symm
    omega
  · obtain ⟨ht, _⟩ := g
    have hk := text_back hv ht h
    rw [lit_text ht] at h
    obtain ⟨r, hr⟩ := first_quote v.s.data.toList post
    rw [hr] at h
    have e1 : pk L i = 34 := (pk_hit h).1
    unfold oneL
    rw [if_neg (by omega), if_neg (by omega), if_pos e1]
    exact hk
  · obtain ⟨ht, hn, hs', hl⟩ := g
    obtain ⟨a, b, c⟩ := chkText_ok hs'
    have hx : v.lit = 114 :: quoteL v.s.data.toList := by rw [V.lit_eq, ht]; simp
    rw [hx] at h ⊢
    obtain ⟨e1, h⟩ := pk_hit h
    have e1' : pk L i = 114 := e1
    unfold oneL
    rw [if_neg (by omega), if_neg (by omega), if_neg (by omega), if_pos e1']
    unfold patL
    rw [q_back c (by rw [lt_len]; exact a) (by rw [lt_len]; exact b) h, PR.bind_ok, List.length_cons]
    congr 1
    · exact (mk_eq ht hn (str_of v.s).symm hl).symm
    · omega
  · obtain ⟨ht, hn, hs', hl, hc⟩ := g
    have hm := chkL_mem 2 v.l hc
    have hx : v.lit = 91 :: (V.lits v.l ++ [93]) := by rw [V.lit_eq, ht]; simp
    rw [hx, List.cons_append, List.append_assoc] at h
    obtain ⟨e1, e2⟩ := pk_hit h
    have e1' : pk L i = 91 := e1
    unfold oneL
    rw [if_neg (by omega), if_neg (by omega), if_neg (by omega), if_neg (by omega), if_pos e1']
    unfold intsL
    have := items_back (fun _ j => intL L j) 93 0 L post v.l (by decide) (Nat.zero_le _) (fun x hx => ?_) (fun acc x rest ha j q hd hq => ?_) v.l [] 16 (i + 1) rfl hl (by unfold restL; rw [if_pos rfl]; exact e2)
    · rw [show (93 : UInt8).toNat = 93 from rfl] at this
      rw [this, PR.bind_ok]
      unfold restL
      rw [if_pos rfl, hx, List.length_cons, List.length_append]
      congr 1
      · exact (mk_eq ht hn hs' rfl).symm
      · simp only [List.length_cons, List.length_nil]
        omega
    · rw [lit_int (hm x hx).1]
      obtain ⟨c, r, h1, h2⟩ := first_int x.n
      refine ⟨c, r, h1, fun e => ?_⟩
      rw [e] at h2
      exact absurd h2 (by decide)
    · have hx : x ∈ v.l := by rw [ha]; simp
      exact int_back2 (hm x hx).2 (hm x hx).1 hq hd
  · obtain ⟨ht, hn, hs', hl, hc⟩ := g
    have hk := texts_back (least := 0) (most := 16) hv ht (Nat.zero_le _) hl h
    rw [lit_texts ht, List.cons_append] at h
    have e1 : pk L i = 123 := (pk_hit h).1
    unfold oneL
    rw [if_neg (by omega), if_neg (by omega), if_neg (by omega), if_neg (by omega), if_neg (by omega), if_pos e1]
    exact hk
  · obtain ⟨ht, hn, hs', hl, hc⟩ := g
    have hm := chkR_mem _ v.l hc
    have hx : v.lit = 60 :: (V.lits v.l ++ [62]) := by rw [V.lit_eq, ht]; simp
    rw [hx, List.cons_append, List.append_assoc] at h
    obtain ⟨e1, e2⟩ := pk_hit h
    have e1' : pk L i = 60 := e1
    unfold oneL
    rw [if_neg (by omega), if_neg (by omega), if_neg (by omega), if_neg (by omega), if_neg (by omega), if_neg (by omega), if_pos e1']
    unfold tableL
    have := items_back (rowL L) 62 0 L post v.l (by decide) (Nat.zero_le _) (fun x hx => ?_) (fun acc x rest ha j q hd hq => ?_) v.l [] 8 (i + 1) rfl hl (by unfold restL; rw [if_pos rfl]; exact e2)
    · rw [show (62 : UInt8).toNat = 62 from rfl] at this
      rw [this, PR.bind_ok]
      unfold restL
      rw [if_pos rfl, hx, List.length_cons, List.length_append]
      congr 1
      · exact (mk_eq ht hn hs' rfl).symm
      · simp only [List.length_cons, List.length_nil]
        omega
    · rw [lit_texts (hm x hx).1]
      exact ⟨123, _, rfl, by decide⟩
    · have hx : x ∈ v.l := by rw [ha]; simp
      obtain ⟨m1, m2, m3, m4, m5⟩ := hm x hx
      unfold rowL
      cases acc with
      | nil => exact texts_back m5 m1 m2 m3 hd
      | cons y acc =>
        obtain ⟨_, _, _, y4, _⟩ := hm y (by rw [ha]; simp)
        exact texts_back m5 m1 (by show y.l.length ≤ _; omega) (by show _ ≤ y.l.length; omega) hd
/-- A literal is read again. -/
theorem parse_lit {v : V} (hv : v.chk = 0) : oneL v.lit 0 = .ok v v.lit.length ∧ parseL v.lit = (v, 0, 0) := by
  have h := back (L := v.lit) (post := []) (i := 0) hv Stops.nil (by rw [List.drop_zero, List.append_nil])
  rw [Nat.zero_add] at h
  exact ⟨h, by unfold parseL; rw [h]; exact if_pos rfl⟩
theorem prefix_lit {v : V} (hv : v.chk = 0) (n : Nat) (hn : n < v.lit.length) : (parseL (v.lit.take n)).2.2 = 0 ∨ (parseL (v.lit.take n)).2 = (n, 8) := by
  have h0 := (parse_lit hv).1
  have hlen : (v.lit.take n).length = n := by rw [List.length_take]; omega
  have hbd := (oneL_bd (v.lit.take n) 0 (Nat.zero_le _)).2
  have happ := oneL_app (v.lit.take n) (v.lit.drop n)
  rw [List.take_append_drop, h0] at happ
  unfold parseL
  cases hx : oneL (v.lit.take n) 0 with
  | bad k =>
    rw [hx] at happ hbd
    simp only [PR.fin] at happ hbd
    rcases Nat.lt_or_ge k n with h | h
    · cases happ (by omega)
    · obtain rfl : k = n := by omega
      exact .inr rfl
  | ok x k =>
    rw [hx] at happ hbd
    simp only [PR.fin] at happ hbd
    rcases Nat.lt_or_ge k n with h | h
    · have := happ (by omega)
      injection this with _ e
      omega
    · left
      show (if k = (v.lit.take n).length then ((x, 0, 0) : V × Nat × Int) else (zeroV, k, 8)).2.2 = 0
      rw [if_pos (by omega)]
end Go.Proofs.YtmbmlcnipncgnaaDoor
