/-
  add of the automata: the contract over every tree. Nothing is assumed.
-/
import Derived.Test.YtaipaddfehpmgaaDoorPtAddP
import Derived.Test.YtaipaddfehpmgaaDoorPtPars
import Derived.Deep.RegionHeldLaw
namespace Go.Proofs.YtaipaddfehpmgaaDoor
open Go.RowKit

/-- What a look at a tree tells: its kind, its set, its parts. -/
def LK (lf : Nat) : Prop := (∀ args w, (callFunc lf args).run Tryd.prog w = .ok (.enter lf args) w) ∧ ∀ (t : PT) (oe : Option Addr) (n ce : Nat) (w : World),
    Calls Tryd.prog lf #[t.val (.slice oe n ce)] w fun e w' => e = .returned (.tuple #[.int .i64 t.k, t.s.val, .slice oe n ce]) ∧ Below w.heap.size w w'

/-- A part in a block of its own. -/
def PB (w : World) (n : Nat) (p : Pa) : Prop := w.heap[n]? = some (.cells #[.bool p.e, .int .u64 p.f, .int .u64 p.t] 134 (0, 0))
theorem PB.cells {w : World} {n : Nat} {p : Pa} (h : PB w n p) : w.cell? ⟨n, 0, none⟩ = some (.bool p.e) ∧ w.cell? ⟨n, 1, none⟩ = some (.int .u64 p.f) ∧ w.cell? ⟨n, 2, none⟩ = some (.int .u64 p.t) := by
  unfold World.cell?
  rw [h]
  exact ⟨rfl, rfl, rfl⟩
theorem PB.free {w : World} {n : Nat} {p : Pa} (h : PB w n p) (k : Nat) : w.frozen? ⟨n, k, none⟩ = false := by unfold World.frozen?; rw [h]; simp
theorem PB.lt {w : World} {n : Nat} {p : Pa} (h : PB w n p) : n < w.heap.size := (Array.getElem?_eq_some_iff.1 h).1
theorem PB.new (w : World) (p : Pa) : PB (w.alloc (.cells #[.bool p.e, .int .u64 p.f, .int .u64 p.t] 134)) w.heap.size p := by
  show (w.heap.push _)[w.heap.size]? = some _
  rw [Array.getElem?_push, if_pos rfl]
theorem PB.set {w : World} {n : Nat} {p : Pa} (h : PB w n p) (e : Bool) (f t : Int) : PB (((w.setCell ⟨n, 0, none⟩ (.bool e)).setCell ⟨n, 1, none⟩ (.int .u64 f)).setCell ⟨n, 2, none⟩ (.int .u64 t)) n ⟨e, f, t⟩ := by
  unfold PB at *
  simp [World.setCell, Array.getElem?_modify, h]
theorem PB.set0 {w : World} {n : Nat} {p : Pa} (h : PB w n p) (e : Bool) : PB (w.setCell ⟨n, 0, none⟩ (.bool e)) n { p with e := e } := by
  unfold PB at *
  simp [World.setCell, Array.getElem?_modify, h]

/-- What adding a tree leaves. -/
def AddR (w : World) (mb base : Nat) (sl : Value) (last : Int) (r : List Ps × Pa) (e : Ending) (w' : World) : Prop :=
  e = .returned r.2.val ∧ ∃ sl', MB w' mb sl' last ∧ OwnQ w' base sl' r.1 ∧ From w sl sl' ∧ Kp w.heap.size (MX mb sl) w w'
theorem AddR.of_below {w w' : World} {mb base : Nat} {sl : Value} {last : Int} {ps : List Ps} (p : Pa) (hM : MB w mb sl last) (hQ : OwnQ w base sl ps) (hb : Below w.heap.size w w') : AddR w mb base sl last (ps, p) (.returned p.val) w' :=
  ⟨rfl, sl, (hb.block mb hM.lt).trans hM, hQ.kp (X := fun _ => False) (.of hb (Nat.le_refl _)) (Nat.le_refl _) (fun _ _ h => h), From.refl _ _, .of hb (Nat.le_refl _)⟩
theorem From.trans {w w1 : World} {a b c : Value} (h : From w a b) (k : From w1 b c) (hs : w.heap.size ≤ w1.heap.size) : From w a c := fun q hq => by
  rcases k q hq with h1 | h1
  · exact h q h1
  · exact .inr (Nat.le_trans hs h1)
theorem MX.from {w : World} {mb k : Nat} {a b : Value} (h : From w a b) (hk : k < w.heap.size) (hx : MX mb b k) : MX mb a k := by
  rcases hx with e | e
  · exact .inl e
  · rcases h k e with h1 | h1
    · exact .inr h1
    · omega
/-- Trees lie below the machine. -/
theorem HT.mx {w w' : World} {base : Nat} {x : Value} {l : List PT} {X : Nat → Prop} (h : HT w (· < base) x l) (hk : Kp w.heap.size X w w') (hX : ∀ k, k < base → ¬ X k) (hw : base ≤ w.heap.size) : HT w' (· < base) x l :=
  h.later (fun _ h => h) fun b hb o => hk.cell (p := ⟨b, o, none⟩) (Nat.lt_of_lt_of_le hb hw) (hX b hb)

theorem below3 {B n : Nat} {w w1 : World} (h : Below B w w1) (hn : B ≤ n) (a b c : Value) : Below B w (((w1.setCell ⟨n, 0, none⟩ a).setCell ⟨n, 1, none⟩ b).setCell ⟨n, 2, none⟩ c) :=
  (((h.setCell (p := ⟨n, 0, none⟩) hn a).setCell (p := ⟨n, 1, none⟩) hn b).setCell (p := ⟨n, 2, none⟩) hn c)
theorem OwnQ.sets {w : World} {base n : Nat} {v : Value} {l : List Ps} (h : OwnQ w base v l) (hn : v.ownBlock ≠ some n) (a b c : Value) : OwnQ (((w.setCell ⟨n, 0, none⟩ a).setCell ⟨n, 1, none⟩ b).setCell ⟨n, 2, none⟩ c) base v l :=
  h.kp (kp3a (Below.refl w.heap.size w) a b c) (Nat.le_refl _) (fun k hk e => hn (by rw [hk]; exact congrArg some e))
theorem grown_facts {w WO wq w5 : World} {mb n1 n2 : Nat} {sl sl' sl4 : Value} {p q : Pa} (hB : Below WO.heap.size WO wq) (hK5 : Kp wq.heap.size (MX mb sl') wq w5) (hF5 : From wq sl' sl4) (hP : PB WO n1 p) (hR : PB WO n2 q) (hN1 : sl'.ownBlock ≠ some n1) (hN2 : sl'.ownBlock ≠ some n2) (hm1 : n1 ≠ mb) (hm2 : n2 ≠ mb)
    (hF : From w sl sl') (hK : Kp w.heap.size (MX mb sl) w WO) :
    PB w5 n1 p ∧ PB w5 n2 q ∧ wq.heap.size ≤ w5.heap.size ∧ From w sl sl4 ∧ (sl4.ownBlock ≠ some n1 ∧ sl4.ownBlock ≠ some n2) ∧ Kp w.heap.size (MX mb sl) w w5 := by
  have hsz := hB.size
  have hl1 := hP.lt
  have hl2 := hR.lt
  refine ⟨?_, ?_, hK5.size, hF.trans hF5 (Nat.le_trans hK.size hsz), ⟨fun e => ?_, fun e => ?_⟩, ?_⟩
  · exact (hK5.block _ (by omega) (fun e => by rcases e with e | e; exact hm1 e; exact hN1 e)).trans ((hB.block _ hl1).trans hP)
  · exact (hK5.block _ (by omega) (fun e => by rcases e with e | e; exact hm2 e; exact hN2 e)).trans ((hB.block _ hl2).trans hR)
  · rcases hF5 _ e with h | h
    · exact hN1 h
    · omega
  · rcases hF5 _ e with h | h
    · exact hN2 h
    · omega
  · exact (hK.trans (.of hB hK.size)).trans (hK5.mono (Nat.le_trans hK.size hsz) (fun q hq h => MX.from hF hq h))
/-- The result is written over two boxes of the call's own. -/
theorem AddR.close {w w4 : World} {mb base : Nat} {sl sl' : Value} {last : Int} {r : List Ps × Pa} (hM : MB w4 mb sl' last) (hQ : OwnQ w4 base sl' r.1) (hF : From w sl sl') (hK : Kp w.heap.size (MX mb sl) w w4) (hml : mb < w.heap.size) (b : Nat) (hb : w.heap.size ≤ b)
    (hnb : sl'.ownBlock ≠ some b) (x y z : Value) : AddR w mb base sl last r (.returned r.2.val) (((w4.setCell ⟨b, 0, none⟩ x).setCell ⟨b, 1, none⟩ y).setCell ⟨b, 2, none⟩ z) :=
  ⟨rfl, sl', (at3 (by omega) _ _ _).trans hM, hQ.sets hnb _ _ _, hF, kp3 hK hb _ _ _⟩
theorem addT_eq (ps : List Ps) (t : PT) : addT ps t = if t.k = 2 then (ps, ⟨true, 0, 0⟩) else if t.k = 3 then (ps ++ [⟨t.s, 0⟩], ⟨false, oneS ps.length, oneS ps.length⟩)
    else if t.k = 4 then catS ps ⟨true, 0, 0⟩ t.l else if t.k = 5 then altsS ps .zero t.l else if t.k = 6 then repS ps t.l else (ps, .zero) := by
  cases t with
  | mk k s l => rw [addT]; rfl
theorem catS_cons (ps : List Ps) (p : Pa) (t : PT) (l : List PT) : catS ps p (t :: l) = catS (joinS (addT ps t).1 p (addT ps t).2).1 (joinS (addT ps t).1 p (addT ps t).2).2 l := by rw [catS]
theorem altsS_cons (ps : List Ps) (p : Pa) (t : PT) (l : List PT) : altsS ps p (t :: l) = altsS (addT ps t).1 (altS p (addT ps t).2) l := by rw [altsS]
theorem catS_at (ps : List Ps) (p : Pa) (l : List PT) (k : Nat) (h : k < l.length) : catS ps p (l.drop k) = catS (joinS (addT ps (l[k]'h)).1 p (addT ps (l[k]'h)).2).1 (joinS (addT ps (l[k]'h)).1 p (addT ps (l[k]'h)).2).2 (l.drop (k + 1)) := by
  rw [List.drop_eq_getElem_cons h, catS_cons]
theorem altsS_at (ps : List Ps) (p : Pa) (l : List PT) (k : Nat) (h : k < l.length) : altsS ps p (l.drop k) = altsS (addT ps (l[k]'h)).1 (altS p (addT ps (l[k]'h)).2) (l.drop (k + 1)) := by
  rw [List.drop_eq_getElem_cons h, altsS_cons]
theorem joinS_len (ps : List Ps) (p q : Pa) : (joinS ps p q).1.length = ps.length := linkL_len _ _ _ _
theorem addT_len (t : PT) : ∀ ps : List Ps, ps.length ≤ (addT ps t).1.length ∧ (addT ps t).1.length ≤ ps.length + t.cls := by
  induction t using PT.ind with
  | h t ih =>
  intro ps
  have hc : ∀ (l : List PT), (∀ x, x ∈ l → ∀ ps : List Ps, ps.length ≤ (addT ps x).1.length ∧ (addT ps x).1.length ≤ ps.length + x.cls) → ∀ (ps : List Ps) (p : Pa), (ps.length ≤ (catS ps p l).1.length ∧ (catS ps p l).1.length ≤ ps.length + PT.clss l) ∧ (ps.length ≤ (altsS ps p l).1.length ∧ (altsS ps p l).1.length ≤ ps.length + PT.clss l) := by
    intro l
    induction l with
    | nil => intro _ ps p; rw [catS, altsS, PT.clss_nil]; exact ⟨⟨Nat.le_refl _, Nat.le_refl _⟩, ⟨Nat.le_refl _, Nat.le_refl _⟩⟩
    | cons x l ihl =>
      intro hx ps p
      have h1 := hx x (List.mem_cons_self ..) ps
      have h2 := ihl (fun y hy => hx y (List.mem_cons_of_mem _ hy))
      rw [catS_cons, altsS_cons, PT.clss_cons]
      have h3 := (h2 (joinS (addT ps x).1 p (addT ps x).2).1 (joinS (addT ps x).1 p (addT ps x).2).2).1
      have h4 := (h2 (addT ps x).1 (altS p (addT ps x).2)).2
      rw [joinS_len] at h3
      omega
  have h := hc t.l (fun x hx => ih x hx)
  rw [addT_eq, t.cls_eq]
  split
  · exact ⟨Nat.le_refl _, Nat.le_add_right _ _⟩
  split
  · show ps.length ≤ (ps ++ [_]).length ∧ (ps ++ [_]).length ≤ _; simp
  split
  · have := (h ps ⟨true, 0, 0⟩).1; omega
  split
  · have := (h ps .zero).2; omega
  split
  · cases hl : t.l with
    | nil => rw [repS]; exact ⟨Nat.le_refl _, Nat.le_add_right _ _⟩
    | cons x r =>
      have h1 := ih x (by rw [hl]; exact List.mem_cons_self ..) ps
      rw [repS, PT.clss_cons]
      show ps.length ≤ (linkL _ _ _ _).length ∧ (linkL _ _ _ _).length ≤ _
      rw [linkL_len]
      omega
  · exact ⟨Nat.le_refl _, Nat.le_add_right _ _⟩

set_option maxRecDepth 100000 in
set_option maxHeartbeats 8000000 in
theorem add_any' (lf : Nat) (hlf : LK lf) (t : PT) : t.fit = true → ∀ (w : World) (mb base : Nat) (sl : Value) (last : Int) (ps : List Ps) (oe : Option Addr) (ce : Nat), HT w (· < base) (.slice oe t.l.length ce) t.l → base ≤ mb → MB w mb sl last → OwnQ w base sl ps → 0 < ps.length → ps.length + t.cls ≤ 1000 →
    Calls Tryd.prog 66 #[(.pointer (some ⟨mb, 0, none⟩)), t.val (.slice oe t.l.length ce), .func (.func lf) #[] #[]] w (AddR w mb base sl last (addT ps t)) := by
  induction t using PT.ind with
  | h t ih =>
  intro hfit w mb base sl last ps oe ce hT hbm hM hQ hp hl
  have hml := hM.lt
  obtain ⟨w1, hw1⟩ : ∃ w1, w1 = (w.alloc (.cells #[.int .i64 t.k, .int .u64 t.s.a, .int .u64 t.s.b, .int .u64 t.s.c, .int .u64 t.s.d, (.slice oe t.l.length ce)] 36)).alloc (.cells #[.bool false, .int .u64 0, .int .u64 0] 134) := ⟨_, rfl⟩
  have HW1 := Lib.hid hw1
  have hs1 : w1.heap.size = w.heap.size + 2 := by rw [hw1]; simp
  have hb1 : Below w.heap.size w w1 := by rw [hw1]; exact below2 _ _ _
  have hR1 : PB w1 (w.heap.size + 1) .zero := by
    have := PB.new (w.alloc (.cells #[.int .i64 t.k, .int .u64 t.s.a, .int .u64 t.s.b, .int .u64 t.s.c, .int .u64 t.s.d, (.slice oe t.l.length ce)] 36)) .zero
    rw [show (w.alloc (.cells #[.int .i64 t.k, .int .u64 t.s.a, .int .u64 t.s.b, .int .u64 t.s.c, .int .u64 t.s.d, (.slice oe t.l.length ce)] 36)).heap.size = w.heap.size + 1 by simp] at this
    rw [hw1]; exact this
  have hcf := hlf.1
  have HFI := Lib.hid (hlf.2 t oe t.l.length ce w1)
  have HR1 := Lib.hid hR1
  have HB1 := Lib.hid hb1
  have HM := Lib.hid hM
  have HQ := Lib.hid hQ
  have HT0 := Lib.hid hT
  have HAE := Lib.hid (addT_eq ps t)
  have HFIT := Lib.hid hfit
  have HIH := Lib.hid ih
  unfold PT.val at HFI
  unfold S4.val at HFI
  generalize hRES : addT ps t = RES at *
  unfold PT.val
  clear hw1 hM hQ hT hfit ih hR1 hb1
  go_enter Tryd.func66, Tryd.ntmps66
  go_wp2_with fail
  rw [← HW1.out]
  refine HFI.out.mono ?_
  rintro e w2 ⟨rfl, hb2⟩
  have hs2 := hb2.size
  have HB2 := Lib.hid (HB1.out.trans (hb2.mono (by omega)))
  have hR2 : PB w2 (w.heap.size + 1) .zero := (hb2.block _ (by omega)).trans HR1.out
  have HR2 := Lib.hid hR2
  have hR3 : ∀ X Y, PB ((w2.alloc X).alloc Y) (w.heap.size + 1) .zero := fun X Y => ((below2 w2 X Y).block _ (by omega)).trans hR2
  have r0 := fun X Y => (hR3 X Y).cells.1
  have r1 := fun X Y => (hR3 X Y).cells.2.1
  have r2 := fun X Y => (hR3 X Y).cells.2.2
  have f0 := fun X Y => (hR3 X Y).free 0
  have f1 := fun X Y => (hR3 X Y).free 1
  have f2 := fun X Y => (hR3 X Y).free 2
  clear hb2 hR2 HFI hR3
  by_cases k2 : t.k = 2
  · have hE : RES = (ps, ⟨true, 0, 0⟩) := by rw [HAE.out, if_pos k2]
    subst hE
    clear HAE hRES
    go_wp2_with fail
    refine bodyPost_ret (v := .agg #[.bool true, .int .u64 0, .int .u64 0]) (by simp [results, Tryd.results66, go_sem, *]) rfl ?_
    exact AddR.of_below ⟨true, 0, 0⟩ HM.out HQ.out (below3 (HB2.out.trans ((below2 w2 _ _).mono (by omega))) (by omega) _ _ _)
  by_cases k3 : t.k = 3
  · have hE : RES = (ps ++ [⟨t.s, 0⟩], ⟨false, oneS ps.length, oneS ps.length⟩) := by rw [HAE.out, if_neg k2, if_pos k3]
    subst hE
    clear HAE hRES
    obtain ⟨w3, hw3⟩ : ∃ w3, w3 = (w2.alloc (.cells #[.int .u64 t.s.a, .int .u64 t.s.b, .int .u64 t.s.c, .int .u64 t.s.d] 33)).alloc (.cells #[.bool false, .int .u64 0, .int .u64 0] 134) := ⟨_, rfl⟩
    have HW3 := Lib.hid hw3
    have hs3 : w3.heap.size = w2.heap.size + 2 := by rw [hw3]; simp
    have hb3 : Below w2.heap.size w2 w3 := by rw [hw3]; exact below2 _ _ _
    have HB3 := Lib.hid (HB2.out.trans (hb3.mono (by omega)))
    have HM3 : Hid (MB w3 mb sl last) := Lib.hid ((HB3.out.block mb hml).trans HM.out)
    have HQ3 : Hid (OwnQ w3 base sl ps) := Lib.hid (HQ.out.kp (X := fun _ => False) (.of HB3.out (Nat.le_refl _)) (Nat.le_refl _) (fun _ _ h => h))
    have HR3 : Hid (PB w3 (w.heap.size + 1) .zero) := Lib.hid ((hb3.block _ (by omega)).trans HR2.out)
    have HP3 : Hid (PB w3 (w2.heap.size + 1) .zero) := Lib.hid (by
      have := PB.new (w2.alloc (.cells #[.int .u64 t.s.a, .int .u64 t.s.b, .int .u64 t.s.c, .int .u64 t.s.d] 33)) .zero
      rw [show (w2.alloc (.cells #[.int .u64 t.s.a, .int .u64 t.s.b, .int .u64 t.s.c, .int .u64 t.s.d] 33)).heap.size = w2.heap.size + 1 by simp] at this
      rw [hw3]; exact this)
    have HLT := Lib.hid (fun q hq => (HQ.out.lt q hq).2)
    have HT3 : Hid (HT w3 (· < base) (.slice oe t.l.length ce) t.l) := Lib.hid (HT0.out.mx (X := fun _ => False) (.of HB3.out (Nat.le_refl _)) (fun _ _ h => h) (by omega))
    clear hw3 hb3 HR2
    have HC := Lib.hid (addPosition_any w3 mb base sl last ps t.s HM3.out HQ3.out (by omega) (by omega))
    unfold S4.val Pa.val at HC
    clear r0 r1 r2 f0 f1 f2
    go_wp2_with fail
    rw [← HW3.out]
    refine HC.out.mono ?_
    rintro e w4 ⟨rfl, sl4, hM4, hQ4, hF4, hK4⟩
    have hs4 := hK4.size
    have hP4 : PB w4 (w2.heap.size + 1) .zero := (hK4.block _ (by omega) (fun e => by rcases e with e | e; omega; have := HLT.out _ e; omega)).trans HP3.out
    have hR4 : PB w4 (w.heap.size + 1) .zero := (hK4.block _ (by omega) (fun e => by rcases e with e | e; omega; have := HLT.out _ e; omega)).trans HR3.out
    obtain ⟨p0, p1, p2⟩ := hP4.cells
    have q0 := hP4.free 0
    have q1 := hP4.free 1
    have q2 := hP4.free 2
    obtain ⟨r0, r1, r2⟩ := hR4.cells
    have f0 := hR4.free 0
    have f1 := hR4.free 1
    have f2 := hR4.free 2
    have HP4 := Lib.hid hP4
    have HR4 := Lib.hid hR4
    clear hP4 hR4
    have HM4 := Lib.hid hM4
    have HQ4 := Lib.hid hQ4
    have HF4 : Hid (From w sl sl4) := Lib.hid (fun q hq => (hF4 q hq).imp id (fun h => by omega))
    have hnW : sl4.ownBlock ≠ some (w2.heap.size + 1) := fun e => by rcases hF4 _ e with h | h; have := HLT.out _ h; omega; omega
    have hnR : sl4.ownBlock ≠ some (w.heap.size + 1) := fun e => by rcases hF4 _ e with h | h; have := HLT.out _ h; omega; omega
    have HK4 : Hid (Kp w.heap.size (MX mb sl) w w4) := Lib.hid ((Kp.of HB3.out (Nat.le_refl _)).trans (hK4.less (by omega)))
    clear hM4 hQ4 hF4 hK4 HC
    go_wp2_with fail
    refine bodyPost_ret (v := .agg #[.bool false, .int .u64 (oneS ps.length), .int .u64 (oneS ps.length)]) (by simp [results, Tryd.results66, go_sem, *]) rfl ?_
    exact AddR.close (r := (ps ++ [⟨t.s, 0⟩], ⟨false, oneS ps.length, oneS ps.length⟩)) ((at3 (by omega) _ _ _).trans HM4.out) (HQ4.out.sets hnW _ _ _) HF4.out (kp3 HK4.out (by omega) _ _ _) hml _ (by omega) hnR _ _ _
  by_cases k4 : t.k = 4
  · have hE : RES = catS ps ⟨true, 0, 0⟩ t.l := by rw [HAE.out, if_neg k2, if_neg k3, if_pos k4]
    have hte := t.cls_eq
    have hfits : PT.fits t.l = true := by
      have h := HFIT.out
      rw [PT.fit_eq, Bool.and_eq_true] at h
      exact h.2
    subst hE
    clear HAE hRES
    obtain ⟨w3, hw3⟩ : ∃ w3, w3 = (w2.alloc (.cells #[.int .u64 t.s.a, .int .u64 t.s.b, .int .u64 t.s.c, .int .u64 t.s.d] 33)).alloc (.cells #[.bool false, .int .u64 0, .int .u64 0] 134) := ⟨_, rfl⟩
    have HW3 := Lib.hid hw3
    have hs3 : w3.heap.size = w2.heap.size + 2 := by rw [hw3]; simp
    have hb3 : Below w2.heap.size w2 w3 := by rw [hw3]; exact below2 _ _ _
    have HB3 := Lib.hid (HB2.out.trans (hb3.mono (by omega)))
    have HM3 : Hid (MB w3 mb sl last) := Lib.hid ((HB3.out.block mb hml).trans HM.out)
    have HQ3 : Hid (OwnQ w3 base sl ps) := Lib.hid (HQ.out.kp (X := fun _ => False) (.of HB3.out (Nat.le_refl _)) (Nat.le_refl _) (fun _ _ h => h))
    have HR3 : Hid (PB w3 (w.heap.size + 1) .zero) := Lib.hid ((hb3.block _ (by omega)).trans HR2.out)
    have HP3 : Hid (PB w3 (w2.heap.size + 1) .zero) := Lib.hid (by
      have := PB.new (w2.alloc (.cells #[.int .u64 t.s.a, .int .u64 t.s.b, .int .u64 t.s.c, .int .u64 t.s.d] 33)) .zero
      rw [show (w2.alloc (.cells #[.int .u64 t.s.a, .int .u64 t.s.b, .int .u64 t.s.c, .int .u64 t.s.d] 33)).heap.size = w2.heap.size + 1 by simp] at this
      rw [hw3]; exact this)
    have HLT := Lib.hid (fun q hq => (HQ.out.lt q hq).2)
    have HT3 : Hid (HT w3 (· < base) (.slice oe t.l.length ce) t.l) := Lib.hid (HT0.out.mx (X := fun _ => False) (.of HB3.out (Nat.le_refl _)) (fun _ _ h => h) (by omega))
    clear hw3 hb3
    have hll := HT0.out.len
    have hlI : (t.l.length : Int) ≤ 1000000 := by omega
    obtain ⟨w4, hw4⟩ : ∃ w4, w4 = ((w2.alloc (.cells #[.int .u64 t.s.a, .int .u64 t.s.b, .int .u64 t.s.c, .int .u64 t.s.d] 33)).alloc (.cells #[.bool true, .int .u64 0, .int .u64 0] 134)) := ⟨_, rfl⟩
    have HW4 := Lib.hid hw4
    have hs4 : w4.heap.size = w2.heap.size + 2 := by rw [hw4]; simp
    have HP4 : Hid (PB w4 (w2.heap.size + 1) ⟨true, 0, 0⟩) := Lib.hid (by rw [hw4]; have := PB.new (w2.alloc (.cells #[.int .u64 t.s.a, .int .u64 t.s.b, .int .u64 t.s.c, .int .u64 t.s.d] 33)) ⟨true, 0, 0⟩; rw [show (w2.alloc (.cells #[.int .u64 t.s.a, .int .u64 t.s.b, .int .u64 t.s.c, .int .u64 t.s.d] 33)).heap.size = w2.heap.size + 1 by simp] at this; exact this)
    have HK4 : Hid (Kp w.heap.size (MX mb sl) w w4) := Lib.hid (by rw [hw4]; exact .of (HB2.out.trans ((below2 w2 _ _).mono (by omega))) (Nat.le_refl _))
    have HR4 : Hid (PB w4 (w.heap.size + 1) .zero) := Lib.hid (by rw [hw4]; exact ((below2 w2 _ _).block _ (by omega)).trans HR2.out)
    have HM4 : Hid (MB w4 mb sl last) := Lib.hid (by rw [hw4]; exact ((HB2.out.trans ((below2 w2 _ _).mono (by omega))).block mb hml).trans HM.out)
    have HQ4 : Hid (OwnQ w4 base sl ps) := Lib.hid (by rw [hw4]; exact HQ.out.kp (X := fun _ => False) (.of (HB2.out.trans ((below2 w2 _ _).mono (by omega))) (Nat.le_refl _)) (Nat.le_refl _) (fun _ _ h => h))
    have HBQ := Lib.hid HQ.out.lt
    clear hw4 r0 r1 r2 f0 f1 f2 HW3 HP3 HR3 HM3 HQ3 HT3
    go_wp2_with fail
    rw [← HW4.out]
    go_loopw [37] (fun v wr => ∃ (k : Nat) (ps' : List Ps) (p : Pa) (sl' : Value), k ≤ t.l.length ∧ v = .int .i64 k ∧ Hid (MB wr mb sl' last) ∧ Hid (OwnQ wr base sl' ps') ∧ Hid (From w sl sl') ∧ Hid (sl'.ownBlock ≠ some (w2.heap.size + 1) ∧ sl'.ownBlock ≠ some (w.heap.size + 1)) ∧ Hid (PB wr (w2.heap.size + 1) p) ∧ Hid (PB wr (w.heap.size + 1) .zero) ∧ Hid (Kp w.heap.size (MX mb sl) w wr) ∧ w2.heap.size + 2 ≤ wr.heap.size ∧ ps.length ≤ ps'.length ∧ ps'.length + PT.clss (t.l.drop k) ≤ 1000 ∧ Hid (catS ps ⟨true, 0, 0⟩ t.l = catS ps' p (t.l.drop k))) (fun v _ => t.l.length - (intOf v).toNat)
    case atStart => exact ⟨0, ps, _, sl, Nat.zero_le _, rfl, HM4, HQ4, Lib.hid (From.refl _ _), Lib.hid ⟨fun e => by have := HLT.out _ e; omega, fun e => by have := HLT.out _ e; omega⟩, HP4, HR4, HK4, by omega, Nat.le_refl _, by rw [List.drop_zero]; omega, Lib.hid rfl⟩
    case round =>
      obtain ⟨k, ps', p, sl', hk, rfl, HMr, HQr, HFr, HNr, HPr, HRr, HKr, hwr, hpl, hpc, HE⟩ := hrel
      clear HM4 HQ4 HP4 HR4 HK4
      obtain ⟨WO, hWO⟩ : ∃ WO : World, WO = wr := ⟨_, rfl⟩
      subst hWO
      by_cases hlt : k < t.l.length
      · have hcc : PT.clss (t.l.drop k) = t.l[k].cls + PT.clss (t.l.drop (k + 1)) := by rw [List.drop_eq_getElem_cons hlt, PT.clss_cons]
        have hmem : t.l[k] ∈ t.l := List.getElem_mem hlt
        have hfk := PT.fits_mem hfits hmem
        have hltr : (base : Nat) ≤ w.heap.size := by omega
        have HTr : HT WO (· < base) (.slice oe t.l.length ce) t.l := HT0.out.mx HKr.out (fun q hq e => by rcases e with e | e; omega; have := (HBQ.out q e).1; omega) hltr
        obtain ⟨b, off, o0, c0, hoe, hbb, hT00, e0, e1, e2, e3, e4, e5⟩ := HTr.at_ (List.getElem?_eq_getElem hlt)
        obtain ⟨wb, hwb⟩ : ∃ wb, wb = WO.alloc (.cells #[.int .i64 t.l[k].k, .int .u64 t.l[k].s.a, .int .u64 t.l[k].s.b, .int .u64 t.l[k].s.c, .int .u64 t.l[k].s.d, (.slice o0 t.l[k].l.length c0)] 36) := ⟨_, rfl⟩
        have HWB := Lib.hid hwb
        have hsb : wb.heap.size = WO.heap.size + 1 := by rw [hwb]; simp
        have hbb1 : Below WO.heap.size WO wb := by rw [hwb]; exact below1 _ _
        have HBB := Lib.hid hbb1
        have HTb : HT wb (· < base) (.slice o0 t.l[k].l.length c0) t.l[k].l := hT00.mx (X := fun _ => False) (.of hbb1 (Nat.le_refl _)) (fun _ _ h => h) (by omega)
        have hMb : MB wb mb sl' last := (hbb1.block mb HMr.out.lt).trans HMr.out
        have hQb : OwnQ wb base sl' ps' := HQr.out.kp (X := fun _ => False) (.of hbb1 (Nat.le_refl _)) (Nat.le_refl _) (fun _ _ h => h)
        have hPb : PB wb (w2.heap.size + 1) p := (hbb1.block _ HPr.out.lt).trans HPr.out
        have hRb : PB wb (w.heap.size + 1) .zero := (hbb1.block _ HRr.out.lt).trans HRr.out
        have HPB := Lib.hid hPb
        have HRB := Lib.hid hRb
        have HC := Lib.hid (HIH.out t.l[k] hmem hfk wb.drew mb base sl' last ps' o0 c0 (HTb.mx (X := fun _ => False) (.of (Below.refl _ wb).drew (Nat.le_refl _)) (fun _ _ h => h) (by omega)) hbm hMb hQb (by omega) (by omega))
        have hlen := addT_len t.l[k] ps'
        have HSTEP := Lib.hid (catS_at ps' p t.l k hlt)
        generalize addT ps' t.l[k] = r4 at *
        obtain ⟨ps4, q4⟩ := r4
        replace hlen : ps'.length ≤ ps4.length ∧ ps4.length ≤ ps'.length + t.l[k].cls := hlen
        unfold PT.val at HC
        subst hoe
        have hbn : b ≠ WO.heap.size := by omega
        obtain ⟨n1, n2⟩ := HNr.out
        have HN1 := Lib.hid n1
        have HN2 := Lib.hid n2
        have hPX : ∀ X, PB (WO.alloc X) (w2.heap.size + 1) p := fun X => ((below1 WO X).block _ HPr.out.lt).trans HPr.out
        have p0 := fun X => (hPX X).cells.1
        have p1 := fun X => (hPX X).cells.2.1
        have p2 := fun X => (hPX X).cells.2.2
        have hspos : ∀ q, sl'.ownBlock = some q → q < WO.heap.size := fun q hq => (HQr.out.lt q hq).2
        have HSP := Lib.hid hspos
        clear hspos hPX HWB
        subst hwb
        have HBQ2 := Lib.hid ((below1 WO (.cells #[.int .i64 t.l[k].k, .int .u64 t.l[k].s.a, .int .u64 t.l[k].s.b, .int .u64 t.l[k].s.c, .int .u64 t.l[k].s.d, (.slice o0 t.l[k].l.length c0)] 36)).drew)
        have HSQ : Hid ((WO.alloc (.cells #[.int .i64 t.l[k].k, .int .u64 t.l[k].s.a, .int .u64 t.l[k].s.b, .int .u64 t.l[k].s.c, .int .u64 t.l[k].s.d, (.slice o0 t.l[k].l.length c0)] 36)).drew.heap.size = WO.heap.size + 1) := Lib.hid (by show (WO.alloc _).heap.size = _; simp)
        clear hMb hQb hPb hRb hbb1 hT00 HTr n1 n2
        go_wp2_with fail
        go_region_law (first
        | (go_simp; go_at_call 66; refine HC.out.mono ?_; rintro e w5 ⟨rfl, sl4, hM5, hQ5, hF5, hK5⟩
           obtain ⟨hP5, hR5, hs5, hf5, hn5, hk5⟩ := grown_facts HBQ2.out hK5 hF5 HPr.out HRr.out HN1.out HN2.out (by omega) (by omega) HFr.out HKr.out
           rw [HSQ.out] at hs5
           have HJ := Lib.hid (join_any w5 mb base sl4 last ps4 p q4 hM5 hQ5 (by omega) (by omega))
           obtain ⟨g0, g1, g2⟩ := hP5.cells
           have HP5 := Lib.hid hP5
           have HR5 := Lib.hid hR5
           have HF5 := Lib.hid hf5
           have HN5 := Lib.hid hn5
           have HK5 := Lib.hid hk5
           unfold Pa.val at HJ
           clear hM5 hQ5 hF5 hK5 hP5 hR5 hf5 hn5 hk5
           try unfold Pa.val)
        | (go_simp; go_at_call 79; refine HJ.out.mono ?_; rintro e w6 ⟨rfl, hM6, hQ6, hK6⟩
           have hs6 := hK6.size
           have hP6 : PB w6 (w2.heap.size + 1) p := (hK6.block _ HP5.out.lt (fun e => HN5.out.1 e)).trans HP5.out
           obtain ⟨v0, v1, v2⟩ := hP6.cells
           have x0 := hP6.free 0
           have x1 := hP6.free 1
           have x2 := hP6.free 2
           have HP6 := Lib.hid hP6
           have HR6 : Hid (PB w6 (w.heap.size + 1) .zero) := Lib.hid ((hK6.block _ HR5.out.lt (fun e => HN5.out.2 e)).trans HR5.out)
           have HM6 := Lib.hid hM6
           have HQ6 := Lib.hid hQ6
           have HK6 : Hid (Kp w.heap.size (MX mb sl) w w6) := Lib.hid (HK5.out.trans (hK6.mono (by omega) (fun q hq h => MX.from HF5.out hq (.inr h))))
           clear hM6 hQ6 hK6 hP6))
        all_goals
          have HE1 : Hid (catS ps ⟨true, 0, 0⟩ t.l = catS (joinS ps4 p q4).1 (joinS ps4 p q4).2 (t.l.drop (k + 1))) := Lib.hid (HE.out.trans HSTEP.out)
          have hjl := joinS_len ps4 p q4
          clear p0 p1 p2 g0 g1 g2 HE HSTEP
          go_wp2_with fail
          go_roundw
          case measure => simp [intOf]; omega
          case rel => exact ⟨k + 1, (joinS ps4 p q4).1, (joinS ps4 p q4).2, sl4, hlt, by go_num, Lib.hid ((at3 (by omega) _ _ _).trans HM6.out), Lib.hid (HQ6.out.sets HN5.out.1 _ _ _), HF5, HN5, Lib.hid (HP6.out.set _ _ _), Lib.hid ((at3 (by omega) _ _ _).trans HR6.out), Lib.hid (kp3 HK6.out (by omega) _ _ _), by simp [World.setCell]; omega, by omega, by omega, HE1⟩
      · obtain rfl : k = t.l.length := by omega
        have hE2 : catS ps ⟨true, 0, 0⟩ t.l = (ps', p) := by rw [HE.out, List.drop_length, catS]
        have HE2 := Lib.hid hE2
        obtain ⟨p0, p1, p2⟩ := HPr.out.cells
        obtain ⟨r0, r1, r2⟩ := HRr.out.cells
        have f0 := HRr.out.free 0
        have f1 := HRr.out.free 1
        have f2 := HRr.out.free 2
        clear HE hE2
        go_wp2_with fail
        refine bodyPost_ret (v := .agg #[.bool p.e, .int .u64 p.f, .int .u64 p.t]) (by simp [results, Tryd.results66, go_sem, *]) rfl ?_
        rw [HE2.out]
        exact AddR.close (r := (ps', p)) HMr.out HQr.out HFr.out HKr.out hml _ (by omega) HNr.out.2 _ _ _
  by_cases k5 : t.k = 5
  · have hE : RES = altsS ps .zero t.l := by rw [HAE.out, if_neg k2, if_neg k3, if_neg k4, if_pos k5]
    have hte := t.cls_eq
    have hfits : PT.fits t.l = true := by
      have h := HFIT.out
      rw [PT.fit_eq, Bool.and_eq_true] at h
      exact h.2
    subst hE
    clear HAE hRES
    obtain ⟨w3, hw3⟩ : ∃ w3, w3 = (w2.alloc (.cells #[.int .u64 t.s.a, .int .u64 t.s.b, .int .u64 t.s.c, .int .u64 t.s.d] 33)).alloc (.cells #[.bool false, .int .u64 0, .int .u64 0] 134) := ⟨_, rfl⟩
    have HW3 := Lib.hid hw3
    have hs3 : w3.heap.size = w2.heap.size + 2 := by rw [hw3]; simp
    have hb3 : Below w2.heap.size w2 w3 := by rw [hw3]; exact below2 _ _ _
    have HB3 := Lib.hid (HB2.out.trans (hb3.mono (by omega)))
    have HM3 : Hid (MB w3 mb sl last) := Lib.hid ((HB3.out.block mb hml).trans HM.out)
    have HQ3 : Hid (OwnQ w3 base sl ps) := Lib.hid (HQ.out.kp (X := fun _ => False) (.of HB3.out (Nat.le_refl _)) (Nat.le_refl _) (fun _ _ h => h))
    have HR3 : Hid (PB w3 (w.heap.size + 1) .zero) := Lib.hid ((hb3.block _ (by omega)).trans HR2.out)
    have HP3 : Hid (PB w3 (w2.heap.size + 1) .zero) := Lib.hid (by
      have := PB.new (w2.alloc (.cells #[.int .u64 t.s.a, .int .u64 t.s.b, .int .u64 t.s.c, .int .u64 t.s.d] 33)) .zero
      rw [show (w2.alloc (.cells #[.int .u64 t.s.a, .int .u64 t.s.b, .int .u64 t.s.c, .int .u64 t.s.d] 33)).heap.size = w2.heap.size + 1 by simp] at this
      rw [hw3]; exact this)
    have HLT := Lib.hid (fun q hq => (HQ.out.lt q hq).2)
    have HT3 : Hid (HT w3 (· < base) (.slice oe t.l.length ce) t.l) := Lib.hid (HT0.out.mx (X := fun _ => False) (.of HB3.out (Nat.le_refl _)) (fun _ _ h => h) (by omega))
    clear hw3 hb3
    have hll := HT0.out.len
    have hlI : (t.l.length : Int) ≤ 1000000 := by omega
    obtain ⟨w4, hw4⟩ : ∃ w4, w4 = ((w2.alloc (.cells #[.int .u64 t.s.a, .int .u64 t.s.b, .int .u64 t.s.c, .int .u64 t.s.d] 33)).alloc (.cells #[.bool false, .int .u64 0, .int .u64 0] 134)) := ⟨_, rfl⟩
    have HW4 := Lib.hid hw4
    have hs4 : w4.heap.size = w2.heap.size + 2 := by rw [hw4]; simp
    have HP4 : Hid (PB w4 (w2.heap.size + 1) .zero) := Lib.hid (by rw [hw4]; have := PB.new (w2.alloc (.cells #[.int .u64 t.s.a, .int .u64 t.s.b, .int .u64 t.s.c, .int .u64 t.s.d] 33)) .zero; rw [show (w2.alloc (.cells #[.int .u64 t.s.a, .int .u64 t.s.b, .int .u64 t.s.c, .int .u64 t.s.d] 33)).heap.size = w2.heap.size + 1 by simp] at this; exact this)
    have HK4 : Hid (Kp w.heap.size (MX mb sl) w w4) := Lib.hid (by rw [hw4]; exact .of (HB2.out.trans ((below2 w2 _ _).mono (by omega))) (Nat.le_refl _))
    have HR4 : Hid (PB w4 (w.heap.size + 1) .zero) := Lib.hid (by rw [hw4]; exact ((below2 w2 _ _).block _ (by omega)).trans HR2.out)
    have HM4 : Hid (MB w4 mb sl last) := Lib.hid (by rw [hw4]; exact ((HB2.out.trans ((below2 w2 _ _).mono (by omega))).block mb hml).trans HM.out)
    have HQ4 : Hid (OwnQ w4 base sl ps) := Lib.hid (by rw [hw4]; exact HQ.out.kp (X := fun _ => False) (.of (HB2.out.trans ((below2 w2 _ _).mono (by omega))) (Nat.le_refl _)) (Nat.le_refl _) (fun _ _ h => h))
    have HBQ := Lib.hid HQ.out.lt
    clear hw4 r0 r1 r2 f0 f1 f2 HW3 HP3 HR3 HM3 HQ3 HT3
    go_wp2_with fail
    rw [← HW4.out]
    go_loopw [53] (fun v wr => ∃ (k : Nat) (ps' : List Ps) (p : Pa) (sl' : Value), k ≤ t.l.length ∧ v = .int .i64 k ∧ Hid (MB wr mb sl' last) ∧ Hid (OwnQ wr base sl' ps') ∧ Hid (From w sl sl') ∧ Hid (sl'.ownBlock ≠ some (w2.heap.size + 1) ∧ sl'.ownBlock ≠ some (w.heap.size + 1)) ∧ Hid (PB wr (w2.heap.size + 1) p) ∧ Hid (PB wr (w.heap.size + 1) .zero) ∧ Hid (Kp w.heap.size (MX mb sl) w wr) ∧ w2.heap.size + 2 ≤ wr.heap.size ∧ ps.length ≤ ps'.length ∧ ps'.length + PT.clss (t.l.drop k) ≤ 1000 ∧ Hid (altsS ps .zero t.l = altsS ps' p (t.l.drop k))) (fun v _ => t.l.length - (intOf v).toNat)
    case atStart => exact ⟨0, ps, _, sl, Nat.zero_le _, rfl, HM4, HQ4, Lib.hid (From.refl _ _), Lib.hid ⟨fun e => by have := HLT.out _ e; omega, fun e => by have := HLT.out _ e; omega⟩, HP4, HR4, HK4, by omega, Nat.le_refl _, by rw [List.drop_zero]; omega, Lib.hid rfl⟩
    case round =>
      obtain ⟨k, ps', p, sl', hk, rfl, HMr, HQr, HFr, HNr, HPr, HRr, HKr, hwr, hpl, hpc, HE⟩ := hrel
      clear HM4 HQ4 HP4 HR4 HK4
      obtain ⟨WO, hWO⟩ : ∃ WO : World, WO = wr := ⟨_, rfl⟩
      subst hWO
      by_cases hlt : k < t.l.length
      · have hcc : PT.clss (t.l.drop k) = t.l[k].cls + PT.clss (t.l.drop (k + 1)) := by rw [List.drop_eq_getElem_cons hlt, PT.clss_cons]
        have hmem : t.l[k] ∈ t.l := List.getElem_mem hlt
        have hfk := PT.fits_mem hfits hmem
        have hltr : (base : Nat) ≤ w.heap.size := by omega
        have HTr : HT WO (· < base) (.slice oe t.l.length ce) t.l := HT0.out.mx HKr.out (fun q hq e => by rcases e with e | e; omega; have := (HBQ.out q e).1; omega) hltr
        obtain ⟨b, off, o0, c0, hoe, hbb, hT00, e0, e1, e2, e3, e4, e5⟩ := HTr.at_ (List.getElem?_eq_getElem hlt)
        obtain ⟨wb, hwb⟩ : ∃ wb, wb = WO.alloc (.cells #[.int .i64 t.l[k].k, .int .u64 t.l[k].s.a, .int .u64 t.l[k].s.b, .int .u64 t.l[k].s.c, .int .u64 t.l[k].s.d, (.slice o0 t.l[k].l.length c0)] 36) := ⟨_, rfl⟩
        have HWB := Lib.hid hwb
        have hsb : wb.heap.size = WO.heap.size + 1 := by rw [hwb]; simp
        have hbb1 : Below WO.heap.size WO wb := by rw [hwb]; exact below1 _ _
        have HBB := Lib.hid hbb1
        have HTb : HT wb (· < base) (.slice o0 t.l[k].l.length c0) t.l[k].l := hT00.mx (X := fun _ => False) (.of hbb1 (Nat.le_refl _)) (fun _ _ h => h) (by omega)
        have hMb : MB wb mb sl' last := (hbb1.block mb HMr.out.lt).trans HMr.out
        have hQb : OwnQ wb base sl' ps' := HQr.out.kp (X := fun _ => False) (.of hbb1 (Nat.le_refl _)) (Nat.le_refl _) (fun _ _ h => h)
        have hPb : PB wb (w2.heap.size + 1) p := (hbb1.block _ HPr.out.lt).trans HPr.out
        have hRb : PB wb (w.heap.size + 1) .zero := (hbb1.block _ HRr.out.lt).trans HRr.out
        have HPB := Lib.hid hPb
        have HRB := Lib.hid hRb
        have HC := Lib.hid (HIH.out t.l[k] hmem hfk wb mb base sl' last ps' o0 c0 HTb hbm hMb hQb (by omega) (by omega))
        have hlen := addT_len t.l[k] ps'
        have HSTEP := Lib.hid (altsS_at ps' p t.l k hlt)
        generalize addT ps' t.l[k] = r4 at *
        obtain ⟨ps4, q4⟩ := r4
        replace hlen : ps'.length ≤ ps4.length ∧ ps4.length ≤ ps'.length + t.l[k].cls := hlen
        unfold PT.val at HC
        subst hoe
        have hbn : b ≠ WO.heap.size := by omega
        obtain ⟨n1, n2⟩ := HNr.out
        have HN1 := Lib.hid n1
        have HN2 := Lib.hid n2
        have hPX : ∀ X, PB (WO.alloc X) (w2.heap.size + 1) p := fun X => ((below1 WO X).block _ HPr.out.lt).trans HPr.out
        have p0 := fun X => (hPX X).cells.1
        have p1 := fun X => (hPX X).cells.2.1
        have p2 := fun X => (hPX X).cells.2.2
        have hspos : ∀ q, sl'.ownBlock = some q → q < WO.heap.size := fun q hq => (HQr.out.lt q hq).2
        have HSP := Lib.hid hspos
        clear hspos hPX HWB
        subst hwb
        have HBQ2 := Lib.hid (below1 WO (.cells #[.int .i64 t.l[k].k, .int .u64 t.l[k].s.a, .int .u64 t.l[k].s.b, .int .u64 t.l[k].s.c, .int .u64 t.l[k].s.d, (.slice o0 t.l[k].l.length c0)] 36))
        have HSQ : Hid ((WO.alloc (.cells #[.int .i64 t.l[k].k, .int .u64 t.l[k].s.a, .int .u64 t.l[k].s.b, .int .u64 t.l[k].s.c, .int .u64 t.l[k].s.d, (.slice o0 t.l[k].l.length c0)] 36)).heap.size = WO.heap.size + 1) := Lib.hid (by simp)
        clear hMb hQb hPb hRb hbb1 hT00 HTr n1 n2
        go_wp2_with fail
        refine HC.out.mono ?_
        rintro e w5 ⟨rfl, sl4, hM5, hQ5, hF5, hK5⟩
        obtain ⟨hP5, hR5, hs5, hf5, hn5, hk5⟩ := grown_facts HBQ2.out hK5 hF5 HPr.out HRr.out HN1.out HN2.out (by omega) (by omega) HFr.out HKr.out
        rw [HSQ.out] at hs5
        have hPX : ∀ X, PB (w5.alloc X) (w2.heap.size + 1) p := fun X => ((below1 w5 X).block _ hP5.lt).trans hP5
        have v0 := fun X => (hPX X).cells.1
        have v1 := fun X => (hPX X).cells.2.1
        have v2 := fun X => (hPX X).cells.2.2
        have x0 := fun X => (hPX X).free 0
        have x1 := fun X => (hPX X).free 1
        have x2 := fun X => (hPX X).free 2
        have HP5 := Lib.hid hP5
        have HR5 := Lib.hid hR5
        have HF5 := Lib.hid hf5
        have HN5 := Lib.hid hn5
        have HK5 := Lib.hid hk5
        have HM5 := Lib.hid hM5
        have HQ5 := Lib.hid hQ5
        clear hM5 hQ5 hF5 hK5 hP5 hR5 hf5 hn5 hk5 hPX p0 p1 p2 HC
        unfold Pa.val
        obtain ⟨pe, pf, pt⟩ := p
        cases pe
        all_goals
          have HE1 : Hid (altsS ps .zero t.l = altsS ps4 (altS ⟨_, pf, pt⟩ q4) (t.l.drop (k + 1))) := Lib.hid (HE.out.trans HSTEP.out)
          clear HE HSTEP
          go_wp2_with fail
          go_roundw
          case measure => simp [intOf]; omega
          case rel => exact ⟨k + 1, ps4, _, sl4, hlt, by go_num, Lib.hid ((at3 (by omega) _ _ _).trans (((below1 w5 _).block mb (by omega)).trans HM5.out)), Lib.hid (OwnQ.sets (OwnQ.kp (X := fun _ => False) HQ5.out (.of (below1 w5 _) (Nat.le_refl _)) (Nat.le_refl _) (fun _ _ h => h)) HN5.out.1 _ _ _), HF5, HN5, Lib.hid (PB.set (((below1 w5 _).block _ HP5.out.lt).trans HP5.out) _ _ _), Lib.hid ((at3 (by omega) _ _ _).trans (((below1 w5 _).block _ HR5.out.lt).trans HR5.out)), Lib.hid (kp3 (HK5.out.trans (.of (below1 w5 _) (by omega))) (by omega) _ _ _), by simp [World.setCell]; omega, by omega, by omega, HE1⟩
      · obtain rfl : k = t.l.length := by omega
        have hE2 : altsS ps .zero t.l = (ps', p) := by rw [HE.out, List.drop_length, altsS]
        have HE2 := Lib.hid hE2
        obtain ⟨p0, p1, p2⟩ := HPr.out.cells
        obtain ⟨r0, r1, r2⟩ := HRr.out.cells
        have f0 := HRr.out.free 0
        have f1 := HRr.out.free 1
        have f2 := HRr.out.free 2
        clear HE hE2
        go_wp2_with fail
        refine bodyPost_ret (v := .agg #[.bool p.e, .int .u64 p.f, .int .u64 p.t]) (by simp [results, Tryd.results66, go_sem, *]) rfl ?_
        rw [HE2.out]
        exact AddR.close (r := (ps', p)) HMr.out HQr.out HFr.out HKr.out hml _ (by omega) HNr.out.2 _ _ _
  by_cases k6 : t.k = 6
  · have hne : t.l ≠ [] := fun e => by
      have := HFIT.out
      rw [PT.fit_eq, k6, e] at this
      simp at this
    obtain ⟨t0, tr, htl⟩ : ∃ t0 tr, t.l = t0 :: tr := by
      cases hx : t.l with
      | nil => exact absurd hx hne
      | cons a b => exact ⟨a, b, rfl⟩
    have hE : RES = (linkL (addT ps t0).2.t (addT ps t0).2.f 0 (addT ps t0).1, ⟨true, (addT ps t0).2.f, (addT ps t0).2.t⟩) := by rw [HAE.out, if_neg k2, if_neg k3, if_neg k4, if_neg k5, if_pos k6, htl, repS]
    have hlen := addT_len t0 ps
    have hcl : t0.cls ≤ PT.clss t.l := PT.clss_mem (by rw [htl]; exact List.mem_cons_self ..)
    have hte := t.cls_eq
    have hz : (0 : Int) < (t.l.length : Int) := by rw [htl]; simp
    have hzN : 0 < t.l.length := by rw [htl]; simp
    have hfit0 : t0.fit = true := by
      have h := HFIT.out
      rw [PT.fit_eq, Bool.and_eq_true] at h
      exact PT.fits_mem h.2 (by rw [htl]; exact List.mem_cons_self ..)
    subst hE
    clear HAE hRES
    obtain ⟨w3, hw3⟩ : ∃ w3, w3 = (w2.alloc (.cells #[.int .u64 t.s.a, .int .u64 t.s.b, .int .u64 t.s.c, .int .u64 t.s.d] 33)).alloc (.cells #[.bool false, .int .u64 0, .int .u64 0] 134) := ⟨_, rfl⟩
    have HW3 := Lib.hid hw3
    have hs3 : w3.heap.size = w2.heap.size + 2 := by rw [hw3]; simp
    have hb3 : Below w2.heap.size w2 w3 := by rw [hw3]; exact below2 _ _ _
    have HB3 := Lib.hid (HB2.out.trans (hb3.mono (by omega)))
    have HM3 : Hid (MB w3 mb sl last) := Lib.hid ((HB3.out.block mb hml).trans HM.out)
    have HQ3 : Hid (OwnQ w3 base sl ps) := Lib.hid (HQ.out.kp (X := fun _ => False) (.of HB3.out (Nat.le_refl _)) (Nat.le_refl _) (fun _ _ h => h))
    have HR3 : Hid (PB w3 (w.heap.size + 1) .zero) := Lib.hid ((hb3.block _ (by omega)).trans HR2.out)
    have HP3 : Hid (PB w3 (w2.heap.size + 1) .zero) := Lib.hid (by
      have := PB.new (w2.alloc (.cells #[.int .u64 t.s.a, .int .u64 t.s.b, .int .u64 t.s.c, .int .u64 t.s.d] 33)) .zero
      rw [show (w2.alloc (.cells #[.int .u64 t.s.a, .int .u64 t.s.b, .int .u64 t.s.c, .int .u64 t.s.d] 33)).heap.size = w2.heap.size + 1 by simp] at this
      rw [hw3]; exact this)
    have HLT := Lib.hid (fun q hq => (HQ.out.lt q hq).2)
    have HT3 : Hid (HT w3 (· < base) (.slice oe t.l.length ce) t.l) := Lib.hid (HT0.out.mx (X := fun _ => False) (.of HB3.out (Nat.le_refl _)) (fun _ _ h => h) (by omega))
    clear hw3 hb3 HR2
    have hmem : t0 ∈ t.l := by rw [htl]; exact List.mem_cons_self ..
    obtain ⟨b, off, o0, c0, hoe, hbb, hT00, e0, e1, e2, e3, e4, e5⟩ := HT3.out.at_ (i := 0) (v := t0) (by rw [htl]; rfl)
    have HC := Lib.hid (HIH.out t0 hmem hfit0 w3 mb base sl last ps o0 c0 hT00 hbm HM3.out HQ3.out hp (by omega))
    simp only [Nat.zero_mul, Nat.add_zero] at e0 e1 e2 e3 e4 e5
    unfold PT.val at HC
    subst hoe
    have ee : ∀ o, ((w2.alloc (.cells #[.int .u64 t.s.a, .int .u64 t.s.b, .int .u64 t.s.c, .int .u64 t.s.d] 33)).alloc (.cells #[.bool false, .int .u64 0, .int .u64 0] 134)).cell? ⟨b, o, none⟩ = w3.cell? ⟨b, o, none⟩ := fun o => by rw [HW3.out]
    have g0 := (ee _).trans e0
    have g1 := (ee _).trans e1
    have g2 := (ee _).trans e2
    have g3 := (ee _).trans e3
    have g4 := (ee _).trans e4
    have g5 := (ee _).trans e5
    clear r0 r1 r2 f0 f1 f2 htl hne ee
    go_wp2_with fail
    rw [← HW3.out]
    refine HC.out.mono ?_
    rintro e w4 ⟨rfl, sl4, hM4, hQ4, hF4, hK4⟩
    clear HC g0 g1 g2 g3 g4 g5 e0 e1 e2 e3 e4 e5
    have HLEN := Lib.hid hlen
    generalize addT ps t0 = r4 at *
    obtain ⟨ps4, q4⟩ := r4
    have hs4 := hK4.size
    have hP4 : PB w4 (w2.heap.size + 1) .zero := (hK4.block _ (by omega) (fun e => by rcases e with e | e; omega; have := HLT.out _ e; omega)).trans HP3.out
    have hR4 : PB w4 (w.heap.size + 1) .zero := (hK4.block _ (by omega) (fun e => by rcases e with e | e; omega; have := HLT.out _ e; omega)).trans HR3.out
    obtain ⟨p0, p1, p2⟩ := hP4.cells
    have q0 := hP4.free 0
    have q1 := hP4.free 1
    have q2 := hP4.free 2
    obtain ⟨r0, r1, r2⟩ := hR4.cells
    have f0 := hR4.free 0
    have f1 := hR4.free 1
    have f2 := hR4.free 2
    have HP4 := Lib.hid hP4
    have HR4 := Lib.hid hR4
    clear hP4 hR4
    have hnW : sl4.ownBlock ≠ some (w2.heap.size + 1) := fun e => by rcases hF4 _ e with h | h; have := HLT.out _ h; omega; omega
    have hnR : sl4.ownBlock ≠ some (w.heap.size + 1) := fun e => by rcases hF4 _ e with h | h; have := HLT.out _ h; omega; omega
    have HF4 : Hid (From w sl sl4) := Lib.hid (fun q hq => (hF4 q hq).imp id (fun h => by omega))
    have HK4 : Hid (Kp w.heap.size (MX mb sl) w w4) := Lib.hid ((Kp.of HB3.out (Nat.le_refl _)).trans (hK4.less (by omega)))
    obtain ⟨w5, hw5⟩ : ∃ w5, w5 = ((w4.setCell ⟨w2.heap.size + 1, 0, none⟩ (.bool q4.e)).setCell ⟨w2.heap.size + 1, 1, none⟩ (.int .u64 q4.f)).setCell ⟨w2.heap.size + 1, 2, none⟩ (.int .u64 q4.t) := ⟨_, rfl⟩
    have HW5 := Lib.hid hw5
    have hs5 : w5.heap.size = w4.heap.size := by rw [hw5]; simp [World.setCell]
    have HP5 : Hid (PB w5 (w2.heap.size + 1) q4) := Lib.hid (by rw [hw5]; exact HP4.out.set _ _ _)
    have HR5 : Hid (PB w5 (w.heap.size + 1) .zero) := Lib.hid (by rw [hw5]; exact (at3 (by omega) _ _ _).trans HR4.out)
    have HM5 : Hid (MB w5 mb sl4 last) := Lib.hid (by rw [hw5]; exact (at3 (by omega) _ _ _).trans hM4)
    have HQ5 : Hid (OwnQ w5 base sl4 ps4) := Lib.hid (by rw [hw5]; exact OwnQ.sets hQ4 hnW _ _ _)
    have HK5 : Hid (Kp w.heap.size (MX mb sl) w w5) := Lib.hid (by rw [hw5]; exact kp3 HK4.out (by omega) _ _ _)
    have hl4 : 0 < ps4.length ∧ ps4.length ≤ 1000000 := by have := HLEN.out; simp only at this; omega
    have HL := Lib.hid (link_any w5 mb base sl4 last ps4 q4.t q4.f HM5.out HQ5.out hl4.1 hl4.2)
    clear hM4 hQ4 hF4 hK4 hw5 hlen HK4
    unfold Pa.val
    go_wp2_with fail
    rw [← HW5.out]
    refine HL.out.mono ?_
    rintro e w6 ⟨rfl, hM6, hQ6, hK6⟩
    have hs6 := hK6.size
    have hP6 : PB w6 (w2.heap.size + 1) q4 := (hK6.block _ (by omega) hnW).trans HP5.out
    have hR6 : PB w6 (w.heap.size + 1) .zero := (hK6.block _ (by omega) hnR).trans HR5.out
    obtain ⟨p0, p1, p2⟩ := hP6.cells
    obtain ⟨r0, r1, r2⟩ := hR6.cells
    have g0 := hP6.free 0
    have f0 := hR6.free 0
    have f1 := hR6.free 1
    have f2 := hR6.free 2
    have HM6 := Lib.hid hM6
    have HQ6 := Lib.hid hQ6
    have HK6 : Hid (Kp w.heap.size (MX mb sl) w w6) := Lib.hid (HK5.out.trans (hK6.mono (by omega) (fun k hk h => MX.from HF4.out hk (.inr h))))
    clear hM6 hQ6 hK6 HL hP6 hR6
    go_wp2_with fail
    refine bodyPost_ret (v := .agg #[.bool true, .int .u64 q4.f, .int .u64 q4.t]) (by simp [results, Tryd.results66, go_sem, *]) rfl ?_
    have hM7 : MB (w6.setCell ⟨w2.heap.size + 1, 0, none⟩ (.bool true)) mb sl4 last := (Below.heap_setCell _ _ _ _ (by show mb ≠ w2.heap.size + 1; omega)).trans HM6.out
    exact AddR.close (r := (linkL q4.t q4.f 0 ps4, ⟨true, q4.f, q4.t⟩)) hM7 (HQ6.out.kp ((Kp.refl w6.heap.size (Is (w2.heap.size + 1)) w6).set ⟨w2.heap.size + 1, 0, none⟩ (Is.self _) _) (Nat.le_refl _) (fun k hk e => hnW (by rw [hk]; exact congrArg some e))) HF4.out (HK6.out.trans (.of ((Below.refl w.heap.size w6).setCell (p := ⟨w2.heap.size + 1, 0, none⟩) (by show w.heap.size ≤ w2.heap.size + 1; omega) _) (Nat.le_refl _))) hml _ (by omega) hnR _ _ _
  · have hE : RES = (ps, .zero) := by rw [HAE.out, if_neg k2, if_neg k3, if_neg k4, if_neg k5, if_neg k6]
    subst hE
    clear HAE hRES
    go_wp2_with fail
    refine bodyPost_ret (v := .agg #[.bool false, .int .u64 0, .int .u64 0]) (by simp [results, Tryd.results66, go_sem, *]) rfl ?_
    exact AddR.of_below .zero HM.out HQ.out (below3 (HB2.out.trans ((below2 w2 _ _).mono (by omega))) (by omega) _ _ _)
end Go.Proofs.YtaipaddfehpmgaaDoor
