/-
  texts and table of the package. Nothing is assumed.
-/
import Derived.Test.YtmbmlcnipncgnaaGreatDoorLtItems2
import Derived.Test.YtmbmlcnipncgnaaGreatDoorLtItems3
namespace Go.Proofs.YtmbmlcnipncgnaaGreatDoor
open Go.RowKit

theorem RD.far4 {w : World} {b n : Nat} {s : ByteArray} {i : Nat} (h : RD w b s i) (hn : b ≠ n) (x0 x1 x2 x3 : Value) : RD ((((w.setCell ⟨n, 0, none⟩ x0).setCell ⟨n, 1, none⟩ x1).setCell ⟨n, 2, none⟩ x2).setCell ⟨n, 3, none⟩ x3) b s i := (((h.far hn _).far hn _).far hn _).far hn _
theorem Kp.own4 {N n : Nat} {X : Nat → Prop} {a b : World} (h : Kp N X a b) (hn : N ≤ n) (x0 x1 x2 x3 : Value) : Kp N X a ((((b.setCell ⟨n, 0, none⟩ x0).setCell ⟨n, 1, none⟩ x1).setCell ⟨n, 2, none⟩ x2).setCell ⟨n, 3, none⟩ x3) := (((h.own hn _).own hn _).own hn _).own hn _
theorem size4 (w : World) (n : Nat) (x0 x1 x2 x3 : Value) : ((((w.setCell ⟨n, 0, none⟩ x0).setCell ⟨n, 1, none⟩ x1).setCell ⟨n, 2, none⟩ x2).setCell ⟨n, 3, none⟩ x3).heap.size = w.heap.size := by simp [World.setCell]
theorem rep4 {w : World} {lo n : Nat} {x : Value} {l : List V} (h : RepS w (Btw lo w.heap.size) x l) (hn : n < lo) (lo' : Nat) (hl : lo' ≤ lo) (x0 x1 x2 x3 : Value) :
    RepS ((((w.setCell ⟨n, 0, none⟩ x0).setCell ⟨n, 1, none⟩ x1).setCell ⟨n, 2, none⟩ x2).setCell ⟨n, 3, none⟩ x3) (Btw lo' ((((w.setCell ⟨n, 0, none⟩ x0).setCell ⟨n, 1, none⟩ x1).setCell ⟨n, 2, none⟩ x2).setCell ⟨n, 3, none⟩ x3).heap.size) x l :=
  (Kp.rep ((Kp.refl w.heap.size (fun _ => False) w) |> fun h => (⟨h.os, h.tape, h.output, by rw [size4]; exact Nat.le_refl _, fun k _ hx => by
    have e : k ≠ n := fun e => hx e
    rw [Below.heap_setCell _ _ _ _ (by simpa using e), Below.heap_setCell _ _ _ _ (by simpa using e), Below.heap_setCell _ _ _ _ (by simpa using e), Below.heap_setCell _ _ _ _ (by simpa using e)]⟩ : Kp w.heap.size (Is n) w _)) h (Nat.le_refl _) (fun k h1 _ h => by unfold Is at h; omega) hl (by rw [size4]; exact Nat.le_refl _))

theorem textsL_at (least most : Nat) (L : List UInt8) (i : Nat) : textsL least most L i = (if pk L i = 123 then itemsL (fun _ j => textL L j) 125 least L most [] (i + 1) else .bad i).bind fun l j => .ok (.mk 6 0 ⟨#[]⟩ l) j := by
  unfold textsL
  split <;> rfl
theorem tableL_at (L : List UInt8) (i : Nat) (h : pk L i = 60) : tableL L i = (if pk L i = 60 then itemsL (rowL L) 62 0 L 8 [] (i + 1) else .bad i).bind fun l j => .ok (.mk 7 0 ⟨#[]⟩ l) j := by
  unfold tableL
  rw [if_pos h]

set_option maxRecDepth 100000 in
set_option maxHeartbeats 1600000 in
theorem texts_any (w : World) (b : Nat) (s : ByteArray) (i : Nat) (least most : Nat) (h : RD w b s i) (hi : i ≤ s.size) (hs : s.size ≤ 1000000) (hmost : most ≤ 16) :
    Calls Tryz.prog 57 #[.pointer (some ⟨b, 0, none⟩), .int .i64 (least : Int), .int .i64 (most : Int)] w (OutV (Is b) b s w (textsL least most s.data.toList i)) := by
  have hblt : b < w.heap.size := h.lt
  have HQ : Hid (Calls Tryz.prog 55 #[.pointer (some ⟨b, 0, none⟩), .string ⟨#[123, 125]⟩, .int .i64 (least : Int), .int .i64 (most : Int), .func (.func 53) #[.pointer (some ⟨b, 0, none⟩)] #[]] (w.alloc (.cells #[.int .i64 0, .int .i64 0, .string ⟨#[]⟩, .slice none 0 0] 34)) fun e w' => LsE (w.alloc (.cells #[.int .i64 0, .int .i64 0, .string ⟨#[]⟩, .slice none 0 0] 34)) w' (if pk s.data.toList i = 123 then itemsL (fun _ j => textL s.data.toList j) 125 least s.data.toList most [] (i + 1) else .bad i) e ∧ RD w' b s ((if pk s.data.toList i = 123 then itemsL (fun _ j => textL s.data.toList j) 125 least s.data.toList most [] (i + 1) else .bad i)).fin ∧ Kp (w.alloc (.cells #[.int .i64 0, .int .i64 0, .string ⟨#[]⟩, .slice none 0 0] 34)).heap.size (Is b) (w.alloc (.cells #[.int .i64 0, .int .i64 0, .string ⟨#[]⟩, .slice none 0 0] 34)) w') :=
    Lib.hid (items_text _ b s i (h.alloc _) hi hs least most hmost (fun _ j => textL s.data.toList j) (fun _ _ => True) (Is b) (fun _ j w' _ hr hj _ => (quotedText_any w' b s j hr hj hs).mono fun _ _ h => ⟨h, fun _ _ _ => trivial⟩)
      (fun k hk => by unfold Is at hk; subst hk; simp; omega) (Is.self b) trivial (fun _ _ _ _ _ _ => trivial) (fun _ _ _ _ _ _ => trivial) (fun _ j hj => by
        have := textL_bd s.data.toList j (by rw [lt_len]; exact hj)
        rwa [lt_len] at this))
  rw [textsL_at]
  have HZ := Lib.hid (zero4_new w)
  have HK : Hid (Kp w.heap.size (Is b) w (w.alloc (.cells #[.int .i64 0, .int .i64 0, .string ⟨#[]⟩, .slice none 0 0] 34))) := Lib.hid ((Kp.refl _ _ w).alloc (Nat.le_refl _) _)
  have hw0 : w.heap.size < (w.alloc (.cells #[.int .i64 0, .int .i64 0, .string ⟨#[]⟩, .slice none 0 0] 34)).heap.size := by simp
  clear h
  generalize (if pk s.data.toList i = 123 then itemsL (fun _ j => textL s.data.toList j) 125 least s.data.toList most [] (i + 1) else .bad i) = r at *
  go_enter Tryz.func57, Tryz.ntmps57
  go_wp2_with fail
  refine HQ.out.mono ?_
  rintro e w1 ⟨he, hR1, hk1⟩
  have HZ1 : Hid (Zero4 w1 w.heap.size) := Lib.hid (Box4.kp HZ.out hk1 hw0 (by unfold Is; omega))
  have HK1 : Hid (Kp w.heap.size (Is b) w w1) := Lib.hid (HK.out.trans (hk1.less (by simp)))
  have hw1 : w.heap.size < w1.heap.size := Nat.lt_of_lt_of_le hw0 hk1.size
  have HR1 := Lib.hid hR1
  obtain ⟨c0, c1, c2, c3, cz⟩ := HZ1.out
  have f0 := cz 0
  have f1 := cz 1
  have f2 := cz 2
  have f3 := cz 3
  clear hR1 hk1 HQ HZ HK cz
  cases r with
  | bad k =>
    obtain rfl : e = .returned (.tuple #[.slice none 0 0, .bool false]) := he
    go_wp2_with fail
    refine bodyPost_ret (v := .tuple #[.agg #[.int .i64 6, .int .i64 0, .string ⟨#[]⟩, .slice none 0 0], .bool false]) (by simp [results, Tryz.results57, go_sem, *]) rfl ?_
    exact ⟨.none _ _ _ _ _ _, HR1.out.far4 (by omega) _ _ _ _, HK1.out.own4 (Nat.le_refl _) _ _ _ _⟩
  | ok l k =>
    obtain ⟨oe, ce, rfl, hrep⟩ := he
    have HP := Lib.hid hrep
    clear hrep
    go_wp2_with fail
    refine bodyPost_ret (v := .tuple #[.agg #[.int .i64 6, .int .i64 0, .string ⟨#[]⟩, .slice oe l.length ce], .bool true]) (by simp [results, Tryz.results57, go_sem, *]) rfl ?_
    refine ⟨⟨oe, ce, rfl, ?_⟩, HR1.out.far4 (by omega) _ _ _ _, HK1.out.own4 (Nat.le_refl _) _ _ _ _⟩
    exact rep4 HP.out (by simp) _ (by simp) _ _ _ _

end Go.Proofs.YtmbmlcnipncgnaaGreatDoor
