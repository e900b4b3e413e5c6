/-
  The plain mathematics of the values of layer 1, with no program in it: finite trees of values, what the functions of the layer compute on them. Nothing is assumed.
-/
import Derived.WalkKit
import Derived.Lib.Bytealg
namespace Go.Proofs.YthnlkijkgnmbhaaDoor
open Go.RowKit

/-- A value of package api as a finite tree: type, number, text, elements. -/
inductive V where
  | mk (t n : Int) (s : ByteArray) (l : List V)

namespace V
def t : V → Int | .mk t _ _ _ => t
def n : V → Int | .mk _ n _ _ => n
def s : V → ByteArray | .mk _ _ s _ => s
def l : V → List V | .mk _ _ _ l => l

theorem eta (v : V) : V.mk v.t v.n v.s v.l = v := by cases v; rfl

theorem ind {p : V → Prop} (h : ∀ v : V, (∀ x, x ∈ v.l → p x) → p v) (v : V) : p v :=
  V.rec (motive_1 := p) (motive_2 := fun l => ∀ x, x ∈ l → p x) (fun t n s l ih => h (.mk t n s l) ih) (fun _ hx => by cases hx)
    (fun a l ha hl x hx => by
      rcases List.mem_cons.1 hx with rfl | hx
      · exact ha
      · exact hl x hx) v
end V

/-- What holds of every element of every list holds of every list. -/
theorem V.inds {p : List V → Prop} (h : ∀ l : List V, (∀ x, x ∈ l → p x.l) → p l) (l : List V) : p l :=
  h l fun x _ => V.ind (p := fun v => p v.l) (fun v ih => h v.l ih) x

/-! ### Size -/



mutual
def V.size : V → Int
  | .mk _ _ _ l => V.sizes 1 l
def V.sizes (acc : Int) : List V → Int
  | [] => acc
  | v :: l => V.sizes (wrap64 (acc + v.size)) l
end

theorem V.size_eq (v : V) : v.size = V.sizes 1 v.l := by cases v; rw [V.size, V.l]

theorem V.sizes_snoc (l : List V) (x : V) : ∀ acc, V.sizes acc (l ++ [x]) = wrap64 (V.sizes acc l + x.size) := by
  induction l with
  | nil => intro acc; simp [V.sizes]
  | cons v l ih => intro acc; simp only [List.cons_append, V.sizes]; rw [ih]

/-! ### Check -/

def chkRange (n lo hi : Int) : Int := if n < lo ∨ hi < n then 1 else 0
def badByte (c : UInt8) : Bool := decide ((c.toNat : Int) < 32) || decide (126 < (c.toNat : Int))
def chkBytes (l : List UInt8) : Int := if l.any badByte then 1 else 0
def chkText (s : ByteArray) (least most : Nat) : Int := if s.size < least ∨ most < s.size then 2 else chkBytes s.data.toList

theorem chkBytes_bad (c : UInt8) (l : List UInt8) (h : badByte c = true) : chkBytes (c :: l) = 1 := by simp [chkBytes, h]
theorem chkBytes_good (c : UInt8) (l : List UInt8) (h : badByte c = false) : chkBytes (c :: l) = chkBytes l := by simp [chkBytes, h]

def usesNum (t : Int) : Bool := decide (t = 1) || decide (t = 2) || decide (t = 4)
def usesText (t : Int) : Bool := decide (t = 3) || decide (t = 8)
def usesItems (t : Int) : Bool := decide (t = 5) || decide (t = 6) || decide (t = 7)
/-- A field that the type does not use is set. -/
def badForm (t n : Int) (s : ByteArray) (len : Nat) : Bool :=
  (decide (n ≠ 0) && !usesNum t) || (decide (s.size ≠ 0) && !usesText t) || (decide (0 < len) && !usesItems t)

def V.head : List V → Nat | [] => 0 | v :: _ => v.l.length

mutual
def V.chk : V → Int
  | .mk t n s l =>
    if t < 1 ∨ 8 < t then 3 else if badForm t n s l.length = true then 4
    else if t = 1 then chkRange n 0 1 else if t = 2 then chkRange n (-1000000) 1000000 else if t = 4 then chkRange n 0 255
    else if t = 3 then chkText s 0 64 else if t = 8 then chkText s 1 40
    else if t = 5 then (if 16 < l.length then 2 else V.chkL 2 l) else if t = 6 then (if 16 < l.length then 2 else V.chkL 3 l)
    else (if 8 < l.length then 2 else V.chkR (V.head l) l)
def V.chkL (ty : Int) : List V → Int
  | [] => 0
  | v :: l => if v.t ≠ ty then 3 else if v.chk ≠ 0 then v.chk else V.chkL ty l
def V.chkR (c : Nat) : List V → Int
  | [] => 0
  | v :: l => if v.t ≠ 6 then 3 else if v.l.length < 1 ∨ 8 < v.l.length ∨ v.l.length ≠ c then 2 else if v.chk ≠ 0 then v.chk else V.chkR c l
end

theorem V.chk_eq (v : V) : v.chk =
    if v.t < 1 ∨ 8 < v.t then 3 else if badForm v.t v.n v.s v.l.length = true then 4
    else if v.t = 1 then chkRange v.n 0 1 else if v.t = 2 then chkRange v.n (-1000000) 1000000 else if v.t = 4 then chkRange v.n 0 255
    else if v.t = 3 then chkText v.s 0 64 else if v.t = 8 then chkText v.s 1 40
    else if v.t = 5 then (if 16 < v.l.length then 2 else V.chkL 2 v.l) else if v.t = 6 then (if 16 < v.l.length then 2 else V.chkL 3 v.l)
    else (if 8 < v.l.length then 2 else V.chkR (V.head v.l) v.l) := by
  cases v
  rw [V.chk]
  rfl

theorem V.chkL_cons (ty : Int) (v : V) (l : List V) : V.chkL ty (v :: l) = if v.t ≠ ty then 3 else if v.chk ≠ 0 then v.chk else V.chkL ty l := by rw [V.chkL]
theorem V.chkR_cons (c : Nat) (v : V) (l : List V) : V.chkR c (v :: l) =
    if v.t ≠ 6 then 3 else if v.l.length < 1 ∨ 8 < v.l.length ∨ v.l.length ≠ c then 2 else if v.chk ≠ 0 then v.chk else V.chkR c l := by rw [V.chkR]
theorem V.chkL_nil (ty : Int) : V.chkL ty [] = 0 := by rw [V.chkL]
theorem V.chkR_nil (c : Nat) : V.chkR c [] = 0 := by rw [V.chkR]

/-- What is found in a list of the type 'ty' of elements, in a table. -/
def V.lst (ty : Int) (l : List V) : Int := if 16 < l.length then 2 else V.chkL ty l
def V.tab (l : List V) : Int := if 8 < l.length then 2 else V.chkR (V.head l) l

/-- What Check computes at each type, the fields being right. -/
theorem V.chk_at (v : V) (t : Int) (ht : v.t = t) (h1 : 1 ≤ t) (h8 : t ≤ 8) (hf : badForm t v.n v.s v.l.length = false) : v.chk =
    if t = 1 then chkRange v.n 0 1 else if t = 2 then chkRange v.n (-1000000) 1000000 else if t = 4 then chkRange v.n 0 255
    else if t = 3 then chkText v.s 0 64 else if t = 8 then chkText v.s 1 40
    else if t = 5 then V.lst 2 v.l else if t = 6 then V.lst 3 v.l else V.tab v.l := by
  subst ht
  rw [V.chk_eq, if_neg (by omega), if_neg (by rw [hf]; simp)]
  rfl

/-! ### Compare -/

def cmpI (a b : Int) : Int := if a < b then -1 else if b < a then 1 else 0
def cmpS (a b : ByteArray) : Int := Lib.compareBytes a.data.toList b.data.toList

mutual
def V.cmp : V → V → Int
  | .mk t n s l, b => if cmpI t b.t ≠ 0 then cmpI t b.t else if cmpI n b.n ≠ 0 then cmpI n b.n else if cmpS s b.s ≠ 0 then cmpS s b.s else V.cmps l b.l
def V.cmps : List V → List V → Int
  | [], m => if m = [] then 0 else -1
  | a :: l, m => match m with
    | [] => 1
    | b :: m => if a.cmp b ≠ 0 then a.cmp b else V.cmps l m
end

theorem V.cmp_eq (a b : V) : a.cmp b =
    if cmpI a.t b.t ≠ 0 then cmpI a.t b.t else if cmpI a.n b.n ≠ 0 then cmpI a.n b.n else if cmpS a.s b.s ≠ 0 then cmpS a.s b.s else V.cmps a.l b.l := by
  cases a
  rw [V.cmp]
  rfl
theorem V.cmps_nil (m : List V) : V.cmps [] m = if m.length = 0 then 0 else -1 := by
  rw [V.cmps]
  cases m <;> simp
theorem V.cmps_cons_nil (a : V) (l : List V) : V.cmps (a :: l) [] = 1 := by rw [V.cmps]
theorem V.cmps_cons (a b : V) (l m : List V) : V.cmps (a :: l) (b :: m) = if a.cmp b ≠ 0 then a.cmp b else V.cmps l m := by rw [V.cmps]

/-! ### Small -/

mutual
def V.cnt : V → Int → Int
  | .mk _ _ _ l, most => V.cnts most 0 l
def V.cnts (most acc : Int) : List V → Int
  | [] => acc
  | v :: l => if acc ≤ most then V.cnts most (wrap64 (acc + wrap64 (1 + v.cnt (wrap64 (most - acc))))) l else acc
end
theorem V.cnt_eq (v : V) (most : Int) : v.cnt most = V.cnts most 0 v.l := by cases v; rw [V.cnt]; rfl
theorem V.cnts_nil (most acc : Int) : V.cnts most acc [] = acc := by rw [V.cnts]
theorem V.cnts_out (most acc : Int) (l : List V) (h : ¬ acc ≤ most) : V.cnts most acc l = acc := by cases l <;> rw [V.cnts]; rw [if_neg h]
theorem V.cnts_in (most acc : Int) (v : V) (l : List V) (h : acc ≤ most) : V.cnts most acc (v :: l) = V.cnts most (wrap64 (acc + wrap64 (1 + v.cnt (wrap64 (most - acc))))) l := by rw [V.cnts, if_pos h]

mutual
def V.sh : V → Int → Bool
  | .mk _ _ s l, d => if d = 0 ∨ 100 < s.size then false else V.shs (wrap64 (d - 1)) l
def V.shs (d : Int) : List V → Bool
  | [] => true
  | v :: l => if v.sh d = true then V.shs d l else false
end
theorem V.sh_eq (v : V) (d : Int) : v.sh d = if d = 0 ∨ 100 < v.s.size then false else V.shs (wrap64 (d - 1)) v.l := by cases v; rw [V.sh]; rfl
theorem V.shs_nil (d : Int) : V.shs d [] = true := by rw [V.shs]
theorem V.shs_cons (d : Int) (v : V) (l : List V) : V.shs d (v :: l) = if v.sh d = true then V.shs d l else false := by rw [V.shs]

def V.small (v : V) : Bool := decide (V.cnts 90 0 [v] ≤ 90) && v.sh 8

end Go.Proofs.YthnlkijkgnmbhaaDoor
