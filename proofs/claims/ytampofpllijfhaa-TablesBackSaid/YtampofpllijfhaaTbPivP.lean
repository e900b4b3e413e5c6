/-
  Plain facts: Pivot undoes Unpivot. Nothing is assumed.
-/
import Derived.Test.YtampofpllijfhaaTbPivot
import Derived.Test.YtampofpllijfhaaTbPure
namespace Go.Proofs.Ytampofpllijfhaa
open Go.RowKit

def r0 (r : Row) : ByteArray := (r[0]?).getD ⟨#[]⟩
def mk1 (l : Row) (j : Nat) : ByteArray := (l[1 + j]?).getD ⟨#[]⟩
def rowsOf (hd : Row) (c : Nat) (r : Row) : Tab := (List.range c).map fun j => [r0 r, mk1 hd j, mk1 r j]
theorem mk1_all (l : Row) (c : Nat) (h : l.length = c + 1) : (List.range c).map (mk1 l) = l.drop 1 := by
  refine List.ext_getElem (by simp; omega) fun i h1 h2 => ?_
  simp at h1
  have e : 1 + i = i + 1 := by omega
  simp [mk1, e, List.getElem?_eq_getElem (show i + 1 < l.length by omega)]
theorem r0_drop (l : Row) (h : 0 < l.length) : r0 l :: l.drop 1 = l := by
  cases l with
  | nil => cases h
  | cons a l => rfl
theorem unp_form {t : Tab} {c : Nat} (hp : 0 < t.length) (hl : ∀ r ∈ t, r.length = c + 1) (he : unpE t 1 = 0) : unpV t 1 = (t.drop 1).flatMap (rowsOf t[0] c) := by
  have hh : t.headD [] = t[0] := by
    cases t with
    | nil => cases hp
    | cons r t => rfl
  unfold unpV unpK
  rw [if_pos he, hh, List.flatMap_def]
  congr 1
  refine List.map_congr_left fun r hr => ?_
  have hr' := hl r (List.mem_of_mem_drop hr)
  unfold unpOne rowsOf
  rw [hr']
  show (List.range c).map (fun j => unpRow t[0] 1 r (1 + j)) = _
  refine List.map_congr_left fun j _ => ?_
  show r.take 1 ++ [_, _] = _
  cases r with
  | nil => cases hr'
  | cons a r => rfl
theorem dst_new (acc l : Row) (h : (acc ++ l).Nodup) : l.foldl dstS acc = acc ++ l := by
  induction l generalizing acc with
  | nil => simp
  | cons x l ih =>
    have hx : x ∉ acc := by
      intro hx
      rw [List.nodup_append] at h
      exact h.2.2 x hx x (List.mem_cons_self ..) rfl
    have e : dstS acc x = acc ++ [x] := by
      unfold dstS
      rw [if_neg]
      rw [Lib.containsS_iff]
      exact hx
    rw [List.foldl_cons, e, ih _ (by rw [List.append_assoc]; exact h), List.append_assoc]
    rfl
theorem dst_old (acc l : Row) (h : ∀ s ∈ l, s ∈ acc) : l.foldl dstS acc = acc := by
  induction l with
  | nil => rfl
  | cons x l ih =>
    have e : dstS acc x = acc := by
      unfold dstS
      rw [if_pos]
      rw [Lib.containsS_iff]
      exact h x (List.mem_cons_self ..)
    rw [List.foldl_cons, e]
    exact ih fun s hs => h s (List.mem_cons_of_mem _ hs)
theorem dst_keys {c : Nat} (hc : 0 < c) (f : Row → ByteArray) : ∀ (q : Tab) (acc : Row), (acc ++ q.map f).Nodup → (q.flatMap fun r => List.replicate c (f r)).foldl dstS acc = acc ++ q.map f
  | [], acc, _ => by simp
  | r :: q, acc, h => by
    have hx : f r ∉ acc := by
      intro hx
      rw [List.nodup_append] at h
      exact h.2.2 _ hx _ (List.mem_cons_self ..) rfl
    obtain ⟨d, rfl⟩ : ∃ d, c = d + 1 := ⟨c - 1, by omega⟩
    rw [List.flatMap_cons, List.foldl_append, List.replicate_succ, List.foldl_cons]
    have e : dstS acc (f r) = acc ++ [f r] := by
      unfold dstS
      rw [if_neg]
      rw [Lib.containsS_iff]
      exact hx
    rw [e, dst_old (acc ++ [f r]) (List.replicate d (f r)) (fun s hs => by rw [List.eq_of_mem_replicate hs]; simp), dst_keys hc f q (acc ++ [f r]) (by rw [List.append_assoc]; exact h), List.append_assoc]
    rfl
theorem dst_names {l : Row} (h : l.Nodup) : ∀ (q : Tab), 0 < q.length → (q.flatMap fun _ => l).foldl dstS [] = l
  | [], hq => by cases hq
  | r :: q, _ => by
    rw [List.flatMap_cons, List.foldl_append, dst_new [] l (by simpa using h), List.nil_append]
    refine dst_old _ _ fun s hs => ?_
    obtain ⟨r, _, hs⟩ := List.mem_flatMap.1 hs
    exact hs
theorem col_flat (q : Tab) (g : Row → Tab) (k : Nat) : colOf (q.flatMap g) k = q.flatMap fun r => colOf (g r) k := by
  unfold colOf
  rw [List.map_flatMap]
theorem col0 (hd : Row) (c : Nat) (r : Row) : colOf (rowsOf hd c r) 0 = List.replicate c (r0 r) := by
  unfold colOf rowsOf
  rw [List.map_map]
  refine List.ext_getElem (by simp) fun i h1 h2 => ?_
  simp
theorem col1 (hd : Row) (c : Nat) (r : Row) : colOf (rowsOf hd c r) 1 = (List.range c).map (mk1 hd) := by
  unfold colOf rowsOf
  rw [List.map_map]
  refine List.map_congr_left fun j _ => ?_
  simp
theorem nodup_at {α : Type} : ∀ {l : List α}, l.Nodup → ∀ {i j : Nat} (hi : i < l.length) (hj : j < l.length), l[i] = l[j] → i = j
  | [], _, i, _, hi, _, _ => by cases hi
  | a :: l, h, i, j, hi, hj, e => by
    rw [List.nodup_cons] at h
    match i, j with
    | 0, 0 => rfl
    | 0, j + 1 =>
      simp at e
      exact absurd (by rw [e]; exact List.getElem_mem _) h.1
    | i + 1, 0 =>
      simp at e
      exact absurd (by rw [← e]; exact List.getElem_mem _) h.1
    | i + 1, j + 1 =>
      simp at e
      simp at hi hj
      rw [nodup_at h.2 hi hj e]
/-- With keys that are all different, a row is found by its key. -/
theorem val_of {V : Tab} (h : (V.map rowKey).Nodup) {x : Row} (hx : x ∈ V) : valOf V (rowKey x) = some (rowVal x) := by
  unfold valOf
  cases hf : V.find? fun r => decide (rowKey r = rowKey x) with
  | none =>
    rw [List.find?_eq_none] at hf
    exact absurd (hf x hx) (by simp)
  | some y =>
    have h1 : rowKey y = rowKey x := by simpa using List.find?_some hf
    have h2 := List.mem_of_find?_eq_some hf
    obtain ⟨i, hi, rfl⟩ := List.getElem_of_mem hx
    obtain ⟨j, hj, rfl⟩ := List.getElem_of_mem h2
    have : j = i := nodup_at h (by simpa using hj) (by simpa using hi) (by simpa using h1)
    subst this
    rfl
theorem dup_no {V : Tab} (h : (V.map rowKey).Nodup) : dupT V = false := by
  refine dupT_no fun i hi => ?_
  unfold valOf
  rw [Option.map_eq_none_iff, List.find?_eq_none]
  intro y hy
  rw [keyAt_at hi]
  simp only [decide_eq_true_eq]
  intro e
  obtain ⟨j, hj, rfl⟩ := List.getElem_of_mem hy
  rw [List.length_take] at hj
  rw [List.getElem_take] at e
  have : j = i := nodup_at h (by simp; omega) (by simpa using hi) (by simpa using e)
  omega
theorem keys_nodup (hd : Row) (c : Nat) (q : Tab) (hk : (q.map r0).Nodup) (hn : ((List.range c).map (mk1 hd)).Nodup) : ((q.flatMap (rowsOf hd c)).map rowKey).Nodup := by
  rw [List.map_flatMap]
  have e : ∀ r, (rowsOf hd c r).map rowKey = ((List.range c).map (mk1 hd)).map fun m => (r0 r, m) := fun r => by
    unfold rowsOf
    rw [List.map_map, List.map_map]
    rfl
  unfold List.Nodup
  rw [List.pairwise_flatMap]
  refine ⟨fun r _ => ?_, ?_⟩
  · rw [e]
    refine List.pairwise_map.2 (List.Pairwise.imp (fun {a b} hne e => hne ?_) hn)
    injection e
  · unfold List.Nodup at hk
    rw [List.pairwise_map] at hk
    refine hk.imp fun {a b} hne x hx y hy e2 => ?_
    rw [e] at hx hy
    obtain ⟨m, _, rfl⟩ := List.mem_map.1 hx
    obtain ⟨m', _, rfl⟩ := List.mem_map.1 hy
    injection e2 with e3
    exact hne e3
theorem unpE_fit {t : Tab} (h : unpE t 1 = 0) : chkT t = 0 ∧ 0 < t.length ∧ ((t.length : Int) - 1) * ((colsT t : Int) - 1) ≤ 8 := by
  unfold unpE at h
  split at h
  · rename_i h1; exact absurd h h1
  · rename_i h1
    split at h
    · exact absurd h (by decide)
    · split at h
      · exact absurd h (by decide)
      · split at h
        · exact absurd h (by decide)
        · rename_i h2 h3 h4
          exact ⟨by simpa using h1, by omega, by omega⟩
theorem flat_len (hd : Row) (c : Nat) (q : Tab) : (q.flatMap (rowsOf hd c)).length = q.length * c := by
  induction q with
  | nil => simp
  | cons r q ih => rw [List.flatMap_cons, List.length_append, ih, List.length_cons, Nat.succ_mul]; simp [rowsOf]; omega
/-- Pivot undoes Unpivot. -/
theorem piv_unp {t : Tab} (hn : 2 ≤ t.length) (hc : 2 ≤ colsT t) (h00 : (t[0])[0]? = some ⟨#[]⟩) (hd : (t[0]).Nodup) (hk : (colOf t 0).Nodup) (he : unpE t 1 = 0) : pivE (unpV t 1) = 0 ∧ pivV (unpV t 1) = t := by
  obtain ⟨hch, hp, h8⟩ := unpE_fit he
  have hv := valid_of hch hp
  obtain ⟨c, hcc⟩ : ∃ c, colsT t = c + 1 := ⟨colsT t - 1, by omega⟩
  rw [hcc] at hv h8 hc
  have hl : ∀ r ∈ t, r.length = c + 1 := fun r hr => (hv.2.2.2 r hr).1
  have hl0 := hl _ (List.getElem_mem hp)
  have hform := unp_form hp hl he
  have hq : t = t[0] :: t.drop 1 := by
    cases t with
    | nil => cases hp
    | cons r t => rfl
  obtain ⟨hd0, hhd⟩ : ∃ hd0, t[0] = hd0 := ⟨_, rfl⟩
  obtain ⟨q, hqq⟩ : ∃ q, t.drop 1 = q := ⟨_, rfl⟩
  rw [hhd] at hl0 hform hq h00 hd
  rw [hqq] at hform hq
  have hql : q.length = t.length - 1 := by rw [← hqq, List.length_drop]
  have hrow : ∀ r ∈ q, r.length = c + 1 ∧ ∀ s ∈ r, cellE s = 0 := fun r hr => hv.2.2.2 r (by rw [← hqq] at hr; exact List.mem_of_mem_drop hr)
  have hnames := mk1_all hd0 c hl0
  have hnn : ((List.range c).map (mk1 hd0)).Nodup := by
    rw [hnames]
    exact (List.drop_sublist 1 hd0).nodup hd
  have hkn : (q.map r0).Nodup := by
    have e : colOf t 0 = t.map r0 := rfl
    rw [e, hq, List.map_cons, List.nodup_cons] at hk
    exact hk.2
  have hkeys := keys_nodup hd0 c q hkn hnn
  have hlen : (unpV t 1).length = q.length * c := by rw [hform, flat_len]
  have hmul : q.length * c ≤ 8 := by
    have e1 : ((t.length : Int) - 1) = (q.length : Int) := by omega
    have e2 : (((c + 1 : Nat) : Int) - 1) = (c : Int) := by omega
    rw [e1, e2] at h8
    exact_mod_cast h8
  obtain ⟨V, hV⟩ : ∃ V, unpV t 1 = V := ⟨_, rfl⟩
  rw [hV] at hform hlen ⊢
  have hVval : Valid 3 V := by
    refine ⟨by omega, by omega, by omega, fun r hr => ?_⟩
    rw [hform] at hr
    obtain ⟨r1, hr1, hr2⟩ := List.mem_flatMap.1 hr
    unfold rowsOf at hr2
    obtain ⟨j, hj, rfl⟩ := List.mem_map.1 hr2
    rw [List.mem_range] at hj
    obtain ⟨g1, g2⟩ := hrow r1 hr1
    have g3 := (hv.2.2.2 hd0 (by rw [← hhd]; exact List.getElem_mem hp)).2
    refine ⟨rfl, fun s hs => ?_⟩
    simp only [List.mem_cons, List.not_mem_nil, or_false] at hs
    rcases hs with rfl | rfl | rfl
    · unfold r0
      rw [List.getElem?_eq_getElem (by omega)]
      exact g2 _ (List.getElem_mem _)
    · unfold mk1
      rw [List.getElem?_eq_getElem (by omega)]
      exact g3 _ (List.getElem_mem _)
    · unfold mk1
      rw [List.getElem?_eq_getElem (by omega)]
      exact g2 _ (List.getElem_mem _)
  have hVpos : 0 < V.length := by
    rw [hlen]
    exact Nat.mul_pos (by omega) (by omega)
  have hk0 : dst (colOf V 0) = q.map r0 := by
    unfold dst
    rw [hform, col_flat]
    simp only [col0]
    have := dst_keys (by omega : 0 < c) r0 q [] (by simpa using hkn)
    simpa using this
  have hk1 : dst (colOf V 1) = hd0.drop 1 := by
    unfold dst
    rw [hform, col_flat]
    simp only [col1]
    rw [dst_names hnn q (by omega), hnames]
  have hvE : valE V = 0 := by
    unfold valE
    rw [if_neg (by simp [hVval.chk]), if_neg (by omega), if_neg (by simp [hVval.cols hVpos]), if_neg]
    rw [dup_no (by rw [hform]; exact hkeys)]
    decide
  have hpE : pivE V = 0 := by
    unfold pivE
    rw [if_neg (by simp [hvE]), hk0, hk1, if_neg]
    have := hv.1
    have := hv.2.2.1
    simp
    omega
  refine ⟨hpE, ?_⟩
  unfold pivV
  rw [if_pos hpE, hk0, hk1]
  unfold pivK
  rw [List.take_length, List.map_map]
  have hhead : ⟨#[]⟩ :: hd0.drop 1 = hd0 := by
    have := r0_drop hd0 (by omega)
    unfold r0 at this
    rw [h00] at this
    exact this
  rw [hhead]
  conv => rhs; rw [hq]
  congr 1
  have hid : ∀ r ∈ q, ((fun key => pivRow V (hd0.drop 1) key (hd0.drop 1).length) ∘ r0) r = r := fun r hr => by
    obtain ⟨g1, _⟩ := hrow r hr
    show pivRow V (hd0.drop 1) (r0 r) (hd0.drop 1).length = r
    unfold pivRow
    rw [List.take_length, ← hnames, List.map_map]
    conv => rhs; rw [← r0_drop r (by omega), ← mk1_all r c g1]
    congr 1
    refine List.map_congr_left fun j hj => ?_
    rw [List.mem_range] at hj
    have hmem : [r0 r, mk1 hd0 j, mk1 r j] ∈ V := by
      rw [hform]
      exact List.mem_flatMap.2 ⟨r, hr, List.mem_map.2 ⟨j, List.mem_range.2 hj, rfl⟩⟩
    have := val_of (by rw [hform]; exact hkeys) hmem
    show (valOf V (r0 r, mk1 hd0 j)).getD ⟨#[]⟩ = mk1 r j
    have e : rowKey [r0 r, mk1 hd0 j, mk1 r j] = (r0 r, mk1 hd0 j) := rfl
    rw [e] at this
    rw [this]
    rfl
  rw [List.map_congr_left hid]
  simp

end Go.Proofs.Ytampofpllijfhaa
