/-
  WR: Ways Ring RingRank.
-/
import Derived.Test.YtellghhilcjbnaaDoorRelaxMath
import Derived.Test.YtellghhilcjbnaaDoorRankAll
/-
  WAYS OF STEPS, and what the specification's prices say of them: plain functions. A way is the list of the rows whose own columns it leaves; it ends in a column.
-/
namespace Go.Proofs.YtellghhilcjbnaaDoor
set_option linter.unusedVariables false
set_option linter.unusedSimpArgs false
open Go.RowKit

/-- A step from a row's own column to another. -/
def stepC (xss : List (List Int)) (ps : List Int) (i j : Nat) : Int := colC xss i j - colC xss i (ownC ps i)
/-- The column that a way goes on with. -/
def headC (ps : List Int) (b : Nat) : List Nat → Nat
  | [] => b
  | i :: _ => ownC ps i
def wayC (xss : List (List Int)) (ps : List Int) (b : Nat) : List Nat → Int
  | [] => 0
  | i :: l => stepC xss ps i (headC ps b l) + wayC xss ps b l
theorem wayC_snoc (xss : List (List Int)) (ps : List Int) (i b : Nat) : ∀ l, wayC xss ps b (l ++ [i]) = wayC xss ps (ownC ps i) l + stepC xss ps i b
  | [] => by simp [wayC, headC]
  | [k] => by simp [wayC, headC]
  | k :: m :: l => by
    have ih := wayC_snoc xss ps i b (m :: l)
    show stepC xss ps k (ownC ps m) + wayC xss ps b ((m :: l) ++ [i]) = stepC xss ps k (ownC ps m) + wayC xss ps (ownC ps i) (m :: l) + stepC xss ps i b
    rw [ih]; omega
theorem getD_set {f : List Int} {j b : Nat} (hj : j < f.length) (x : Int) : (f.set j x).getD b 0 = if b = j then x else f.getD b 0 := by
  by_cases h : b = j
  · subst h; simp [List.getD, hj]
  · rw [if_neg h]
    simp [List.getD, List.getElem?_set, Ne.symm h]
theorem rel1_at {xss : List (List Int)} {ps : List Int} {i j b : Nat} {f : List Int} (hj : j < f.length) : (rel1 xss ps i f j).getD b 0 = if b = j then min (f.getD j 0) (f.getD (ownC ps i) 0 + stepC xss ps i j) else f.getD b 0 := by
  unfold rel1
  rw [getD_set hj]
  unfold stepC
  split
  · congr 1; omega
  · rfl
theorem relJ_le (xss : List (List Int)) (ps : List Int) (i b : Nat) (f : List Int) : ∀ m, m ≤ f.length → (relJ xss ps i f m).getD b 0 ≤ f.getD b 0
  | 0, _ => Int.le_refl _
  | m + 1, hm => by
    have ih := relJ_le xss ps i b f m (by omega)
    show (rel1 xss ps i (relJ xss ps i f m) m).getD b 0 ≤ _
    rw [rel1_at (by rw [relJ_len]; omega)]
    split
    · rename_i h; subst h; omega
    · exact ih
theorem relJ_hit (xss : List (List Int)) (ps : List Int) (i : Nat) (f : List Int) {j : Nat} : ∀ m, m ≤ f.length → j < m → (relJ xss ps i f m).getD j 0 ≤ f.getD (ownC ps i) 0 + stepC xss ps i j
  | m + 1, hm, hj => by
    have hle := relJ_le xss ps i (ownC ps i) f m (by omega)
    show (rel1 xss ps i (relJ xss ps i f m) m).getD j 0 ≤ _
    rw [rel1_at (by rw [relJ_len]; omega)]
    split
    · rename_i h; subst h; omega
    · exact relJ_hit xss ps i f m (by omega) (by omega)
theorem relI_le (xss : List (List Int)) (ps : List Int) (b : Nat) (f : List Int) (hf : f.length = xss.length) : ∀ m, (relI xss ps f m).getD b 0 ≤ f.getD b 0
  | 0 => Int.le_refl _
  | m + 1 => Int.le_trans (relJ_le xss ps m b (relI xss ps f m) xss.length (by rw [relI_len, hf]; exact Nat.le_refl _)) (relI_le xss ps b f hf m)
theorem relI_hit (xss : List (List Int)) (ps : List Int) (f : List Int) (hf : f.length = xss.length) {i j : Nat} (hj : j < xss.length) : ∀ m : Nat, i < m → (relI xss ps f m).getD j 0 ≤ f.getD (ownC ps i) 0 + stepC xss ps i j
  | m + 1, hi => by
    have hl : (relI xss ps f m).length = xss.length := by rw [relI_len, hf]
    by_cases h : i = m
    · subst h
      have h1 := relJ_hit xss ps i (relI xss ps f i) (j := j) xss.length (by rw [hl]; exact Nat.le_refl _) hj
      have h2 := relI_le xss ps (ownC ps i) f hf i
      show (relJ xss ps i (relI xss ps f i) xss.length).getD j 0 ≤ _
      omega
    · have h1 := relJ_le xss ps m j (relI xss ps f m) xss.length (by rw [hl]; exact Nat.le_refl _)
      have h2 := relI_hit xss ps f hf (i := i) hj m (by omega)
      show (relJ xss ps m (relI xss ps f m) xss.length).getD j 0 ≤ _
      omega
/-- Rows of a way are there. -/
def RowsIn (n : Nat) (l : List Nat) : Prop := ∀ i ∈ l, i < n
/-- No way of so many steps costs less. -/
def AtMost (xss : List (List Int)) (ps f : List Int) (k : Nat) : Prop := ∀ b, b < xss.length → ∀ l, RowsIn xss.length l → l.length ≤ k → f.getD b 0 ≤ wayC xss ps b l
/-- What is held is the cost of a way. -/
def HoldsWay (xss : List (List Int)) (ps f : List Int) : Prop := ∀ b, b < xss.length → ∃ l, RowsIn xss.length l ∧ f.getD b 0 = wayC xss ps b l
theorem atMost_pass {xss : List (List Int)} {ps f : List Int} {k : Nat} (hf : f.length = xss.length) (hown : ∀ i, i < xss.length → ownC ps i < xss.length) (h : AtMost xss ps f k) : AtMost xss ps (relI xss ps f xss.length) (k + 1) := by
  intro b hb l hl hk
  rcases List.eq_nil_or_concat l with rfl | ⟨l', i, rfl⟩
  · exact Int.le_trans (relI_le xss ps b f hf _) (h b hb [] hl (Nat.zero_le _))
  · rw [List.concat_eq_append] at hl hk ⊢
    have hi : i < xss.length := hl i (by simp)
    rw [wayC_snoc]
    have h1 := relI_hit xss ps f hf hb xss.length hi
    have h2 := h (ownC ps i) (hown i hi) l' (fun x hx => hl x (by simp [hx])) (by simp at hk; omega)
    omega
theorem atMost_all {xss : List (List Int)} {ps : List Int} (hown : ∀ i, i < xss.length → ownC ps i < xss.length) : ∀ k, AtMost xss ps (relK xss ps k) k
  | 0 => fun b hb l hl hk => by
    obtain rfl : l = [] := List.length_eq_zero_iff.1 (by omega)
    show (List.replicate xss.length (0 : Int)).getD b 0 ≤ 0
    simp [List.getD, hb]
  | k + 1 => atMost_pass (relK_len xss ps k) hown (atMost_all hown k)
theorem holds_rel1 {xss : List (List Int)} {ps f : List Int} {i j : Nat} (hf : f.length = xss.length) (hown : ∀ i, i < xss.length → ownC ps i < xss.length) (hi : i < xss.length) (hj : j < xss.length) (h : HoldsWay xss ps f) : HoldsWay xss ps (rel1 xss ps i f j) := by
  intro b hb
  rw [rel1_at (by omega)]
  by_cases hbj : b = j
  · subst hbj
    rw [if_pos rfl]
    obtain ⟨l1, hl1, e1⟩ := h b hb
    obtain ⟨l2, hl2, e2⟩ := h (ownC ps i) (hown i hi)
    by_cases hc : f.getD b 0 ≤ f.getD (ownC ps i) 0 + stepC xss ps i b
    · exact ⟨l1, hl1, by omega⟩
    · refine ⟨l2 ++ [i], fun x hx => ?_, ?_⟩
      · rcases List.mem_append.1 hx with hx | hx
        · exact hl2 x hx
        · rw [List.mem_singleton.1 hx]; exact hi
      · rw [wayC_snoc]; omega
  · rw [if_neg hbj]; exact h b hb
theorem holds_relJ {xss : List (List Int)} {ps f : List Int} {i : Nat} (hf : f.length = xss.length) (hown : ∀ i, i < xss.length → ownC ps i < xss.length) (hi : i < xss.length) (h : HoldsWay xss ps f) : ∀ m, m ≤ xss.length → HoldsWay xss ps (relJ xss ps i f m)
  | 0, _ => h
  | m + 1, hm => holds_rel1 (by rw [relJ_len, hf]) hown hi (by omega) (holds_relJ hf hown hi h m (by omega))
theorem holds_relI {xss : List (List Int)} {ps f : List Int} (hf : f.length = xss.length) (hown : ∀ i, i < xss.length → ownC ps i < xss.length) (h : HoldsWay xss ps f) : ∀ m, m ≤ xss.length → HoldsWay xss ps (relI xss ps f m)
  | 0, _ => h
  | m + 1, hm => holds_relJ (by rw [relI_len, hf]) hown (by omega) (holds_relI hf hown h m (by omega)) _ (Nat.le_refl _)
theorem holds_relK {xss : List (List Int)} {ps : List Int} (hown : ∀ i, i < xss.length → ownC ps i < xss.length) : ∀ k, HoldsWay xss ps (relK xss ps k)
  | 0 => fun b hb => ⟨[], fun x hx => by simp at hx, by show (List.replicate xss.length (0 : Int)).getD b 0 = 0; simp [List.getD, hb]⟩
  | k + 1 => holds_relI (relK_len xss ps k) hown (holds_relK hown k) _ (Nat.le_refl _)

end Go.Proofs.YtellghhilcjbnaaDoor

/-
  A RING OF STEPS TURNED IS A CHOICE: what it costs more. Plain functions.
-/
namespace Go.Proofs.YtellghhilcjbnaaDoor
set_option linter.unusedVariables false
set_option linter.unusedSimpArgs false
open Go.RowKit

/-- The column of a row once a way is turned. -/
def nxC (ps : List Int) (b : Nat) : List Nat → Nat → Nat
  | [], i => ownC ps i
  | k :: l, i => if i = k then headC ps b l else nxC ps b l i
theorem nx_out {ps : List Int} {b i : Nat} : ∀ {l : List Nat}, i ∉ l → nxC ps b l i = ownC ps i
  | [], _ => rfl
  | k :: l, h => by
    simp only [List.mem_cons, not_or] at h
    show (if i = k then _ else _) = _
    rw [if_neg h.1]
    exact nx_out h.2
/-- A sum of which one limb changes. -/
theorem sum_one {g h : Nat → Int} {k : Nat} : ∀ {n : Nat}, k < n → (∀ i, i ≠ k → g i = h i) → ((List.range n).map g).sum = ((List.range n).map h).sum + (g k - h k)
  | n + 1, hk, hh => by
    rw [List.range_succ, List.map_append, List.map_append, List.sum_append, List.sum_append]
    by_cases e : k = n
    · subst e
      have : (List.range k).map g = (List.range k).map h := List.map_congr_left fun i hi => hh i (by have := List.mem_range.1 hi; omega)
      rw [this]
      simp
      omega
    · have ih := sum_one (n := n) (by omega) hh
      rw [ih]
      have := hh n (by omega)
      simp [this]
      omega
theorem sum_none (n : Nat) : ((List.range n).map fun _ => (0 : Int)).sum = 0 := by
  induction n with
  | zero => rfl
  | succ n ih => rw [List.range_succ, List.map_append, List.sum_append, ih]; rfl
theorem sum_sub {g h : Nat → Int} : ∀ (l : List Nat), (l.map fun i => g i - h i).sum = (l.map g).sum - (l.map h).sum
  | [] => rfl
  | a :: l => by
    have := sum_sub (g := g) (h := h) l
    simp only [List.map_cons, List.sum_cons]
    omega
theorem way_sum {xss : List (List Int)} {ps : List Int} {b : Nat} {n : Nat} : ∀ {l : List Nat}, l.Nodup → RowsIn n l → wayC xss ps b l = ((List.range n).map fun i => colC xss i (nxC ps b l i) - colC xss i (ownC ps i)).sum
  | [], _, _ => by
    have : (List.range n).map (fun i => colC xss i (nxC ps b [] i) - colC xss i (ownC ps i)) = (List.range n).map fun _ => (0 : Int) := List.map_congr_left fun i _ => by show colC xss i (ownC ps i) - _ = 0; omega
    rw [this, sum_none]; rfl
  | k :: l, hd, hl => by
    have hd' := List.nodup_cons.1 hd
    have ih := way_sum (xss := xss) (ps := ps) (b := b) (n := n) hd'.2 fun i hi => hl i (by simp [hi])
    have hk : k < n := hl k (by simp)
    have h1 := sum_one (g := fun i => colC xss i (nxC ps b (k :: l) i) - colC xss i (ownC ps i)) (h := fun i => colC xss i (nxC ps b l i) - colC xss i (ownC ps i)) hk (fun i hi => by
      show colC xss i (if i = k then _ else _) - _ = _
      rw [if_neg hi])
    rw [h1, ← ih]
    show stepC xss ps k (headC ps b l) + wayC xss ps b l = wayC xss ps b l + (colC xss k (if k = k then headC ps b l else _) - colC xss k (ownC ps k) - (colC xss k (nxC ps b l k) - colC xss k (ownC ps k)))
    rw [if_pos rfl, nx_out hd'.1]
    unfold stepC
    omega
/-- The choice once a way is turned. -/
def turnL (n : Nat) (ps : List Int) (b : Nat) (l : List Nat) : List Int := (List.range n).map fun i => ((nxC ps b l i : Nat) : Int)
theorem turnL_len (n : Nat) (ps : List Int) (b : Nat) (l : List Nat) : (turnL n ps b l).length = n := by simp [turnL]
theorem own_turn {n : Nat} {ps : List Int} {b i : Nat} {l : List Nat} (hi : i < n) : ownC (turnL n ps b l) i = nxC ps b l i := by simp [ownC, turnL, List.getD, hi]
theorem cost_own (xss : List (List Int)) (ps : List Int) : ∀ k, costTo xss ps k = ((List.range k).map fun i => colC xss i (ownC ps i)).sum
  | 0 => rfl
  | k + 1 => by
    rw [List.range_succ, List.map_append, List.sum_append, ← cost_own xss ps k]
    simp [costTo, colC, ownC]
theorem cost_turned {xss : List (List Int)} {ps : List Int} {b : Nat} {l : List Nat} (hp : ps.length = xss.length) (hd : l.Nodup) (hl : RowsIn xss.length l) : cost8 xss (turnL xss.length ps b l) = cost8 xss ps + wayC xss ps b l := by
  unfold cost8
  rw [turnL_len, hp, cost_own, cost_own, way_sum hd hl, sum_sub]
  have : (List.range xss.length).map (fun i => colC xss i (ownC (turnL xss.length ps b l) i)) = (List.range xss.length).map (fun i => colC xss i (nxC ps b l i)) := List.map_congr_left fun i hi => by rw [own_turn (List.mem_range.1 hi)]
  rw [this]
  omega
/-- On a ring each row's own column is taken anew. -/
theorem nx_hit {ps : List Int} {b x : Nat} : ∀ {l : List Nat}, l.Nodup → x ∈ l.tail → ∃ y ∈ l, nxC ps b l y = ownC ps x
  | k :: m :: l, hd, hx => by
    have hd' := List.nodup_cons.1 hd
    rcases List.mem_cons.1 hx with rfl | hx
    · exact ⟨k, by simp, by show (if k = k then _ else _) = _; rw [if_pos rfl]; rfl⟩
    · obtain ⟨y, hy, he⟩ := nx_hit (ps := ps) (b := b) (l := m :: l) hd'.2 hx
      refine ⟨y, by simp [hy], ?_⟩
      show (if y = k then _ else _) = _
      rw [if_neg (show ¬ y = k from fun e => hd'.1 (e ▸ hy))]
      exact he
theorem nx_last {ps : List Int} {b : Nat} : ∀ {l : List Nat}, l.Nodup → l ≠ [] → ∃ y ∈ l, nxC ps b l y = b
  | [k], _, _ => ⟨k, by simp, by show (if k = k then _ else _) = _; rw [if_pos rfl]; rfl⟩
  | k :: m :: l, hd, _ => by
    have hd' := List.nodup_cons.1 hd
    obtain ⟨y, hy, he⟩ := nx_last (ps := ps) (b := b) (l := m :: l) hd'.2 (by simp)
    refine ⟨y, by simp [hy], ?_⟩
    show (if y = k then _ else _) = _
    rw [if_neg (show ¬ y = k from fun e => hd'.1 (e ▸ hy))]
    exact he

end Go.Proofs.YtellghhilcjbnaaDoor

/-
  RINGS COST NOTHING LESS WHERE THE CHOICE IS OF THE LEAST COST, so ways need not meet a column twice. Plain functions.
-/
namespace Go.Proofs.YtellghhilcjbnaaDoor
set_option linter.unusedVariables false
set_option linter.unusedSimpArgs false
open Go.RowKit

theorem rank_mem {n : Nat} {xs : List Int} (h : rankB n xs = true) {c : Nat} (hc : c < n) : (c : Int) ∈ xs := by
  obtain ⟨-, hin, hs⟩ := rank_parts h
  have hb : (seenOf xs).testBit c = true := by rw [hs, Nat.testBit_two_pow_sub_one]; exact decide_eq_true hc
  unfold seenOf at hb
  rw [seen_fold] at hb
  simp only [Nat.zero_testBit, Bool.false_or] at hb
  obtain ⟨x, hx, he⟩ := List.any_eq_true.1 hb
  have h1 := of_decide_eq_true he
  have h2 := hin x hx
  have : x = (c : Int) := by omega
  rw [← this]; exact hx
theorem own_onto {n : Nat} {ps : List Int} (h : rankB n ps = true) {c : Nat} (hc : c < n) : ∃ i, i < n ∧ ownC ps i = c := by
  obtain ⟨i, hi, he⟩ := List.getElem_of_mem (rank_mem h hc)
  refine ⟨i, by have := (rank_parts h).1; omega, ?_⟩
  unfold ownC
  rw [show ps.getD i 0 = ps[i] by simp [List.getD, hi], he]
  rfl
theorem own_lt {n : Nat} {ps : List Int} (h : rankB n ps = true) {i : Nat} (hi : i < n) : ownC ps i < n := by
  obtain ⟨hl, hin, -⟩ := rank_parts h
  have hi' : i < ps.length := by omega
  have := hin _ (List.getElem_mem hi')
  unfold ownC
  rw [show ps.getD i 0 = ps[i] by simp [List.getD, hi']]
  omega
theorem nx_lt {n : Nat} {ps : List Int} {b : Nat} (h : rankB n ps = true) (hb : b < n) : ∀ {l : List Nat}, RowsIn n l → ∀ {i : Nat}, i < n → nxC ps b l i < n
  | [], _, i, hi => own_lt h hi
  | k :: l, hl, i, hi => by
    show (if i = k then headC ps b l else nxC ps b l i) < n
    split
    · cases l with
      | nil => exact hb
      | cons m l => exact own_lt h (hl m (by simp))
    · exact nx_lt h hb (fun x hx => hl x (by simp [hx])) hi
theorem turn_rank {n : Nat} {ps : List Int} {k : Nat} {t : List Nat} (h : rankB n ps = true) (hd : (k :: t).Nodup) (hl : RowsIn n (k :: t)) : rankB n (turnL n ps (ownC ps k) (k :: t)) = true := by
  have hk : k < n := hl k (by simp)
  refine rank_of_all (turnL_len _ _ _ _) (fun x hx => ?_) (fun c hc => ?_)
  · unfold turnL at hx
    obtain ⟨i, hi, rfl⟩ := List.mem_map.1 hx
    have := nx_lt (b := ownC ps k) h (own_lt h hk) hl (List.mem_range.1 hi)
    omega
  · obtain ⟨i, hi, rfl⟩ := own_onto h hc
    have key : ∃ y, y < n ∧ nxC ps (ownC ps k) (k :: t) y = ownC ps i := by
      by_cases hm : i ∈ k :: t
      · rcases List.mem_cons.1 hm with rfl | hm
        · obtain ⟨y, hy, he⟩ := nx_last (ps := ps) (b := ownC ps i) hd (by simp)
          exact ⟨y, hl y hy, he⟩
        · obtain ⟨y, hy, he⟩ := nx_hit (ps := ps) (b := ownC ps k) (l := k :: t) hd hm
          exact ⟨y, hl y hy, he⟩
      · exact ⟨i, hi, nx_out hm⟩
    obtain ⟨y, hy, he⟩ := key
    unfold turnL
    exact List.mem_map.2 ⟨y, List.mem_range.2 hy, by rw [he]⟩
/-- A choice of the least cost. -/
def LeastP (xss : List (List Int)) (ps : List Int) : Prop := rankB xss.length ps = true ∧ ∀ qs, rankB xss.length qs = true → cost8 xss ps ≤ cost8 xss qs
theorem ring_pays {xss : List (List Int)} {ps : List Int} (h : LeastP xss ps) {k : Nat} {t : List Nat} (hd : (k :: t).Nodup) (hl : RowsIn xss.length (k :: t)) : 0 ≤ wayC xss ps (ownC ps k) (k :: t) := by
  have h1 := h.2 _ (turn_rank h.1 hd hl)
  rw [cost_turned (rank_parts h.1).1 hd hl] at h1
  omega
theorem head_app (ps : List Int) (b : Nat) (A X : List Nat) (k : Nat) : headC ps b (A ++ k :: X) = headC ps (ownC ps k) A := by
  cases A <;> rfl
theorem way_app (xss : List (List Int)) (ps : List Int) (b : Nat) (X : List Nat) : ∀ A : List Nat, wayC xss ps b (A ++ X) = wayC xss ps (headC ps b X) A + wayC xss ps b X
  | [] => by simp [wayC]
  | a :: A => by
    have ih := way_app xss ps b X A
    have hh : headC ps b (A ++ X) = headC ps (headC ps b X) A := by cases A <;> rfl
    show stepC xss ps a (headC ps b (A ++ X)) + wayC xss ps b (A ++ X) = stepC xss ps a (headC ps (headC ps b X) A) + wayC xss ps (headC ps b X) A + wayC xss ps b X
    rw [ih, hh]; omega
theorem twice_in : ∀ {l : List Nat}, ¬ l.Nodup → ∃ A k M B, l = A ++ k :: M ++ k :: B ∧ (k :: M).Nodup
  | [], h => absurd List.nodup_nil h
  | x :: l, h => by
    by_cases hl : l.Nodup
    · have hx : x ∈ l := Classical.byContradiction fun hx => h (List.nodup_cons.2 ⟨hx, hl⟩)
      obtain ⟨M, B, rfl⟩ := List.append_of_mem hx
      have hn := List.nodup_append.1 hl
      exact ⟨[], x, M, B, rfl, List.nodup_cons.2 ⟨fun hm => hn.2.2 x hm x (by simp) rfl, hn.1⟩⟩
    · obtain ⟨A, k, M, B, rfl, hd⟩ := twice_in hl
      exact ⟨x :: A, k, M, B, rfl, hd⟩
theorem nodup_len : ∀ (n : Nat) (l : List Nat), l.Nodup → (∀ x ∈ l, x < n) → l.length ≤ n
  | 0, l, _, h => by
    cases l with
    | nil => exact Nat.le_refl _
    | cons a l => exact absurd (h a (by simp)) (Nat.not_lt_zero _)
  | n + 1, l, hd, h => by
    by_cases hm : n ∈ l
    · obtain ⟨A, B, rfl⟩ := List.append_of_mem hm
      have hn := List.nodup_append.1 hd
      have hb := List.nodup_cons.1 hn.2.1
      have hAB : (A ++ B).Nodup := List.nodup_append.2 ⟨hn.1, hb.2, fun a ha b hb' => hn.2.2 a ha b (by simp [hb'])⟩
      have := nodup_len n (A ++ B) hAB (fun x hx => by
        have hne : x ≠ n := by
          intro e
          subst e
          rcases List.mem_append.1 hx with hx | hx
          · exact hn.2.2 x hx x (by simp) rfl
          · exact hb.1 hx
        have hlt := h x (by rcases List.mem_append.1 hx with hx | hx <;> simp [hx])
        omega)
      simp only [List.length_append, List.length_cons] at this ⊢
      omega
    · exact Nat.le_succ_of_le (nodup_len n l hd fun x hx => by
        have := h x hx
        have hne : x ≠ n := fun e => hm (e ▸ hx)
        omega)
/-- No way costs less than one of fewer steps than there are columns. -/
theorem ways_short {xss : List (List Int)} {ps : List Int} (h : LeastP xss ps) {b : Nat} (hb : b < xss.length) : ∀ (m : Nat) (l : List Nat), l.length ≤ m → RowsIn xss.length l → ∃ l', RowsIn xss.length l' ∧ l'.length + 1 ≤ xss.length ∧ wayC xss ps b l' ≤ wayC xss ps b l := by
  intro m
  induction m with
  | zero =>
    intro l hm hl
    exact ⟨l, hl, by omega, Int.le_refl _⟩
  | succ m ih =>
    intro l hm hl
    by_cases hd : l.Nodup
    · obtain ⟨r, hr, hrb⟩ := own_onto h.1 hb
      by_cases hmem : r ∈ l
      · obtain ⟨A, M, rfl⟩ := List.append_of_mem hmem
        have hn := List.nodup_append.1 hd
        have hp := ring_pays h hn.2.1 (fun x hx => hl x (by simp only [List.mem_append]; exact .inr hx))
        obtain ⟨l', h1, h2, h3⟩ := ih A (by simp at hm; omega) (fun x hx => hl x (by simp [hx]))
        refine ⟨l', h1, h2, ?_⟩
        rw [way_app, ← hrb]
        rw [← hrb] at h3
        have e : headC ps (ownC ps r) (r :: M) = ownC ps r := rfl
        rw [e]
        omega
      · have := nodup_len xss.length (r :: l) (List.nodup_cons.2 ⟨hmem, hd⟩) (fun x hx => by
          rcases List.mem_cons.1 hx with rfl | hx
          · exact hr
          · exact hl x hx)
        exact ⟨l, hl, by simpa using this, Int.le_refl _⟩
    · obtain ⟨A, k, M, B, rfl, hkd⟩ := twice_in hd
      have hp := ring_pays h hkd (fun x hx => hl x (by simp only [List.mem_append]; exact .inl (.inr hx)))
      obtain ⟨l', h1, h2, h3⟩ := ih (A ++ k :: B) (by simp only [List.length_append, List.length_cons] at hm ⊢; omega) (fun x hx => hl x (by
        rcases List.mem_append.1 hx with hx | hx
        · simp only [List.mem_append]; exact .inl (.inl hx)
        · simp only [List.mem_append]; exact .inr hx))
      refine ⟨l', h1, h2, Int.le_trans h3 ?_⟩
      rw [way_app, way_app, way_app]
      have e1 : headC ps b (k :: B) = ownC ps k := rfl
      have e2 : headC ps (ownC ps k) (k :: M) = ownC ps k := rfl
      rw [e1, e2]
      omega
/-- So prices that are at most all short ways are at most all ways. -/
theorem atMost_ever {xss : List (List Int)} {ps f : List Int} {k : Nat} (h : LeastP xss ps) (hk : xss.length ≤ k + 1) (hf : AtMost xss ps f k) {b : Nat} (hb : b < xss.length) {l : List Nat} (hl : RowsIn xss.length l) : f.getD b 0 ≤ wayC xss ps b l := by
  obtain ⟨l', h1, h2, h3⟩ := ways_short h hb l.length l (Nat.le_refl _) hl
  exact Int.le_trans (hf b hb l' h1 (by omega)) h3

end Go.Proofs.YtellghhilcjbnaaDoor

