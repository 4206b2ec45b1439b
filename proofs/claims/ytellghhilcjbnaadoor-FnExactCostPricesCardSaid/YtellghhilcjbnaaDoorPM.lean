/-
  PM: PriceMath AskMath.
-/
import Derived.Test.YtellghhilcjbnaaDoorWR
import Derived.Test.YtellghhilcjbnaaDoorFitMath
/-
  PRICES FIT, no column's price is above 0, and both prices in the choice are the number there. Plain functions.
-/
namespace Go.Proofs.YtellghhilcjbnaaDoor
set_option linter.unusedVariables false
set_option linter.unusedSimpArgs false
open Go.RowKit

theorem least_p {xss : List (List Int)} (hc : cIn xss = true) : LeastP xss (lqOf xss) := by
  obtain ⟨h1, h6⟩ := cIn_size hc
  rw [(lq_of hc).1]
  exact ⟨leastI_rank (cost8 xss) h1 h6, fun qs hq => leastI_le (cost8 xss) h1 h6 hq⟩
theorem price_way {xss : List (List Int)} {ps : List Int} (h : LeastP xss ps) {b : Nat} (hb : b < xss.length) {l : List Nat} (hl : RowsIn xss.length l) : (relK xss ps xss.length).getD b 0 ≤ wayC xss ps b l :=
  atMost_ever h (Nat.le_succ _) (atMost_all (fun _ hi => own_lt h.1 hi) xss.length) hb hl
theorem price_step {xss : List (List Int)} {ps : List Int} (h : LeastP xss ps) {i j : Nat} (hi : i < xss.length) (hj : j < xss.length) : (relK xss ps xss.length).getD j 0 ≤ (relK xss ps xss.length).getD (ownC ps i) 0 + stepC xss ps i j := by
  obtain ⟨l, hl, e⟩ := holds_relK (xss := xss) (fun _ hi => own_lt h.1 hi) xss.length (ownC ps i) (own_lt h.1 hi)
  rw [e, ← wayC_snoc]
  refine price_way h hj fun x hx => ?_
  rcases List.mem_append.1 hx with hx | hx
  · exact hl x hx
  · rw [List.mem_singleton.1 hx]; exact hi
theorem way_low {xss : List (List Int)} {ps : List Int} (hc : cIn xss = true) (b : Nat) : ∀ l : List Nat, -2000 * (l.length : Int) ≤ wayC xss ps b l
  | [] => by simp [wayC]
  | i :: l => by
    have ih := way_low (ps := ps) hc b l
    have h1 := colC_bound hc i (headC ps b l)
    have h2 := colC_bound hc i (ownC ps i)
    show -2000 * ((l.length + 1 : Nat) : Int) ≤ stepC xss ps i (headC ps b l) + wayC xss ps b l
    unfold stepC
    omega
theorem price_low {xss : List (List Int)} {ps : List Int} (hc : cIn xss = true) (h : LeastP xss ps) {b : Nat} (hb : b < xss.length) : -12000 ≤ (relK xss ps xss.length).getD b 0 ∧ (relK xss ps xss.length).getD b 0 ≤ 0 := by
  obtain ⟨l, hl, e⟩ := holds_relK (xss := xss) (fun _ hi => own_lt h.1 hi) xss.length b hb
  obtain ⟨l', h1, h2, h3⟩ := ways_short h hb l.length l (Nat.le_refl _) hl
  have h4 := way_low (ps := ps) hc b l'
  have h6 := (cIn_size hc).2
  have h5 := price_way h hb (l := []) (fun x hx => by simp at hx)
  have e0 : wayC xss ps b [] = 0 := rfl
  omega
theorem pq_eq {xss : List (List Int)} (hc : cIn xss = true) : pqOf xss = rowP xss (lqOf xss) (relK xss (lqOf xss) xss.length) xss.length ++ relK xss (lqOf xss) xss.length := if_pos hc
theorem pq_len {xss : List (List Int)} (hc : cIn xss = true) : (pqOf xss).length = 2 * xss.length := by
  rw [pq_eq hc, List.length_append, relK_len]
  simp [rowP]
  omega
theorem pq_row {xss : List (List Int)} (hc : cIn xss = true) {i : Nat} (hi : i < xss.length) : (pqOf xss).getD i 0 = colC xss i (ownC (lqOf xss) i) - (relK xss (lqOf xss) xss.length).getD (ownC (lqOf xss) i) 0 := by
  have hl : (rowP xss (lqOf xss) (relK xss (lqOf xss) xss.length) xss.length).length = xss.length := by simp [rowP]
  rw [pq_eq hc, List.getD_eq_getElem?_getD, List.getElem?_append_left (by omega)]
  simp [rowP, List.getD, hi]
theorem pq_col {xss : List (List Int)} (hc : cIn xss = true) {j : Nat} (_hj : j < xss.length) : (pqOf xss).getD (xss.length + j) 0 = (relK xss (lqOf xss) xss.length).getD j 0 := by
  have hl : (rowP xss (lqOf xss) (relK xss (lqOf xss) xss.length) xss.length).length = xss.length := by simp [rowP]
  rw [pq_eq hc, List.getD_eq_getElem?_getD, List.getElem?_append_right (by omega), hl, Nat.add_sub_cancel_left, List.getD_eq_getElem?_getD]
theorem pq_fit {xss : List (List Int)} (hc : cIn xss = true) : fitOk xss (pqOf xss) = true := by
  have h := least_p hc
  have hl := pq_len hc
  unfold fitOk
  rw [hc, decide_eq_true hl, Bool.true_and, Bool.true_and, Bool.and_eq_true, List.all_eq_true]
  refine ⟨fun x hx => ?_, fitB_yes fun r c hr hcc => ?_⟩
  · obtain ⟨k, hk, rfl⟩ := List.getElem_of_mem hx
    have hg : (pqOf xss).getD k 0 = (pqOf xss)[k] := by simp [List.getD, hk]
    unfold inL
    refine decide_eq_true ?_
    by_cases hkn : k < xss.length
    · have h1 := pq_row hc hkn
      have h2 := colC_bound hc k (ownC (lqOf xss) k)
      have h3 := price_low hc h (own_lt h.1 hkn)
      omega
    · obtain ⟨j, rfl⟩ : ∃ j, k = xss.length + j := ⟨k - xss.length, by omega⟩
      have h1 := pq_col hc (j := j) (by omega)
      have h3 := price_low hc h (b := j) (by omega)
      omega
  · unfold fitAt
    refine decide_eq_true ?_
    show (pqOf xss).getD r 0 + (pqOf xss).getD (xss.length + c) 0 ≤ _
    rw [pq_row hc hr, pq_col hc hcc]
    have := price_step h hr hcc
    unfold stepC at this
    show _ ≤ colC xss r c
    omega
/-- In the rows and columns of the choice both prices are the number there. -/
theorem pq_pay {xss : List (List Int)} (hc : cIn xss = true) {i : Nat} (hi : i < xss.length) : (pqOf xss).getD i 0 + (pqOf xss).getD (xss.length + ownC (lqOf xss) i) 0 = colC xss i (ownC (lqOf xss) i) := by
  rw [pq_row hc hi, pq_col hc (own_lt (least_p hc).1 hi)]
  omega
/-- The sum of all prices is the least cost. -/
theorem pq_sum {xss : List (List Int)} (hc : cIn xss = true) (h4 : xss.length ≤ 4) : sumTo8 (pqOf xss) (pqOf xss).length = lqC xss := by
  have hl := pq_len hc
  obtain ⟨h1, h6⟩ := cIn_size hc
  have hp0 := least_p hc
  have hpay := fun i (hi : i < xss.length) => pq_pay hc hi
  have hrl := (rank_parts hp0.1).1
  rw [(lq_of hc).2.1]
  obtain ⟨ps, hps⟩ : ∃ ps, pqOf xss = ps := ⟨_, rfl⟩
  obtain ⟨qs, hqs⟩ : ∃ qs, lqOf xss = qs := ⟨_, rfl⟩
  rw [hps] at hl hpay ⊢
  rw [hqs] at hp0 hpay hrl ⊢
  unfold cost8
  rw [cost_own, hrl, sumTo8_map, hl]
  have e : List.range (2 * xss.length) = List.range xss.length ++ (List.range xss.length).map (xss.length + ·) := by
    rw [show 2 * xss.length = xss.length + xss.length by omega, List.range_add]
  rw [e, List.map_append, List.sum_append, List.map_map]
  have hp := (back_perm h1 (by omega) hp0.1).map Prod.fst
  rw [List.map_map, List.map_map] at hp
  have hq : ((List.range xss.length).map ((fun i => ps.getD i 0) ∘ (xss.length + ·))).sum = ((List.range xss.length).map fun i => ps.getD (xss.length + ownC qs i) 0).sum := by
    have := perm_sum (fun c => ps.getD (xss.length + c) 0) hp
    rw [List.map_map, List.map_map] at this
    exact this
  rw [hq, sum_add_map]
  exact congrArg List.sum (List.map_congr_left fun i hi => hpay i (List.mem_range.1 hi))

end Go.Proofs.YtellghhilcjbnaaDoor

/-
  THE PROGRAM's WAYS TO ONE COLUMN, told by the column they begin with, find the same price. Plain functions.
-/
namespace Go.Proofs.YtellghhilcjbnaaDoor
set_option linter.unusedVariables false
set_option linter.unusedSimpArgs false
open Go.RowKit

def updP (P : Nat → Option Int) (a : Nat) (v : Int) : Nat → Option Int := fun x => if x = a then some v else P x
/-- One step put ahead of the ways from its column. -/
def lenStep (xss : List (List Int)) (ps : List Int) (P : Nat → Option Int) (i j : Nat) : Nat → Option Int :=
  match P j with
  | none => P
  | some w => match P (ownC ps i) with
    | none => updP P (ownC ps i) (w + stepC xss ps i j)
    | some old => if w + stepC xss ps i j < old then updP P (ownC ps i) (w + stepC xss ps i j) else P
def lenJ (xss : List (List Int)) (ps : List Int) (i : Nat) (P : Nat → Option Int) : Nat → Nat → Option Int
  | 0 => P
  | j + 1 => lenStep xss ps (lenJ xss ps i P j) i j
def lenI (xss : List (List Int)) (ps : List Int) (P : Nat → Option Int) : Nat → Nat → Option Int
  | 0 => P
  | i + 1 => lenJ xss ps i (lenI xss ps P i) xss.length
def lenK (xss : List (List Int)) (ps : List Int) (t : Nat) : Nat → Nat → Option Int
  | 0 => updP (fun _ => none) t 0
  | k + 1 => lenI xss ps (lenK xss ps t k) xss.length
/-- A way from this column is held that costs at most so much. -/
def LeP (P : Nat → Option Int) (a : Nat) (v : Int) : Prop := ∃ w, P a = some w ∧ w ≤ v
theorem lenStep_le {xss : List (List Int)} {ps : List Int} {P : Nat → Option Int} {i j a : Nat} {v : Int} (h : LeP P a v) : LeP (lenStep xss ps P i j) a v := by
  obtain ⟨w, hw, hv⟩ := h
  unfold lenStep
  cases hj : P j with
  | none => exact ⟨w, hw, hv⟩
  | some x =>
    cases ho : P (ownC ps i) with
    | none =>
      refine ⟨w, ?_, hv⟩
      show (if a = ownC ps i then _ else P a) = _
      rw [if_neg (fun e => by rw [e, ho] at hw; cases hw)]
      exact hw
    | some old =>
      simp only
      split
      · rename_i hlt
        by_cases e : a = ownC ps i
        · rw [e, ho] at hw
          cases hw
          exact ⟨_, by show (if a = ownC ps i then some _ else P a) = _; rw [if_pos e], by omega⟩
        · exact ⟨w, by show (if a = ownC ps i then some _ else P a) = _; rw [if_neg e]; exact hw, hv⟩
      · exact ⟨w, hw, hv⟩
theorem lenStep_hit {xss : List (List Int)} {ps : List Int} {P : Nat → Option Int} {i j : Nat} {v : Int} (h : LeP P j v) : LeP (lenStep xss ps P i j) (ownC ps i) (v + stepC xss ps i j) := by
  obtain ⟨w, hw, hv⟩ := h
  unfold lenStep
  rw [hw]
  cases ho : P (ownC ps i) with
  | none => exact ⟨w + stepC xss ps i j, by show (if ownC ps i = ownC ps i then some _ else _) = _; rw [if_pos rfl], by omega⟩
  | some old =>
    simp only
    split
    · exact ⟨w + stepC xss ps i j, by show (if ownC ps i = ownC ps i then some _ else _) = _; rw [if_pos rfl], by omega⟩
    · exact ⟨old, ho, by omega⟩
theorem lenJ_le {xss : List (List Int)} {ps : List Int} {P : Nat → Option Int} {i a : Nat} {v : Int} (h : LeP P a v) : ∀ m, LeP (lenJ xss ps i P m) a v
  | 0 => h
  | m + 1 => lenStep_le (lenJ_le h m)
theorem lenJ_hit {xss : List (List Int)} {ps : List Int} {P : Nat → Option Int} {i j : Nat} {v : Int} (h : LeP P j v) : ∀ m : Nat, j < m → LeP (lenJ xss ps i P m) (ownC ps i) (v + stepC xss ps i j)
  | m + 1, hj => by
    by_cases e : j = m
    · subst e; exact lenStep_hit (lenJ_le h j)
    · exact lenStep_le (lenJ_hit h m (by omega))
theorem lenI_le {xss : List (List Int)} {ps : List Int} {P : Nat → Option Int} {a : Nat} {v : Int} (h : LeP P a v) : ∀ m, LeP (lenI xss ps P m) a v
  | 0 => h
  | m + 1 => lenJ_le (lenI_le h m) _
theorem lenI_hit {xss : List (List Int)} {ps : List Int} {P : Nat → Option Int} {i j : Nat} {v : Int} (hj : j < xss.length) (h : LeP P j v) : ∀ m : Nat, i < m → LeP (lenI xss ps P m) (ownC ps i) (v + stepC xss ps i j)
  | m + 1, hi => by
    by_cases e : i = m
    · subst e; exact lenJ_hit (lenI_le h i) _ hj
    · exact lenJ_le (lenI_hit hj h m (by omega)) _
theorem headC_lt {n : Nat} {ps : List Int} (hown : ∀ i, i < n → ownC ps i < n) {t : Nat} (ht : t < n) {l : List Nat} (hl : RowsIn n l) : headC ps t l < n := by
  cases l with
  | nil => exact ht
  | cons i l => exact hown i (hl i (by simp))
theorem lenK_le {xss : List (List Int)} {ps : List Int} (hown : ∀ i, i < xss.length → ownC ps i < xss.length) {t : Nat} (ht : t < xss.length) : ∀ (k : Nat) (l : List Nat), RowsIn xss.length l → l.length ≤ k → LeP (lenK xss ps t k) (headC ps t l) (wayC xss ps t l)
  | 0, l, _, hk => by
    obtain rfl : l = [] := List.length_eq_zero_iff.1 (by omega)
    exact ⟨0, by show (if t = t then some (0 : Int) else none) = _; rw [if_pos rfl], Int.le_refl _⟩
  | k + 1, [], hl, hk => lenI_le (lenK_le hown ht k [] hl (Nat.zero_le _)) _
  | k + 1, i :: l, hl, hk => by
    have hl' : RowsIn xss.length l := fun x hx => hl x (by simp [hx])
    have := lenI_hit (xss := xss) (ps := ps) (i := i) (headC_lt hown ht hl') (lenK_le hown ht k l hl' (by simpa using hk)) xss.length (hl i (by simp))
    show LeP _ (ownC ps i) (stepC xss ps i (headC ps t l) + wayC xss ps t l)
    rw [Int.add_comm]
    exact this
/-- What is held is the cost of a way that begins there. -/
def HoldsP (xss : List (List Int)) (ps : List Int) (t : Nat) (P : Nat → Option Int) : Prop := ∀ a w, P a = some w → ∃ l, RowsIn xss.length l ∧ headC ps t l = a ∧ wayC xss ps t l = w
theorem holds_step {xss : List (List Int)} {ps : List Int} {t : Nat} {P : Nat → Option Int} {i j : Nat} (hi : i < xss.length) (h : HoldsP xss ps t P) : HoldsP xss ps t (lenStep xss ps P i j) := by
  have new : ∀ w, P j = some w → HoldsP xss ps t (updP P (ownC ps i) (w + stepC xss ps i j)) := fun w hw a x hx => by
    unfold updP at hx
    split at hx
    · rename_i e
      cases hx
      obtain ⟨l, hl, hh, hc⟩ := h j w hw
      refine ⟨i :: l, fun y hy => ?_, e.symm, ?_⟩
      · rcases List.mem_cons.1 hy with rfl | hy
        · exact hi
        · exact hl y hy
      · show stepC xss ps i (headC ps t l) + wayC xss ps t l = _
        rw [hh, hc]; omega
    · exact h a x hx
  unfold lenStep
  cases hj : P j with
  | none => exact h
  | some w =>
    cases ho : P (ownC ps i) with
    | none => exact new w hj
    | some old =>
      simp only
      split
      · exact new w hj
      · exact h
theorem holds_lenJ {xss : List (List Int)} {ps : List Int} {t : Nat} {P : Nat → Option Int} {i : Nat} (hi : i < xss.length) (h : HoldsP xss ps t P) : ∀ m, HoldsP xss ps t (lenJ xss ps i P m)
  | 0 => h
  | m + 1 => holds_step hi (holds_lenJ hi h m)
theorem holds_lenI {xss : List (List Int)} {ps : List Int} {t : Nat} {P : Nat → Option Int} (h : HoldsP xss ps t P) : ∀ m, m ≤ xss.length → HoldsP xss ps t (lenI xss ps P m)
  | 0, _ => h
  | m + 1, hm => holds_lenJ (by omega) (holds_lenI h m (by omega)) _
theorem holds_lenK (xss : List (List Int)) (ps : List Int) (t : Nat) : ∀ k, HoldsP xss ps t (lenK xss ps t k)
  | 0 => fun a w hw => by
    have hw' : (if a = t then some (0 : Int) else none) = some w := hw
    split at hw'
    · rename_i e
      cases hw'
      exact ⟨[], fun x hx => by simp at hx, e.symm, rfl⟩
    · cases hw'
  | k + 1 => holds_lenI (holds_lenK xss ps t k) _ (Nat.le_refl _)
/-- The least of the ways held is the specification's price. -/
theorem ask_price {xss : List (List Int)} {ps : List Int} (h : LeastP xss ps) {t : Nat} (ht : t < xss.length) :
    (∀ a w, lenK xss ps t (xss.length - 1) a = some w → (relK xss ps xss.length).getD t 0 ≤ w) ∧ ∃ a, a < xss.length ∧ lenK xss ps t (xss.length - 1) a = some ((relK xss ps xss.length).getD t 0) := by
  have hown : ∀ i, i < xss.length → ownC ps i < xss.length := fun _ hi => own_lt h.1 hi
  have hall : ∀ a w, lenK xss ps t (xss.length - 1) a = some w → (relK xss ps xss.length).getD t 0 ≤ w := fun a w hw => by
    obtain ⟨l, hl, -, hc⟩ := holds_lenK xss ps t _ a w hw
    rw [← hc]
    exact price_way h ht hl
  refine ⟨hall, ?_⟩
  obtain ⟨l, hl, e⟩ := holds_relK (xss := xss) hown xss.length t ht
  obtain ⟨l', h1, h2, h3⟩ := ways_short h ht l.length l (Nat.le_refl _) hl
  obtain ⟨w, hw, hle⟩ := lenK_le hown ht (xss.length - 1) l' h1 (by omega)
  have := hall _ w hw
  refine ⟨headC ps t l', headC_lt hown ht h1, ?_⟩
  rw [hw]
  congr 1
  omega

end Go.Proofs.YtellghhilcjbnaaDoor

