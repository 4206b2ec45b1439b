/-
  ASKING ENDS: at most n * n rounds; whoever runs the rounds till nobody is free has the same list; it is a ranking; the pairing is stable.
-/
import Derived.Test.YtjhjfopokiaiiaaSettleL
namespace Go.Proofs.Ytjhjfopokiaiiaa
set_option linter.unusedVariables false
set_option linter.unusedSimpArgs false

theorem sum_set : ∀ (xs : List Int) (i : Nat) (v : Int), i < xs.length → (xs.set i v).sum = xs.sum - xs.getD i 0 + v
  | [], i, v, h => absurd h (Nat.not_lt_zero _)
  | x :: t, 0, v, _ => by simp; omega
  | x :: t, i + 1, v, h => by
    have := sum_set t i v (by simpa using h)
    simp [List.getD] at this ⊢
    omega
theorem sum_bound (n : Nat) : ∀ (xs : List Int), (∀ x ∈ xs, x ≤ (n : Int)) → xs.sum ≤ (xs.length : Int) * n
  | [], _ => by simp
  | x :: t, h => by
    have h0 := h x (by simp)
    have ht := sum_bound n t (fun y hy => h y (by simp [hy]))
    rw [List.sum_cons, List.length_cons, Int.natCast_succ, Int.add_mul]
    omega
theorem step_free {ls rs : List (List Int)} {n : Nat} {st : List Int × List Int} {i : Nat} (h : firstFree n st.2 = some i) : stepL ls rs n st = askStep ls rs i st := by unfold stepL; rw [h]
theorem step_none {ls rs : List (List Int)} {n : Nat} {st : List Int × List Int} (h : firstFree n st.2 = none) : stepL ls rs n st = st := by unfold stepL; rw [h]
theorem free_some {n i : Nat} {ks : List Int} (h : firstFree n ks = some i) : i < n ∧ freeB ks i = true := by
  unfold firstFree at h
  exact ⟨List.mem_range.1 (List.mem_of_find?_eq_some h), List.find?_some h⟩
theorem free_none {n : Nat} {ks : List Int} (h : firstFree n ks = none) (i : Nat) (hi : i < n) : (i : Int) ∈ ks := by
  unfold firstFree at h
  have := List.find?_eq_none.1 h i (List.mem_range.2 hi)
  unfold freeB at this
  rw [Bool.not_eq_true', Bool.not_eq_false] at this
  exact List.contains_iff_mem.1 this
/-- The first who is free: the walk's loop found it. -/
theorem free_first {n i : Nat} {ks : List Int} (hi : i < n) (h : freeB ks i = true) (hno : ∀ j, j < i → freeB ks j = false) : firstFree n ks = some i := by
  cases hf : firstFree n ks with
  | none =>
    have := free_none hf i hi
    unfold freeB at h
    rw [List.contains_iff_mem.2 this] at h
    cases h
  | some j =>
    obtain ⟨hj, hjf⟩ := free_some hf
    unfold firstFree at hf
    rcases Nat.lt_trichotomy i j with hlt | rfl | hgt
    · rw [List.find?_range_eq_some] at hf
      have := hf.2.2 i hlt
      rw [h] at this
      cases this
    · rfl
    · rw [hno j hgt] at hjf
      cases hjf
theorem free_no {n : Nat} {ks : List Int} (hno : ∀ j, j < n → freeB ks j = false) : firstFree n ks = none := by
  cases hf : firstFree n ks with
  | none => rfl
  | some j =>
    obtain ⟨hj, hjf⟩ := free_some hf
    rw [hno j hj] at hjf
    cases hjf

/-- What the loops keep: t rounds were run, each asked once. -/
structure Runs (ls rs : List (List Int)) (n t : Nat) (st : List Int × List Int) : Prop where
  eq : st = runL ls rs n t
  sum : st.1.sum = t
  gs : GsSt ls rs n st
theorem runs_start (ls rs : List (List Int)) (n : Nat) : Runs ls rs n 0 (List.replicate n 0, List.replicate n (-1)) :=
  ⟨rfl, by simp, gs_start ls rs n⟩
theorem runs_step {ls rs : List (List Int)} {n t : Nat} {st : List Int × List Int} (hr : Ranks n (wishL ls) (placeL ls)) (h : Runs ls rs n t st) {i : Nat} (hf : firstFree n st.2 = some i) : Runs ls rs n (t + 1) (askStep ls rs i st) := by
  obtain ⟨hi, hfr⟩ := free_some hf
  refine ⟨?_, ?_, (gs_step hr h.gs hi hfr).2.2⟩
  · show _ = stepL ls rs n (runL ls rs n t)
    rw [← h.eq, step_free hf]
  · show (st.1.set i (st.1.getD i 0 + 1)).sum = _
    rw [sum_set _ _ _ (by rw [h.gs.len1]; exact hi), h.sum]
    omega
theorem runs_bound {ls rs : List (List Int)} {n t : Nat} {st : List Int × List Int} (h : Runs ls rs n t st) : t ≤ n * n := by
  have hb := sum_bound n st.1 (fun x hx => by
    obtain ⟨i, hi, he⟩ := List.getElem_of_mem hx
    have hn := h.gs.nn i
    have := h.gs.asked.bound i (by rw [← h.gs.len1]; exact hi)
    unfold askF at this
    have hg : st.1.getD i 0 = x := by simp [List.getD, hi, he]
    rw [hg] at this hn
    omega)
  rw [h.sum, h.gs.len1] at hb
  have : ((n * n : Nat) : Int) = (n : Int) * n := by simp
  omega
/-- One round more is one within the bound. -/
theorem runs_more {ls rs : List (List Int)} {n t : Nat} {st : List Int × List Int} (hr : Ranks n (wishL ls) (placeL ls)) (h : Runs ls rs n t st) {i : Nat} (hf : firstFree n st.2 = some i) : t + 1 ≤ n * n := runs_bound (runs_step hr h hf)

/-- Whom each keeper has in the end. -/
def settledK (ls rs : List (List Int)) (n : Nat) : List Int := (runL ls rs n (n * n)).2
theorem run_stuck {ls rs : List (List Int)} {n t : Nat} (h : firstFree n (runL ls rs n t).2 = none) : ∀ d, runL ls rs n (t + d) = runL ls rs n t
  | 0 => rfl
  | d + 1 => by
    have ih := run_stuck h d
    show stepL ls rs n (runL ls rs n (t + d)) = _
    rw [ih, step_none h]
theorem runs_end {ls rs : List (List Int)} {n t : Nat} {st : List Int × List Int} (h : Runs ls rs n t st) (hf : firstFree n st.2 = none) : st.2 = settledK ls rs n := by
  have hb := runs_bound h
  have hs := run_stuck (ls := ls) (rs := rs) (n := n) (t := t) (by rw [← h.eq]; exact hf) (n * n - t)
  rw [show t + (n * n - t) = n * n by omega] at hs
  unfold settledK
  rw [hs, ← h.eq]

theorem seen_fold (xs : List Int) (s j : Nat) : (xs.foldl (fun s x => s ||| 2 ^ x.toNat) s).testBit j = (s.testBit j || xs.any (fun x => decide (x.toNat = j))) := by
  induction xs generalizing s with
  | nil => simp
  | cons x t ih =>
    rw [List.foldl_cons, ih, Nat.testBit_or, Nat.testBit_two_pow, List.any_cons, Bool.or_assoc]
theorem rank_of_all {n : Nat} {xs : List Int} (hl : xs.length = n) (hin : ∀ x ∈ xs, 0 ≤ x ∧ x ≤ (n : Int) - 1) (hall : ∀ i, i < n → (i : Int) ∈ xs) : rankB n xs = true := by
  unfold rankB
  rw [Bool.and_eq_true, Bool.and_eq_true, decide_eq_true_iff, decide_eq_true_iff, List.all_eq_true]
  refine ⟨fun x hx => by unfold inR; exact decide_eq_true (hin x hx), hl, ?_⟩
  refine Nat.eq_of_testBit_eq fun j => ?_
  unfold seenOf
  rw [seen_fold, Nat.testBit_two_pow_sub_one]
  by_cases hj : j < n
  · rw [decide_eq_true hj]
    have : xs.any (fun x => decide (x.toNat = j)) = true := List.any_eq_true.2 ⟨(j : Int), hall j hj, by simp⟩
    rw [this]; simp
  · rw [decide_eq_false hj]
    have : xs.any (fun x => decide (x.toNat = j)) = false := by
      rw [Bool.eq_false_iff]
      intro h
      obtain ⟨x, hx, he⟩ := List.any_eq_true.1 h
      have := hin x hx
      have := of_decide_eq_true he
      omega
    rw [this]; simp
/-- Nobody free: nobody without. -/
theorem stuck_rank {ls rs : List (List Int)} {n : Nat} {st : List Int × List Int} (h : GsSt ls rs n st) (hf : firstFree n st.2 = none) : rankB n st.2 = true := by
  have hall := fun i hi => free_none hf i hi
  refine rank_of_all h.len2 (fun x hx => ?_) hall
  obtain ⟨k, hk, he⟩ := List.getElem_of_mem hx
  have hrg := h.rng k
  have hg : st.2.getD k (-1) = x := by simp [List.getD, hk, he]
  rw [hg] at hrg
  refine ⟨Int.not_lt.1 fun hneg => ?_, by omega⟩
  have hkn : k < n := by rw [← h.len2]; exact hk
  have pl : ∀ i, i < n → st.2[place st.2 (i : Int)]? = some (i : Int) ∧ place st.2 (i : Int) < n := fun i hi => by
    have hp := place_get st.2 (i : Int) (hall i hi)
    have := (List.getElem?_eq_some_iff.1 hp).1
    exact ⟨hp, by rw [← h.len2]; exact this⟩
  obtain ⟨a, b, hab, hb, hfe⟩ := pigeon n (fun i => if i < n then place st.2 (i : Int) else k) (fun i _ => by
    show (if i < n then place st.2 ((i : Nat) : Int) else k) < n
    split
    · exact (pl i (by assumption)).2
    · exact hkn)
  have han : a < n := by omega
  have hfe' : (if a < n then place st.2 ((a : Nat) : Int) else k) = (if b < n then place st.2 ((b : Nat) : Int) else k) := hfe
  rw [if_pos han] at hfe'
  have ga := (pl a han).1
  by_cases hbn : b < n
  · rw [if_pos hbn] at hfe'
    have gb := (pl b hbn).1
    rw [hfe', gb] at ga
    have : (b : Int) = (a : Int) := by simpa using ga
    omega
  · rw [if_neg hbn] at hfe'
    rw [hfe', List.getElem?_eq_getElem hk, he] at ga
    have : x = (a : Int) := by simpa using ga
    omega

end Go.Proofs.Ytjhjfopokiaiiaa
