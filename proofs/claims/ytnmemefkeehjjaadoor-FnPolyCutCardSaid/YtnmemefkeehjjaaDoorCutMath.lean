/-
  A CUT EDGE PUT BACK: plain functions, no walk.
-/
import Derived.Test.YtnmemefkeehjjaaDoorCut1
import Derived.Test.YtnmemefkeehjjaaDoorOfMath
namespace Go.Proofs.YtnmemefkeehjjaaDoor
set_option linter.unusedVariables false
set_option linter.unusedSimpArgs false
open Go.RowKit
set_option maxRecDepth 100000

theorem cutE_ne (f : Nat → Nat) {a b : Nat} (h : a ≠ b) : cutE f a b = upd (upd f a (f a &&& (255 - 2 ^ b))) b (f b &&& (255 - 2 ^ a)) := by
  unfold cutE; rw [upd_other f _ (Ne.symm h)]
theorem cutE_bit {f : Nat → Nat} {a b i j : Nat} (h : a ≠ b) (ha : a < 8) (hb : b < 8) (hj : j < 8) : (cutE f a b i).testBit j = ((f i).testBit j && !decide (i = a ∧ j = b) && !decide (i = b ∧ j = a)) := by
  rw [cutE_ne f h]
  have p : ∀ v, v < 8 → (255 - 2 ^ v).testBit j = !decide (v = j) := fun v hv => by
    have h2 : 2 ^ v < 256 := Nat.lt_of_lt_of_le (Nat.pow_lt_pow_right (by decide) hv) (by decide)
    rw [not_bit h2, Nat.testBit_two_pow]
    simp [hj]
  unfold upd
  by_cases h1 : i = b
  · subst h1
    have h3 : ¬ i = a := fun e => h e.symm
    rw [if_pos rfl, Nat.testBit_and, p a ha]
    by_cases h2 : a = j
    · subst h2; simp [h3]
    · have : ¬ j = a := fun e => h2 e.symm
      simp [h2, h3, this]
  · rw [if_neg h1]
    by_cases h2 : i = a
    · subst h2
      rw [if_pos rfl, Nat.testBit_and, p b hb]
      by_cases h3 : b = j
      · subst h3; simp
      · have : ¬ j = b := fun e => h3 e.symm
        simp [h1, h3, this]
    · rw [if_neg h2]; simp [h1, h2]
theorem linkTo_pre (l m : List (List Int)) : ∀ k, k ≤ l.length → linkTo (l ++ m) k = linkTo l k
  | 0, _ => rfl
  | k + 1, hk => by
    show lnk (linkTo (l ++ m) k) _ _ = lnk (linkTo l k) _ _
    rw [linkTo_pre l m k (by omega)]
    have : (l ++ m).getD k [] = l.getD k [] := by
      rw [List.getD_eq_getElem?_getD, List.getD_eq_getElem?_getD, List.getElem?_append_left (by omega)]
    rw [this]

theorem cut_back {xs : List Int} {a b : Int} (h : edgeB xs a b = true) : gIn (cutOf xs a b) = true ∧ (∀ x ∈ cutOf xs a b, I64 x) ∧ (edgesL (cutOf xs a b)).length ≤ 64 ∧
    ofOk (xs.length : Int) (edgesL (cutOf xs a b) ++ [[a, b]]) = true ∧ ofOf (xs.length : Int) (edgesL (cutOf xs a b) ++ [[a, b]]) = xs := by
  obtain ⟨hg, i, j, rfl, rfl, hi, hj⟩ := edge_parts h
  obtain ⟨h1, h8, hok⟩ := gIn_parts hg
  have hlt := gfun_lt h8 hok
  have hpw := gfun_pow hok
  have hbit : (gfun xs i).testBit j = true := by
    unfold edgeB nearB at h
    simp only [Bool.and_eq_true, Int.toNat_natCast] at h
    exact h.2.2.2
  have hij : i ≠ j := fun e => by
    subst e
    rw [gIn_irr hg ⟨i, by omega⟩] at hbit; cases hbit
  have hL : cutOf xs (i : Int) (j : Int) = glist xs.length (cutE (gfun xs) i j) := by unfold cutOf; rw [if_pos h]; simp
  obtain ⟨ys, hys⟩ : ∃ ys, cutOf xs (i : Int) (j : Int) = ys := ⟨_, rfl⟩
  rw [hys] at hL ⊢
  have hb8 := fun {p q : Nat} (hq : q < 8) => cutE_bit (f := gfun xs) (i := p) (j := q) hij (by omega) (by omega) hq
  have hsub : ∀ p, cutE (gfun xs) i j p < 2 ^ xs.length := fun p => by
    rw [cutE_ne _ hij]
    unfold upd
    split
    · exact Nat.lt_of_le_of_lt Nat.and_le_left (hpw _)
    · split
      · exact Nat.lt_of_le_of_lt Nat.and_le_left (hpw _)
      · exact hpw _
  have hgy : gIn ys = true := by
    rw [hL]
    refine gIn_glist h1 h8 (fun p _ => hsub p) (fun p hp => ?_) (fun p q hp hq hpq => ?_)
    · rw [hb8 (by omega), gIn_irr hg ⟨p, by omega⟩]; rfl
    · rw [hb8 (by omega)] at hpq ⊢
      simp only [Bool.and_eq_true, Bool.not_eq_true', decide_eq_false_iff_not] at hpq ⊢
      exact ⟨⟨gIn_both hg hpq.1.1, fun e => hpq.2 ⟨e.2, e.1⟩⟩, fun e => hpq.1.2 ⟨e.2, e.1⟩⟩
  have hly : ys.length = xs.length := by rw [hL, glist_len]
  obtain ⟨e1, e2⟩ := of_edges hgy
  rw [hly] at e1 e2
  have hIy : ∀ x ∈ ys, I64 x := by rw [hL]; exact i64_glist fun p _ => Nat.lt_of_lt_of_le (hsub p) (pow_le_256 h8)
  have hEl : (edgesL ys).length ≤ 64 := by
    unfold edgesL; rw [if_pos hgy]; unfold pairsOf; rw [List.length_map, hly]
    have := pairsTo_len (gfun ys) xs.length xs.length
    omega
  have hOk : ofOk (xs.length : Int) (edgesL ys ++ [[(i : Int), (j : Int)]]) = true := by
    unfold ofOk goodTo at e1 ⊢
    rw [Bool.and_eq_true, List.take_length] at e1 ⊢
    refine ⟨e1.1, ?_⟩
    rw [List.all_append, e1.2, Bool.true_and]
    unfold goodE
    simp
    omega
  refine ⟨hgy, hIy, hEl, hOk, ?_⟩
  have hgl : glist xs.length (linkTo (edgesL ys) (edgesL ys).length) = ys := by
    have := e2
    unfold ofOf at this
    rw [if_pos e1, Int.toNat_natCast] at this
    exact this
  unfold ofOf
  rw [if_pos hOk, Int.toNat_natCast, List.length_append, List.length_singleton]
  have hlk : linkTo (edgesL ys ++ [[(i : Int), (j : Int)]]) ((edgesL ys).length + 1) = lnk (linkTo (edgesL ys) (edgesL ys).length) i j := by
    rw [linkTo_succ (a := i) (b := j) (by simp) (by simp) (by simp), linkTo_pre _ _ _ (Nat.le_refl _)]
  rw [hlk]
  apply List.ext_getElem
  · rw [glist_len]
  · intro p hp hp2
    rw [glist_at, (row_value h8 hok hp2).1]
    congr 1
    apply Nat.eq_of_testBit_eq
    intro q
    rw [lnk_bit hij]
    have hpp : linkTo (edgesL ys) (edgesL ys).length p = cutE (gfun xs) i j p := by
      have a1 := gfun_glist (n := xs.length) (linkTo (edgesL ys) (edgesL ys).length) hp2
      rw [hgl] at a1
      have a2 : gfun ys p = cutE (gfun xs) i j p := by rw [hL]; exact gfun_glist _ hp2
      exact a1.symm.trans a2
    rw [hpp]
    by_cases hq : q < 8
    · rw [hb8 hq]
      by_cases c1 : p = i ∧ q = j
      · obtain ⟨rfl, rfl⟩ := c1; simp [hbit]
      · by_cases c2 : p = j ∧ q = i
        · obtain ⟨rfl, rfl⟩ := c2; simp [gIn_both hg hbit]
        · simp [c1, c2]
    · have z1 : (cutE (gfun xs) i j p).testBit q = false := Nat.testBit_lt_two_pow (Nat.lt_of_lt_of_le (hsub p) (Nat.pow_le_pow_right (by decide) (by omega)))
      have z2 : (gfun xs p).testBit q = false := Nat.testBit_lt_two_pow (Nat.lt_of_lt_of_le (hpw p) (Nat.pow_le_pow_right (by decide) (by omega)))
      have d1 : ¬ (p = i ∧ q = j) := by omega
      have d2 : ¬ (p = j ∧ q = i) := by omega
      rw [z1, z2]; simp [d1, d2]

end Go.Proofs.YtnmemefkeehjjaaDoor
