/-
  A GRAPH AND THE GRAPH OF THE OTHERS: plain functions, no walk.
-/
import Derived.Test.YtnmemefkeehjjabDoorGraphOther
import Derived.Test.YtnmemefkeehjjabDoorPart1
import Derived.Test.YtnmemefkeehjjabDoorPartsMath
import Derived.Test.YtnmemefkeehjjabDoorMade
import Derived.Test.YtnmemefkeehjjabDoorNum1
namespace Go.Proofs.YtnmemefkeehjjabDoor
set_option linter.unusedVariables false
set_option linter.unusedSimpArgs false
open Go.RowKit
set_option maxRecDepth 100000

theorem oth_bit {n i j : Nat} {f : Nat → Nat} (h8 : n ≤ 8) (hf : f i < 256) (hi : i < n) : (othOf n f i).testBit j = (decide (j < n) && (decide (j ≠ i) && !(f i).testBit j)) := by
  unfold othOf
  rw [if_pos hi, Nat.testBit_and, Nat.testBit_and, ones_bit, not_bit hf]
  have h2 : 2 ^ i < 256 := Nat.lt_of_lt_of_le (Nat.pow_lt_pow_right (by decide) (show i < 8 by omega)) (by decide)
  rw [not_bit h2, Nat.testBit_two_pow]
  by_cases h : j < n
  · have hj8 : j < 8 := by omega
    by_cases e : i = j
    · subst e; simp
    · have e2 : j ≠ i := fun h => e h.symm
      simp [h, hj8, e, e2]
  · simp [h]
theorem oth_lt {n i : Nat} {f : Nat → Nat} (hi : i < n) : othOf n f i < 2 ^ n := by
  unfold othOf
  rw [if_pos hi]
  have h1 := Nat.two_pow_pos n
  have h2 : ((2 ^ n - 1) &&& (255 - 2 ^ i)) &&& (255 - f i) ≤ 2 ^ n - 1 := Nat.le_trans Nat.and_le_left Nat.and_le_left
  omega

/-- What is known of the others. -/
theorem other_facts {xs : List Int} (hg : gIn xs = true) : gIn (otherOf xs) = true ∧ (otherOf xs).length = xs.length ∧ (∀ x ∈ otherOf xs, I64 x) ∧ otherOf (otherOf xs) = xs ∧
    (∀ i, i < xs.length → gfun (otherOf xs) i = othOf xs.length (gfun xs) i) := by
  obtain ⟨h1, h8, hok⟩ := gIn_parts hg
  have hlt := gfun_lt h8 hok
  have hpw := gfun_pow hok
  have hL : otherOf xs = glist xs.length (othOf xs.length (gfun xs)) := by unfold otherOf; rw [if_pos hg]
  have hG : gIn (otherOf xs) = true := by
    rw [hL]
    refine gIn_glist h1 h8 (fun i hi => oth_lt hi) (fun i hi => ?_) (fun i j hi hj hij => ?_)
    · rw [oth_bit h8 (hlt i) hi]; simp
    · rw [oth_bit h8 (hlt i) hi] at hij
      rw [oth_bit h8 (hlt j) hj]
      simp only [Bool.and_eq_true, decide_eq_true_eq, Bool.not_eq_true'] at hij ⊢
      refine ⟨hi, fun e => hij.2.1 e.symm, ?_⟩
      cases hb : (gfun xs j).testBit i with
      | false => rfl
      | true => rw [gIn_both hg hb] at hij; exact (Bool.noConfusion hij.2.2)
  have hf2 : ∀ i, i < xs.length → gfun (otherOf xs) i = othOf xs.length (gfun xs) i := fun i hi => by rw [hL]; exact gfun_glist _ hi
  have hl2 : (otherOf xs).length = xs.length := by rw [hL, glist_len]
  refine ⟨hG, hl2, by rw [hL]; exact i64_glist fun i hi => Nat.lt_of_lt_of_le (oth_lt hi) (pow_le_256 h8), ?_, hf2⟩
  have hL2 : otherOf (otherOf xs) = glist xs.length (othOf xs.length (gfun (otherOf xs))) := by
    show (if gIn (otherOf xs) = true then glist (otherOf xs).length (othOf (otherOf xs).length (gfun (otherOf xs))) else []) = _
    rw [if_pos hG, hl2]
  rw [hL2]
  apply List.ext_getElem
  · rw [glist_len]
  · intro i hi hi2
    rw [glist_at, (row_value h8 hok hi2).1]
    congr 1
    apply Nat.eq_of_testBit_eq
    intro j
    have ho8 : gfun (otherOf xs) i < 256 := by rw [hf2 i hi2]; exact Nat.lt_of_lt_of_le (oth_lt hi2) (pow_le_256 h8)
    rw [oth_bit h8 ho8 hi2, hf2 i hi2, oth_bit h8 (hlt i) hi2]
    cases hb : (gfun xs i).testBit j with
    | false =>
      by_cases c1 : j < xs.length
      · by_cases c2 : j = i <;> simp [c1, c2]
      · simp [c1]
    | true =>
      have c1 : j < xs.length := bit_lt_of_lt_pow (hpw i) hb
      have c2 : j ≠ i := fun e => by
        subst e
        have := gIn_irr hg ⟨j, by omega⟩
        rw [hb] at this; cases this
      simp [c1, c2]

theorem one_part {f : Nat → Nat} {n : Nat} (h : reach f n 0 = 2 ^ n - 1) : ∀ k, k + 1 ≤ n → (partsTo f n (k + 1)).1.length = 1 ∧ (partsTo f n (k + 1)).2 = 2 ^ n - 1
  | 0, _ => by
    rw [partsTo_new (by simp [partsTo])]
    simp [partsTo, h]
  | k + 1, hk => by
    obtain ⟨h1, h2⟩ := one_part h k (by omega)
    rw [partsTo_old (by rw [h2, ones_bit]; simp; omega)]
    exact ⟨h1, h2⟩

theorem reach_all {f : Nat → Nat} {n : Nat} (hf : ∀ i, f i < 2 ^ n) (hn : n ≤ 8) (h1 : 1 ≤ n) (h : ∀ j, j < n → (reach f n 0).testBit j = true) : reach f n 0 = 2 ^ n - 1 := by
  apply Nat.eq_of_testBit_eq
  intro j
  rw [ones_bit]
  by_cases hj : j < n
  · rw [h j hj, decide_eq_true hj]
  · rw [decide_eq_false hj]
    cases hb : (reach f n 0).testBit j with
    | false => rfl
    | true => exact (hj (bit_lt_of_lt_pow (reach_lt hf hn h1) hb)).elim

/-- One of both is in one part. -/
theorem one_linked {f F : Nat → Nat} {n : Nat} (hf : ∀ i, f i < 2 ^ n) (hF : ∀ i, F i < 2 ^ n) (hn : n ≤ 8) (h1 : 1 ≤ n) (hsy : SymF f)
    (hbit : ∀ i j, i < n → j < n → i ≠ j → (f i).testBit j = false → (F i).testBit j = true) : reach f n 0 = 2 ^ n - 1 ∨ reach F n 0 = 2 ^ n - 1 := by
  by_cases hall : ∀ j, j < n → (reach f n 0).testBit j = true
  · exact .inl (reach_all hf hn h1 hall)
  · right
    obtain ⟨w0, hw0⟩ := Classical.not_forall.1 hall
    obtain ⟨hw0n, hw0b⟩ := Classical.not_imp.1 hw0
    have hw0f : (reach f n 0).testBit w0 = false := by simpa using hw0b
    obtain ⟨ra, rb, rc, _⟩ := reach_is hf hn h1
    obtain ⟨Ra, Rb, Rc, _⟩ := reach_is hF hn h1
    have far : ∀ u w, u < n → w < n → (reach f n 0).testBit u = true → (reach f n 0).testBit w = false → (f u).testBit w = false := fun u w _ _ hu hw => by
      cases hb : (f u).testBit w with
      | false => rfl
      | true =>
        have := closed_at rc ra hu w hb
        rw [hw] at this; cases this
    have hout : ∀ w, w < n → (reach f n 0).testBit w = false → (reach F n 0).testBit w = true := fun w hw hwf => by
      refine closed_at Rc Ra Rb w (hbit 0 w (by omega) hw (fun e => ?_) (far 0 w (by omega) hw rb hwf))
      subst e
      rw [rb] at hwf; cases hwf
    refine reach_all hF hn h1 fun u hu => ?_
    cases hb : (reach f n 0).testBit u with
    | false => exact hout u hu hb
    | true =>
      refine closed_at Rc Ra (hout w0 hw0n hw0f) u (hbit w0 u hw0n hu (fun e => ?_) ?_)
      · subst e; rw [hb] at hw0f; cases hw0f
      · cases hc : (f w0).testBit u with
        | false => rfl
        | true =>
          have := far u w0 hu hw0n hb hw0f
          rw [hsy w0 u hc] at this; cases this

theorem one_part_of {xs : List Int} (hg : gIn xs = true) : (partsOf xs).length = 1 ∨ (partsOf (otherOf xs)).length = 1 := by
  obtain ⟨h1, h8, hok⟩ := gIn_parts hg
  obtain ⟨g2, l2, _, _, f2⟩ := other_facts hg
  obtain ⟨_, _, hok2⟩ := gIn_parts g2
  have hlt := gfun_lt h8 hok
  have hF := gfun_pow hok2
  rw [l2] at hF
  have e1 : (partsOf xs).length = (partsTo (gfun xs) xs.length xs.length).1.length := by unfold partsOf; rw [if_pos hg, List.length_map]
  have e2 : (partsOf (otherOf xs)).length = (partsTo (gfun (otherOf xs)) xs.length xs.length).1.length := by unfold partsOf; rw [if_pos g2, List.length_map, l2]
  obtain ⟨m, hm⟩ : ∃ m, xs.length = m + 1 := ⟨xs.length - 1, by omega⟩
  rcases one_linked (gfun_pow hok) hF h8 h1 (fun i j hij => gIn_both hg hij) (fun i j hi hj hne hb => by
      rw [f2 i hi, oth_bit h8 (hlt i) hi, hb]; simp [hj]; exact fun e => hne e.symm) with h | h
  · left
    rw [e1]
    have := (one_part h m (by omega)).1
    rwa [← hm] at this
  · right
    rw [e2]
    have := (one_part h m (by omega)).1
    rwa [← hm] at this

end Go.Proofs.YtnmemefkeehjjabDoor
