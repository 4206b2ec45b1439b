/-
  WHAT A RANKING IS: a list that has each of n numbers once; places. Plain functions, no walk.
-/
import Derived.Test.YtfcbhcjgjbcjdaaDoorCore1
namespace Go.Proofs.YtfcbhcjgjbcjdaaDoor
set_option linter.unusedVariables false
set_option linter.unusedSimpArgs false
open Go.RowKit

/-- Whether a number is one of n. -/
def inR (n : Nat) (x : Int) : Bool := decide (0 ≤ x ∧ x ≤ (n : Int) - 1)
/-- The numbers that were seen, as a set. -/
def seenOf (xs : List Int) : Nat := xs.foldl (fun s x => s ||| 2 ^ x.toNat) 0
/-- As the specification asks it. -/
def rankB (n : Nat) (xs : List Int) : Bool := xs.all (inR n) && (decide (xs.length = n) && decide (seenOf xs = 2 ^ n - 1))
/-- As the program asks it. -/
def scanB : Nat → List Int → Bool
  | _, [] => true
  | left, x :: t => decide (0 ≤ x) && (left.testBit x.toNat && scanB (left &&& (255 - 2 ^ x.toNat)) t)

theorem seenOf_snoc (xs : List Int) (x : Int) : seenOf (xs ++ [x]) = seenOf xs ||| 2 ^ x.toNat := by simp [seenOf]
theorem seenOf_take (xs : List Int) (k : Nat) (h : k < xs.length) : seenOf (xs.take (k + 1)) = seenOf (xs.take k) ||| 2 ^ xs[k].toNat := by
  rw [List.take_succ_eq_append_getElem h, seenOf_snoc]
theorem seenOf_lt {n : Nat} (h8 : n ≤ 8) (xs : List Int) (h : ∀ x ∈ xs, inR n x = true) : seenOf xs < 2 ^ n := by
  have key : ∀ (l : List Int) (a : Nat), a < 2 ^ n → (∀ x ∈ l, inR n x = true) → l.foldl (fun s x => s ||| 2 ^ x.toNat) a < 2 ^ n := by
    intro l
    induction l with
    | nil => exact fun a ha _ => ha
    | cons x l ih =>
      intro a ha hl
      rw [List.foldl_cons]
      refine ih _ (Nat.or_lt_two_pow ha (Nat.pow_lt_pow_right (by decide) ?_)) (fun y hy => hl y (by simp [hy]))
      have := hl x (by simp)
      unfold inR at this
      rw [decide_eq_true_iff] at this
      omega
  exact key xs 0 (Nat.two_pow_pos n) h
theorem scanB_in : ∀ (xs : List Int) (left : Nat), scanB left xs = true → ∀ x ∈ xs, 0 ≤ x ∧ left.testBit x.toNat = true
  | [], _, _, x, hx => by cases hx
  | y :: t, left, h, x, hx => by
    unfold scanB at h
    rw [Bool.and_eq_true, Bool.and_eq_true, decide_eq_true_iff] at h
    rcases List.mem_cons.1 hx with rfl | hx
    · exact ⟨h.1, h.2.1⟩
    · have := scanB_in t _ h.2.2 x hx
      rw [Nat.testBit_and, Bool.and_eq_true] at this
      exact ⟨this.1, this.2.1⟩
theorem inR_of_bit {n : Nat} {x : Int} (h0 : 0 ≤ x) (h : (2 ^ n - 1).testBit x.toNat = true) : inR n x = true := by
  rw [Nat.testBit_two_pow_sub_one, decide_eq_true_iff] at h
  unfold inR
  rw [decide_eq_true_iff]
  omega
def fins {n : Nat} (l : List (Fin n)) : List Int := l.map (fun x => ((x.val : Nat) : Int))
theorem to_fins {n : Nat} : ∀ (xs : List Int), (∀ x ∈ xs, inR n x = true) → ∃ l : List (Fin n), l.length = xs.length ∧ fins l = xs
  | [], _ => ⟨[], rfl, rfl⟩
  | x :: t, h => by
    obtain ⟨l, hl, he⟩ := to_fins t (fun y hy => h y (by simp [hy]))
    have hx := h x (by simp)
    unfold inR at hx
    rw [decide_eq_true_iff] at hx
    refine ⟨⟨x.toNat, by omega⟩ :: l, by simp [hl], ?_⟩
    unfold fins at he ⊢
    rw [List.map_cons, he]
    congr 1
    simp only
    omega
theorem rank_1 : ∀ a : Fin 1, scanB 1 (fins [a]) = decide (seenOf (fins [a]) = 1) := by decide +kernel
theorem rank_2 : ∀ a b : Fin 2, scanB 3 (fins [a, b]) = decide (seenOf (fins [a, b]) = 3) := by decide +kernel
theorem rank_3 : ∀ a b c : Fin 3, scanB 7 (fins [a, b, c]) = decide (seenOf (fins [a, b, c]) = 7) := by decide +kernel
theorem rank_4 : ∀ a b c d : Fin 4, scanB 15 (fins [a, b, c, d]) = decide (seenOf (fins [a, b, c, d]) = 15) := by decide +kernel
theorem rank_5 : ∀ a b c d e : Fin 5, scanB 31 (fins [a, b, c, d, e]) = decide (seenOf (fins [a, b, c, d, e]) = 31) := by decide +kernel
theorem len1 {α : Type} {l : List α} (h : l.length = 1) : ∃ a, l = [a] := by
  match l, h with
  | [a], _ => exact ⟨a, rfl⟩
theorem len2 {α : Type} {l : List α} (h : l.length = 2) : ∃ a b, l = [a, b] := by
  match l, h with
  | [a, b], _ => exact ⟨a, b, rfl⟩
theorem len3 {α : Type} {l : List α} (h : l.length = 3) : ∃ a b c, l = [a, b, c] := by
  match l, h with
  | [a, b, c], _ => exact ⟨a, b, c, rfl⟩
theorem len4 {α : Type} {l : List α} (h : l.length = 4) : ∃ a b c d, l = [a, b, c, d] := by
  match l, h with
  | [a, b, c, d], _ => exact ⟨a, b, c, d, rfl⟩
theorem len5 {α : Type} {l : List α} (h : l.length = 5) : ∃ a b c d e, l = [a, b, c, d, e] := by
  match l, h with
  | [a, b, c, d, e], _ => exact ⟨a, b, c, d, e, rfl⟩
/-- Both ask the same. -/
theorem rank_scan {n : Nat} (h1 : 1 ≤ n) (h5 : n ≤ 5) (xs : List Int) : rankB n xs = (decide (xs.length = n) && scanB (2 ^ n - 1) xs) := by
  by_cases hl : xs.length = n
  · cases hall : xs.all (inR n) with
    | false =>
      unfold rankB
      rw [hall, Bool.false_and]
      cases hs : scanB (2 ^ n - 1) xs with
      | false => rw [Bool.and_false]
      | true =>
        exfalso
        have : xs.all (inR n) = true := List.all_eq_true.2 fun x hx => by
          have := scanB_in xs _ hs x hx
          exact inR_of_bit this.1 this.2
        rw [hall] at this; cases this
    | true =>
      obtain ⟨l, hll, rfl⟩ := to_fins xs (List.all_eq_true.1 hall)
      unfold rankB
      rw [hall, hl, decide_eq_true (rfl : n = n), Bool.true_and, Bool.true_and]
      rw [hl] at hll
      symm
      have hn : n = 1 ∨ n = 2 ∨ n = 3 ∨ n = 4 ∨ n = 5 := by omega
      rcases hn with rfl | rfl | rfl | rfl | rfl
      · obtain ⟨a, rfl⟩ := len1 hll; exact rank_1 a
      · obtain ⟨a, b, rfl⟩ := len2 hll; exact rank_2 a b
      · obtain ⟨a, b, c, rfl⟩ := len3 hll; exact rank_3 a b c
      · obtain ⟨a, b, c, d, rfl⟩ := len4 hll; exact rank_4 a b c d
      · obtain ⟨a, b, c, d, e, rfl⟩ := len5 hll; exact rank_5 a b c d e
  · unfold rankB
    rw [decide_eq_false hl, Bool.false_and, Bool.false_and, Bool.and_false]
theorem rank_parts {n : Nat} {xs : List Int} (h : rankB n xs = true) : xs.length = n ∧ (∀ x ∈ xs, 0 ≤ x ∧ x ≤ (n : Int) - 1) ∧ seenOf xs = 2 ^ n - 1 := by
  unfold rankB at h
  rw [Bool.and_eq_true, Bool.and_eq_true, decide_eq_true_iff, decide_eq_true_iff, List.all_eq_true] at h
  refine ⟨h.2.1, fun x hx => ?_, h.2.2⟩
  have := h.1 x hx
  unfold inR at this
  rw [decide_eq_true_iff] at this
  exact this

end Go.Proofs.YtfcbhcjgjbcjdaaDoor
