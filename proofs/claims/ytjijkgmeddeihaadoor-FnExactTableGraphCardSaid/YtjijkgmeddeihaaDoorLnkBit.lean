/-
  EDGES LINKED, bit by bit; plain functions, no walk.
-/
import Derived.Test.YtjijkgmeddeihaaDoorLinks
import Derived.Test.YtjijkgmeddeihaaDoorPairs
namespace Go.Proofs.YtjijkgmeddeihaaDoor
set_option linter.unusedVariables false
set_option linter.unusedSimpArgs false
open Go.RowKit
set_option maxRecDepth 100000

theorem lnk_bit {f : Nat → Nat} {a b i j : Nat} (h : a ≠ b) : (lnk f a b i).testBit j = ((f i).testBit j || decide (i = a ∧ j = b) || decide (i = b ∧ j = a)) := by
  rw [lnk_ne f h]
  unfold upd
  by_cases h1 : i = b
  · subst h1
    have : ¬ i = a := fun e => h e.symm
    rw [if_pos rfl, Nat.testBit_or, Nat.testBit_two_pow]
    by_cases h2 : a = j
    · subst h2; simp
    · have : ¬ j = a := fun e => h2 e.symm
      simp [h2, *]
  · rw [if_neg h1]
    by_cases h2 : i = a
    · subst h2
      rw [if_pos rfl, Nat.testBit_or, Nat.testBit_two_pow]
      by_cases h3 : b = j
      · subst h3; simp
      · have : ¬ j = b := fun e => h3 e.symm
        simp [h3, *]
    · rw [if_neg h2]; simp [h1, h2]

theorem pairs_hold {f : Nat → Nat} {n : Nat} {a b : Fin 8} (hab : a.val < b.val) (hb : b.val < n) (hbit : (f a.val).testBit b.val = true) : ∀ {k}, a.val < k → (a, b) ∈ pairsTo f n k
  | 0, h => by omega
  | k + 1, h => by
    by_cases hk : k < 8
    · rw [pairsTo_succ hk, List.mem_append]
      by_cases e : a.val = k
      · refine .inr (List.mem_map.2 ⟨b, ?_, ?_⟩)
        · unfold upTo
          rw [List.mem_filter, Bool.and_eq_true, decide_eq_true_eq, decide_eq_true_eq, mem_bitsOf, ← e]
          exact ⟨hbit, hab, hb⟩
        · exact Prod.ext (Fin.ext e.symm) rfl
      · exact .inl (pairs_hold hab hb hbit (by omega))
    · rw [pairsTo.eq_2, dif_neg hk]
      exact pairs_hold hab hb hbit (by have := a.isLt; omega)

end Go.Proofs.YtjijkgmeddeihaaDoor
