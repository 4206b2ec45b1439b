/-
  THE EDGES OF A GRAPH IN ORDER: plain functions, no walk.
-/
import Derived.Test.YtjijkgmeddeihaaDoorTz
namespace Go.Proofs.YtjijkgmeddeihaaDoor
set_option linter.unusedVariables false
set_option linter.unusedSimpArgs false
open Go.RowKit

/-- The neighbours of a node that are greater, as far as node k. -/
def upTo (m a k : Nat) : List (Fin 8) := (bitsOf m).filter fun x => decide (a < x.val) && decide (x.val < k)
theorem upTo_all : ∀ (m : Fin 256) (a : Fin 8) (k : Fin 8), upTo m.val a.val (k.val + 1) = if a.val < k.val ∧ m.val.testBit k.val = true then upTo m.val a.val k.val ++ [k] else upTo m.val a.val k.val := by decide +kernel
theorem upTo_yes {m a k : Nat} (hm : m < 256) (ha : a < k) (hk : k < 8) (h : m.testBit k = true) : upTo m a (k + 1) = upTo m a k ++ [⟨k, hk⟩] := by
  have := upTo_all ⟨m, hm⟩ ⟨a, by omega⟩ ⟨k, hk⟩
  simp only at this
  rw [this, if_pos ⟨ha, h⟩]
theorem upTo_no {m a k : Nat} (hm : m < 256) (ha : a < 8) (hk : k < 8) (h : m.testBit k = false) : upTo m a (k + 1) = upTo m a k := by
  have := upTo_all ⟨m, hm⟩ ⟨a, ha⟩ ⟨k, hk⟩
  simp only at this
  rw [this, h]; simp
theorem upTo_start (m a : Nat) : upTo m a (a + 1) = [] := by
  unfold upTo
  rw [List.filter_eq_nil_iff]
  intro x _
  simp
  omega
/-- The edges whose first node is below k. -/
def pairsTo (f : Nat → Nat) (n : Nat) : Nat → List (Fin 8 × Fin 8)
  | 0 => []
  | k + 1 => if h : k < 8 then pairsTo f n k ++ (upTo (f k) k n).map (fun b => (⟨k, h⟩, b)) else pairsTo f n k
theorem pairsTo_succ {f : Nat → Nat} {n k : Nat} (h : k < 8) : pairsTo f n (k + 1) = pairsTo f n k ++ (upTo (f k) k n).map (fun b => (⟨k, h⟩, b)) := by
  rw [pairsTo.eq_2, dif_pos h]
/-- Where all are nodes, all that are greater. -/
theorem upTo_full {m a n : Nat} (hm : m < 2 ^ n) : upTo m a n = (bitsOf m).filter fun x => decide (a < x.val) := by
  unfold upTo
  apply List.filter_congr
  intro x hx
  have hb := mem_bitsOf.1 hx
  have : x.val < n := by
    rcases Nat.lt_or_ge x.val n with h' | h'
    · exact h'
    · have : m.testBit x.val = false := Nat.testBit_lt_two_pow (Nat.lt_of_lt_of_le hm (Nat.pow_le_pow_right (by decide) h'))
      rw [this] at hb; cases hb
  simp [this]
theorem upTo_len (m a k : Nat) : (upTo m a k).length ≤ 8 := by
  unfold upTo bitsOf
  refine Nat.le_trans (List.length_filter_le _ _) (Nat.le_trans (List.length_filter_le _ _) ?_)
  simp
theorem pairsTo_len (f : Nat → Nat) (n : Nat) : ∀ k, (pairsTo f n k).length ≤ 8 * k
  | 0 => by simp [pairsTo]
  | k + 1 => by
    have ih := pairsTo_len f n k
    have := upTo_len (f k) k n
    rw [pairsTo.eq_2]
    split
    · simp; omega
    · omega
theorem pairsTo_mem {f : Nat → Nat} {n : Nat} {e : Fin 8 × Fin 8} : ∀ {k}, e ∈ pairsTo f n k → e.1.val < k ∧ e.1.val < e.2.val ∧ e.2.val < n ∧ (f e.1.val).testBit e.2.val = true
  | 0, h => by simp [pairsTo] at h
  | k + 1, h => by
    by_cases hk : k < 8
    · rw [pairsTo_succ hk, List.mem_append] at h
      rcases h with h | h
      · have := pairsTo_mem h
        exact ⟨by omega, this.2⟩
      · obtain ⟨b, hb, rfl⟩ := List.mem_map.1 h
        unfold upTo at hb
        rw [List.mem_filter, Bool.and_eq_true, decide_eq_true_eq, decide_eq_true_eq] at hb
        exact ⟨by simp, hb.2.1, hb.2.2, mem_bitsOf.1 hb.1⟩
    · rw [pairsTo.eq_2, dif_neg hk] at h
      have := pairsTo_mem h
      exact ⟨by omega, this.2⟩
/-- An edge as a list. -/
def pairL (e : Fin 8 × Fin 8) : List Int := [(e.1.val : Int), (e.2.val : Int)]
/-- All edges, in order. -/
def pairsOf (f : Nat → Nat) (n : Nat) : List (List Int) := (pairsTo f n n).map pairL

end Go.Proofs.YtjijkgmeddeihaaDoor
