/-
  One number of one link: what is added where.
-/
import Derived.Test.YtcklinoiaiilgaaDoorCounter
namespace Go.Proofs.YtcklinoiaiilgaaDoor
set_option linter.unusedVariables false
set_option linter.unusedSimpArgs false
open Go.RowKit Go.Shelf

theorem size_wo_le_all : ∀ (s : Fin 256) (v : Fin 8), (bitsOf (wo s.val v.val)).length ≤ (bitsOf s.val).length := by decide +kernel
theorem size_wo_le {s : Nat} (hs : s < 256) (v : Fin 8) : (bitsOf (wo s v.val)).length ≤ (bitsOf s).length := size_wo_le_all ⟨s, hs⟩ v
theorem cnt_wo_le {s : Nat} (hs : s < 256) (v : Fin 8) : cnt (wo s v.val) ≤ cnt s := Nat.pow_le_pow_right (by decide) (size_wo_le hs v)
theorem prt_small {f : Nat → Nat} {s : Nat} (hs : s < 256) {pre : List (Fin 8)} (hp : pre.length ≤ 8) (x : Fin 8) (k i : Nat) : prt f s pre x k i ≤ 430467210 := by
  have hr : rst s < 256 := Nat.lt_of_le_of_lt (wo_le _ _) hs
  have h1 := nums_small (f := f) hr i
  have h2 : tied f s pre i ≤ 8 * 43046721 := by
    unfold tied
    split
    · simp
    · refine Nat.le_trans (sum_map_le (b := 43046721) ?_) (Nat.mul_le_mul_right _ hp)
      intro w _
      exact nums_small (Nat.lt_of_le_of_lt (wo_le _ _) hr) _
  have h3 := nums_small (f := f) (Nat.lt_of_le_of_lt (wo_le (rst s) x.val) hr) (i - 1)
  unfold prt
  split <;> omega
theorem wrap_small {a : Nat} (h : a < 4294967296) : IntKind.i64.wrap (a : Int) = (a : Int) ∧ wrap64 (a : Int) = (a : Int) := by
  constructor
  · rw [IntKind.wrap_i64]; omega
  · unfold wrap64; omega
theorem wrap_sum {p q r : Nat} (hp : p ≤ 430467210) (hq : q ≤ 43046721) (hr : p + q = r) : IntKind.i64.wrap ((p : Int) + (q : Int)) = (r : Int) ∧ wrap64 ((p : Int) + (q : Int)) = (r : Int) := by
  have hI : (p : Int) + (q : Int) = (r : Int) := by omega
  have hN : r < 4294967296 := by omega
  rw [hI]
  exact wrap_small hN

/-- What the walk wants to know of one number that is added. -/
structure StepFacts (f : Nat → Nat) (s : Nat) (pre : List (Fin 8)) (x : Fin 8) (k j t b : Nat) (wr : World) (p q r : Nat) : Prop where
  num : nums f t k = q
  w1 : IntKind.i64.wrap ((p : Int) + (q : Int)) = (r : Int)
  w2 : wrap64 ((p : Int) + (q : Int)) = (r : Int)
  q0 : ((q : Int) == 0) = false
  q1 : ¬ (q : Int) = 0
  j5 : (j : Int) < 5
  idx : ∀ W, (Instr.index 51 (.agg (ncells (nums f t))) (.int .i64 (k : Int))).run Tryd.prog W = .ok (.int .i64 (q : Int)) W
  cell : wr.cell? ⟨b, j, none⟩ = some (.int .i64 (p : Int))
  frozen : wr.frozen? ⟨b, j, none⟩ = false
  set : (ncells (prt f s pre x k)).setIfInBounds j (.int .i64 (r : Int)) = ncells (prt f s pre x j)

theorem step_facts {f : Nat → Nat} {s : Nat} (hs : s < 256) {pre : List (Fin 8)} (hpre8 : pre.length < 8) {x : Fin 8} {k j t b : Nat} {wr : World} (ht : wo (rst s) x.val = t) (ht8 : t < 256) (hj : k + 1 = j) (hk4 : k < 4) (hz : ¬ nums f t k = 0)
    (hg : wr.heap[b]? = some (.cells (ncells (prt f s pre x k)) 51 (0, 0))) : ∃ p q r : Nat, StepFacts f s pre x k j t b wr p q r := by
  have hj5 : j < 5 := by omega
  have hjI : (j : Int) < 5 := by omega
  have hk5 : k < 5 := by omega
  have hq0 : ¬ ((nums f t k : Nat) : Int) = 0 := by omega
  refine ⟨prt f s pre x k j, nums f t k, prt f s pre x k j + nums f t k, rfl, (wrap_sum (prt_small hs (Nat.le_of_lt hpre8) x k j) (nums_small ht8 k) rfl).1, (wrap_sum (prt_small hs (Nat.le_of_lt hpre8) x k j) (nums_small ht8 k) rfl).2, ?_, hq0, hjI, fun W => index_nums _ _ hk5 W, ?_, frozen_of_row wr b j _ _ hg, ?_⟩
  · rw [beq_eq_false_iff_ne]; exact hq0
  · rw [cell_of_row _ _ _ _ _ _ hg, ncells_at _ j hj5]
  · rw [ncells_set _ j _ hj5, ← hj, ← ht, prt_step]

end Go.Proofs.YtcklinoiaiilgaaDoor
