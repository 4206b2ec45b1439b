/-
  spec.l2Greatest, MatchNumbers, MatchGreatest, MatchAll: what they hand back.
-/
import Derived.Test.YtbbnagkbbhbbgaaDoorAllSum
import Derived.Test.YtbbnagkbbhbbgaaDoorSpecNums
import Derived.Test.YtbbnagkbbhbbgaaDoorImplNums
namespace Go.Proofs.YtbbnagkbbhbbgaaDoor
set_option linter.unusedVariables false
set_option linter.unusedSimpArgs false
open Go.RowKit

theorem wrap_low {n : Nat} (hn : n < 9) : IntKind.i64.wrap (IntKind.i64.wrap (2 ^ n) - 1) = ((2 ^ n - 1 : Nat) : Int) := by
  rw [wrap_eq, wrap_eq]; exact low_wrap hn


set_option maxRecDepth 100000 in
set_option maxHeartbeats 1000000 in
theorem specNumbers_any (w : World) (v : Value) (xs : List Int) (h : Ints w v xs) :
    Calls Tryd.prog 4 #[v] w (GivesInts w (gIn xs) (numsOf xs)) := by
  have hs := specIn_any w v xs h
  cases hg : gIn xs with
  | false =>
    have ho : numsOf xs = [] := by simp [numsOf, hg]
    rw [hg] at hs
    rw [ho]
    have HS := Lib.hid hs
    obtain ⟨A, cap, rfl, hm, _⟩ := h
    clear hs hg ho
    go_enter Tryd.func4, Tryd.ntmps4
    go_wp2_with (go_at_call 10; refine HS.out.mono ?_; rintro e w1 ⟨rfl, q, rfl⟩)
    go_ret2
    exact ⟨_, rfl, below_drewN ((Below.refl _ _).alloc (Nat.le_refl _) _) q, owns_empty w _ (Nat.le_refl _)⟩
  | true =>
    obtain ⟨h1, h8, hok⟩ := gIn_parts hg
    have ho : numsOf xs = numL (gfun xs) (2 ^ xs.length - 1) := by simp [numsOf, hg]
    have hpos := Nat.two_pow_pos xs.length
    have HC := Lib.hid (l2N_any xs hg (2 ^ xs.length - 1) (2 ^ xs.length - 1) (Nat.le_refl _) (by omega))
    rw [hg] at hs
    rw [ho]
    have HS := Lib.hid hs
    have HV := Lib.hid h
    obtain ⟨A, cap, rfl, hm, _⟩ := h
    have hlw := wrap_low (n := xs.length) (by omega)
    have hlw2 := low_wrap (v := xs.length) (by omega)
    have hl8 : (xs.length : Int) ≤ 8 := by omega
    clear hs hg ho hok
    go_enter Tryd.func4, Tryd.ntmps4
    go_wp2_with (first
      | (go_at_call 10; refine HS.out.mono ?_; rintro e w1 ⟨rfl, q, rfl⟩)
      | (go_at_call 11; refine (HC.out _ _ (HV.out.drewN q)).mono ?_; rintro e w2 ⟨g, c, rfl, hb2, ho2⟩))
    go_ret2
    exact ⟨_, rfl, step_below (below_drewN (Below.refl _ _) q) hb2, ho2⟩



/-- Their sum. -/

theorem sumTake_succ (p : List Int) (k : Nat) (h : k < p.length) : (p.take (k + 1)).sum = (p.take k).sum + p[k] := by
  rw [List.take_succ_eq_append_getElem h, List.sum_append]; simp
theorem sum_small {p : List Int} (hp : within 1000000000000 p = true) (hl : p.length ≤ 8) (k : Nat) : -9000000000000 ≤ (p.take k).sum ∧ (p.take k).sum ≤ 9000000000000 := by
  have : ∀ j : Nat, j ≤ 8 → -((j : Int) * 1000000000000) ≤ (p.take j).sum ∧ (p.take j).sum ≤ (j : Int) * 1000000000000 := by
    intro j
    induction j with
    | zero => intro _; simp
    | succ j ih =>
      intro hj
      have h1 := ih (by omega)
      by_cases hlt : j < p.length
      · have h2 := within_at hp hlt
        rw [sumTake_succ p j hlt]
        push_cast
        omega
      · rw [List.take_of_length_le (by omega)] at h1 ⊢
        push_cast
        omega
  have hk : p.take k = p.take (min k 8) := by
    rcases Nat.le_total k 8 with h | h
    · rw [Nat.min_eq_left h]
    · rw [Nat.min_eq_right h, List.take_of_length_le (by omega), List.take_of_length_le hl]
  rw [hk]
  have := this (min k 8 : Nat) (Nat.min_le_right _ _)
  have h8 := Nat.min_le_right k 8
  omega
theorem numsOf_within (xs : List Int) : within 1000000000000 (numsOf xs) = true ∧ (numsOf xs).length ≤ 5 := by
  unfold numsOf
  split
  · rename_i hg
    obtain ⟨h1, h8, hok⟩ := gIn_parts hg
    refine ⟨within_of_co fun i => ?_, numL_len _ _⟩
    rw [co_numL (all256 h8)]
    have := nums_small (f := gfun xs) (all256 h8) i
    omega
  · exact ⟨rfl, by simp⟩


end Go.Proofs.YtbbnagkbbhbbgaaDoor
