/-
  slices.Index, slices.Contains on an order.
-/
import Derived.Test.YtjhjfopokiaiiaaOrder
namespace Go.Proofs.Ytjhjfopokiaiiaa
set_option linter.unusedVariables false
set_option linter.unusedSimpArgs false
open Go.RowKit

def GivesIx (w : World) (xs : List Int) (x : Int) (e : Ending) (w' : World) : Prop := ∃ r : Int, e = .returned (.int .i64 r) ∧ decide (0 ≤ r) = xs.contains x ∧ w' = w

set_option maxRecDepth 100000 in
set_option maxHeartbeats 1000000 in
theorem index_any (w : World) (v : Value) (xs : List Int) (x : Int) (h : Ints w v xs) :
    Calls Try.prog 68 #[v, .int .i64 x] w (GivesIx w xs x) := by
  obtain ⟨A, cap, rfl, hm, hc⟩ := h
  have HC := Lib.hid hc
  clear hc
  unfold maxLen at hm
  go_enter Try.func68, Try.ntmps68
  go_wp2
  go_loopw [8] (fun i wr => ∃ k : Nat, k ≤ xs.length ∧ i = .int .i64 k ∧ (∀ j (hj : j < xs.length), j < k → xs[j] ≠ x) ∧ wr = w) (fun i _ => xs.length - (intOf i).toNat)
  case atStart => exact ⟨0, by omega, rfl, fun j hj h => by omega, rfl⟩
  case round =>
    obtain ⟨k, hk, rfl, hno, hwr⟩ := hrel
    have hwr2 := hwr.symm
    clear hwr
    subst hwr2
    have HNO := Lib.hid hno
    clear hno
    by_cases hlt : k < xs.length
    · obtain ⟨b, off, rfl, hcell⟩ := HC.out k hlt
      obtain ⟨y, hy⟩ : ∃ y, xs[k] = y := ⟨_, rfl⟩
      rw [hy] at hcell
      have hki : (k : Int) < (xs.length : Int) := by omega
      have hk0 : (0 : Int) ≤ (k : Int) := by omega
      by_cases he : x = y
      · subst he
        have HCO : Hid (xs.contains x = true) := Lib.hid (by rw [List.contains_iff_mem, ← hy]; exact List.getElem_mem _)
        clear hy
        go_wp2
        go_ret
        exact ⟨_, rfl, by rw [HCO.out]; simp, rfl⟩
      · have hne : (x == y) = false := by simp [he]
        have HY := Lib.hid hy
        clear hy
        go_wp2
        go_roundw
        case rel =>
          refine ⟨k + 1, by omega, by go_num, fun j hj hjk => ?_, trivial⟩
          by_cases e : j = k
          · subst e; rw [HY.out]; exact fun e2 => he e2.symm
          · exact HNO.out j hj (by omega)
        case measure => simp [intOf]; omega
    · obtain rfl : k = xs.length := by omega
      have HCO : Hid (xs.contains x = false) := Lib.hid (by
        rw [← Bool.not_eq_true, List.contains_iff_mem]
        intro hmem
        obtain ⟨j, hj, he⟩ := List.getElem_of_mem hmem
        exact HNO.out j hj (by omega) he)
      go_wp2
      go_ret
      exact ⟨-1, rfl, by rw [HCO.out]; rfl, rfl⟩

set_option maxRecDepth 100000 in
set_option maxHeartbeats 400000 in
theorem contains_any (w : World) (v : Value) (xs : List Int) (x : Int) (h : Ints w v xs) :
    Calls Try.prog 58 #[v, .int .i64 x] w fun e w' => e = .returned (.bool (xs.contains x)) ∧ w = w' := by
  have HI := Lib.hid (index_any w v xs x h)
  clear h
  go_enter Try.func58, Try.ntmps58
  go_wp2_with (refine HI.out.mono ?_; rintro e w1 ⟨r, rfl, hr, rfl⟩)
  try (refine HI.out.mono ?_; rintro e w1 ⟨r, rfl, hr, rfl⟩; go_wp2)
  go_ret
  exact ⟨ret_bool (by first | exact hr | simp), rfl⟩

end Go.Proofs.Ytjhjfopokiaiiaa
