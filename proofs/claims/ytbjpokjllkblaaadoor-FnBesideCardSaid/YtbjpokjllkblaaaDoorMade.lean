/-
  LISTS MADE OF SETS ARE GRAPHS: plain functions, no walk.
-/
import Derived.Test.YtbjpokjllkblaaaDoorCore1
import Derived.Test.YtbjpokjllkblaaaDoorCore2
namespace Go.Proofs.YtbjpokjllkblaaaDoor
set_option linter.unusedVariables false
set_option linter.unusedSimpArgs false
open Go.RowKit

theorem gfun_glist {n i : Nat} (F : Nat → Nat) (hi : i < n) : gfun (glist n F) i = F i := by
  rw [gfun_at (by rw [glist_len]; exact hi), glist_at]; rfl
theorem gIn_glist {n : Nat} {F : Nat → Nat} (h1 : 1 ≤ n) (h8 : n ≤ 8) (hlt : ∀ i, i < n → F i < 2 ^ n) (hirr : ∀ i, i < n → (F i).testBit i = false)
    (hsym : ∀ i j, i < n → j < n → (F i).testBit j = true → (F j).testBit i = true) : gIn (glist n F) = true := by
  unfold gIn
  rw [glist_len, Bool.and_eq_true, Bool.and_eq_true, decide_eq_true_eq]
  refine ⟨⟨h1, h8⟩, ?_, ?_⟩
  · unfold okTo
    rw [List.all_eq_true]
    intro i hi
    have hi' := List.mem_range.1 hi
    unfold rowOk
    rw [gfun_glist F hi', hirr i hi', List.getElem?_eq_getElem (by rw [glist_len]; exact hi'), glist_at, glist_len]
    have := hlt i hi'
    simp only [Option.getD_some, Bool.not_false, Bool.and_true, decide_eq_true_eq]
    omega
  · unfold mutB
    rw [List.all_eq_true]
    intro i hi
    have hi' := List.mem_range.1 hi
    unfold mutRow
    rw [List.all_eq_true]
    intro b hb
    rw [gfun_glist F hi', mem_bitsOf] at hb
    have hbn : b.val < n := by
      rcases Nat.lt_or_ge b.val n with h | h
      · exact h
      · rw [Nat.testBit_lt_two_pow (Nat.lt_of_lt_of_le (hlt i hi') (Nat.pow_le_pow_right (by decide) h))] at hb; cases hb
    rw [gfun_glist F hbn]
    exact hsym i b.val hi' hbn hb
theorem i64_glist {n : Nat} {F : Nat → Nat} (h : ∀ i, i < n → F i < 256) : ∀ x ∈ glist n F, I64 x := by
  intro x hx
  unfold glist at hx
  obtain ⟨i, hi, rfl⟩ := List.mem_map.1 hx
  have := h i (List.mem_range.1 hi)
  unfold I64; omega

end Go.Proofs.YtbjpokjllkblaaaDoor
