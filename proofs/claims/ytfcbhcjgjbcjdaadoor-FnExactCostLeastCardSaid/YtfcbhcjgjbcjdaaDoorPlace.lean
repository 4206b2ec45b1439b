/-
  PLACES IN RANKINGS, and what turned rankings say of them: plain functions, no walk.
-/
import Derived.Test.YtfcbhcjgjbcjdaaDoorOrder
namespace Go.Proofs.YtfcbhcjgjbcjdaaDoor
set_option linter.unusedVariables false
set_option linter.unusedSimpArgs false
open Go.RowKit

/-- Where a member stands in a list, its length where it doesn't. -/
def place : List Int → Int → Nat
  | [], _ => 0
  | x :: t, c => if x = c then 0 else place t c + 1
theorem place_le : ∀ (xs : List Int) (c : Int), place xs c ≤ xs.length
  | [], _ => Nat.le_refl _
  | x :: t, c => by
    have := place_le t c
    unfold place
    split
    · exact Nat.zero_le _
    · rw [List.length_cons]; omega
def turnB (n : Nat) (l : List Int) : Bool :=
  decide (backOf l = (List.range n).map (fun (c : Nat) => ((place l (c : Int) : Nat) : Int))) &&
    ((List.range n).map (fun k => (k, ((backOf l).getD k 0).toNat))).isPerm ((List.range n).map (fun i => ((l.getD i 0).toNat, i)))
theorem turn_1 : ∀ a : Fin 1, scanB 1 (fins [a]) = true → turnB 1 (fins [a]) = true := by decide +kernel
theorem turn_2 : ∀ a b : Fin 2, scanB 3 (fins [a, b]) = true → turnB 2 (fins [a, b]) = true := by decide +kernel
theorem turn_3 : ∀ a b c : Fin 3, scanB 7 (fins [a, b, c]) = true → turnB 3 (fins [a, b, c]) = true := by decide +kernel
theorem turn_4 : ∀ a b c d : Fin 4, scanB 15 (fins [a, b, c, d]) = true → turnB 4 (fins [a, b, c, d]) = true := by decide +kernel
theorem turn_5 : ∀ a b c d e : Fin 5, scanB 31 (fins [a, b, c, d, e]) = true → turnB 5 (fins [a, b, c, d, e]) = true := by decide +kernel
theorem rank_turn {n : Nat} (h1 : 1 ≤ n) (h5 : n ≤ 5) {xs : List Int} (h : rankB n xs = true) : turnB n xs = true := by
  obtain ⟨hl, hin, _⟩ := rank_parts h
  rw [rank_scan h1 h5, Bool.and_eq_true] at h
  obtain ⟨l, hll, rfl⟩ := to_fins (n := n) xs (fun x hx => by unfold inR; rw [decide_eq_true_iff]; exact hin x hx)
  rw [hl] at hll
  have hs := h.2
  clear hin hl h
  have hn : n = 1 ∨ n = 2 ∨ n = 3 ∨ n = 4 ∨ n = 5 := by omega
  rcases hn with rfl | rfl | rfl | rfl | rfl
  · obtain ⟨a, rfl⟩ := len1 hll; exact turn_1 a hs
  · obtain ⟨a, b, rfl⟩ := len2 hll; exact turn_2 a b hs
  · obtain ⟨a, b, c, rfl⟩ := len3 hll; exact turn_3 a b c hs
  · obtain ⟨a, b, c, d, rfl⟩ := len4 hll; exact turn_4 a b c d hs
  · obtain ⟨a, b, c, d, e, rfl⟩ := len5 hll; exact turn_5 a b c d e hs
/-- What a ranking turned says: the places. -/
theorem back_place {n : Nat} (h1 : 1 ≤ n) (h5 : n ≤ 5) {xs : List Int} (h : rankB n xs = true) {c : Nat} (hc : c < n) : (backOf xs).getD c 0 = (place xs (c : Int) : Int) := by
  have := rank_turn h1 h5 h
  unfold turnB at this
  rw [Bool.and_eq_true, decide_eq_true_iff] at this
  rw [this.1]
  simp [List.getD, hc]
theorem back_perm {n : Nat} (h1 : 1 ≤ n) (h5 : n ≤ 5) {xs : List Int} (h : rankB n xs = true) : ((List.range n).map (fun k => (k, ((backOf xs).getD k 0).toNat))).Perm ((List.range n).map (fun i => ((xs.getD i 0).toNat, i))) := by
  have := rank_turn h1 h5 h
  unfold turnB at this
  rw [Bool.and_eq_true] at this
  exact List.isPerm_iff.1 this.2
theorem perm_sum {α : Type} (f : α → Int) {l l' : List α} (h : l.Perm l') : (l.map f).sum = (l'.map f).sum := by
  induction h with
  | nil => rfl
  | cons x _ ih => simp [ih]
  | swap x y l => simp [List.map_cons, List.sum_cons]; omega
  | trans _ _ ih1 ih2 => exact ih1.trans ih2

end Go.Proofs.YtfcbhcjgjbcjdaaDoor
