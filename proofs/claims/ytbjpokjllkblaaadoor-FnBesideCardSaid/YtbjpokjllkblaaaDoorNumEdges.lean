/-
  HOW MANY MATCHINGS HAVE ONE EDGE; plain functions, no walk.
-/
import Derived.Test.YtbjpokjllkblaaaDoorImplEdges
import Derived.Test.YtbjpokjllkblaaaDoorNum1
namespace Go.Proofs.YtbjpokjllkblaaaDoor
set_option linter.unusedVariables false
set_option linter.unusedSimpArgs false
open Go.RowKit
set_option maxRecDepth 100000

/-- The number of matchings with one edge is that of the edges. -/
theorem suf_all : ∀ (n : Fin 9) (i : Fin 8), i.val < n.val → (low (2 ^ n.val - 2 ^ i.val)).val = i.val ∧ rst (2 ^ n.val - 2 ^ i.val) = 2 ^ n.val - 2 ^ (i.val + 1) ∧ 2 ^ n.val - 2 ^ i.val ≠ 0 := by decide +kernel
theorem upTo_tie : ∀ (n : Fin 9) (i : Fin 8) (m : Fin 256), i.val < n.val → (bitsOf (m.val &&& (2 ^ n.val - 2 ^ (i.val + 1)))).length = (upTo m.val i.val n.val).length := by decide +kernel
theorem tied_one {f : Nat → Nat} {s : Nat} (hs : s < 256) : ∀ l : List (Fin 8), tied f s l 1 = l.length
  | [] => tied_nil f s 1
  | x :: l => by
    have ih := tied_one (f := f) hs l
    have hr : rst s < 256 := wo_256 hs
    unfold tied at ih ⊢
    rw [if_neg (by omega)] at ih ⊢
    rw [List.map_cons, List.sum_cons, ih, nums_none' (wo_256 hr), List.length_cons]
    omega
theorem nums_suf {f : Nat → Nat} (hf : ∀ i, f i < 256) {n : Nat} (h8 : n ≤ 8) : ∀ d i, i + d = n → nums f (2 ^ n - 2 ^ i) 1 + (pairsTo f n i).length = (pairsTo f n n).length
  | 0, i, h => by
    obtain rfl : i = n := by omega
    rw [Nat.sub_self, nums_zero]; simp
  | d + 1, i, h => by
    have ih := nums_suf hf h8 d (i + 1) (by omega)
    obtain ⟨e1, e2, e3⟩ := suf_all ⟨n, by omega⟩ ⟨i, by omega⟩ (by show i < n; omega)
    simp only at e1 e2 e3
    have hp := Nat.two_pow_pos i
    have h256 := pow_le_256 h8
    have hs : 2 ^ n - 2 ^ i < 256 := by omega
    rw [nums_step hs e3, tied_one hs, e2]
    rw [pairsTo_succ (by omega), List.length_append, List.length_map] at ih
    have e4 := upTo_tie ⟨n, by omega⟩ ⟨i, by omega⟩ ⟨f i, hf i⟩ (by show i < n; omega)
    simp only at e4
    unfold tieOf
    rw [e2, e1, e4]
    omega
theorem nums_edges {xs : List Int} (hg : gIn xs = true) : nums (gfun xs) (2 ^ xs.length - 1) 1 = (edgesL xs).length := by
  obtain ⟨h1, h8, hok⟩ := gIn_parts hg
  have h := nums_suf (gfun_lt h8 hok) h8 xs.length 0 (by omega)
  unfold edgesL pairsOf
  rw [if_pos hg, List.length_map]
  simpa [pairsTo] using h

end Go.Proofs.YtbjpokjllkblaaaDoor
