/-
  impl: prefers; the iterator over all that block a pairing.
-/
import Derived.Test.YtahilcnmjnjcaaaDoorPrefers
import Derived.Test.YtahilcnmjnjcaaaDoorBlocks
import Derived.Test.YtahilcnmjnjcaaaDoorImplMCost
import Derived.RangeFuncNested
import Derived.RangeFuncBound
import Derived.RangeFuncCalls
import Derived.RangeFuncLeaves
import Derived.Shelf.Abstract
import Derived.Shelf.RegionOpen
import Derived.OwnWalkIn
import Derived.TacticsInMore
import Derived.LoopNIn
import Derived.LoopIn
namespace Go.Proofs.YtahilcnmjnjcaaaDoor
set_option linter.unusedVariables false
set_option linter.unusedSimpArgs false
open Go.RowKit Go.Shelf

/-- What the iterator reads. -/
structure BlkRd (X : World) (Bp Bm : Nat) (a1 a2 a3 a4 pv : Value) (ls rs : List (List Int)) (ps : List Int) : Prop where
  mkt : X.heap[Bm]? = some (.cells (four a1 a2 a3 a4) 60 (0, 0))
  pb : X.cell? ⟨Bp, 0, none⟩ = some pv
  left : IntRows X a2 (ls.map backOf)
  right : IntRows X a4 (rs.map backOf)
  ints : Ints X pv ps
theorem BlkRd.below {X Y : World} {Bp Bm : Nat} {a1 a2 a3 a4 pv : Value} {ls rs : List (List Int)} {ps : List Int} (h : BlkRd X Bp Bm a1 a2 a3 a4 pv ls rs ps) (hb : Below X.heap.size X Y) : BlkRd Y Bp Bm a1 a2 a3 a4 pv ls rs ps :=
  ⟨kept_obj hb h.mkt, (hb.cell (p := ⟨Bp, 0, none⟩) (World.block_lt_of_cell? X _ h.pb)).trans h.pb, h.left.below hb, h.right.below hb, h.ints.below hb⟩

/-- All cells stay as they are. -/
structure KeepsC (X Y : World) : Prop where
  os : Y.os = X.os
  tape : Y.tape = X.tape
  output : Y.output = X.output
  size : X.heap.size ≤ Y.heap.size
  same : ∀ (k : Nat) (o : Obj), X.heap[k]? = some o → o.isCells = true → Y.heap[k]? = some o
theorem KeepsC.cell {X Y : World} (h : KeepsC X Y) {p : Addr} {v : Value} (hc : X.cell? p = some v) : Y.cell? p = some v := by
  have hlt := World.block_lt_of_cell? X p hc
  obtain ⟨o, ho⟩ : ∃ o, X.heap[p.block]? = some o := ⟨_, Array.getElem?_eq_getElem hlt⟩
  have hcell : o.isCells = true := by
    cases o <;> first | rfl | (exfalso; unfold World.cell? at hc; rw [ho] at hc; simp at hc)
  have hy := h.same _ _ ho hcell
  unfold World.cell? at hc ⊢
  rw [ho] at hc
  rw [hy]
  exact hc

theorem rowB_prefix (b : Nat → Nat → Bool) (i : Nat) {k m : Nat} (h : k ≤ m) : rowB b i k <+: rowB b i m := by
  induction m with
  | zero => obtain rfl : k = 0 := by omega
            exact List.prefix_refl _
  | succ m ih =>
    rcases Nat.lt_or_ge m k with h2 | h2
    · obtain rfl : k = m + 1 := by omega
      exact List.prefix_refl _
    · refine (ih h2).trans ?_
      show _ <+: (if b i m = true then rowB b i m ++ [(i, m)] else rowB b i m)
      split
      · exact List.prefix_append _ _
      · exact List.prefix_refl _
theorem pairsB_prefix (b : Nat → Nat → Bool) (n : Nat) {i m : Nat} (h : i ≤ m) : pairsB b n i <+: pairsB b n m := by
  induction m with
  | zero => obtain rfl : i = 0 := by omega
            exact List.prefix_refl _
  | succ m ih =>
    rcases Nat.lt_or_ge m i with h2 | h2
    · obtain rfl : i = m + 1 := by omega
      exact List.prefix_refl _
    · exact (ih h2).trans (List.prefix_append _ _)
theorem block_prefix {b : Nat → Nat → Bool} {n i k : Nat} (hi : i < n) (hk : k < n) (h : b i k = true) : (pairsB b n i ++ rowB b i k) ++ [(i, k)] <+: pairsB b n n := by
  have h1 : rowB b i (k + 1) <+: rowB b i n := rowB_prefix b i (by omega)
  rw [rowB_yes h] at h1
  have h2 : pairsB b n (i + 1) <+: pairsB b n n := pairsB_prefix b n (by omega)
  refine List.IsPrefix.trans ?_ h2
  show _ <+: pairsB b n i ++ rowB b i n
  rw [List.append_assoc]
  exact (List.prefix_append_right_inj _).2 h1

end Go.Proofs.YtahilcnmjnjcaaaDoor
