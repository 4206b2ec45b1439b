/-
  impl: prefers; the iterator over all that block a pairing.
-/
import Derived.Test.YtjikbeegkpbocaaBlocks
import Derived.Test.YtjikbeegkpbocaaImplMCost
import Derived.RangeFuncNested
import Derived.RangeFuncBound
import Derived.RangeFuncCalls
import Derived.RangeFuncLeaves
import Derived.Shelf.Abstract
import Derived.Shelf.RegionOpen
import Derived.OwnWalkIn
import Derived.TacticsInMore
import Derived.LoopNIn
import Derived.LoopIn
namespace Go.Proofs.Ytjikbeegkpbocaa
set_option linter.unusedVariables false
set_option linter.unusedSimpArgs false
open Go.RowKit Go.Shelf

set_option maxRecDepth 100000 in
set_option maxHeartbeats 1000000 in
theorem prefers_q (w : World) (a b : Value) (ys : List (List Int)) (hb : IntRows w b ys) (i c1 c2 : Nat) (hi : i < ys.length) (h1 : c1 < ys[i].length) (h2 : c2 < ys[i].length) (r : Bool) (hr : decide (ys[i][c1] < ys[i][c2]) = r) :
    Calls Try.prog 69 #[.agg (two a b), .int .i64 (i : Int), .int .i64 (c1 : Int), .int .i64 (c2 : Int)] w fun e w' => e = .returned (.bool r) ∧ Below w.heap.size w w' := by
  obtain ⟨B, capb, rfl, hmb, hcb⟩ := hb.at
  obtain ⟨b2, o2, u, rfl, hcell20, hu⟩ := hcb i hi
  obtain ⟨A3, cap3, rfl, hm3, hc3⟩ := hu
  obtain ⟨b3, o3, rfl, hcell30⟩ := hc3 c1 h1
  obtain ⟨b4, o4, e4, hcell40⟩ := hc3 c2 h2
  obtain ⟨rfl, rfl⟩ : b3 = b4 ∧ o3 = o4 := by simpa using e4
  obtain ⟨z1, hz1⟩ : ∃ z, ys[i][c1] = z := ⟨_, rfl⟩
  obtain ⟨z2, hz2⟩ : ∃ z, ys[i][c2] = z := ⟨_, rfl⟩
  rw [hz1] at hcell30 hr
  rw [hz2] at hcell40 hr
  obtain ⟨W0, hW0⟩ : ∃ W0, w.alloc (.cells (two a (.slice (some ⟨b2, o2, none⟩) ys.length capb)) 59) = W0 := ⟨_, rfl⟩
  have hb0 : Below w.heap.size w W0 := by rw [← hW0]; exact (Below.refl _ _).alloc (Nat.le_refl _) _
  obtain ⟨x0, x1, xf, _⟩ := two_cells (show W0.heap[w.heap.size]? = some (.cells (two a (.slice (some ⟨b2, o2, none⟩) ys.length capb)) 59 (0, 0)) by rw [← hW0]; exact World.alloc_heap_new _ _)
  have hcell2 := (hb0.cell (p := ⟨b2, o2 + i, none⟩) (World.block_lt_of_cell? w _ hcell20)).trans hcell20
  have hcell3 := (hb0.cell (p := ⟨b3, o3 + c1, none⟩) (World.block_lt_of_cell? w _ hcell30)).trans hcell30
  have hcell4 := (hb0.cell (p := ⟨b3, o3 + c2, none⟩) (World.block_lt_of_cell? w _ hcell40)).trans hcell40
  have HB0 := Lib.hid hb0
  have hii : (i : Int) < (ys.length : Int) := by omega
  have h1i : (c1 : Int) < (ys[i].length : Int) := by omega
  have h2i : (c2 : Int) < (ys[i].length : Int) := by omega
  have hi0 : (0 : Int) ≤ (i : Int) := by omega
  have h10 : (0 : Int) ≤ (c1 : Int) := by omega
  have h20 : (0 : Int) ≤ (c2 : Int) := by omega
  unfold maxLen at hmb hm3
  clear hcb hc3 hcell20 hcell30 hcell40 e4 hb0 hz1 hz2
  go_enter Try.func69, Try.ntmps69
  go_wp2
  clear hW0
  go_quiet (fail)
  go_wp2
  go_ret
  exact ⟨rfl, below_drewN HB0.out _⟩

/-- What the iterator reads. -/
structure BlkRd (X : World) (Bp Bm : Nat) (a1 a2 a3 a4 pv : Value) (ls rs : List (List Int)) (ps : List Int) : Prop where
  mkt : X.heap[Bm]? = some (.cells (four a1 a2 a3 a4) 64 (0, 0))
  pb : X.cell? ⟨Bp, 0, none⟩ = some pv
  left : IntRows X a2 (ls.map backOf)
  right : IntRows X a4 (rs.map backOf)
  ints : Ints X pv ps
theorem BlkRd.below {X Y : World} {Bp Bm : Nat} {a1 a2 a3 a4 pv : Value} {ls rs : List (List Int)} {ps : List Int} (h : BlkRd X Bp Bm a1 a2 a3 a4 pv ls rs ps) (hb : Below X.heap.size X Y) : BlkRd Y Bp Bm a1 a2 a3 a4 pv ls rs ps :=
  ⟨kept_obj hb h.mkt, (hb.cell (p := ⟨Bp, 0, none⟩) (World.block_lt_of_cell? X _ h.pb)).trans h.pb, h.left.below hb, h.right.below hb, h.ints.below hb⟩

/-- All cells stay as they are. -/
structure KeepsC (X Y : World) : Prop where
  os : Y.os = X.os
  tape : Y.tape = X.tape
  output : Y.output = X.output
  size : X.heap.size ≤ Y.heap.size
  same : ∀ (k : Nat) (o : Obj), X.heap[k]? = some o → o.isCells = true → Y.heap[k]? = some o
theorem KeepsC.cell {X Y : World} (h : KeepsC X Y) {p : Addr} {v : Value} (hc : X.cell? p = some v) : Y.cell? p = some v := by
  have hlt := World.block_lt_of_cell? X p hc
  obtain ⟨o, ho⟩ : ∃ o, X.heap[p.block]? = some o := ⟨_, Array.getElem?_eq_getElem hlt⟩
  have hcell : o.isCells = true := by
    cases o <;> first | rfl | (exfalso; unfold World.cell? at hc; rw [ho] at hc; simp at hc)
  have hy := h.same _ _ ho hcell
  unfold World.cell? at hc ⊢
  rw [ho] at hc
  rw [hy]
  exact hc

theorem rowB_prefix (b : Nat → Nat → Bool) (i : Nat) {k m : Nat} (h : k ≤ m) : rowB b i k <+: rowB b i m := by
  induction m with
  | zero => obtain rfl : k = 0 := by omega
            exact List.prefix_refl _
  | succ m ih =>
    rcases Nat.lt_or_ge m k with h2 | h2
    · obtain rfl : k = m + 1 := by omega
      exact List.prefix_refl _
    · refine (ih h2).trans ?_
      show _ <+: (if b i m = true then rowB b i m ++ [(i, m)] else rowB b i m)
      split
      · exact List.prefix_append _ _
      · exact List.prefix_refl _
theorem pairsB_prefix (b : Nat → Nat → Bool) (n : Nat) {i m : Nat} (h : i ≤ m) : pairsB b n i <+: pairsB b n m := by
  induction m with
  | zero => obtain rfl : i = 0 := by omega
            exact List.prefix_refl _
  | succ m ih =>
    rcases Nat.lt_or_ge m i with h2 | h2
    · obtain rfl : i = m + 1 := by omega
      exact List.prefix_refl _
    · exact (ih h2).trans (List.prefix_append _ _)
theorem block_prefix {b : Nat → Nat → Bool} {n i k : Nat} (hi : i < n) (hk : k < n) (h : b i k = true) : (pairsB b n i ++ rowB b i k) ++ [(i, k)] <+: pairsB b n n := by
  have h1 : rowB b i (k + 1) <+: rowB b i n := rowB_prefix b i (by omega)
  rw [rowB_yes h] at h1
  have h2 : pairsB b n (i + 1) <+: pairsB b n n := pairsB_prefix b n (by omega)
  refine List.IsPrefix.trans ?_ h2
  show _ <+: pairsB b n i ++ rowB b i n
  rw [List.append_assoc]
  exact (List.prefix_append_right_inj _).2 h1

end Go.Proofs.Ytjikbeegkpbocaa
