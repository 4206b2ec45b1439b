/-
  TLT: Turn TList.
-/
import Derived.Test.YtellghhilcjbnaaDoorKCells
import Derived.Test.YtellghhilcjbnaaDoorCore1
import Derived.Deep.QuietTactic
import Derived.BigQuiet
import Derived.Deep.RegionLaw
import Derived.Deep.RegionWith
import Derived.Outline
import Derived.Test.YtellghhilcjbnaaDoorRnk
import Derived.Deep.RegionHeld3
/-
  (impl.cells).transposed, negated, diagonal.
-/
namespace Go.Proofs.YtellghhilcjbnaaDoor
set_option linter.unusedVariables false
set_option linter.unusedSimpArgs false
open Go.RowKit

def trF (F : Nat → Int) : Nat → Int := fun i => F (6 * (i % 6) + i / 6)
def trTo (F : Nat → Int) (r q : Nat) : Nat → Int := fun i => if i % 6 < r ∨ (i % 6 = r ∧ i / 6 < q) then trF F i else 0
theorem trTo_step (F : Nat → Int) {r q : Nat} (hr : r < 6) : updI (trTo F r q) (6 * q + r) (F (6 * r + q)) = trTo F r (q + 1) := by
  funext i
  unfold updI trTo
  by_cases h : i = 6 * q + r
  · subst h
    rw [if_pos rfl, if_pos (by right; omega)]
    unfold trF
    congr 1; omega
  · rw [if_neg h]
    have : (i % 6 < r ∨ (i % 6 = r ∧ i / 6 < q)) ↔ (i % 6 < r ∨ (i % 6 = r ∧ i / 6 < q + 1)) := by omega
    simp only [this]
theorem trTo_row (F : Nat → Int) (r : Nat) : kcells (trTo F r 6) = kcells (trTo F (r + 1) 0) := kcells_congr fun i hi => by
  unfold trTo
  have : (i % 6 < r ∨ (i % 6 = r ∧ i / 6 < 6)) ↔ (i % 6 < r + 1 ∨ (i % 6 = r + 1 ∧ i / 6 < 0)) := by omega
  simp only [this]
theorem trTo_zero (F : Nat → Int) : trTo F 0 0 = fun _ => 0 := by
  funext i; unfold trTo; rw [if_neg (by omega)]
theorem trTo_full (F : Nat → Int) : trTo F 6 0 = trF F := by
  funext i; unfold trTo; rw [if_pos (by left; omega)]

/-- What stands while a table is turned. -/
def TurnT (w wr : World) (F : Nat → Int) (r q : Nat) : Prop :=
  Below w.heap.size w wr ∧ wr.heap[w.heap.size]? = some (.cells (kcells F) 45 (0, 0)) ∧ wr.heap[w.heap.size + 1]? = some (.cells (kcells fun _ => 0) 45 (0, 0)) ∧ wr.heap[w.heap.size + 1 + 1]? = some (.cells (kcells (trTo F r q)) 45 (0, 0))

theorem TurnT.step {w wr : World} {F : Nat → Int} {r q : Nat} (h : TurnT w wr F r q) (hr : r < 6) (hq : q < 6) : TurnT w ((wr.setCell ⟨w.heap.size + 1 + 1, q * 6 + r, none⟩ (.int .i64 (F (r * 6 + q)))).drew) F r (q + 1) := by
  obtain ⟨h1, h2, h3, h4⟩ := h
  have e1 : r * 6 + q = 6 * r + q := by omega
  have e2 : q * 6 + r = 6 * q + r := by omega
  rw [e1, e2]
  refine ⟨(h1.setCell (p := ⟨w.heap.size + 1 + 1, 6 * q + r, none⟩) (by show w.heap.size ≤ w.heap.size + 1 + 1; omega) _).drew, (Below.heap_setCell _ _ _ _ (by show w.heap.size ≠ w.heap.size + 1 + 1; omega)).trans h2, (Below.heap_setCell _ _ _ _ (by show w.heap.size + 1 ≠ w.heap.size + 1 + 1; omega)).trans h3, ?_⟩
  rw [← trTo_step F hr]
  exact cells_stored (6 * q + r) _ (by omega) h4


end Go.Proofs.YtellghhilcjbnaaDoor

/-
  (impl.table).list: a table told as a list of new rows.
-/
namespace Go.Proofs.YtellghhilcjbnaaDoor
set_option linter.unusedVariables false
set_option linter.unusedSimpArgs false
open Go.RowKit

def rowOf (n : Nat) (F : Nat → Int) (r : Nat) : List Int := (List.range n).map fun c => F (6 * r + c)
def rowsOf (n : Nat) (F : Nat → Int) : List (List Int) := (List.range n).map (rowOf n F)
theorem rowOf_len (n : Nat) (F : Nat → Int) (r : Nat) : (rowOf n F r).length = n := by simp [rowOf]
theorem rowsOf_len (n : Nat) (F : Nat → Int) : (rowsOf n F).length = n := by simp [rowsOf]
theorem rowsOf_at (n : Nat) (F : Nat → Int) (r : Nat) (h : r < (rowsOf n F).length) : (rowsOf n F)[r] = rowOf n F r := by simp [rowsOf]
theorem row_slice {w : World} {b n : Nat} {e : TypeId} {v : Value} {xs : List Value} (h : w.ownsRow b e 1 v n xs) : ∃ A m c, v = .slice A m c := by
  rcases h.2 with ⟨h0, _⟩ | ⟨g, cap, cur, h0, _⟩
  · exact ⟨_, _, _, h0⟩
  · exact ⟨_, _, _, h0⟩
theorem rows_start (W : World) (B n : Nat) (xss : List (List Int)) (lo : Nat) (h : W.ownsRow lo 24 1 (.slice (some ⟨B, 0, none⟩) n n) n (List.replicate n (.slice none 0 0))) : RowsTo W lo B n [] xss :=
  ⟨by simp, by simpa using h, fun i hi => by simp at hi, fun i j _ hj => by simp at hj⟩


end Go.Proofs.YtellghhilcjbnaaDoor

