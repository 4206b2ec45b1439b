/-
  (impl.market).count, (impl.market).turned.
-/
import Derived.Test.YtjhjfopokiaiiaaMktFrom
namespace Go.Proofs.Ytjhjfopokiaiiaa
set_option linter.unusedVariables false
set_option linter.unusedSimpArgs false
open Go.RowKit

theorem four_cells {w : World} {g : Nat} {a b c d : Value} (hg : w.heap[g]? = some (.cells (four a b c d) 57 (0, 0))) :
    w.cell? ⟨g, 0, none⟩ = some a ∧ w.cell? ⟨g, 1, none⟩ = some b ∧ w.cell? ⟨g, 2, none⟩ = some c ∧ w.cell? ⟨g, 3, none⟩ = some d ∧ g < w.heap.size :=
  ⟨by rw [cell_of_row _ _ _ _ _ _ hg]; rfl, by rw [cell_of_row _ _ _ _ _ _ hg]; rfl, by rw [cell_of_row _ _ _ _ _ _ hg]; rfl, by rw [cell_of_row _ _ _ _ _ _ hg]; rfl, (Array.getElem?_eq_some_iff.1 hg).1⟩

set_option maxRecDepth 100000 in
set_option maxHeartbeats 400000 in
theorem count_any (w : World) (A : Option Addr) (n c : Nat) (a2 a3 a4 : Value) :
    Calls Try.prog 57 #[.agg (four (.slice A n c) a2 a3 a4)] w fun e w' => e = .returned (.int .i64 (n : Int)) ∧ Below w.heap.size w w' := by
  have hb0 : Below w.heap.size w (w.alloc (.cells (four (.slice A n c) a2 a3 a4) 57)) := (Below.refl _ _).alloc (Nat.le_refl _) _
  have hc : (w.alloc (.cells (four (.slice A n c) a2 a3 a4) 57)).cell? ⟨w.heap.size, 0, none⟩ = some (.slice A n c) := by rw [cell_of_row _ _ _ _ _ _ (World.alloc_heap_new w _)]; rfl
  have HB := Lib.hid hb0
  clear hb0
  go_enter Try.func57, Try.ntmps57
  go_wp2
  go_ret
  exact ⟨rfl, HB.out⟩

theorem ret_mkt1 {fn : Func} {p : Tmp} (h : fn.results = #[.cell p 57]) (tmps : Array Value) (w : World) (g : Nat) (a b c d : Value)
    (hp : tmps.getD p undef = .pointer (some ⟨g, 0, none⟩)) (hg : w.heap[g]? = some (.cells (four a b c d) 57 (0, 0))) :
    (results fn tmps).run Try.prog w = .ok (.agg (four a b c d)) w :=
  results_cell_row h tmps w g 57 (four a b c d) (0, 0) _ hp hg Try.underlying57 rfl (size_four a b c d)

set_option maxRecDepth 100000 in
set_option maxHeartbeats 2000000 in
theorem mturned_any (w : World) (A1 : Option Addr) (n1 c1 : Nat) (A2 : Option Addr) (n2 c2 : Nat) (A3 : Option Addr) (n3 c3 : Nat) (A4 : Option Addr) (n4 c4 : Nat) :
    Calls Try.prog 42 #[.agg (four (.slice A1 n1 c1) (.slice A2 n2 c2) (.slice A3 n3 c3) (.slice A4 n4 c4))] w fun e w' => e = .returned (.agg (four (.slice A3 n3 c3) (.slice A4 n4 c4) (.slice A1 n1 c1) (.slice A2 n2 c2))) ∧ Below w.heap.size w w' := by
  obtain ⟨W0, hW0⟩ : ∃ W0, (w.alloc (.cells (four (.slice A1 n1 c1) (.slice A2 n2 c2) (.slice A3 n3 c3) (.slice A4 n4 c4)) 57)).alloc (.cells (four nilS nilS nilS nilS) 57) = W0 := ⟨_, rfl⟩
  have hb0 : Below w.heap.size w W0 := by rw [← hW0]; exact ((Below.refl _ _).alloc (Nat.le_refl _) _).alloc (by simp) _
  have hbox : W0.heap[w.heap.size]? = some (.cells (four (.slice A1 n1 c1) (.slice A2 n2 c2) (.slice A3 n3 c3) (.slice A4 n4 c4)) 57 (0, 0)) := by rw [← hW0]; exact heap_two_old _ _ _
  have hres : W0.heap[w.heap.size + 1]? = some (.cells (four nilS nilS nilS nilS) 57 (0, 0)) := by rw [← hW0]; exact heap_two_new _ _ _
  obtain ⟨x0, x1, x2, x3, xf⟩ := four_cells hbox
  have HB0 := Lib.hid hb0
  clear hb0
  go_enter Try.func42, Try.ntmps42
  go_wp2_with (refine store_mkt rfl _ _ rfl (w.heap.size + 1) (.slice A3 n3 c3) (.slice A4 n4 c4) (.slice A1 n1 c1) (.slice A2 n2 c2) rfl rfl nilS nilS nilS nilS rfl rfl rfl rfl hres ?_)
  refine bodyPost_ret (ret_mkt1 rfl _ _ (w.heap.size + 1) _ _ _ _ rfl (heap_setRow2 hres)) rfl ?_
  exact ⟨rfl, below_setRow2 HB0.out (by omega) _⟩

end Go.Proofs.Ytjhjfopokiaiiaa
