/-
  WHAT THE ROW's LIST OF VARIABLES GIVES: the library's table is in its variable; and a world for the witness.
-/
import Derived.Test.YtjijkgmeddeihaaDoorRows
import Derived.Test.YtjijkgmeddeihaaDoorIn
import Derived.Lib.LaidTab
import Derived.OpenShut
import Derived.Deep.DeepHandedRow
namespace Go.Proofs.YtjijkgmeddeihaaDoor
set_option linter.unusedVariables false
set_option linter.unusedSimpArgs false
open Go.RowKit

theorem gTab64 : Tryd.prog.globalNamed "math/bits.deBruijn64tab" = some 1 := by kernel_rfl
theorem gTab64Type : (Tryd.prog.globals[1]?).map (·.type) = some 97 := by kernel_rfl
theorem cellsTab64 : Tryd.prog.cellsOf 97 = 64 := by kernel_rfl
theorem cellsU8 : Tryd.prog.cellsOf 5 = 1 := by kernel_rfl

/-- Both tables, as the rows list them. -/
abbrev tables : List (String × DataW Unit) := [("math/bits.deBruijn32tab", Rows.laid_math_bits_deBruijn32tab), ("math/bits.deBruijn64tab", Rows.laid_math_bits_deBruijn64tab)]

theorem laid_rest {P : Program} {W : World} {x : String × DataW Unit} {rest : List (String × DataW Unit)} (h : laidMet P (x :: rest) W) : laidMet P rest W := by
  obtain ⟨ps, ⟨g, t, cs, fuel, p, q, _, _, _, _, hrest, rfl⟩, hnd, hio⟩ := h
  exact ⟨q, hrest, (List.nodup_append.1 hnd).2.1, fun b off hm => hio b off (List.mem_append_right _ hm)⟩

theorem tab_of_laid {W : World} (h : laidMetH Tryd.prog tables W) : Tab W := by
  have h0 : laidMet Tryd.prog tables W := h
  have h1 := laid_rest h0
  have h2 : Lib.TabIs Tryd.prog W "math/bits.deBruijn64tab" .u8 (deB64.map fun (x : Nat) => (x : Int)) :=
    Lib.tabIs_of_head (rest := []) gTab64 gTab64Type Tryd.underlying97 Tryd.underlying5 cellsU8 cellsTab64 h1
  intro i x hx
  have hi : i < deB64.length := (List.getElem?_eq_some_iff.1 hx).1
  have := h2.cell gTab64 i (by simpa using hi)
  rw [this]
  have hx' := (List.getElem?_eq_some_iff.1 hx).2
  simp [hx]

/-- A block of cells with other cells. -/
def refill (cs : List Nat) (o : Obj) : Obj :=
  match o with
  | .cells _ t fr => .cells (cs.map fun (x : Nat) => Value.int .u8 (x : Int)).toArray t fr
  | o => o
def deB32 : List Nat := [0, 1, 28, 2, 29, 14, 24, 3, 30, 22, 20, 15, 25, 17, 4, 8, 31, 27, 13, 23, 21, 19, 16, 7, 26, 12, 18, 6, 11, 5, 10, 9]
/-- A world for a witness: the settled one, both tables holding what their initialisers lay. -/
noncomputable def laidWorld (os : Os) : World :=
  { World.holding Tryd.prog os ⟨#[], #[], []⟩ with heap := ((World.holding Tryd.prog os ⟨#[], #[], []⟩).heap.modify 1 (refill deB64)).modify 0 (refill deB32) }

theorem laid_met_nil (os : Os) : laidMet Tryd.prog tables ((laidWorld os).forCall (fun _ _ => 0) ⟨#[], #[.slice none 0 0], []⟩).memory :=
  laidMet_of_run' 80 (by kernel_rfl) (by kernel_rfl)

/-- A slice of integers that came in, as the walks want it. -/
theorem ints_of_open {W : World} {x : Addr} {l c : Nat} {zs : List Int} (hl : l ≤ c) (hm : c ≤ maxLen) (hz : zs.length = c)
    (hcell : ∀ i, i < zs.length → W.cell? (x.add i) = some (.int .i64 (zs.getD i 0))) (hwz : ∀ n ∈ zs, (Lit.int .i64 n).wf = true) :
    ∃ xs : List Int, Ints W (.slice (some x) l c) xs ∧ ∀ y ∈ xs, I64 y := by
  refine ⟨zs.take l, ⟨some x, c, by simp [List.length_take]; omega, by simp [List.length_take]; omega, fun i hi => ?_⟩, fun y hy => ?_⟩
  · have hi' : i < l ∧ i < zs.length := by simp [List.length_take] at hi; omega
    obtain ⟨b, off, rfl, hc⟩ := ints_at hcell (by omega)
    refine ⟨b, off, rfl, ?_⟩
    rw [hc i hi'.2]
    simp [hi'.2]
  · have := hwz y (List.mem_of_mem_take hy)
    unfold I64
    have hb := bounds_i64 this
    omega

end Go.Proofs.YtjijkgmeddeihaaDoor
