/-
  SIX WAYS TO MAKE TWO VARIABLES BESIDE A CALL: where the numbers lie behind each.
-/
import Derived.Test.YtejbeglchholhaaDoorCount1
namespace Go.Proofs.YtejbeglchholhaaDoor
set_option linter.unusedVariables false
set_option linter.unusedSimpArgs false
open Go.RowKit

def five (g0 g1 g2 g3 g4 : Int) : Array Value := #[.int .i64 g0, .int .i64 g1, .int .i64 g2, .int .i64 g3, .int .i64 g4]
/-- An int and five numbers lie where they should. -/
structure Lies (w0 Wz : World) (b3 b4 : Nat) (n g0 g1 g2 g3 g4 : Int) : Prop where
  below : Below w0.heap.size w0 Wz
  int : Wz.cell? ⟨b3, 0, none⟩ = some (.int .i64 n)
  c0 : Wz.cell? ⟨b4, 0, none⟩ = some (.int .i64 g0)
  c1 : Wz.cell? ⟨b4, 1, none⟩ = some (.int .i64 g1)
  c2 : Wz.cell? ⟨b4, 2, none⟩ = some (.int .i64 g2)
  c3 : Wz.cell? ⟨b4, 3, none⟩ = some (.int .i64 g3)
  c4 : Wz.cell? ⟨b4, 4, none⟩ = some (.int .i64 g4)
  lt3 : b3 < Wz.heap.size
  lt4 : b4 < Wz.heap.size

variable {w0 w3 : World} {n g0 g1 g2 g3 g4 : Int}

theorem lies_aa (hb : Below w0.heap.size w0 w3) : Lies w0 ((w3.alloc (.cells #[.int .i64 n] 3)).alloc (.cells #[.int .i64 g0, .int .i64 g1, .int .i64 g2, .int .i64 g3, .int .i64 g4] 56)) w3.heap.size (w3.heap.size + 1) n g0 g1 g2 g3 g4 := by
  have hs := hb.size
  exact ⟨(hb.alloc hs _).alloc (by simp; omega) _, by go_simp, by go_simp, by go_simp, by go_simp, by go_simp, by go_simp, by simp; omega, by simp⟩
theorem lies_aa' (hb : Below w0.heap.size w0 w3) : Lies w0 ((w3.alloc (.cells #[.int .i64 g0, .int .i64 g1, .int .i64 g2, .int .i64 g3, .int .i64 g4] 56)).alloc (.cells #[.int .i64 n] 3)) (w3.heap.size + 1) w3.heap.size n g0 g1 g2 g3 g4 := by
  have hs := hb.size
  exact ⟨(hb.alloc hs _).alloc (by simp; omega) _, by go_simp, by go_simp, by go_simp, by go_simp, by go_simp, by go_simp, by simp, by simp; omega⟩
theorem lies_sa {b : Nat} (hb : Below w0.heap.size w0 w3) (hB : w0.heap.size ≤ b) (i0 : w3.cell? ⟨b, 0, none⟩ = some (.int .i64 0)) (i2 : b < w3.heap.size) :
    Lies w0 ((w3.setCell ⟨b, 0, none⟩ (.int .i64 n)).alloc (.cells #[.int .i64 g0, .int .i64 g1, .int .i64 g2, .int .i64 g3, .int .i64 g4] 56)) b w3.heap.size n g0 g1 g2 g3 g4 := by
  have hs := hb.size
  exact ⟨(hb.setCell (p := ⟨b, 0, none⟩) hB _).alloc (by simp; omega) _, by go_simp, by go_simp, by go_simp, by go_simp, by go_simp, by go_simp, by simp; omega, by simp⟩
theorem lies_as {b : Nat} (hb : Below w0.heap.size w0 w3) (hB : w0.heap.size ≤ b) (n0 : w3.cell? ⟨b, 0, none⟩ = some (.int .i64 0)) (n1 : w3.cell? ⟨b, 1, none⟩ = some (.int .i64 0)) (n2 : w3.cell? ⟨b, 2, none⟩ = some (.int .i64 0)) (n3 : w3.cell? ⟨b, 3, none⟩ = some (.int .i64 0)) (n4 : w3.cell? ⟨b, 4, none⟩ = some (.int .i64 0)) (i2 : b < w3.heap.size) :
    Lies w0 ((((((w3.setCell ⟨b, 0, none⟩ (.int .i64 g0)).setCell ⟨b, 1, none⟩ (.int .i64 g1)).setCell ⟨b, 2, none⟩ (.int .i64 g2)).setCell ⟨b, 3, none⟩ (.int .i64 g3)).setCell ⟨b, 4, none⟩ (.int .i64 g4)).alloc (.cells #[.int .i64 n] 3)) w3.heap.size b n g0 g1 g2 g3 g4 := by
  have hs := hb.size
  refine ⟨(((((hb.setCell (p := ⟨b, 0, none⟩) hB _).setCell (p := ⟨b, 1, none⟩) hB _).setCell (p := ⟨b, 2, none⟩) hB _).setCell (p := ⟨b, 3, none⟩) hB _).setCell (p := ⟨b, 4, none⟩) hB _).alloc (by simp; omega) _, by go_simp, by go_simp, by go_simp, by go_simp, by go_simp, by go_simp, by simp, by simp; omega⟩
theorem lies_ss {b b' : Nat} (hne : b ≠ b') (hb : Below w0.heap.size w0 w3) (hB : w0.heap.size ≤ b) (hB' : w0.heap.size ≤ b') (i0 : w3.cell? ⟨b, 0, none⟩ = some (.int .i64 0)) (n0 : w3.cell? ⟨b', 0, none⟩ = some (.int .i64 0)) (n1 : w3.cell? ⟨b', 1, none⟩ = some (.int .i64 0)) (n2 : w3.cell? ⟨b', 2, none⟩ = some (.int .i64 0)) (n3 : w3.cell? ⟨b', 3, none⟩ = some (.int .i64 0)) (n4 : w3.cell? ⟨b', 4, none⟩ = some (.int .i64 0)) (i2 : b < w3.heap.size) (i3 : b' < w3.heap.size) :
    Lies w0 ((((((w3.setCell ⟨b, 0, none⟩ (.int .i64 n)).setCell ⟨b', 0, none⟩ (.int .i64 g0)).setCell ⟨b', 1, none⟩ (.int .i64 g1)).setCell ⟨b', 2, none⟩ (.int .i64 g2)).setCell ⟨b', 3, none⟩ (.int .i64 g3)).setCell ⟨b', 4, none⟩ (.int .i64 g4)) b b' n g0 g1 g2 g3 g4 := by
  have hne' : b' ≠ b := Ne.symm hne
  have hs := hb.size
  refine ⟨(((((hb.setCell (p := ⟨b, 0, none⟩) hB _).setCell (p := ⟨b', 0, none⟩) hB' _).setCell (p := ⟨b', 1, none⟩) hB' _).setCell (p := ⟨b', 2, none⟩) hB' _).setCell (p := ⟨b', 3, none⟩) hB' _).setCell (p := ⟨b', 4, none⟩) hB' _, by go_simp, by go_simp, by go_simp, by go_simp, by go_simp, by go_simp, by simp; omega, by simp; omega⟩

end Go.Proofs.YtejbeglchholhaaDoor
