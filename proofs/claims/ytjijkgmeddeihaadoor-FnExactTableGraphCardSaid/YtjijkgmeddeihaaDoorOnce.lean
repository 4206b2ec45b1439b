/-
  A REGION PROVED ONCE, ITS REST WALKED ONCE.
-/
import Derived.Test.YtjijkgmeddeihaaDoorBase
namespace Go.Proofs.YtjijkgmeddeihaaDoor
set_option linter.unusedVariables false
set_option linter.unusedSimpArgs false
open Go.RowKit

theorem once_any {P : Program} {c : Code} {Q : Exit → Act → World → Prop} {a : Act} {w : World} {α : Type} (R : α → World → Prop) {F : α → Act}
    (h1 : c.wp P (Exit.then (fun a' w' => ∃ x, R x w' ∧ a' = F x) (fun _ _ _ => False)) a w) (h2 : ∀ x w', R x w' → Q .normal (F x) w') : c.wp P Q a w :=
  Code.wp_mono (fun e _ _ h => by
    cases e <;> first | exact h.elim | skip
    obtain ⟨x, hr, ha⟩ := h
    subst ha
    exact h2 x _ hr) h1

/-- The same where the frame at the end names three numbers. -/
theorem once_three {P : Program} {c : Code} {Q : Exit → Act → World → Prop} {a : Act} {w : World} (R : Nat → Nat → Nat → World → Prop) {F : Nat → Nat → Nat → Act}
    (h1 : c.wp P (Exit.then (fun a' w' => ∃ x y z, R x y z w' ∧ a' = F x y z) (fun _ _ _ => False)) a w) (h2 : ∀ x y z w', R x y z w' → Q .normal (F x y z) w') : c.wp P Q a w :=
  Code.wp_mono (fun e _ _ h => by
    cases e <;> first | exact h.elim | skip
    obtain ⟨x, y, z, hr, ha⟩ := h
    subst ha
    exact h2 x y z _ hr) h1

/-- The same where the frame at the end names a slice. -/
theorem once_slice {P : Program} {c : Code} {Q : Exit → Act → World → Prop} {a : Act} {w : World} (R : Value → World → Prop) {F : Option Addr → Nat → Nat → Act}
    (h1 : c.wp P (Exit.then (fun a' w' => ∃ x y z, R (.slice x y z) w' ∧ a' = F x y z) (fun _ _ _ => False)) a w) (h2 : ∀ x y z w', R (.slice x y z) w' → Q .normal (F x y z) w') : c.wp P Q a w :=
  Code.wp_mono (fun e _ _ h => by
    cases e <;> first | exact h.elim | skip
    obtain ⟨x, y, z, hr, ha⟩ := h
    subst ha
    exact h2 x y z _ hr) h1

/-- A region proved once, where the frame at the end is one. -/
theorem once_zero {P : Program} {c : Code} {Q : Exit → Act → World → Prop} {a : Act} {w : World} (R : World → Prop) {F : Act}
    (h1 : c.wp P (Exit.then (fun a' w' => R w' ∧ a' = F) (fun _ _ _ => False)) a w) (h2 : ∀ w', R w' → Q .normal F w') : c.wp P Q a w :=
  Code.wp_mono (fun e _ _ h => by
    cases e <;> first | exact h.elim | skip
    obtain ⟨hr, ha⟩ := h
    subst ha
    exact h2 _ hr) h1

end Go.Proofs.YtjijkgmeddeihaaDoor
