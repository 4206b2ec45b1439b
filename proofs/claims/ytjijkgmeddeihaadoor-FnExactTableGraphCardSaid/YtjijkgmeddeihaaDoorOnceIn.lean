/-
  A REGION INSIDE A FENCE PROVED ONCE, ITS REST WALKED ONCE.
-/
import Derived.Test.YtjijkgmeddeihaaDoorBase
import Derived.TacticsIn
namespace Go.Proofs.YtjijkgmeddeihaaDoor
set_option linter.unusedVariables false
set_option linter.unusedSimpArgs false
open Go.RowKit

theorem onceIn_any {Fc : Fence} {n : Nat} {P : Program} {c : Code} {Q : Exit → Act → World → Prop} {a : Act} {w : World} {α : Type} (R : α → World → Prop) {F : α → Act}
    (h1 : c.wpIn Fc n P (Exit.then (fun a' w' => ∃ x, R x w' ∧ a' = F x) (fun _ _ _ => False)) a w) (h2 : ∀ x w', R x w' → Q .normal (F x) w') : c.wpIn Fc n P Q a w :=
  Code.wpIn_mono (fun e _ _ h => by
    cases e <;> first | exact h.elim | skip
    obtain ⟨x, hr, ha⟩ := h
    subst ha
    exact h2 x _ hr) h1

theorem onceIn_zero {Fc : Fence} {n : Nat} {P : Program} {c : Code} {Q : Exit → Act → World → Prop} {a : Act} {w : World} (R : World → Prop) {F : Act}
    (h1 : c.wpIn Fc n P (Exit.then (fun a' w' => R w' ∧ a' = F) (fun _ _ _ => False)) a w) (h2 : ∀ w', R w' → Q .normal F w') : c.wpIn Fc n P Q a w :=
  Code.wpIn_mono (fun e _ _ h => by
    cases e <;> first | exact h.elim | skip
    obtain ⟨hr, ha⟩ := h
    subst ha
    exact h2 _ hr) h1

end Go.Proofs.YtjijkgmeddeihaaDoor
