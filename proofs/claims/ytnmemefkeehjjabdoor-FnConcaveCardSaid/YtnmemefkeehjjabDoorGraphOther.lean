/-
  impl.GraphOther and the specification's: what they hand back.
-/
import Derived.Test.YtnmemefkeehjjabDoorCore2
import Derived.Test.YtnmemefkeehjjabDoorOther
import Derived.Deep.RegionLaw
import Derived.Deep.AppendLies
namespace Go.Proofs.YtnmemefkeehjjabDoor
set_option linter.unusedVariables false
set_option linter.unusedSimpArgs false
open Go.RowKit
set_option maxRecDepth 100000

/-- What both hand back. -/
def otherOf (xs : List Int) : List Int := if gIn xs = true then glist xs.length (othOf xs.length (gfun xs)) else []

theorem or_not : ∀ (m : Fin 256) (i : Fin 8), 255 - (m.val ||| 2 ^ i.val) = (255 - 2 ^ i.val) &&& (255 - m.val) := by decide +kernel

theorem other_val {n k m : Nat} (hn : n < 9) (hk : k < 8) (hm : m < 256) :
    bits .andNot .i64 (IntKind.i64.wrap (IntKind.i64.wrap (2 ^ n) - 1)) (bits .or .i64 (m : Int) (IntKind.i64.wrap (2 ^ k))) = ((((2 ^ n - 1) &&& (255 - 2 ^ k)) &&& (255 - m) : Nat) : Int) := by
  have h := pow8_le hn
  have h1 : 0 < 2 ^ n := Nat.two_pow_pos n
  rw [low_wrap' hn, wrap_eq, or_pow hm (by omega), andNot64 _ _ (by omega) (with_lt hm hk)]
  have := or_not ⟨m, hm⟩ ⟨k, hk⟩
  simp only at this
  rw [this, Nat.and_assoc]


end Go.Proofs.YtnmemefkeehjjabDoor
