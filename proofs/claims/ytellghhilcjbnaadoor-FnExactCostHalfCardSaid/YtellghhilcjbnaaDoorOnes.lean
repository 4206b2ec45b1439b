/-
  The number of the nodes of a set: math/bits' OnesCount, for sets below 256.
-/
import Derived.Test.YtellghhilcjbnaaDoorCore1
namespace Go.Proofs.YtellghhilcjbnaaDoor
set_option linter.unusedVariables false
set_option linter.unusedSimpArgs false
open Go.RowKit

def on1 (x : Int) : Int := IntKind.u64.wrap (bits .and .u64 (x / 2) 6148914691236517205 + bits .and .u64 x 6148914691236517205)
def on2 (x : Int) : Int := IntKind.u64.wrap (bits .and .u64 (x / 4) 3689348814741910323 + bits .and .u64 x 3689348814741910323)
def on3 (x : Int) : Int := bits .and .u64 (IntKind.u64.wrap (x / 16 + x)) 1085102592571150095
def on4 (x : Int) : Int := IntKind.u64.wrap (x + x / 256)
def on5 (x : Int) : Int := IntKind.u64.wrap (x + x / 65536)
def on6 (x : Int) : Int := IntKind.u64.wrap (x + x / 4294967296)
def on7 (x : Int) : Int := bits .and .i64 (IntKind.i64.wrap x) 127
theorem ones_all : ∀ m : Fin 256, on7 (on6 (on5 (on4 (on3 (on2 (on1 ((m.val : Nat) : Int))))))) = (((bitsOf m.val).length : Nat) : Int) := by decide +kernel

set_option maxRecDepth 100000 in
set_option maxHeartbeats 1000000 in
theorem ones64_any (m : Nat) (hm : m < 256) (w : World) :
    Calls Tryd.prog 71 #[.int .u64 (m : Int)] w fun e w' => e = .returned (.int .i64 (((bitsOf m).length : Nat) : Int)) ∧ w = w' := by
  have h := ones_all ⟨m, hm⟩
  simp only at h
  rw [← h]
  clear h
  go_enter Tryd.func71, Tryd.ntmps71
  go_wp2
  go_ret
  exact ⟨ret_int (by unfold on7 on6 on5 on4 on3 on2 on1; simp only [wrap_eq]), rfl⟩

set_option maxRecDepth 100000 in
theorem ones_any (m : Nat) (hm : m < 256) (w : World) :
    Calls Tryd.prog 65 #[.int .u64 (m : Int)] w fun e w' => e = .returned (.int .i64 (((bitsOf m).length : Nat) : Int)) ∧ w = w' := by
  have HO := Lib.hid (ones64_any m hm w)
  go_enter Tryd.func65, Tryd.ntmps65
  go_wp2_with (go_at_call 71; refine HO.out.mono ?_; rintro e w1 ⟨rfl, rfl⟩)
  go_ret
  exact ⟨rfl, rfl⟩

set_option maxRecDepth 100000 in
theorem setSize_any (m : Nat) (hm : m < 256) (w : World) :
    Calls Tryd.prog 58 #[.int .i64 (m : Int)] w fun e w' => e = .returned (.int .i64 (((bitsOf m).length : Nat) : Int)) ∧ w = w' := by
  have HO := Lib.hid (ones_any m hm w)
  have e1 : IntKind.u64.wrap (m : Int) = (m : Int) := by rw [IntKind.wrap_u64]; omega
  have m0 : (0 : Int) ≤ (m : Int) := by omega
  have m1 : (m : Int) < 256 := by omega
  go_enter Tryd.func58, Tryd.ntmps58
  go_wp2_with (go_at_call 65; refine HO.out.mono ?_; rintro e w1 ⟨rfl, rfl⟩)
  go_ret
  exact ⟨rfl, rfl⟩

end Go.Proofs.YtellghhilcjbnaaDoor
