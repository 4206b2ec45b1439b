/-
  THE NODES OF A SET IN ORDER, and math/bits' search for the lowest one, for sets below 256; the library's table is in its variable.
-/
import Derived.Test.YtjijkgmeddeihaaDoorSets
namespace Go.Proofs.YtjijkgmeddeihaaDoor
set_option linter.unusedVariables false
set_option linter.unusedSimpArgs false
open Go.RowKit

/-- The nodes of a set, ascending. -/
def bitsOf (m : Nat) : List (Fin 8) := (List.finRange 8).filter fun j => m.testBit j.val
def low (m : Nat) : Fin 8 := (bitsOf m).headD 0
def deB64 : List Nat := [0, 1, 56, 2, 57, 49, 28, 3, 61, 58, 42, 50, 38, 29, 17, 4, 62, 47, 59, 36, 45, 43, 51, 22, 53, 39, 33, 30, 24, 18, 12, 5, 63, 55, 48, 27, 60, 41, 37, 16, 46, 35, 44, 21, 52, 32, 23, 11, 54, 26, 40, 15, 34, 20, 31, 10, 25, 14, 19, 9, 13, 8, 7, 6]
/-- Where the library's table has what it says of the lowest node. -/
def tzPlace (m : Nat) : Nat := (m &&& (18446744073709551616 - m)) * 285870213051353865 % 18446744073709551616 / 288230376151711744

theorem bits_facts : ∀ m : Fin 256, m.val ≠ 0 → bitsOf m.val = low m.val :: bitsOf (m.val &&& (m.val - 1)) ∧ tzPlace m.val < 64 ∧ deB64[tzPlace m.val]? = some (low m.val).val := by decide +kernel
theorem bitsOf_zero : bitsOf 0 = [] := by decide

theorem bitsOf_cons {m : Nat} (h : m < 256) (h0 : m ≠ 0) : bitsOf m = low m :: bitsOf (m &&& (m - 1)) := (bits_facts ⟨m, h⟩ h0).1
theorem next_lt {m : Nat} (h : m < 256) : m &&& (m - 1) < 256 := Nat.lt_of_le_of_lt Nat.and_le_left h
theorem mem_bitsOf {m : Nat} {x : Fin 8} : x ∈ bitsOf m ↔ m.testBit x.val = true := by simp [bitsOf]
theorem bitsOf_nodup (m : Nat) : (bitsOf m).Nodup := (List.nodup_finRange 8).filter _

/-- The library's table in its variable. -/
def Tab (W : World) : Prop := ∀ (i x : Nat), deB64[i]? = some x → W.cell? ⟨1, i, none⟩ = some (.int .u8 (x : Int))
theorem Tab.below {n : Nat} {W W' : World} (h : Tab W) (hb : Below n W W') (hn : 1 < n) : Tab W' :=
  fun i x hx => (hb.cell (p := ⟨1, i, none⟩) hn).trans (h i x hx)
theorem Tab.lt {W : World} (h : Tab W) : 1 < W.heap.size := World.block_lt_of_cell? W _ (h 0 0 rfl)
theorem Tab.later {W W' : World} (h : Tab W) (hb : Below W.heap.size W W') : Tab W' := h.below hb h.lt

theorem tz_key (m : Nat) (hm : m < 256) (h0 : m ≠ 0) :
    IntKind.u64.wrap (bits BinOp.and IntKind.u64 (m : Int) (IntKind.u64.wrap (-(m : Int))) * 285870213051353865) / 288230376151711744 = ((tzPlace m : Nat) : Int) := by
  have e1 : IntKind.u64.wrap (-(m : Int)) = ((18446744073709551616 - m : Nat) : Int) := by rw [IntKind.wrap_u64]; omega
  rw [e1, bits_and_u64_nat m _ (by omega) (by omega), IntKind.wrap_u64]
  unfold tzPlace
  omega

set_option maxHeartbeats 400000 in
theorem tz64_core (m k idx : Nat) (w : World) (hx0 : ((m : Int) == 0) = false)
    (key : IntKind.u64.wrap (bits BinOp.and IntKind.u64 (m : Int) (IntKind.u64.wrap (-(m : Int))) * 285870213051353865) / 288230376151711744 = (idx : Int))
    (hi : idx < 64) (hk : k < 64) (hcell : w.cell? ⟨1, idx, none⟩ = some (.int .u8 k)) :
    Calls Tryd.prog 61 #[.int .u64 (m : Int)] w fun e w' => e = .returned (.int .i64 k) ∧ w = w' := by
  go_enter Tryd.func61, Tryd.ntmps61
  go_wp2_with (simp only [key])
  go_ret
  exact ⟨rfl, rfl⟩

theorem tz64_any (m : Nat) (hm : m < 256) (h0 : m ≠ 0) (w : World) (hT : Tab w) :
    Calls Tryd.prog 61 #[.int .u64 (m : Int)] w fun e w' => e = .returned (.int .i64 (((low m).val : Nat) : Int)) ∧ w = w' := by
  obtain ⟨_, h1, h2⟩ := bits_facts ⟨m, hm⟩ h0
  exact tz64_core m _ (tzPlace m) w (by simp; exact h0) (tz_key m hm h0) h1 (by have := (low m).isLt; omega) (hT _ _ h2)

set_option maxHeartbeats 400000 in
theorem tz_any (m : Nat) (hm : m < 256) (h0 : m ≠ 0) (w : World) (hT : Tab w) :
    Calls Tryd.prog 57 #[.int .u64 (m : Int)] w fun e w' => e = .returned (.int .i64 (((low m).val : Nat) : Int)) ∧ w = w' := by
  have H := Lib.hid (tz64_any m hm h0 w hT)
  clear hT
  go_enter Tryd.func57, Tryd.ntmps57
  go_wp2_with (go_at_call 61; refine H.out.mono ?_; rintro e w' ⟨rfl, rfl⟩)
  go_ret
  exact ⟨rfl, rfl⟩

end Go.Proofs.YtjijkgmeddeihaaDoor
