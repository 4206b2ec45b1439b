/-
  A node taken out of a set: what both sides do.
-/
import Derived.Test.YtcklinoiaiilgabDoorSets
import Derived.Deep.RegionLaw
namespace Go.Proofs.YtcklinoiaiilgabDoor
set_option linter.unusedVariables false
set_option linter.unusedSimpArgs false
open Go.RowKit

/-- The set without a node, all greater ones called 1 less. -/
def drp (s v : Nat) : Nat := (s &&& (2 ^ v - 1)) ||| (s / 2 ^ (v + 1) * 2 ^ v)

theorem drp_all : ∀ (s : Fin 256) (v : Fin 8), drp s.val v.val < 128 := by decide +kernel
theorem drp_lt {s v : Nat} (hs : s < 256) (hv : v < 8) : drp s v < 128 := drp_all ⟨s, hs⟩ ⟨v, hv⟩
theorem high_all : ∀ (s : Fin 256) (v : Fin 8), s.val / 2 ^ (v.val + 1) * 2 ^ v.val < 128 := by decide +kernel

theorem drp_val {s v : Nat} (hs : s < 256) (hv : v < 8) :
    bits .or .i64 (bits .and .i64 (s : Int) ((2 ^ v - 1 : Nat) : Int)) (wrap64 ((s : Int) / 2 ^ (v + 1) * 2 ^ v)) = (drp s v : Int) := by
  have h := pow8_le (v := v) (by omega)
  have e : (s : Int) / 2 ^ (v + 1) * 2 ^ v = ((s / 2 ^ (v + 1) * 2 ^ v : Nat) : Int) := by push_cast; rfl
  have h1 := high_all ⟨s, hs⟩ ⟨v, hv⟩
  simp only at h1
  have h2 : s &&& (2 ^ v - 1) ≤ s := Nat.and_le_left
  rw [e, and64 _ _ (by omega) (by omega)]
  have h3 : wrap64 ((s / 2 ^ (v + 1) * 2 ^ v : Nat) : Int) = ((s / 2 ^ (v + 1) * 2 ^ v : Nat) : Int) := by
    generalize s / 2 ^ (v + 1) * 2 ^ v = m at h1
    unfold wrap64; omega
  rw [h3, or64 _ _ (by omega) (by omega)]
  rfl

theorem wrap_next {k : Nat} (h : k < 8) : wrap64 ((k : Int) + 1) = (k : Int) + 1 := by unfold wrap64; omega
theorem wrap_next' {k : Nat} (h : k < 8) : IntKind.i64.wrap ((k : Int) + 1) = (k : Int) + 1 := by rw [wrap_eq]; exact wrap_next h
theorem wrap_prev {m : Nat} (h : m < 8) : wrap64 (((m + 1 : Nat) : Int) - 1) = (m : Int) := by unfold wrap64; omega
theorem wrap_prev' {m : Nat} (h : m < 8) : IntKind.i64.wrap (((m + 1 : Nat) : Int) - 1) = (m : Int) := by rw [wrap_eq]; exact wrap_prev h

set_option maxHeartbeats 400000 in
theorem closedUp_any (s v : Nat) (hs : s < 256) (hv : v < 8) (w : World) :
    Calls Tryd.prog 139 #[.int .i64 (s : Int), .int .i64 (v : Int)] w fun e w' => e = .returned (.int .i64 (drp s v : Int)) ∧ ∃ q, w' = w.drewN q := by
  have H := Lib.hid (drp_val hs hv)
  have hv' : (v : Int) < 8 := by omega
  have hw1 : IntKind.i64.wrap ((v : Int) + 1) = (v : Int) + 1 := by rw [wrap_eq]; unfold wrap64; omega
  have hw2 : ¬ (v : Int) + 1 < 0 := by omega
  have hw3 : ((v : Int) + 1).toNat = v + 1 := by omega
  have hw4 : wrap64 ((v : Int) + 1) = (v : Int) + 1 := by unfold wrap64; omega
  clear hs
  go_enter Tryd.func139, Tryd.ntmps139
  go_wp2
  go_region_law (go_simp; go_at_call 141; refine (nodesBelow_any v (by omega) _).mono ?_; rintro e w' ⟨rfl, rfl⟩)
  all_goals go_wp2
  all_goals go_ret
  all_goals exact ⟨ret_int (by rw [wrap_eq]; exact H.out), 1, rfl⟩

set_option maxHeartbeats 400000 in
theorem l1Drop_any (s v : Nat) (hs : s < 256) (hv : v < 8) (w : World) :
    Calls Tryd.prog 140 #[.int .i64 (s : Int), .int .i64 (v : Int)] w fun e w' => e = .returned (.int .i64 (drp s v : Int)) ∧ w = w' := by
  have e := low_wrap (v := v) (by omega)
  have hd := drp_val hs hv
  rw [← e] at hd
  have H := Lib.hid hd
  have hv' : (v : Int) < 8 := by omega
  clear hs e hd
  go_enter Tryd.func140, Tryd.ntmps140
  go_wp2
  go_ret
  exact ⟨ret_int H.out, rfl⟩

end Go.Proofs.YtcklinoiaiilgabDoor
