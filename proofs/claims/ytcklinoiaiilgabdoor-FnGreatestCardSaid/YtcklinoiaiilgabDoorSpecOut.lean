/-
  The specification's l1Without: the graph without a node, as a list.
-/
import Derived.Test.YtcklinoiaiilgabDoorSpecIn
import Derived.Test.YtcklinoiaiilgabDoorCutOut
import Derived.Deep.AppendLies
namespace Go.Proofs.YtcklinoiaiilgabDoor
set_option linter.unusedVariables false
set_option linter.unusedSimpArgs false
open Go.RowKit
set_option maxRecDepth 100000

/-- So many nodes below k are left. -/
def leftOf (v k : Nat) : Nat := if k ≤ v then k else k - 1

set_option maxHeartbeats 1000000 in
theorem l1Without_any (w : World) (u : Value) (xs : List Int) (h : Ints w u xs) (v : Nat) (h8 : xs.length ≤ 8) (hv : v < xs.length) (hrow : ∀ i (hi : i < xs.length), xs[i] = (gfun xs i : Int) ∧ gfun xs i < 256) :
    Calls Tryd.prog 105 #[u, .int .i64 (v : Int)] w fun e w' => ∃ r, e = .returned r ∧ Below w.heap.size w w' ∧ w'.ownsRow w.heap.size 3 1 r (xs.length - 1) (vals (glist (xs.length - 1) (shutOf (gfun xs) v))) := by
  obtain ⟨i0, hi, hz0, hz1, hz2⟩ := info_parts infoInt
  obtain ⟨A, cap, rfl, hm, hc⟩ := h
  have HC := Lib.hid hc
  have HROW := Lib.hid hrow
  clear hc hrow
  unfold maxLen at hm
  go_enter Tryd.func105, Tryd.ntmps105
  go_wp2
  go_loopw [5, 6] (fun r i wr => ∃ k : Nat, k ≤ xs.length ∧ i = .int .i64 k ∧ Below w.heap.size w wr ∧ wr.ownsRow w.heap.size 3 1 r (leftOf v k) (vals (glist (leftOf v k) (shutOf (gfun xs) v))))
    (fun _ i _ => xs.length - (intOf i).toNat)
  case atStart => exact ⟨0, by omega, rfl, (Below.refl _ _).alloc (Nat.le_refl _) _, owns_empty w _ (Nat.le_refl _)⟩
  case round =>
    obtain ⟨k, hk, rfl, hb, ho⟩ := hrel
    by_cases hlt : k < xs.length
    · by_cases hkv : k = v
      · subst hkv
        have e1 : leftOf k (k + 1) = leftOf k k := by unfold leftOf; simp
        have E1 := Lib.hid e1
        have HO := Lib.hid ho
        clear e1 ho
        go_wp2
        go_roundw
        case rel => exact ⟨k + 1, by omega, by go_num, hb, by rw [E1.out]; exact HO.out⟩
        case measure => simp [intOf]; omega
      · have e1 : leftOf v (k + 1) = leftOf v k + 1 := by unfold leftOf; split <;> split <;> omega
        have e2 : shutOf (gfun xs) v (leftOf v k) = drp (gfun xs k) v := by
          unfold shutOf leftOf
          by_cases h1 : k ≤ v
          · rw [if_pos h1, if_pos (by omega)]
          · rw [if_neg h1, if_neg (by omega), show k - 1 + 1 = k by omega]
        obtain ⟨b, off, rfl, hcell0⟩ := HC.out k hlt
        obtain ⟨hxk, hlk⟩ := HROW.out k hlt
        have hcell : wr.cell? ⟨b, off + k, none⟩ = some (.int .i64 (gfun xs k : Int)) := by
          rw [← hxk]; exact (hb.cell (p := ⟨b, off + k, none⟩) (World.block_lt_of_cell? w _ hcell0)).trans hcell0
        have hlc : leftOf v k ≤ 8 := by unfold leftOf; split <;> omega
        have hne : ¬ (k : Int) = (v : Int) := by omega
        have hki : (k : Int) < (xs.length : Int) := by omega
        have E1 := Lib.hid e1
        have E2 := Lib.hid e2
        clear hcell0 hxk e1 e2
        go_wp2_with (first
          | (go_at_call 140; refine (l1Drop_any (gfun xs k) v hlk (by omega) _).mono ?_; rintro e w' ⟨rfl, rfl⟩)
          | (refine wpList_append_lies _ rfl (.tmp 17) (.tmp 24) 24 rfl w.heap.size 3 i0 (.int .i64 0) 1 8 Tryd.underlying24 hi hz0 hz1 hz2 rfl (by decide) _ _ _ rfl (ho.alloc _) ⟨wr.heap.size, 0, none⟩ 1 1 [.int .i64 (drp (gfun xs k) v : Int)] rfl rfl (cell_one_new _ _ _) (by simp [Value.oneCell']) (by decide) (by unfold maxLen; omega) (by omega) (by have := hb.size; simp; omega) _ rfl ?_; intro g cap w1 hown hgrow _ _))
        go_wp2
        go_roundw
        case rel =>
          refine ⟨k + 1, by omega, by go_num, ?_, ?_⟩
          · exact (hb.alloc hb.size _).grown hgrow (by have := hb.size; simp; omega) (fun j hj => (ho.lt j hj).1)
          · rw [E1.out, glist_succ, E2.out]; exact hown
        case measure => simp [intOf]; omega
    · obtain rfl : k = xs.length := by omega
      have e1 : leftOf v xs.length = xs.length - 1 := by unfold leftOf; rw [if_neg (by omega)]
      rw [e1] at ho
      have HO := Lib.hid ho
      clear ho e1
      go_wp2
      go_ret
      exact ⟨_, rfl, hb, HO.out⟩

end Go.Proofs.YtcklinoiaiilgabDoor
