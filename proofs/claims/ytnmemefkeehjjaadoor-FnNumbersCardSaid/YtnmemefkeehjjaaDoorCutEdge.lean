/-
  (graph).cut and (graph).areNeighbours.
-/
import Derived.Test.YtnmemefkeehjjaaDoorFit1
namespace Go.Proofs.YtnmemefkeehjjaaDoor
set_option linter.unusedVariables false
set_option linter.unusedSimpArgs false
open Go.RowKit

/-- The edge of two nodes taken out. -/
def cutE (f : Nat → Nat) (a b : Nat) : Nat → Nat := upd (upd f a (f a &&& (255 - 2 ^ b))) b (upd f a (f a &&& (255 - 2 ^ b)) b &&& (255 - 2 ^ a))

theorem less_lt {s m : Nat} (hs : s < 256) : s &&& m < 256 := Nat.lt_of_le_of_lt Nat.and_le_left hs

set_option maxRecDepth 100000 in
set_option maxHeartbeats 1000000 in
theorem cut_any (n : Nat) (f : Nat → Nat) (a b : Nat) (ha : a < 8) (hb : b < 8) (hf : ∀ i, f i < 256) (w : World) :
    Calls Tryd.prog 78 #[.agg (gcells n f), .int .i64 (a : Int), .int .i64 (b : Int)] w fun e w' => e = .returned (.agg (gcells n (cutE f a b))) ∧ Below w.heap.size w w' := by
  have hl1 : f a &&& (255 - 2 ^ b) < 256 := less_lt (hf a)
  obtain ⟨f1, hf1⟩ : ∃ f1, upd f a (f a &&& (255 - 2 ^ b)) = f1 := ⟨_, rfl⟩
  have hfl : ∀ i, f1 i < 256 := by rw [← hf1]; exact upd_lt hf hl1
  obtain ⟨f2, hf2⟩ : ∃ f2, upd f1 b (f1 b &&& (255 - 2 ^ a)) = f2 := ⟨_, rfl⟩
  have hlnk : cutE f a b = f2 := by unfold cutE; rw [hf1, hf2]
  rw [hlnk]
  have g1 := gcells_at n f a ha
  have s1 := gcells_set n f a (f a &&& (255 - 2 ^ b)) ha
  rw [hf1] at s1
  have g2 := gcells_at n f1 b hb
  have s2 := gcells_set n f1 b (f1 b &&& (255 - 2 ^ a)) hb
  rw [hf2] at s2
  have h1 := hf a
  have h2 := hfl b
  clear hf hfl hl1 hf1 hf2 hlnk
  go_enter Tryd.func78, Tryd.ntmps78
  go_wp2_with (first
    | (go_at_call 70; refine (without_any (f a) b h1 hb _).mono ?_; rintro e w' ⟨rfl, rfl⟩)
    | (go_at_call 70; refine (without_any (f1 b) a h2 ha _).mono ?_; rintro e w' ⟨rfl, rfl⟩)
    | (refine load_graph rfl _ rfl _ n f2 rfl (heap_alloc2_old _ _ _) ?_)
    | (refine store_graph rfl _ _ rfl _ n f2 rfl rfl 0 (fun _ => 0) (heap_alloc2_new _ _ _) ?_))
  refine bodyPost_ret (v := .agg (gcells n f2)) (ret_graph rfl _ _ (w.heap.size + 1) n f2 rfl (heap_setRow_same (heap_alloc2_new _ _ _))) rfl ⟨rfl, ?_⟩
  exact below_setRow (((Below.refl _ _).alloc (Nat.le_refl _) _).alloc (by simp) _) (by omega) _

end Go.Proofs.YtnmemefkeehjjaaDoor
