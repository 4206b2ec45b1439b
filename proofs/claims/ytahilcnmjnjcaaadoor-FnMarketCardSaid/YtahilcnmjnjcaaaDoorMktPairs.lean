/-
  (impl.market).pairings and its iterator: all orders are given out.
-/
import Derived.Test.YtahilcnmjnjcaaaDoorRangeU
import Derived.Test.YtahilcnmjnjcaaaDoorSide1
namespace Go.Proofs.YtahilcnmjnjcaaaDoor
set_option linter.unusedVariables false
set_option linter.unusedSimpArgs false
open Go.RowKit Go.Shelf

/-- The value that hands out all orders. -/
abbrev pairSeq (Bm : Nat) : Value := .func (.func 71) #[] #[.pointer (some ⟨Bm, 0, none⟩)]
set_option maxHeartbeats 400000 in
theorem pairings_any (w : World) (a1 a2 a3 a4 : Value) :
    Calls Tryd.prog 45 #[.agg (four a1 a2 a3 a4)] w fun e w' => e = .returned (pairSeq w.heap.size) ∧ w' = w.alloc (.cells (four a1 a2 a3 a4) 60) := by
  go_enter Tryd.func45, Tryd.ntmps45
  go_wp2
  go_ret
  exact ⟨rfl, rfl⟩

theorem full_count : ∀ n : Fin 9, (bitsOf (2 ^ n.val - 1)).length = n.val := by decide
set_option maxRecDepth 100000 in
set_option maxHeartbeats 2000000 in
theorem pairings1_any (l B0 N : Nat) (hN : 8 ^ 8 ≤ N) (Good : List Int → Prop) (J : List (List Int) → World → Prop) (W : World) (hB0 : B0 ≤ W.heap.size) (hJ : ClosedJ W.heap.size J) (HY : Takes l B0 W.heap.size N Good J) (h0 : J [] W) (Bm : Nat) (A : Option Addr) (n c : Nat) (a2 a3 a4 : Value)
    (hm : W.heap[Bm]? = some (.cells (four (.slice A n c) a2 a3 a4) 60 (0, 0))) (h5 : n ≤ 8) (hg : ∀ p ∈ comp n (2 ^ n - 1) [], Good p) (hT : Tab W) :
    Calls Tryd.prog 71 #[.func (.yield l) #[] #[], .pointer (some ⟨Bm, 0, none⟩)] W fun e W' => (∃ v, e = .returned v) ∧ J (comp n (2 ^ n - 1) []) W' := by
  obtain ⟨W1, hW1⟩ : ∃ W1, W.alloc (.cells #[] 3) = W1 := ⟨_, rfl⟩
  have hb1 : Below W.heap.size W W1 := by rw [← hW1]; exact (Below.refl _ _).alloc (Nat.le_refl _) _
  have ho1 : Owns W1 W.heap.size (.slice (some ⟨W.heap.size, 0, none⟩) 0 0) [] := by rw [← hW1]; exact owns_empty W W.heap.size (Nat.le_refl _)
  obtain ⟨y0, y1, y2, y3, _⟩ := four_cells (kept_obj hb1 hm)
  have hlen := full_count ⟨n, by omega⟩
  have hlt : 2 ^ n - 1 < 256 := by
    have : 2 ^ n ≤ 2 ^ 8 := Nat.pow_le_pow_right (by decide) h5
    omega
  have HCO := Lib.hid (fun (X : World) (hX : Below W1.heap.size W1 X) => compl_any l B0 W.heap.size N hB0 Good J hJ HY n X W (2 ^ n - 1) [] W.heap.size 0 [] hlt hlen (by simp; omega) hg h0 (by have : 8 ^ n ≤ 8 ^ 8 := Nat.pow_le_pow_right (by decide) h5; rw [List.length_nil]; omega) (Nat.le_refl _) (step_below hb1 hX) (owns_below ho1 hX) (hT.later (step_below hb1 hX)))
  obtain ⟨full, hfull⟩ : ∃ full, 2 ^ n - 1 = full := ⟨_, rfl⟩
  have HNB := Lib.hid (fun X => nodesBelow_any n (by omega) X)
  rw [hfull] at HCO HNB ⊢
  clear hb1 ho1 hlen hlt hg hm hfull h0 HY hJ hT
  go_enter Tryd.func71, Tryd.ntmps71
  go_wp2_with (first
    | (go_at_call 74; refine (count_any _ A n c _ _ _).mono ?_; rintro e X2 ⟨rfl, hb2⟩)
    | (go_at_call 73; refine (HNB.out _).mono ?_; rintro e X3 ⟨rfl, rfl⟩))
  refine (HCO.out X2 hb2).mono ?_
  rintro e X4 ⟨rfl, hj, -⟩
  have HJ4 := Lib.hid hj
  clear hj hb2 y0 y1 y2 y3
  go_wp2
  go_end0
  exact ⟨⟨_, rfl⟩, by have := HJ4.out; rwa [List.nil_append] at this⟩

end Go.Proofs.YtahilcnmjnjcaaaDoor
