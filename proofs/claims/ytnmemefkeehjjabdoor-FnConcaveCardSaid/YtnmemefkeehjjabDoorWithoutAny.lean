/-
  impl.GraphWithout, spec.GraphWithout: what they hand back.
-/
import Derived.Test.YtnmemefkeehjjabDoorCore2
import Derived.Test.YtnmemefkeehjjabDoorFit1
namespace Go.Proofs.YtnmemefkeehjjabDoor
set_option linter.unusedVariables false
set_option linter.unusedSimpArgs false
open Go.RowKit
set_option maxRecDepth 100000

/-- Whether a node can be taken out. -/
def outOk (xs : List Int) (v : Int) : Bool := gIn xs && decide (2 ≤ xs.length ∧ 0 ≤ v ∧ v < (xs.length : Int))
def outOf (xs : List Int) (v : Int) : List Int := if outOk xs v = true then glist (xs.length - 1) (shutOf (gfun xs) v.toNat) else []

theorem outOf_len (xs : List Int) (v : Int) : (outOf xs v).length ≤ 1048576 := by
  unfold outOf
  split
  · rename_i h
    unfold outOk gIn at h
    simp only [Bool.and_eq_true, decide_eq_true_eq] at h
    rw [glist_len]; omega
  · simp

theorem gIn_cut {xs : List Int} (h : gIn xs = true) : 1 ≤ xs.length ∧ xs.length ≤ 8 ∧ okTo xs xs.length = true := by
  unfold gIn at h
  simp only [Bool.and_eq_true, decide_eq_true_eq] at h
  exact ⟨h.1.1, h.1.2, h.2.1⟩

set_option maxHeartbeats 1000000 in
theorem implWithout_any (w : World) (u : Value) (xs : List Int) (v : Int) (h : Ints w u xs) (hr : ∀ x ∈ xs, I64 x) (hT : Tab w) :
    Calls Tryd.prog 12 #[u, .int .i64 v] w (GivesInts w (outOk xs v) (outOf xs v)) := by
  have hf := from_any w u xs h hr hT
  cases hg : gIn xs with
  | false =>
    have hk : outOk xs v = false := by simp [outOk, hg]
    have ho : outOf xs v = [] := by simp [outOf, hk]
    have hfr : fromOf xs = gcells 0 (fun _ => 0) := by simp [fromOf, hg]
    rw [hg, hfr] at hf
    rw [ho, hk]
    have HF := Lib.hid hf
    clear hf hg ho hfr hT hr h hk
    go_enter Tryd.func12, Tryd.ntmps12
    go_wp2_with (first
      | (go_at_call 34; refine HF.out.mono ?_; rintro e w1 ⟨rfl, hb1⟩)
      | (refine store_graph_new rfl _ _ rfl 0 (fun _ => 0) rfl rfl ?_))
    go_ret2
    exact ⟨_, rfl, hb1.alloc hb1.size _, World.ownsRow_nil _ _ _ _⟩
  | true =>
    obtain ⟨h1, h8, hok⟩ := gIn_cut hg
    have hfr : fromOf xs = gcells xs.length (gfun xs) := by simp [fromOf, hg]
    have hlt := gfun_lt h8 hok
    rw [hg, hfr] at hf
    have HF := Lib.hid hf
    have HL := Lib.hid hlt
    by_cases hv : 0 ≤ v ∧ v < (xs.length : Int)
    · by_cases h2 : 2 ≤ xs.length
      · obtain ⟨n, rfl⟩ : ∃ n : Nat, v = (n : Int) := ⟨v.toNat, by omega⟩
        have hk : outOk xs (n : Int) = true := by simp only [outOk, hg, Bool.true_and]; exact decide_eq_true ⟨h2, hv⟩
        have ho : outOf xs (n : Int) = glist (xs.length - 1) (shutOf (gfun xs) n) := by rw [outOf, if_pos hk]; rfl
        rw [ho, hk]
        have hh := hasNode_any xs.length (gfun xs) (n : Int)
        rw [decide_eq_true hv] at hh
        have HH := Lib.hid hh
        have hne : ¬ (xs.length : Int) = 1 := by omega
        clear hf hg ho hfr hT hr h hok hlt hk hh
        go_enter Tryd.func12, Tryd.ntmps12
        go_wp2_with (first
          | (go_at_call 34; refine HF.out.mono ?_; rintro e w1 ⟨rfl, hb1⟩)
          | (refine store_graph_new rfl _ _ rfl xs.length (gfun xs) rfl rfl ?_; obtain ⟨c0, cs, _, _⟩ := graph_cells (World.alloc_heap_new w1 (.cells (gcells xs.length (gfun xs)) 42)); have c1 := cs 0 (by decide); have c2 := cs 1 (by decide); have c3 := cs 2 (by decide); have c4 := cs 3 (by decide); have c5 := cs 4 (by decide); have c6 := cs 5 (by decide); have c7 := cs 6 (by decide); have c8 := cs 7 (by decide); clear cs)
          | (go_at_call 35; refine (HH.out _).mono ?_; rintro e w2 ⟨rfl, hb2⟩; have d0 := (hb2.cell (p := ⟨w1.heap.size, 0, none⟩) (by simp)).trans c0)
          | (refine load_graph rfl _ rfl _ xs.length (gfun xs) rfl ((hb2.block w1.heap.size (by simp)).trans (World.alloc_heap_new w1 (.cells (gcells xs.length (gfun xs)) 42))) ?_)
          | (go_at_call 36; refine (cutOut_any xs.length (gfun xs) n h2 h8 (by omega) HL.out _).mono ?_; rintro e w3 ⟨rfl, hb3⟩)
          | (go_at_call 37; refine (list_any (xs.length - 1) _ (by omega) _).mono ?_; rintro e w4 ⟨rfl, hb4, ho⟩))
        go_ret2
        have hgl : glist (xs.length - 1) (fun i => if i < xs.length - 1 then shutOf (gfun xs) n i else 0) = glist (xs.length - 1) (shutOf (gfun xs) n) := glist_congr (fun i hi => if_pos hi)
        rw [hgl] at ho
        have hb5 := step_below (step_below (step_below (hb1.alloc hb1.size _) hb2) hb3) hb4
        refine ⟨_, rfl, hb5, owns_mono ho ?_⟩
        have := hb3.size
        have := hb2.size
        have := hb1.size
        simp at *
        omega
      · have hk : outOk xs v = false := by simp only [outOk, hg, Bool.true_and]; exact decide_eq_false (by omega)
        have ho : outOf xs v = [] := by simp [outOf, hk]
        rw [ho, hk]
        have hh := hasNode_any xs.length (gfun xs) v
        rw [decide_eq_true hv] at hh
        have HH := Lib.hid hh
        have HEQ : Hid ((xs.length : Int) = 1) := Lib.hid (by omega)
        clear hf hg ho hfr hT hr h hok hlt hk hh
        go_enter Tryd.func12, Tryd.ntmps12
        go_wp2_with (first
          | (go_at_call 34; refine HF.out.mono ?_; rintro e w1 ⟨rfl, hb1⟩)
          | (refine store_graph_new rfl _ _ rfl xs.length (gfun xs) rfl rfl ?_; obtain ⟨c0, cs, _, _⟩ := graph_cells (World.alloc_heap_new w1 (.cells (gcells xs.length (gfun xs)) 42)); have c1 := cs 0 (by decide); have c2 := cs 1 (by decide); have c3 := cs 2 (by decide); have c4 := cs 3 (by decide); have c5 := cs 4 (by decide); have c6 := cs 5 (by decide); have c7 := cs 6 (by decide); have c8 := cs 7 (by decide); clear cs)
          | (go_at_call 35; refine (HH.out _).mono ?_; rintro e w2 ⟨rfl, hb2⟩; have d0 := (hb2.cell (p := ⟨w1.heap.size, 0, none⟩) (by simp)).trans c0; have heq := HEQ.out))
        go_ret2
        exact ⟨_, rfl, step_below (hb1.alloc hb1.size _) hb2, World.ownsRow_nil _ _ _ _⟩

    · have hk : outOk xs v = false := by simp only [outOk, hg, Bool.true_and]; exact decide_eq_false (by omega)
      have ho : outOf xs v = [] := by simp [outOf, hk]
      rw [ho, hk]
      have hh := hasNode_any xs.length (gfun xs) v
      rw [decide_eq_false hv] at hh
      have HH := Lib.hid hh
      clear hf hg ho hfr hT hr h hok hlt hk hh
      go_enter Tryd.func12, Tryd.ntmps12
      go_wp2_with (first
        | (go_at_call 34; refine HF.out.mono ?_; rintro e w1 ⟨rfl, hb1⟩)
        | (refine store_graph_new rfl _ _ rfl xs.length (gfun xs) rfl rfl ?_; obtain ⟨c0, cs, _, _⟩ := graph_cells (World.alloc_heap_new w1 (.cells (gcells xs.length (gfun xs)) 42)); have c1 := cs 0 (by decide); have c2 := cs 1 (by decide); have c3 := cs 2 (by decide); have c4 := cs 3 (by decide); have c5 := cs 4 (by decide); have c6 := cs 5 (by decide); have c7 := cs 6 (by decide); have c8 := cs 7 (by decide); clear cs)
        | (go_at_call 35; refine (HH.out _).mono ?_; rintro e w2 ⟨rfl, hb2⟩; have d0 := (hb2.cell (p := ⟨w1.heap.size, 0, none⟩) (by simp)).trans c0))
      go_ret2
      exact ⟨_, rfl, step_below (hb1.alloc hb1.size _) hb2, World.ownsRow_nil _ _ _ _⟩


end Go.Proofs.YtnmemefkeehjjabDoor
