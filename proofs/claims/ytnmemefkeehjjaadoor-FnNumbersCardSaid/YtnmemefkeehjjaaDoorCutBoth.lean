/-
  FnExactGraphCut, at every list and two nodes.
-/
import Derived.Test.YtnmemefkeehjjaaDoorCore2
import Derived.Test.YtnmemefkeehjjaaDoorSpecCut
namespace Go.Proofs.YtnmemefkeehjjaaDoor
set_option linter.unusedVariables false
set_option linter.unusedSimpArgs false
open Go.RowKit

def cutOf (xs : List Int) (a b : Int) : List Int := if edgeB xs a b = true then glist xs.length (cutE (gfun xs) a.toNat b.toNat) else []

theorem edge_parts {xs : List Int} {a b : Int} (h : edgeB xs a b = true) : gIn xs = true ∧ ∃ i j : Nat, a = (i : Int) ∧ b = (j : Int) ∧ i < xs.length ∧ j < xs.length := by
  unfold edgeB nearB at h
  simp only [Bool.and_eq_true, decide_eq_true_eq] at h
  exact ⟨h.1, a.toNat, b.toNat, by omega, by omega, by omega, by omega⟩

theorem cutOf_len (xs : List Int) (a b : Int) : (cutOf xs a b).length ≤ 1048576 := by
  unfold cutOf
  split
  · rename_i h
    have := gIn_parts (edge_parts h).1
    rw [glist_len]; omega
  · simp

set_option maxHeartbeats 1000000 in
theorem specCut_any (w : World) (v : Value) (xs : List Int) (a b : Int) (h : Ints w v xs) :
    Calls Tryd.prog 40 #[v, .int .i64 a, .int .i64 b] w (GivesInts w (edgeB xs a b) (cutOf xs a b)) := by
  have hv := h
  obtain ⟨A, cap, rfl, hm, _⟩ := h
  have he := l1Edge_any w _ xs hv a b
  have HV := Lib.hid hv
  clear hv
  cases hg : edgeB xs a b with
  | false =>
    have ho : cutOf xs a b = [] := by simp [cutOf, hg]
    rw [hg] at he
    rw [ho]
    have HE := Lib.hid he
    clear he hg ho
    go_enter Tryd.func40, Tryd.ntmps40
    go_wp2_with (go_at_call 60; refine HE.out.mono ?_; rintro e w1 ⟨rfl, q, rfl⟩)
    go_ret2
    exact ⟨_, rfl, below_drewN ((Below.refl _ _).alloc (Nat.le_refl _) _) q, owns_empty w _ (Nat.le_refl _)⟩
  | true =>
    obtain ⟨hgi, i, j, rfl, rfl, hi, hj⟩ := edge_parts hg
    obtain ⟨h1, h8, hok⟩ := gIn_parts hgi
    have ho : cutOf xs (i : Int) (j : Int) = glist xs.length (cutE (gfun xs) i j) := by rw [cutOf, if_pos hg]; rfl
    rw [hg] at he
    rw [ho]
    have HE := Lib.hid he
    have hc := fun W (hW : Ints W (.slice A xs.length cap) xs) => l1Cut_any W _ xs hW i j h8 hi hj (fun k hk => row_value h8 hok hk)
    have HC := Lib.hid hc
    clear he hg ho hgi hok hc
    go_enter Tryd.func40, Tryd.ntmps40
    go_wp2_with (first
      | (go_at_call 60; refine HE.out.mono ?_; rintro e w1 ⟨rfl, q, rfl⟩)
      | (go_at_call 82; refine (HC.out _ (HV.out.drewN q)).mono ?_; rintro e w2 ⟨r, rfl, hb2, ho2⟩))
    go_ret2
    refine ⟨_, rfl, step_below (below_drewN (Below.refl _ _) q) hb2, ?_⟩
    show World.ownsRow _ _ _ _ _ (glist xs.length _).length _
    rw [glist_len]
    exact ho2

set_option maxRecDepth 100000 in
set_option maxHeartbeats 1000000 in
theorem implCut_any (w : World) (u : Value) (xs : List Int) (a b : Int) (h : Ints w u xs) (hr : ∀ x ∈ xs, I64 x) (hT : Tab w) :
    Calls Tryd.prog 37 #[u, .int .i64 a, .int .i64 b] w (GivesInts w (edgeB xs a b) (cutOf xs a b)) := by
  have hf := from_any w u xs h hr hT
  cases hg : gIn xs with
  | false =>
    have hk : edgeB xs a b = false := by simp [edgeB, hg]
    have ho : cutOf xs a b = [] := by simp [cutOf, hk]
    have hfr : fromOf xs = gcells 0 (fun _ => 0) := by simp [fromOf, hg]
    rw [hg, hfr] at hf
    rw [ho, hk]
    have HF := Lib.hid hf
    clear hf hg ho hfr hT hr h hk
    go_enter Tryd.func37, Tryd.ntmps37
    go_wp2_with (first
      | (go_at_call 54; refine HF.out.mono ?_; rintro e w1 ⟨rfl, hb1⟩)
      | (refine store_graph_new rfl _ _ rfl 0 (fun _ => 0) rfl rfl ?_))
    go_ret2
    exact ⟨_, rfl, hb1.alloc hb1.size _, World.ownsRow_nil _ _ _ _⟩
  | true =>
    obtain ⟨h1, h8, hok⟩ := gIn_parts hg
    have hfr : fromOf xs = gcells xs.length (gfun xs) := by simp [fromOf, hg]
    have hlt := gfun_lt h8 hok
    rw [hg, hfr] at hf
    have HF := Lib.hid hf
    have HL := Lib.hid hlt
    have hE : edgeB xs a b = nearB xs.length (gfun xs) a b := by simp [edgeB, hg]
    have hn := fun W => near_any xs.length (gfun xs) a b h8 hlt W
    cases hk : edgeB xs a b with
    | false =>
      have ho : cutOf xs a b = [] := by simp [cutOf, hk]
      rw [ho]
      rw [hk] at hE
      rw [← hE] at hn
      have HH := Lib.hid hn
      clear hf hg ho hfr hT hr h hok hlt hk hE hn
      go_enter Tryd.func37, Tryd.ntmps37
      go_wp2_with (first
        | (go_at_call 54; refine HF.out.mono ?_; rintro e w1 ⟨rfl, hb1⟩)
        | (refine store_graph_new rfl _ _ rfl xs.length (gfun xs) rfl rfl ?_; obtain ⟨c0, cs, _, _⟩ := graph_cells (World.alloc_heap_new w1 (.cells (gcells xs.length (gfun xs)) 53)); have c1 := cs 0 (by decide); have c2 := cs 1 (by decide); have c3 := cs 2 (by decide); have c4 := cs 3 (by decide); have c5 := cs 4 (by decide); have c6 := cs 5 (by decide); have c7 := cs 6 (by decide); have c8 := cs 7 (by decide); clear cs)
        | (go_at_call 77; refine (HH.out _).mono ?_; rintro e w2 ⟨rfl, hb2⟩))
      go_ret2
      exact ⟨_, rfl, step_below (hb1.alloc hb1.size _) hb2, World.ownsRow_nil _ _ _ _⟩
    | true =>
      obtain ⟨_, i, j, rfl, rfl, hi, hj⟩ := edge_parts hk
      have ho : cutOf xs (i : Int) (j : Int) = glist xs.length (cutE (gfun xs) i j) := by rw [cutOf, if_pos hk]; rfl
      rw [ho]
      rw [hk] at hE
      rw [← hE] at hn
      have HH := Lib.hid hn
      clear hf hg ho hfr hT hr h hok hlt hk hE hn
      go_enter Tryd.func37, Tryd.ntmps37
      go_wp2_with (first
        | (go_at_call 54; refine HF.out.mono ?_; rintro e w1 ⟨rfl, hb1⟩)
        | (refine store_graph_new rfl _ _ rfl xs.length (gfun xs) rfl rfl ?_; obtain ⟨c0, cs, _, _⟩ := graph_cells (World.alloc_heap_new w1 (.cells (gcells xs.length (gfun xs)) 53)); have c1 := cs 0 (by decide); have c2 := cs 1 (by decide); have c3 := cs 2 (by decide); have c4 := cs 3 (by decide); have c5 := cs 4 (by decide); have c6 := cs 5 (by decide); have c7 := cs 6 (by decide); have c8 := cs 7 (by decide); clear cs)
        | (go_at_call 77; refine (HH.out _).mono ?_; rintro e w2 ⟨rfl, hb2⟩; clear c0 c1 c2 c3 c4 c5 c6 c7 c8)
        | (refine load_graph rfl _ rfl _ xs.length (gfun xs) rfl ((hb2.block w1.heap.size (by simp)).trans (World.alloc_heap_new w1 (.cells (gcells xs.length (gfun xs)) 53))) ?_)
        | (go_at_call 78; refine (cut_any xs.length (gfun xs) i j (by omega) (by omega) HL.out _).mono ?_; rintro e w3 ⟨rfl, hb3⟩)
        | (go_at_call 58; refine (list_any xs.length _ h8 _).mono ?_; rintro e w4 ⟨rfl, hb4, ho⟩))
      go_ret2
      have hb5 := step_below (step_below (step_below (hb1.alloc hb1.size _) hb2) hb3) hb4
      refine ⟨_, rfl, hb5, owns_mono ho ?_⟩
      have := hb3.size
      have := hb2.size
      have := hb1.size
      simp at *
      omega

end Go.Proofs.YtnmemefkeehjjaaDoor
