/-
  (graph).isFree, (graph).partOf, (graph).evenFrom, (nodeSet).lowest.
-/
import Derived.Test.YtcklinoiaiilgabDoorAround
import Derived.Deep.RegionLaw
import Derived.Outline
namespace Go.Proofs.YtcklinoiaiilgabDoor
set_option linter.unusedVariables false
set_option linter.unusedSimpArgs false
open Go.RowKit

set_option maxHeartbeats 1000000 in
theorem isFree_any (n : Nat) (f : Nat → Nat) (hf : ∀ i, f i < 256) (s : Nat) (hs : s < 256) (b : Bool) (hb : decide (arnd f s &&& s = 0) = b) (w : World) (hT : Tab w) :
    Calls Tryd.prog 130 #[.agg (gcells n f), .int .i64 (s : Int)] w fun e w' => e = .returned (.bool b) ∧ Below w.heap.size w w' := by
  have hT1 : Tab (w.alloc (.cells (gcells n f) 55)) := hT.later ((Below.refl _ _).alloc (Nat.le_refl _) _)
  have har := arnd_lt hf s
  have ha := and64 (arnd f s) s (by omega) (by omega)
  have HA := Lib.hid (around_any n f hf s hs _ hT1)
  cases b with
  | true =>
    have hz : arnd f s &&& s = 0 := of_decide_eq_true hb
    rw [hz] at ha
    clear hT hT1 hf hb hz har
    go_enter Tryd.func130, Tryd.ntmps130
    go_wp2_with (first
      | (refine load_graph rfl _ rfl _ n f rfl (World.alloc_heap_new _ _) ?_)
      | (go_at_call 111; refine HA.out.mono ?_; rintro e w1 ⟨rfl, hb1⟩))
    go_ret
    exact ⟨rfl, ((Below.refl _ _).alloc (Nat.le_refl _) _).trans (hb1.mono (by simp))⟩
  | false =>
    have hz : ¬ arnd f s &&& s = 0 := of_decide_eq_false hb
    obtain ⟨m, hm⟩ : ∃ m, arnd f s &&& s = m := ⟨_, rfl⟩
    rw [hm] at ha hz
    have hne : ((m : Int) == 0) = false := by simp; exact hz
    clear hT hT1 hf hb hz har hm
    go_enter Tryd.func130, Tryd.ntmps130
    go_wp2_with (first
      | (refine load_graph rfl _ rfl _ n f rfl (World.alloc_heap_new _ _) ?_)
      | (go_at_call 111; refine HA.out.mono ?_; rintro e w1 ⟨rfl, hb1⟩))
    go_ret
    exact ⟨rfl, ((Below.refl _ _).alloc (Nat.le_refl _) _).trans (hb1.mono (by simp))⟩

set_option maxHeartbeats 1000000 in
theorem partOf_any (n : Nat) (f : Nat → Nat) (hf : ∀ i, f i < 256) (v : Nat) (hv : v < 8) (r : Nat) (hr : IsReach f v r) (w : World) (hT : Tab w) :
    Calls Tryd.prog 133 #[.agg (gcells n f), .int .i64 (v : Int)] w fun e w' => e = .returned (.int .i64 (r : Int)) ∧ Below w.heap.size w w' := by
  have HT := Lib.hid hT
  have HR := Lib.hid hr
  have HF := Lib.hid hf
  have hst := Towards.start (f := f) hv
  have HS := Lib.hid hst
  clear hT hr hf hst
  go_enter Tryd.func133, Tryd.ntmps133
  go_wp2_with (go_at_call 124; refine (with_any 0 v (by decide) hv _).mono ?_; rintro e w' ⟨rfl, rfl⟩)
  go_loopw [5] (fun p wr => ∃ s : Nat, p = .int .i64 (s : Int) ∧ Towards f v s ∧ Below w.heap.size w wr ∧ wr.heap[w.heap.size]? = some (.cells (gcells n f) 55 (0, 0)))
    (fun p _ => 256 - (intOf p).toNat)
  case atStart => exact ⟨2 ^ v, by simp, HS.out, (Below.refl _ _).alloc (Nat.le_refl _) _, World.alloc_heap_new _ _⟩
  case round =>
    obtain ⟨s, rfl, htw, hb, hg⟩ := hrel
    have hs := htw.1
    have har := arnd_lt HF.out s
    have ho := or64 s (arnd f s) (by omega) (by omega)
    have hTr := HT.out.later hb
    have HA := Lib.hid (around_any n f HF.out s hs wr hTr)
    have hlt1 := (Array.getElem?_eq_some_iff.1 hg).1
    have HG := Lib.hid hg
    have HW := Lib.hid htw
    by_cases he : s ||| arnd f s = s
    · have hres : r = s := IsReach.unique HR.out (htw.done (sub_of_or_eq he))
      have HRES := Lib.hid hres
      rw [he] at ho
      clear he hres hTr hg htw har
      go_wp2_with (first
        | (refine load_graph rfl _ rfl _ n f rfl HG.out ?_)
        | (go_at_call 111; refine HA.out.mono ?_; rintro e w1 ⟨rfl, hb1⟩))
      go_ret
      exact ⟨by rw [HRES.out]; rfl, step_below hb hb1⟩
    · have hmore := htw.more har (Sub.refl _)
      have hge : s ≤ s ||| arnd f s := Nat.left_le_or
      obtain ⟨t, ht⟩ : ∃ t, s ||| arnd f s = t := ⟨_, rfl⟩
      rw [ht] at ho hmore he hge
      have hne : ((t : Int) == (s : Int)) = false := by
        rw [beq_eq_false_iff_ne]; omega
      have HM := Lib.hid hmore
      have hts : ¬ (t : Int) = (s : Int) := by omega
      have htl := hmore.1
      have hlt : s < t := by omega
      clear he hTr hg htw har hmore ht hge
      go_wp2_with (first
        | (refine load_graph rfl _ rfl _ n f rfl HG.out ?_)
        | (go_at_call 111; refine HA.out.mono ?_; rintro e w1 ⟨rfl, hb1⟩))
      go_roundw
      case rel => exact ⟨t, rfl, HM.out, step_below hb hb1, (hb1.block _ hlt1).trans HG.out⟩
      case measure => simp [intOf]; omega

set_option maxHeartbeats 1000000 in
theorem evenFrom_any (n : Nat) (f : Nat → Nat) (hf : ∀ i, f i < 256) (v : Nat) (hv : v < 8) (r : Nat) (hr : IsReach (two f) v r) (w : World) (hT : Tab w) :
    Calls Tryd.prog 128 #[.agg (gcells n f), .int .i64 (v : Int)] w fun e w' => e = .returned (.int .i64 (r : Int)) ∧ Below w.heap.size w w' := by
  have HT := Lib.hid hT
  have HR := Lib.hid hr
  have HF := Lib.hid hf
  have hst := Towards.start (f := two f) hv
  have HS := Lib.hid hst
  clear hT hr hf hst
  go_enter Tryd.func128, Tryd.ntmps128
  go_wp2_with (go_at_call 124; refine (with_any 0 v (by decide) hv _).mono ?_; rintro e w' ⟨rfl, rfl⟩)
  go_loopw [5] (fun p wr => ∃ s : Nat, p = .int .i64 (s : Int) ∧ Towards (two f) v s ∧ Below w.heap.size w wr ∧ wr.heap[w.heap.size]? = some (.cells (gcells n f) 55 (0, 0)))
    (fun p _ => 256 - (intOf p).toNat)
  case atStart => exact ⟨2 ^ v, by simp, HS.out, (Below.refl _ _).alloc (Nat.le_refl _) _, World.alloc_heap_new _ _⟩
  case round =>
    obtain ⟨s, rfl, htw, hb, hg⟩ := hrel
    have hs := htw.1
    have hfl : ∀ i, two f i < 256 := fun i => arnd_lt HF.out _
    have har := arnd_lt hfl s
    have ho := or64 s (arnd (two f) s) (by omega) (by omega)
    have har1 := arnd_lt HF.out s
    have HTR := Lib.hid (HT.out.later hb)
    have HTW := Lib.hid (two_arnd f s)
    obtain ⟨c0, cs, _, hlt1⟩ := graph_cells hg
    have c1 := cs 0 (by decide)
    have c2 := cs 1 (by decide)
    have c3 := cs 2 (by decide)
    have c4 := cs 3 (by decide)
    have c5 := cs 4 (by decide)
    have c6 := cs 5 (by decide)
    have c7 := cs 6 (by decide)
    have c8 := cs 7 (by decide)
    have HG := Lib.hid hg
    have HW := Lib.hid htw
    have HA1 := Lib.hid (fun W (h : Tab W) => around_any n f HF.out s hs W h)
    have hA2 : ∀ W, Tab W → Calls Tryd.prog 111 #[.agg (gcells n f), .int .i64 (arnd f s : Int)] W fun e w' => e = .returned (.int .i64 (arnd (two f) s : Int)) ∧ Below W.heap.size W w' := by
      intro W h
      have := around_any n f HF.out (arnd f s) har1 W h
      rw [HTW.out] at this
      exact this
    have HA2 := Lib.hid hA2
    clear hA2 cs hg hfl
    by_cases he : s ||| arnd (two f) s = s
    · have hres : r = s := IsReach.unique HR.out (htw.done (sub_of_or_eq he))
      have HRES := Lib.hid hres
      rw [he] at ho
      clear he hres htw har
      go_wp2_with fail
      go_region_law (first
        | (go_simp; go_at_call 111; refine (HA1.out _ (by exact HTR.out)).mono ?_; clear HA1; rintro e w1 ⟨rfl, hb1⟩; obtain ⟨d0, ds, _, _⟩ := graph_cells ((hb1.block _ (by exact hlt1)).trans HG.out); have d1 := ds 0 (by decide); have d2 := ds 1 (by decide); have d3 := ds 2 (by decide); have d4 := ds 3 (by decide); have d5 := ds 4 (by decide); have d6 := ds 5 (by decide); have d7 := ds 6 (by decide); have d8 := ds 7 (by decide); clear ds)
        | (go_simp; go_at_call 111; refine (HA2.out _ (Tab.later (by exact HTR.out) hb1)).mono ?_; clear HA2; rintro e w2 ⟨rfl, hb2⟩))
      all_goals go_wp2
      all_goals go_ret
      all_goals exact ⟨by rw [HRES.out]; rfl, step_below (step_below hb.drew hb1) hb2⟩
    · have hmore := htw.more har (Sub.refl _)
      have hge : s ≤ s ||| arnd (two f) s := Nat.left_le_or
      obtain ⟨t, ht⟩ : ∃ t, s ||| arnd (two f) s = t := ⟨_, rfl⟩
      rw [ht] at ho hmore he hge
      have hne : ((t : Int) == (s : Int)) = false := by
        rw [beq_eq_false_iff_ne]; omega
      have HM := Lib.hid hmore
      have hts : ¬ (t : Int) = (s : Int) := by omega
      have htl := hmore.1
      have hlt : s < t := by omega
      clear he htw har hmore ht hge
      go_wp2_with fail
      go_region_law (first
        | (go_simp; go_at_call 111; refine (HA1.out _ (by exact HTR.out)).mono ?_; clear HA1; rintro e w1 ⟨rfl, hb1⟩; obtain ⟨d0, ds, _, _⟩ := graph_cells ((hb1.block _ (by exact hlt1)).trans HG.out); have d1 := ds 0 (by decide); have d2 := ds 1 (by decide); have d3 := ds 2 (by decide); have d4 := ds 3 (by decide); have d5 := ds 4 (by decide); have d6 := ds 5 (by decide); have d7 := ds 6 (by decide); have d8 := ds 7 (by decide); clear ds)
        | (go_simp; go_at_call 111; refine (HA2.out _ (Tab.later (by exact HTR.out) hb1)).mono ?_; clear HA2; rintro e w2 ⟨rfl, hb2⟩))
      all_goals go_wp2
      all_goals go_roundw
      all_goals first
        | exact ⟨t, rfl, HM.out, step_below (step_below hb.drew hb1) hb2, (hb2.block _ (by have := hb1.size; have e : wr.drew.heap.size = wr.heap.size := rfl; omega)).trans ((hb1.block _ (by exact hlt1)).trans HG.out)⟩
        | (simp [intOf]; omega)

end Go.Proofs.YtcklinoiaiilgabDoor
