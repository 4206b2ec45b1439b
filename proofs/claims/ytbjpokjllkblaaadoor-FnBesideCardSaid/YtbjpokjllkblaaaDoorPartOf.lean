/-
  (graph).isFree, (graph).partOf, (graph).evenFrom, (nodeSet).lowest.
-/
import Derived.Test.YtbjpokjllkblaaaDoorAround
import Derived.Deep.RegionLaw
import Derived.Outline
namespace Go.Proofs.YtbjpokjllkblaaaDoor
set_option linter.unusedVariables false
set_option linter.unusedSimpArgs false
open Go.RowKit


set_option maxHeartbeats 1000000 in
theorem partOf_any (n : Nat) (f : Nat → Nat) (hf : ∀ i, f i < 256) (v : Nat) (hv : v < 8) (r : Nat) (hr : IsReach f v r) (w : World) (hT : Tab w) :
    Calls Tryd.prog 29 #[.agg (gcells n f), .int .i64 (v : Int)] w fun e w' => e = .returned (.int .i64 (r : Int)) ∧ Below w.heap.size w w' := by
  have HT := Lib.hid hT
  have HR := Lib.hid hr
  have HF := Lib.hid hf
  have hst := Towards.start (f := f) hv
  have HS := Lib.hid hst
  clear hT hr hf hst
  go_enter Tryd.func29, Tryd.ntmps29
  go_wp2_with (go_at_call 25; refine (with_any 0 v (by decide) hv _).mono ?_; rintro e w' ⟨rfl, rfl⟩)
  go_loopw [5] (fun p wr => ∃ s : Nat, p = .int .i64 (s : Int) ∧ Towards f v s ∧ Below w.heap.size w wr ∧ wr.heap[w.heap.size]? = some (.cells (gcells n f) 41 (0, 0)))
    (fun p _ => 256 - (intOf p).toNat)
  case atStart => exact ⟨2 ^ v, by simp, HS.out, (Below.refl _ _).alloc (Nat.le_refl _) _, World.alloc_heap_new _ _⟩
  case round =>
    obtain ⟨s, rfl, htw, hb, hg⟩ := hrel
    have hs := htw.1
    have har := arnd_lt HF.out s
    have ho := or64 s (arnd f s) (by omega) (by omega)
    have hTr := HT.out.later hb
    have HA := Lib.hid (around_any n f HF.out s hs wr hTr)
    have hlt1 := (Array.getElem?_eq_some_iff.1 hg).1
    have HG := Lib.hid hg
    have HW := Lib.hid htw
    by_cases he : s ||| arnd f s = s
    · have hres : r = s := IsReach.unique HR.out (htw.done (sub_of_or_eq he))
      have HRES := Lib.hid hres
      rw [he] at ho
      clear he hres hTr hg htw har
      go_wp2_with (first
        | (refine load_graph rfl _ rfl _ n f rfl HG.out ?_)
        | (go_at_call 32; refine HA.out.mono ?_; rintro e w1 ⟨rfl, hb1⟩))
      go_ret
      exact ⟨by rw [HRES.out]; rfl, step_below hb hb1⟩
    · have hmore := htw.more har (Sub.refl _)
      have hge : s ≤ s ||| arnd f s := Nat.left_le_or
      obtain ⟨t, ht⟩ : ∃ t, s ||| arnd f s = t := ⟨_, rfl⟩
      rw [ht] at ho hmore he hge
      have hne : ((t : Int) == (s : Int)) = false := by
        rw [beq_eq_false_iff_ne]; omega
      have HM := Lib.hid hmore
      have hts : ¬ (t : Int) = (s : Int) := by omega
      have htl := hmore.1
      have hlt : s < t := by omega
      clear he hTr hg htw har hmore ht hge
      go_wp2_with (first
        | (refine load_graph rfl _ rfl _ n f rfl HG.out ?_)
        | (go_at_call 32; refine HA.out.mono ?_; rintro e w1 ⟨rfl, hb1⟩))
      go_roundw
      case rel => exact ⟨t, rfl, HM.out, step_below hb hb1, (hb1.block _ hlt1).trans HG.out⟩
      case measure => simp [intOf]; omega

end Go.Proofs.YtbjpokjllkblaaaDoor
