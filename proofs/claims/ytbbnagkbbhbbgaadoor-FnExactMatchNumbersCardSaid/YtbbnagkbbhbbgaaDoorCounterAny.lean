/-
  (impl.counter).of, for all sets of nodes.
-/
import Derived.Test.YtbbnagkbbhbbgaaDoorCounterMiss
namespace Go.Proofs.YtbbnagkbbhbbgaaDoor
set_option linter.unusedVariables false
set_option linter.unusedSimpArgs false
open Go.RowKit Go.Shelf

theorem of_any (n : Nat) (f : Nat → Nat) (hf : ∀ i, f i < 256) (B : Nat) (hgB : 1 < B) : ∀ s, s < 256 → ∀ (w : World) (m : Nat), Memo w B f m → Tab w → m + cnt s ≤ 1000000000000 →
    Calls Tryd.prog 21 #[.agg (ccells n f B), .int .i64 (s : Int)] w (OfPost w B f s (m + cnt s)) := by
  intro s
  induction s using Nat.strongRecOn with
  | _ s ih =>
    intro hs w m hM hT hm
    by_cases h0 : s = 0
    · subst h0
      refine (show Calls Tryd.prog 21 #[.agg (ccells n f B), .int .i64 ((0 : Nat) : Int)] w _ from of_zero n f w B m hM).mono ?_
      rintro e w' ⟨rfl, h1, h2⟩
      exact ⟨rfl, h1.mono (Nat.le_add_right _ _), h2⟩
    · have hM2 := hM
      obtain ⟨D, ho, hmap, hval⟩ := hM
      cases hh : Maps.has D (kl s) with
      | true =>
        refine (of_hit n f w B m s D hM2 ho hh (hval s hs hh) hs h0).mono ?_
        rintro e w' ⟨rfl, h1, h2⟩
        exact ⟨rfl, h1.mono (Nat.le_add_right _ _), h2⟩
      | false => exact of_miss n f hf w B m s D hM2 ho hmap hh hT hgB hm (fun t ht W m' h1 h2 h3 => ih t ht (Nat.lt_trans ht hs) W m' h1 h2 h3) hs h0

end Go.Proofs.YtbbnagkbbhbbgaaDoor
