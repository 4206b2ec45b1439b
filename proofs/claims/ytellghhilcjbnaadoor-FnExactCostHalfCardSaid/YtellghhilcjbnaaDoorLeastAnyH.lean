/-
  (impl.chooser).least, for all sets of columns.
-/
import Derived.Test.YtellghhilcjbnaaDoorLeastHalf
namespace Go.Proofs.YtellghhilcjbnaaDoor.Hf
set_option linter.unusedVariables false
set_option linter.unusedSimpArgs false
open Go.RowKit Go.Shelf

theorem least_any (n : Nat) (h6 : n ≤ 8) (G : Nat → Nat) (hG : ∀ i, G i < 256) (B : Nat) (hgB : 1 < B) : ∀ s, s < 256 → ∀ (w : World) (m : Nat), (bitsOf s).length ≤ n → MemoI w B (gH n G) m → Tab w → m + cntI s ≤ 1000000000000 →
    Calls Tryd.prog 41 #[.agg (hcs n G B), .int .i64 (s : Int)] w (LPost w B (gH n G) s (m + cntI s)) := by
  intro s
  induction s using Nat.strongRecOn with
  | _ s ih =>
    intro hs w m hsn hM hT hm
    by_cases h0 : s = 0
    · subst h0
      refine (show Calls Tryd.prog 41 #[.agg (hcs n G B), .int .i64 ((0 : Nat) : Int)] w _ from least_zero n G w B m hM).mono ?_
      rintro e w' ⟨rfl, h1, h2⟩
      exact ⟨rfl, h1.mono (Nat.le_add_right _ _), h2⟩
    · have hM2 := hM
      obtain ⟨D, ho, hmap, hval⟩ := hM
      cases hh : Maps.has D (klI s) with
      | true =>
        refine (least_hit n G w B m s D hM2 ho hh (hval s (by omega) hh) (by omega) h0).mono ?_
        rintro e w' ⟨rfl, h1, h2⟩
        exact ⟨rfl, h1.mono (Nat.le_add_right _ _), h2⟩
      | false => exact least_miss n h6 G hG w B m s D hM2 ho hmap hh hT hgB hm hsn (fun t ht W m' h1 h2 h3 h4 => ih t ht (by omega) W m' h1 h2 h3 h4) (by omega) h0

end Go.Proofs.YtellghhilcjbnaaDoor.Hf