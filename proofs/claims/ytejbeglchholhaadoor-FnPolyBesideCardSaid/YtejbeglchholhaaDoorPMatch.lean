/-
  impl.PolyMatch: the matching polynomial of a graph.
-/
import Derived.Test.YtejbeglchholhaaDoorMatchPoly
namespace Go.Proofs.YtejbeglchholhaaDoor
set_option linter.unusedVariables false
set_option linter.unusedSimpArgs false
open Go.RowKit Go.Shelf

set_option maxRecDepth 100000 in
set_option maxHeartbeats 1000000 in
theorem implPMatch_any (w : World) (u : Value) (xs : List Int) (h : Ints w u xs) (hr : ∀ x ∈ xs, I64 x) (hT : Tab w) :
    Calls Tryd.prog 11 #[u] w (GivesInts w (gIn xs) (mpOf xs)) := by
  cases hg : gIn xs with
  | false =>
    have HR := Lib.hid (readC_any w u xs h hr hT 0 _ (from_no hg))
    have ho : mpOf xs = [] := by simp [mpOf, hg]
    rw [hg] at HR
    rw [ho]
    clear h hr hT
    go_enter Tryd.func11, Tryd.ntmps11
    go_wp2_with (first
      | (go_at_call 22; refine HR.out.mono ?_; rintro e w1 ⟨B, rfl, hB, hb1, hM⟩)
      | (refine store_counter_new rfl _ _ rfl 0 (fun _ => 0) B rfl rfl ?_))
    go_ret2
    exact ⟨_, rfl, hb1.alloc hb1.size _, World.ownsRow_nil _ _ _ _⟩
  | true =>
    obtain ⟨h1, h8, hok2⟩ := gIn_parts hg
    have hlt := gfun_lt h8 hok2
    have HR := Lib.hid (readC_any w u xs h hr hT _ _ (from_yes hg))
    have ho : mpOf xs = mpL xs.length (nums (gfun xs) (2 ^ xs.length - 1)) := by simp [mpOf, hg]
    rw [hg] at HR
    rw [ho]
    obtain ⟨hok, hp⟩ := mpL_ok (g := nums (gfun xs) (2 ^ xs.length - 1)) h8 (fun k => nums_small (all256 h8) k) (nums_none' (all256 h8))
    have HT := Lib.hid hT
    have HL := Lib.hid hlt
    obtain ⟨p, hpe⟩ : ∃ p, mpL xs.length (nums (gfun xs) (2 ^ xs.length - 1)) = p := ⟨_, rfl⟩
    rw [hpe] at hok hp ⊢
    have HP := Lib.hid hp
    have HPE := Lib.hid hpe
    have HOK := Lib.hid hok
    clear h hr hT hok2 hlt ho hp hok hpe
    go_enter Tryd.func11, Tryd.ntmps11
    go_wp2_with (first
      | (go_at_call 22; refine HR.out.mono ?_; rintro e w1 ⟨B, rfl, hB, hb1, hM⟩)
      | (refine store_counter_new rfl _ _ rfl xs.length (gfun xs) B rfl rfl ?_)
      | (refine load_counter rfl _ rfl _ xs.length (gfun xs) B rfl (World.alloc_heap_new _ _) ?_)
      | (go_at_call 26; refine (matchPoly_any xs.length (gfun xs) h8 HL.out hB (hb1.alloc hb1.size _) (hM.below (Below.alloc (Below.refl _ _) (Nat.le_refl _) _)) (by omega) HT.out).mono ?_; rintro e w2 ⟨v, rfl, hb2, ho2⟩; rw [HPE.out, HP.out] at ho2)
      | (go_at_call 25; refine (toldPoly_any w2 _ _ _ ho2).mono ?_; rintro e w3 ⟨y, rfl, hw3, ho3⟩))
    go_ret2
    subst hw3
    rw [HOK.out]
    refine ⟨y, rfl, hb2, ?_⟩
    have e : toldList p = p := by unfold toldList; rw [if_pos HOK.out]
    rw [e] at ho3
    exact ho3

end Go.Proofs.YtejbeglchholhaaDoor
