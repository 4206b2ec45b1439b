/-
  impl.TablePfaffian.
-/
import Derived.Test.YtfcbhcjgjbcjdacDoorTFrom
import Derived.Test.YtfcbhcjgjbcjdacDoorTFacts
import Derived.Test.YtfcbhcjgjbcjdacDoorPairUp
import Derived.Test.YtfcbhcjgjbcjdacDoorSpecTSkew
import Derived.Test.YtfcbhcjgjbcjdacDoorNum
namespace Go.Proofs.YtfcbhcjgjbcjdacDoor
set_option linter.unusedVariables false
set_option linter.unusedSimpArgs false
open Go.RowKit

def pfOf (xss : List (List Int)) : Int := if skewOf xss = true then mates (flat xss) (-1) xss.length (2 ^ xss.length - 1) else 0
theorem skewOf_in {xss : List (List Int)} (h : skewOf xss = true) : tIn xss = true := by unfold skewOf at h; rw [Bool.and_eq_true] at h; exact h.1

set_option maxRecDepth 100000 in
set_option maxHeartbeats 1000000 in
theorem implTPf_any (w : World) (v : Value) (xss : List (List Int)) (h : IntRows w v xss) (hT : Tab w) :
    Calls Tryd.prog 35 #[v] w (GivesNum w (skewOf xss) (pfOf xss)) := by
  have hf := tFrom_any w v xss h
  obtain ⟨A, cap, rfl, hm, hc⟩ := h.at
  clear hc h
  cases ht : tIn xss with
  | false =>
    have h1 : skewOf xss = false := by unfold skewOf; rw [ht]; rfl
    have ho : pfOf xss = 0 := by unfold pfOf; rw [h1]; rfl
    have hs : tFromOf xss = tcells 0 fun _ => 0 := by unfold tFromOf; rw [ht]; rfl
    rw [ht, hs] at hf
    rw [h1]
    have HF := Lib.hid hf
    have HO := Lib.hid ho
    clear hf ho hs ht hT h1
    go_enter Tryd.func35, Tryd.ntmps35
    go_wp2_with (first
      | (go_at_call 53; refine HF.out.mono ?_; rintro e w1 ⟨rfl, hb1⟩)
      | (refine alloc_table rfl rfl ?_)
      | (refine store_table_last rfl _ _ rfl 0 (fun _ => 0) _ rfl rfl rfl ?_))
    go_ret2
    exact ⟨by rw [HO.out]; rfl, hb1.alloc hb1.size _⟩
  | true =>
    have hs : tFromOf xss = tcells xss.length (flat xss) := by unfold tFromOf; rw [ht]; rfl
    obtain ⟨h1, h6, _⟩ := tIn_facts ht
    have hk := fun W => isSkew_any xss.length (flat xss) (flat_small ht) W
    have hsk : skewB (flat xss) = skewOf xss := by rw [skew_is ht]; unfold skewOf; rw [ht, Bool.true_and]
    rw [hsk] at hk
    have hp := fun (W : World) (hW : Tab W) => overPairs_any xss.length (flat xss) (flat_small ht) (-1) (.inr rfl) h6 W hW
    rw [ht, hs] at hf
    have HF := Lib.hid hf
    have HT := Lib.hid hT
    cases h2 : skewOf xss with
    | false =>
      rw [h2] at hk
      have ho : pfOf xss = 0 := by unfold pfOf; rw [h2]; rfl
      have HK := Lib.hid hk
      have HO := Lib.hid ho
      clear hf ho hs hk ht hT hp hsk h2
      go_enter Tryd.func35, Tryd.ntmps35
      go_wp2_with (first
        | (go_at_call 53; refine HF.out.mono ?_; rintro e w1 ⟨rfl, hb1⟩)
        | (refine alloc_table rfl rfl ?_)
        | (refine store_table_last rfl _ _ rfl xss.length (flat xss) _ rfl rfl rfl ?_)
        | (refine load_table_g rfl _ rfl _ xss.length (flat xss) rfl (World.alloc_heap_new _ _) ?_)
        | (go_at_call 61; refine (HK.out _).mono ?_; rintro e w2 ⟨rfl, hb2⟩))
      go_ret2
      exact ⟨by rw [HO.out]; rfl, step_below (hb1.alloc hb1.size _) hb2⟩
    | true =>
      rw [h2] at hk
      have ho : pfOf xss = mates (flat xss) (-1) xss.length (2 ^ xss.length - 1) := by unfold pfOf; rw [h2]; rfl
      rw [← ho] at hp
      obtain ⟨r, hr⟩ : ∃ r, pfOf xss = r := ⟨_, rfl⟩
      rw [hr] at hp ⊢
      have HK := Lib.hid hk
      have HP := Lib.hid hp
      clear hf ho hs hk ht hT hp hsk h2 hr
      go_enter Tryd.func35, Tryd.ntmps35
      go_wp2_with (first
        | (go_at_call 53; refine HF.out.mono ?_; rintro e w1 ⟨rfl, hb1⟩)
        | (refine alloc_table rfl rfl ?_)
        | (refine store_table_last rfl _ _ rfl xss.length (flat xss) _ rfl rfl rfl ?_)
        | (refine load_table_g rfl _ rfl _ xss.length (flat xss) rfl (World.alloc_heap_new _ _) ?_)
        | (refine load_table rfl _ rfl _ xss.length (flat xss) rfl (kept_obj hb2 (World.alloc_heap_new _ _)) ?_)
        | (go_at_call 61; refine (HK.out _).mono ?_; rintro e w2 ⟨rfl, hb2⟩)
        | (go_at_call 55; refine (HP.out _ (HT.out.later (step_below (hb1.alloc hb1.size _) hb2))).mono ?_; rintro e w3 ⟨rfl, hb3⟩))
      go_ret2
      exact ⟨rfl, step_below (step_below (hb1.alloc hb1.size _) hb2) hb3⟩

end Go.Proofs.YtfcbhcjgjbcjdacDoor
