/-
  TableSkew, the program's and the specification's, and the law of it.
-/
import Derived.Test.YthafhcocgohjaaaTurned
import Derived.Test.YthafhcocgohjaaaFinTIn
import Derived.Test.YthafhcocgohjaaaLawTSkew
namespace Go.Proofs.Ythafhcocgohjaaa
set_option linter.unusedVariables false
set_option linter.unusedSimpArgs false
open Go.RowKit

def skewOf (xss : List (List Int)) : Bool := tIn xss && turnB (-1) (flat xss) xss.length

set_option maxRecDepth 100000 in
set_option maxHeartbeats 1000000 in
theorem specTSkew_any (w : World) (v : Value) (xss : List (List Int)) (h : IntRows w v xss) :
    Calls Try.prog 11 #[v] w (GivesBool w (skewOf xss)) := by
  have hs := fun W (hW : IntRows W v xss) => specTIn_any W v xss hW
  have HH := Lib.hid h
  have hrows := h
  cases ht : tIn xss with
  | false =>
    rw [ht] at hs
    have ho : skewOf xss = false := by unfold skewOf; rw [ht]; rfl
    have HO := Lib.hid ho
    have HS := Lib.hid hs
    clear hs ho ht hrows h
    go_enter Try.func11, Try.ntmps11
    go_wp2_with (go_at_call 7; refine (HS.out _ HH.out).mono ?_; rintro e w1 ⟨rfl, q, rfl⟩)
    go_ret
    exact ⟨ret_bool HO.out.symm, below_drewN (Below.refl _ _) _⟩
  | true =>
    rw [ht] at hs
    have hl := fun W (hW : IntRows W v xss) => turned_any W v xss hW ht (-1) (.inr rfl)
    obtain ⟨b, hb⟩ : ∃ b, turnB (-1) (flat xss) xss.length = b := ⟨_, rfl⟩
    rw [hb] at hl
    have ho : skewOf xss = b := by unfold skewOf; rw [ht, hb]; rfl
    have HO := Lib.hid ho
    have HS := Lib.hid hs
    have HL := Lib.hid hl
    clear hs hl ho ht hb hrows h
    go_enter Try.func11, Try.ntmps11
    go_wp2_with (first
      | (go_at_call 7; refine (HS.out _ HH.out).mono ?_; rintro e w1 ⟨rfl, q, rfl⟩)
      | (go_at_call 20; refine (HL.out _ (HH.out.drewN q)).mono ?_; rintro e w2 ⟨rfl, q2, rfl⟩))
    go_ret
    exact ⟨ret_bool HO.out.symm, below_drewN (Below.refl _ _) _⟩

set_option maxRecDepth 100000 in
set_option maxHeartbeats 1000000 in
theorem implTSkew_any (w : World) (v : Value) (xss : List (List Int)) (h : IntRows w v xss) :
    Calls Try.prog 12 #[v] w (GivesBool w (skewOf xss)) := by
  have hf := tFrom_any w v xss h
  obtain ⟨A, cap, rfl, hm, hc⟩ := h.at
  clear hc h
  cases ht : tIn xss with
  | false =>
    have ho : skewOf xss = false := by unfold skewOf; rw [ht]; rfl
    have hs : tFromOf xss = tcells 0 fun _ => 0 := by unfold tFromOf; rw [ht]; rfl
    rw [ht, hs] at hf
    have HF := Lib.hid hf
    have HO := Lib.hid ho
    clear hf ho hs ht
    go_enter Try.func12, Try.ntmps12
    go_wp2_with (first
      | (go_at_call 18; refine HF.out.mono ?_; rintro e w1 ⟨rfl, hb1⟩)
      | (refine alloc_table rfl rfl ?_)
      | (refine store_table_last rfl _ _ rfl 0 (fun _ => 0) _ rfl rfl rfl ?_))
    go_ret
    exact ⟨ret_bool HO.out.symm, hb1.alloc hb1.size _⟩
  | true =>
    have hs : tFromOf xss = tcells xss.length (flat xss) := by unfold tFromOf; rw [ht]; rfl
    have hk := fun W => isSkew_any xss.length (flat xss) (flat_small ht) W
    rw [skew_is ht] at hk
    obtain ⟨b, hb⟩ : ∃ b, turnB (-1) (flat xss) xss.length = b := ⟨_, rfl⟩
    rw [hb] at hk
    have ho : skewOf xss = b := by unfold skewOf; rw [ht, hb]; rfl
    rw [ht, hs] at hf
    have HF := Lib.hid hf
    have HO := Lib.hid ho
    have HK := Lib.hid hk
    clear hf ho hs hk ht hb
    go_enter Try.func12, Try.ntmps12
    go_wp2_with (first
      | (go_at_call 18; refine HF.out.mono ?_; rintro e w1 ⟨rfl, hb1⟩)
      | (refine alloc_table rfl rfl ?_)
      | (refine store_table_last rfl _ _ rfl xss.length (flat xss) _ rfl rfl rfl ?_)
      | (refine load_table_g rfl _ rfl _ xss.length (flat xss) rfl (World.alloc_heap_new _ _) ?_)
      | (go_at_call 21; refine (HK.out _).mono ?_; rintro e w2 ⟨rfl, hb2⟩))
    go_ret
    exact ⟨ret_bool HO.out.symm, step_below (hb1.alloc hb1.size _) hb2⟩

theorem FnExactTableSkew_final (w : World) (v : Value) (xss : List (List Int)) (h : IntRows w v xss) :
    Calls Try.prog 4 #[v] w fun e w' => e = .returned (.bool true) ∧ Below w.heap.size w w' :=
  FnExactTableSkew_walk w v xss h (skewOf xss) (fun W u hu => specTSkew_any W u xss hu) (fun W u hu => implTSkew_any W u xss hu)

end Go.Proofs.Ythafhcocgohjaaa
