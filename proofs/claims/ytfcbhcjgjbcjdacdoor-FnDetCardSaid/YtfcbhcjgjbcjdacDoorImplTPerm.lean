/-
  TablePermanent, the program's and the specification's, and the law of it.
-/
import Derived.Test.YtfcbhcjgjbcjdacDoorTFrom
import Derived.Test.YtfcbhcjgjbcjdacDoorNum
import Derived.Test.YtfcbhcjgjbcjdacDoorTFacts
import Derived.Test.YtfcbhcjgjbcjdacDoorOrders
import Derived.Test.YtfcbhcjgjbcjdacDoorSpecExp
namespace Go.Proofs.YtfcbhcjgjbcjdacDoor
set_option linter.unusedVariables false
set_option linter.unusedSimpArgs false
open Go.RowKit

def permOf (xss : List (List Int)) : Int := if tIn xss = true then expand (flat xss) 1 xss.length 0 (2 ^ xss.length - 1) else 0

set_option maxRecDepth 100000 in
set_option maxHeartbeats 1000000 in
theorem specTPerm_any (w : World) (v : Value) (xss : List (List Int)) (h : IntRows w v xss) :
    Calls Tryd.prog 33 #[v] w (GivesNum w (tIn xss) (permOf xss)) := by
  have hs := fun W (hW : IntRows W v xss) => specTIn_any W v xss hW
  have HH := Lib.hid h
  have hrows := h
  cases ht : tIn xss with
  | false =>
    rw [ht] at hs
    have ho : permOf xss = 0 := by unfold permOf; rw [ht]; rfl
    have HO := Lib.hid ho
    have HS := Lib.hid hs
    clear hs ho ht hrows h
    go_enter Tryd.func33, Tryd.ntmps33
    go_wp2_with (go_at_call 59; refine (HS.out _ HH.out).mono ?_; rintro e w1 ⟨rfl, q, rfl⟩)
    go_ret2
    exact ⟨by rw [HO.out]; rfl, below_drewN (Below.refl _ _) _⟩
  | true =>
    rw [ht] at hs
    obtain ⟨h1, h6, _⟩ := tIn_facts ht
    have hl := fun (W : World) (hW : IntRows W v xss) => l5Exp_any xss ht false 1 rfl xss.length W v 0 (2 ^ xss.length - 1) hW (by omega) (by have := Nat.two_pow_pos xss.length; omega) (full_len ⟨xss.length, by omega⟩)
    have ho : permOf xss = expand (flat xss) 1 xss.length 0 (2 ^ xss.length - 1) := by unfold permOf; rw [ht]; rfl
    rw [← ho] at hl
    obtain ⟨r, hr⟩ : ∃ r, permOf xss = r := ⟨_, rfl⟩
    rw [hr] at hl ⊢
    have e1 := low_wrap (show xss.length < 9 by omega)
    obtain ⟨A, cap, rfl, hm, hc⟩ := h.at
    unfold maxLen at hm
    have HS := Lib.hid hs
    have HL := Lib.hid hl
    clear hs hl ho hr ht hrows h hc
    go_enter Tryd.func33, Tryd.ntmps33
    go_wp2_with (first
      | (go_at_call 59; refine (HS.out _ HH.out).mono ?_; rintro e w1 ⟨rfl, q, rfl⟩)
      | (go_at_call 60; refine (HL.out _ (HH.out.drewN q)).mono ?_; rintro e w2 ⟨rfl, q2, rfl⟩))
    go_ret2
    exact ⟨rfl, below_drewN (Below.refl _ _) _⟩

set_option maxRecDepth 100000 in
set_option maxHeartbeats 1000000 in
theorem implTPerm_any (w : World) (v : Value) (xss : List (List Int)) (h : IntRows w v xss) (hT : Tab w) :
    Calls Tryd.prog 32 #[v] w (GivesNum w (tIn xss) (permOf xss)) := by
  have hf := tFrom_any w v xss h
  obtain ⟨A, cap, rfl, hm, hc⟩ := h.at
  clear hc h
  cases ht : tIn xss with
  | false =>
    have ho : permOf xss = 0 := by unfold permOf; rw [ht]; rfl
    have hs : tFromOf xss = tcells 0 fun _ => 0 := by unfold tFromOf; rw [ht]; rfl
    rw [ht, hs] at hf
    have HF := Lib.hid hf
    have HO := Lib.hid ho
    clear hf ho hs ht hT
    go_enter Tryd.func32, Tryd.ntmps32
    go_wp2_with (first
      | (go_at_call 53; refine HF.out.mono ?_; rintro e w1 ⟨rfl, hb1⟩)
      | (refine alloc_table rfl rfl ?_)
      | (refine store_table_last rfl _ _ rfl 0 (fun _ => 0) _ rfl rfl rfl ?_))
    go_ret2
    exact ⟨by rw [HO.out]; rfl, hb1.alloc hb1.size _⟩
  | true =>
    have hs : tFromOf xss = tcells xss.length (flat xss) := by unfold tFromOf; rw [ht]; rfl
    obtain ⟨h1, h6, _⟩ := tIn_facts ht
    have hk := fun (W : World) (hW : Tab W) => overOrders_any xss.length (flat xss) (flat_small ht) 1 (.inl rfl) h6 W hW
    have ho : permOf xss = expand (flat xss) 1 xss.length 0 (2 ^ xss.length - 1) := by unfold permOf; rw [ht]; rfl
    rw [← ho] at hk
    obtain ⟨r, hr⟩ : ∃ r, permOf xss = r := ⟨_, rfl⟩
    rw [hr] at hk ⊢
    rw [ht, hs] at hf
    have HF := Lib.hid hf
    have HK := Lib.hid hk
    have HT := Lib.hid hT
    clear hf ho hs hk ht hr hT
    go_enter Tryd.func32, Tryd.ntmps32
    go_wp2_with (first
      | (go_at_call 53; refine HF.out.mono ?_; rintro e w1 ⟨rfl, hb1⟩)
      | (refine alloc_table rfl rfl ?_)
      | (refine store_table_last rfl _ _ rfl xss.length (flat xss) _ rfl rfl rfl ?_)
      | (refine load_table rfl _ rfl _ xss.length (flat xss) rfl (World.alloc_heap_new _ _) ?_)
      | (go_at_call 58; refine (HK.out _ (HT.out.later (hb1.alloc hb1.size _))).mono ?_; rintro e w2 ⟨rfl, hb2⟩))
    go_ret2
    exact ⟨rfl, step_below (hb1.alloc hb1.size _) hb2⟩

end Go.Proofs.YtfcbhcjgjbcjdacDoor
