/-
  spec.MarketLeft, spec.MarketRight.
-/
import Derived.Test.YtjhjfopokiaiiaaSpecAsk
import Derived.Test.YtjhjfopokiaiiaaSpecMIn
import Derived.Test.YtjhjfopokiaiiaaMktEq
import Derived.Test.YtjhjfopokiaiiaaGives
namespace Go.Proofs.Ytjhjfopokiaiiaa
set_option linter.unusedVariables false
set_option linter.unusedSimpArgs false
open Go.RowKit

def leftL (ls rs : List (List Int)) : List Int := if mktOk ls rs = true then backOf (settledK ls rs ls.length) else []
theorem leftL_no {ls rs : List (List Int)} (h : mktOk ls rs = false) : leftL ls rs = [] := by unfold leftL; rw [h]; rfl
theorem leftL_yes {ls rs : List (List Int)} (h : mktOk ls rs = true) : leftL ls rs = backOf (settledK ls rs ls.length) := if_pos h

set_option maxRecDepth 100000 in
set_option maxHeartbeats 2000000 in
theorem specMLeft_any (w : World) (L R : Value) (ls rs : List (List Int)) (hL : IntRows w L ls) (hR : IntRows w R rs) :
    Calls Try.prog 11 #[.agg (two L R)] w (GivesInts w (mktOk ls rs) (leftL ls rs)) := by
  obtain ⟨W0, hW0⟩ : ∃ W0, w.alloc (.cells (two L R) 29) = W0 := ⟨_, rfl⟩
  have hb0 : Below w.heap.size w W0 := by rw [← hW0]; exact (Below.refl _ _).alloc (Nat.le_refl _) _
  have hbox : W0.heap[w.heap.size]? = some (.cells (two L R) 29 (0, 0)) := by rw [← hW0]; exact World.alloc_heap_new _ _
  have HSM := Lib.hid (specMIn_any W0 L R ls rs (hL.below hb0) (hR.below hb0))
  have HB0 := Lib.hid hb0
  have HLR := Lib.hid (And.intro hL hR)
  clear hL hR hb0
  cases hok : mktOk ls rs with
  | false =>
    have HEQ := Lib.hid (leftL_no hok)
    rw [hok] at HSM
    clear hok
    go_enter Try.func11, Try.ntmps11
    go_wp2_with (refine load_mi rfl _ rfl w.heap.size L R rfl hbox ?_)
    clear hW0
    refine HSM.out.mono ?_
    rintro e w1 ⟨rfl, hb1⟩
    have HB1 := Lib.hid (step_below HB0.out hb1)
    clear hb1
    go_wp2
    go_ret2
    rw [HEQ.out]
    have hs := HB1.out.size
    exact ⟨_, rfl, HB1.out.alloc hs _, owns_empty w1 w.heap.size hs⟩
  | true =>
    obtain ⟨⟨h1, h5, hl⟩, hs1, hs2⟩ := mktOk_parts hok
    have HEQ := Lib.hid (leftL_yes hok)
    have HAK := Lib.hid (fun (W : World) (hW : Below w.heap.size w W) => l6mAsk_any W L R ls rs h1 h5 hl (List.all_eq_true.1 hs1) (fun l hm => by have := List.all_eq_true.1 hs2 l hm; rw [← hl]; exact this) (HLR.out.1.below hW) (HLR.out.2.below hW))
    rw [hok] at HSM
    clear hok h1 h5 hl hs1 hs2
    go_enter Try.func11, Try.ntmps11
    go_wp2_with (refine load_mi rfl _ rfl w.heap.size L R rfl hbox ?_)
    clear hW0
    refine HSM.out.mono ?_
    rintro e w1 ⟨rfl, hb1⟩
    have HB1 := Lib.hid (step_below HB0.out hb1)
    have hbox1 := kept_obj hb1 hbox
    obtain ⟨x0, x1, _, _⟩ := two_cells hbox1
    clear hb1 hbox hbox1
    go_wp2_with (refine (HAK.out _ HB1.out).mono ?_; rintro e w2 ⟨y, rfl, hb2, ho2⟩)
    try (refine (HAK.out _ HB1.out).mono ?_; rintro e w2 ⟨y, rfl, hb2, ho2⟩; go_wp2)
    go_ret2
    rw [HEQ.out]
    exact ⟨_, rfl, step_below HB1.out hb2, owns_mono ho2 HB1.out.size⟩

end Go.Proofs.Ytjhjfopokiaiiaa
