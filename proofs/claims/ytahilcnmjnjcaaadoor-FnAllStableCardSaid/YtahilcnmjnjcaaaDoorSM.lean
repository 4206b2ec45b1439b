/-
  SM: SpecMLeft SpecMRight.
-/
import Derived.Test.YtahilcnmjnjcaaaDoorSpecAsk
import Derived.Test.YtahilcnmjnjcaaaDoorSpecMIn
import Derived.Test.YtahilcnmjnjcaaaDoorMktL
import Derived.Test.YtahilcnmjnjcaaaDoorCore1
import Derived.Test.YtahilcnmjnjcaaaDoorSet1
/-
  spec.MarketLeft, spec.MarketRight.
-/
namespace Go.Proofs.YtahilcnmjnjcaaaDoor
set_option linter.unusedVariables false
set_option linter.unusedSimpArgs false
open Go.RowKit

def leftL (ls rs : List (List Int)) : List Int := if mktOk ls rs = true then backOf (settledK ls rs ls.length) else []
theorem leftL_no {ls rs : List (List Int)} (h : mktOk ls rs = false) : leftL ls rs = [] := by unfold leftL; rw [h]; rfl
theorem leftL_yes {ls rs : List (List Int)} (h : mktOk ls rs = true) : leftL ls rs = backOf (settledK ls rs ls.length) := if_pos h

set_option maxRecDepth 100000 in
set_option maxHeartbeats 2000000 in
theorem specMLeft_any (w : World) (L R : Value) (ls rs : List (List Int)) (hL : IntRows w L ls) (hR : IntRows w R rs) :
    Calls Tryd.prog 33 #[.agg (two L R)] w (GivesInts w (mktOk ls rs) (leftL ls rs)) := by
  obtain ⟨W0, hW0⟩ : ∃ W0, w.alloc (.cells (two L R) 28) = W0 := ⟨_, rfl⟩
  have hb0 : Below w.heap.size w W0 := by rw [← hW0]; exact (Below.refl _ _).alloc (Nat.le_refl _) _
  have hbox : W0.heap[w.heap.size]? = some (.cells (two L R) 28 (0, 0)) := by rw [← hW0]; exact World.alloc_heap_new _ _
  have HSM := Lib.hid (specMIn_any W0 L R ls rs (hL.below hb0) (hR.below hb0))
  have HB0 := Lib.hid hb0
  have HLR := Lib.hid (And.intro hL hR)
  clear hL hR hb0
  cases hok : mktOk ls rs with
  | false =>
    have HEQ := Lib.hid (leftL_no hok)
    rw [hok] at HSM
    clear hok
    go_enter Tryd.func33, Tryd.ntmps33
    go_wp2_with (refine load_mi rfl _ rfl w.heap.size L R rfl hbox ?_)
    clear hW0
    refine HSM.out.mono ?_
    rintro e w1 ⟨rfl, hb1⟩
    have HB1 := Lib.hid (step_below HB0.out hb1)
    clear hb1
    go_wp2
    go_ret2
    rw [HEQ.out]
    have hs := HB1.out.size
    exact ⟨_, rfl, HB1.out.alloc hs _, owns_empty w1 w.heap.size hs⟩
  | true =>
    obtain ⟨⟨h1, h5, hl⟩, hs1, hs2⟩ := mktOk_parts hok
    have HEQ := Lib.hid (leftL_yes hok)
    have HAK := Lib.hid (fun (W : World) (hW : Below w.heap.size w W) => l6mAsk_any W L R ls rs h1 h5 hl (List.all_eq_true.1 hs1) (fun l hm => by have := List.all_eq_true.1 hs2 l hm; rw [← hl]; exact this) (HLR.out.1.below hW) (HLR.out.2.below hW))
    rw [hok] at HSM
    clear hok h1 h5 hl hs1 hs2
    go_enter Tryd.func33, Tryd.ntmps33
    go_wp2_with (refine load_mi rfl _ rfl w.heap.size L R rfl hbox ?_)
    clear hW0
    refine HSM.out.mono ?_
    rintro e w1 ⟨rfl, hb1⟩
    have HB1 := Lib.hid (step_below HB0.out hb1)
    have hbox1 := kept_obj hb1 hbox
    obtain ⟨x0, x1, _, _⟩ := two_cells hbox1
    clear hb1 hbox hbox1
    go_wp2_with (refine (HAK.out _ HB1.out).mono ?_; rintro e w2 ⟨y, rfl, hb2, ho2⟩)
    try (refine (HAK.out _ HB1.out).mono ?_; rintro e w2 ⟨y, rfl, hb2, ho2⟩; go_wp2)
    go_ret2
    rw [HEQ.out]
    exact ⟨_, rfl, step_below HB1.out hb2, owns_mono ho2 HB1.out.size⟩

end Go.Proofs.YtahilcnmjnjcaaaDoor

/-
  spec.MarketRight.
-/
namespace Go.Proofs.YtahilcnmjnjcaaaDoor
set_option linter.unusedVariables false
set_option linter.unusedSimpArgs false
open Go.RowKit

def rightL (ls rs : List (List Int)) : List Int := if mktOk ls rs = true then backOf (backOf (settledK rs ls rs.length)) else []
theorem rightL_no {ls rs : List (List Int)} (h : mktOk ls rs = false) : rightL ls rs = [] := by unfold rightL; rw [h]; rfl
theorem rightL_yes {ls rs : List (List Int)} (h : mktOk ls rs = true) : rightL ls rs = backOf (backOf (settledK rs ls rs.length)) := if_pos h

set_option maxRecDepth 100000 in
set_option maxHeartbeats 2000000 in
theorem specMRight_any (w : World) (L R : Value) (ls rs : List (List Int)) (hL : IntRows w L ls) (hR : IntRows w R rs) :
    Calls Tryd.prog 37 #[.agg (two L R)] w (GivesInts w (mktOk ls rs) (rightL ls rs)) := by
  obtain ⟨W0, hW0⟩ : ∃ W0, w.alloc (.cells (two L R) 28) = W0 := ⟨_, rfl⟩
  have hb0 : Below w.heap.size w W0 := by rw [← hW0]; exact (Below.refl _ _).alloc (Nat.le_refl _) _
  have hbox : W0.heap[w.heap.size]? = some (.cells (two L R) 28 (0, 0)) := by rw [← hW0]; exact World.alloc_heap_new _ _
  have HSM := Lib.hid (specMIn_any W0 L R ls rs (hL.below hb0) (hR.below hb0))
  have HB0 := Lib.hid hb0
  have HLR := Lib.hid (And.intro hL hR)
  clear hL hR hb0
  cases hok : mktOk ls rs with
  | false =>
    have HEQ := Lib.hid (rightL_no hok)
    rw [hok] at HSM
    clear hok
    go_enter Tryd.func37, Tryd.ntmps37
    go_wp2_with (refine load_mi rfl _ rfl w.heap.size L R rfl hbox ?_)
    clear hW0
    refine HSM.out.mono ?_
    rintro e w1 ⟨rfl, hb1⟩
    have HB1 := Lib.hid (step_below HB0.out hb1)
    clear hb1
    go_wp2
    go_ret2
    rw [HEQ.out]
    have hs := HB1.out.size
    exact ⟨_, rfl, HB1.out.alloc hs _, owns_empty w1 w.heap.size hs⟩
  | true =>
    obtain ⟨⟨h1, h5, hl⟩, hs1, hs2⟩ := mktOk_parts hok
    have HEQ := Lib.hid (rightL_yes hok)
    have hls : ∀ l ∈ ls, rankB rs.length l = true := fun l hm => by rw [hl]; exact List.all_eq_true.1 hs1 l hm
    have hrs : ∀ l ∈ rs, rankB rs.length l = true := List.all_eq_true.1 hs2
    have hrk := settled_rank (rs := ls) (ranks_of (n := rs.length) (by omega) (by omega) rfl hrs)
    have hrb := rank_back (by omega) (by omega) hrk
    have HRB := Lib.hid hrb
    have HN := Lib.hid (And.intro h1 (And.intro h5 hl))
    have HAK := Lib.hid (fun (W : World) (hW : Below w.heap.size w W) => l6mAsk_any W R L rs ls (by omega) (by omega) hl.symm hrs hls (HLR.out.2.below hW) (HLR.out.1.below hW))
    rw [hok] at HSM
    clear hok h1 h5 hl hs1 hs2 hls hrs hrk hrb
    go_enter Tryd.func37, Tryd.ntmps37
    go_wp2_with (refine load_mi rfl _ rfl w.heap.size L R rfl hbox ?_)
    clear hW0
    refine HSM.out.mono ?_
    rintro e w1 ⟨rfl, hb1⟩
    have HB1 := Lib.hid (step_below HB0.out hb1)
    have hbox1 := kept_obj hb1 hbox
    obtain ⟨x0, x1, _, _⟩ := two_cells hbox1
    clear hb1 hbox hbox1
    go_wp2_with fail
    refine (HAK.out _ HB1.out).mono ?_
    rintro e w2 ⟨y, rfl, hb2, ho2⟩
    obtain ⟨ks, hks⟩ : ∃ ks, backOf (settledK rs ls rs.length) = ks := ⟨_, rfl⟩
    have hr2 := HRB.out
    rw [hks] at ho2 hr2
    have hkl := (rank_parts hr2).1
    have HBK := Lib.hid (l6mBack_any w2 y ks (ints_of_owns ho2) (by have := HN.out; omega) (fun x hx => by have := (rank_parts hr2).2.1 x hx; omega))
    have HB2 := Lib.hid (step_below HB1.out hb2)
    have HKS := Lib.hid hks
    clear hb2 ho2 hks hr2 hkl
    go_wp2_with (refine HBK.out.mono ?_; rintro e w3 ⟨rfl, hb3, ho3⟩)
    go_ret2
    rw [HEQ.out, HKS.out]
    exact ⟨_, rfl, step_below HB2.out hb3, owns_mono ho3 HB2.out.size⟩

end Go.Proofs.YtahilcnmjnjcaaaDoor

