/-
  impl.MarketLeft, impl.MarketRight.
-/
import Derived.Test.YtahilcnmjnjcaaaDoorRank1
import Derived.Test.YtahilcnmjnjcaaaDoorSettled
import Derived.Test.YtahilcnmjnjcaaaDoorSM
namespace Go.Proofs.YtahilcnmjnjcaaaDoor
set_option linter.unusedVariables false
set_option linter.unusedSimpArgs false
open Go.RowKit

theorem back_inL {n : Nat} {xs : List Int} (h1 : 1 ≤ n) (h5 : n ≤ 5) (h : rankB n xs = true) : ∀ x ∈ backOf xs, 0 ≤ x ∧ x ≤ ((backOf xs).length : Int) - 1 := fun x hx => by
  have hb := rank_parts (rank_back h1 h5 h)
  have := hb.2.1 x hx
  rw [hb.1]
  exact this

set_option maxRecDepth 100000 in
set_option maxHeartbeats 2000000 in
theorem implMLeft_any (w : World) (L R : Value) (ls rs : List (List Int)) (hL : IntRows w L ls) (hR : IntRows w R rs) :
    Calls Tryd.prog 32 #[.agg (two L R)] w (GivesInts w (mktOk ls rs) (leftL ls rs)) := by
  obtain ⟨W0, hW0⟩ : ∃ W0, w.alloc (.cells (two L R) 28) = W0 := ⟨_, rfl⟩
  have hb0 : Below w.heap.size w W0 := by rw [← hW0]; exact (Below.refl _ _).alloc (Nat.le_refl _) _
  have hbox : W0.heap[w.heap.size]? = some (.cells (two L R) 28 (0, 0)) := by rw [← hW0]; exact World.alloc_heap_new _ _
  have HMF := Lib.hid (mktFrom_any W0 L R ls rs (hL.below hb0) (hR.below hb0))
  have HB0 := Lib.hid hb0
  clear hL hR hb0
  cases hok : mktOk ls rs with
  | false =>
    have HEQ := Lib.hid (leftL_no hok)
    have HOK := Lib.hid hok
    clear hok
    go_enter Tryd.func32, Tryd.ntmps32
    go_wp2_with (refine load_mi rfl _ rfl w.heap.size L R rfl hbox ?_)
    clear hW0
    refine HMF.out.mono ?_
    rintro e w1 ⟨a1, a2, a3, a4, rfl, hb1, ⟨⟨A1, n1, c1, rfl⟩, ⟨A2, n2, c2, rfl⟩, ⟨A3, n3, c3, rfl⟩, ⟨A4, n4, c4, rfl⟩⟩, -⟩
    rw [HOK.out]
    have HB1 := Lib.hid (step_below HB0.out hb1)
    clear hb1 hbox
    go_wp2
    go_ret2
    rw [HEQ.out]
    exact ⟨_, rfl, HB1.out.alloc HB1.out.size _, World.ownsRow_nil _ _ _ _⟩
  | true =>
    obtain ⟨⟨h1, h5, hl⟩, hs1, hs2⟩ := mktOk_parts hok
    have HEQ := Lib.hid (leftL_yes hok)
    have HOK := Lib.hid hok
    have HSE := Lib.hid (fun (W : World) (a1 a2 a3 a4 : Value) (hA : IntRows W a1 ls) (hD : IntRows W a4 (rs.map backOf)) (i2 : IsSl a2) (i3 : IsSl a3) => settled_any W a1 a2 a3 a4 ls rs h1 h5 hl (List.all_eq_true.1 hs1) (fun l hm => by have := List.all_eq_true.1 hs2 l hm; rw [← hl]; exact this) hA hD i2 i3)
    clear hok h1 h5 hl hs1 hs2
    go_enter Tryd.func32, Tryd.ntmps32
    go_wp2_with (refine load_mi rfl _ rfl w.heap.size L R rfl hbox ?_)
    clear hW0
    refine HMF.out.mono ?_
    rintro e w1 ⟨a1, a2, a3, a4, rfl, hb1, ⟨⟨A1, n1, c1, rfl⟩, ⟨A2, n2, c2, rfl⟩, ⟨A3, n3, c3, rfl⟩, ⟨A4, n4, c4, rfl⟩⟩, hat⟩
    rw [HOK.out]
    obtain ⟨W2, hW2⟩ : ∃ W2, w1.alloc (.cells (four (.slice A1 n1 c1) (.slice A2 n2 c2) (.slice A3 n3 c3) (.slice A4 n4 c4)) 60) = W2 := ⟨_, rfl⟩
    have hb12 : Below w1.heap.size w1 W2 := by rw [← hW2]; exact (Below.refl _ _).alloc (Nat.le_refl _) _
    have hcur2 : W2.heap[w1.heap.size]? = some (.cells (four (.slice A1 n1 c1) (.slice A2 n2 c2) (.slice A3 n3 c3) (.slice A4 n4 c4)) 60 (0, 0)) := by rw [← hW2]; exact World.alloc_heap_new _ _
    have hat2 := (hat HOK.out).below hb12
    have HC := Lib.hid (HSE.out W2 _ _ _ _ hat2.one hat2.right ⟨A2, n2, c2, rfl⟩ ⟨A3, n3, c3, rfl⟩)
    have HB2 := Lib.hid (step_below (step_below HB0.out hb1) hb12)
    clear hat hat2 hb1 hb12 hbox
    go_wp2_with (first
      | (refine load_mkt rfl _ rfl w1.heap.size _ _ _ _ rfl hcur2 ?_)
      | (go_at_call 60; refine HC.out.mono ?_; rintro e w3 ⟨y, rfl, hb3, ho3⟩))
    go_ret2
    rw [HEQ.out]
    exact ⟨_, rfl, step_below HB2.out hb3, owns_mono ho3 HB2.out.size⟩

set_option maxRecDepth 100000 in
set_option maxHeartbeats 2000000 in
theorem implMRight_any (w : World) (L R : Value) (ls rs : List (List Int)) (hL : IntRows w L ls) (hR : IntRows w R rs) :
    Calls Tryd.prog 36 #[.agg (two L R)] w (GivesInts w (mktOk ls rs) (rightL ls rs)) := by
  obtain ⟨W0, hW0⟩ : ∃ W0, w.alloc (.cells (two L R) 28) = W0 := ⟨_, rfl⟩
  have hb0 : Below w.heap.size w W0 := by rw [← hW0]; exact (Below.refl _ _).alloc (Nat.le_refl _) _
  have hbox : W0.heap[w.heap.size]? = some (.cells (two L R) 28 (0, 0)) := by rw [← hW0]; exact World.alloc_heap_new _ _
  have HMF := Lib.hid (mktFrom_any W0 L R ls rs (hL.below hb0) (hR.below hb0))
  have HB0 := Lib.hid hb0
  clear hL hR hb0
  cases hok : mktOk ls rs with
  | false =>
    have HEQ := Lib.hid (rightL_no hok)
    have HOK := Lib.hid hok
    clear hok
    go_enter Tryd.func36, Tryd.ntmps36
    go_wp2_with (refine load_mi rfl _ rfl w.heap.size L R rfl hbox ?_)
    clear hW0
    refine HMF.out.mono ?_
    rintro e w1 ⟨a1, a2, a3, a4, rfl, hb1, ⟨⟨A1, n1, c1, rfl⟩, ⟨A2, n2, c2, rfl⟩, ⟨A3, n3, c3, rfl⟩, ⟨A4, n4, c4, rfl⟩⟩, -⟩
    rw [HOK.out]
    have HB1 := Lib.hid (step_below HB0.out hb1)
    clear hb1 hbox
    go_wp2
    go_ret2
    rw [HEQ.out]
    exact ⟨_, rfl, HB1.out.alloc HB1.out.size _, World.ownsRow_nil _ _ _ _⟩
  | true =>
    obtain ⟨⟨h1, h5, hl⟩, hs1, hs2⟩ := mktOk_parts hok
    have HEQ := Lib.hid (rightL_yes hok)
    have HOK := Lib.hid hok
    have hls : ∀ l ∈ ls, rankB rs.length l = true := fun l hm => by rw [hl]; exact List.all_eq_true.1 hs1 l hm
    have hrs : ∀ l ∈ rs, rankB rs.length l = true := List.all_eq_true.1 hs2
    have hrk := settled_rank (rs := ls) (ranks_of (n := rs.length) (by omega) (by omega) rfl hrs)
    have HRK := Lib.hid (back_inL (by omega) (by omega) hrk)
    have HRL := Lib.hid (rank_parts (rank_back (by omega) (by omega) hrk)).1
    have HN := Lib.hid (And.intro h1 (And.intro h5 hl))
    have HSE := Lib.hid (fun (W : World) (a1 a2 a3 a4 : Value) (hA : IntRows W a1 rs) (hD : IntRows W a4 (ls.map backOf)) (i2 : IsSl a2) (i3 : IsSl a3) => settled_any W a1 a2 a3 a4 rs ls (by omega) (by omega) hl.symm hrs hls hA hD i2 i3)
    clear hok h1 h5 hl hs1 hs2 hls hrs hrk
    go_enter Tryd.func36, Tryd.ntmps36
    go_wp2_with (refine load_mi rfl _ rfl w.heap.size L R rfl hbox ?_)
    clear hW0
    refine HMF.out.mono ?_
    rintro e w1 ⟨a1, a2, a3, a4, rfl, hb1, ⟨⟨A1, n1, c1, rfl⟩, ⟨A2, n2, c2, rfl⟩, ⟨A3, n3, c3, rfl⟩, ⟨A4, n4, c4, rfl⟩⟩, hat⟩
    rw [HOK.out]
    obtain ⟨W2, hW2⟩ : ∃ W2, w1.alloc (.cells (four (.slice A1 n1 c1) (.slice A2 n2 c2) (.slice A3 n3 c3) (.slice A4 n4 c4)) 60) = W2 := ⟨_, rfl⟩
    have hb12 : Below w1.heap.size w1 W2 := by rw [← hW2]; exact (Below.refl _ _).alloc (Nat.le_refl _) _
    have hcur2 : W2.heap[w1.heap.size]? = some (.cells (four (.slice A1 n1 c1) (.slice A2 n2 c2) (.slice A3 n3 c3) (.slice A4 n4 c4)) 60 (0, 0)) := by rw [← hW2]; exact World.alloc_heap_new _ _
    have HAT := Lib.hid ((hat HOK.out).below hb12)
    have HB2 := Lib.hid (step_below (step_below HB0.out hb1) hb12)
    clear hat hb1 hb12 hbox
    go_wp2_with (first
      | (refine load_mkt rfl _ rfl w1.heap.size _ _ _ _ rfl hcur2 ?_)
      | (go_at_call 57; refine (mturned_any W2 A1 n1 c1 A2 n2 c2 A3 n3 c3 A4 n4 c4).mono ?_; rintro e w3 ⟨rfl, hb3⟩; have HAT3 := Lib.hid (HAT.out.below hb3))
      | (go_at_call 60; refine (HSE.out w3 _ _ _ _ HAT3.out.three HAT3.out.left ⟨A4, n4, c4, rfl⟩ ⟨A1, n1, c1, rfl⟩).mono ?_; rintro e w4 ⟨y, rfl, hb4, ho4⟩)
      | (go_at_call 64; refine (turned_any w4 y (backOf (settledK rs ls rs.length)) (ints_of_owns ho4) (by have := HN.out; have := HRL.out; omega) HRK.out).mono ?_; rintro e w5 ⟨rfl, hb5, ho5⟩))
    go_ret2
    rw [HEQ.out]
    have hbb := step_below (step_below HB2.out hb3) hb4
    exact ⟨_, rfl, step_below hbb hb5, owns_mono ho5 hbb.size⟩

end Go.Proofs.YtahilcnmjnjcaaaDoor
