/-
  FnExactMarketTurned: at every input what the program hands back is what the specification does, in memory of its own; the arguments stay as they were.
-/
import Derived.Test.YtjikbeegkpbocaaMktApart
import Derived.Test.YtjikbeegkpbocaaOnce
import Derived.Test.YtjikbeegkpbocaaNum
namespace Go.Proofs.Ytjikbeegkpbocaa
set_option linter.unusedVariables false
set_option linter.unusedSimpArgs false
open Go.RowKit

def GivesMkt2 (w : World) (ok : Bool) (ys zs : List (List Int)) (e : Ending) (w' : World) : Prop :=
  ∃ A1 n1 c1 A2 n2 c2, e = .returned (.tuple #[.agg (two (.slice A1 n1 c1) (.slice A2 n2 c2)), .bool ok]) ∧ Below w.heap.size w w' ∧ OwnsMktX w' w.heap.size w'.heap.size (.slice A1 n1 c1) (.slice A2 n2 c2) ys zs

set_option maxRecDepth 100000 in
set_option maxHeartbeats 8000000 in
theorem FnExactMarketTurned_walk (w : World) (L R : Value) (ls rs : List (List Int))  (hL : IntRows w L ls) (hR : IntRows w R rs)  (ok : Bool) (ys zs : List (List Int)) (hly : FitsM ys zs)
    (hs : ∀ W L R, IntRows W L ls → IntRows W R rs → Calls Try.prog 23 #[.agg (two L R)] W (GivesMkt2 W ok ys zs)) (hi : ∀ W L R, IntRows W L ls → IntRows W R rs → Calls Try.prog 24 #[.agg (two L R)] W (GivesMkt2 W ok ys zs)) :
    Calls Try.prog 6 #[.agg (two L R)] w fun e w' => e = .returned (.bool true) ∧ Below w.heap.size w w' := by
  have HS := Lib.hid hs
  have HI := Lib.hid hi
  have HL := Lib.hid hL
  have HR := Lib.hid hR
  clear hs hi hL hR
  have hly' := hly
  unfold FitsM at hly'
  obtain ⟨W0, hW0⟩ : ∃ W0, w.alloc (.cells (two L R) 24) = W0 := ⟨_, rfl⟩
  have hb0 : Below w.heap.size w W0 := by rw [← hW0]; exact (Below.refl _ _).alloc (Nat.le_refl _) _
  have hbox : W0.heap[w.heap.size]? = some (.cells (two L R) 24 (0, 0)) := by rw [← hW0]; exact World.alloc_heap_new _ _
  have lW0 : w.heap.size < W0.heap.size := (Array.getElem?_eq_some_iff.1 hbox).1
  have HB0 := Lib.hid hb0
  clear hb0
  by_cases hf : FitsM ls rs
  · obtain ⟨l, hl, hsz⟩ := szMkt_yes ls rs hf
    have HSZ := Lib.hid hsz
    have HF := Lib.hid hf
    unfold FitsM at hf
    clear hsz
    go_enter Try.func6, Try.ntmps6
    go_wp2_with (first
          | (refine load_ml rfl _ rfl w.heap.size L R rfl hbox ?_))
    refine (HSZ.out W0 L R (HL.out.below (HB0.out)) (HR.out.below (HB0.out))).mono ?_
    rintro e w1 ⟨rfl, hb1⟩
    have hbox_1 := kept_obj hb1 hbox
    clear hbox
    have HB1 := Lib.hid (step_below (HB0.out) hb1)
    have hs1 := hb1.size
    clear hb1
    go_wp2_with (first
          | (refine load_ml rfl _ rfl w.heap.size L R rfl hbox_1 ?_))
    refine (toMkt_any w1 L R ls rs (HL.out.below (HB1.out)) (HR.out.below (HB1.out)) HF.out).mono ?_
    rintro e w2 ⟨A12, n12, c12, A22, n22, c22, rfl, hb2, om2⟩
    have hbox_2 := kept_obj hb2 hbox_1
    clear hbox_1
    have HB2 := Lib.hid (step_below (HB1.out) hb2)
    have hs2 := hb2.size
    clear hb2
    go_wp2_with (first
          | (refine load_ml rfl _ rfl w.heap.size L R rfl hbox_2 ?_))
    refine (HS.out w2 _ _ om2.left om2.right).mono ?_
    rintro e w3 ⟨A13, n13, c13, A23, n23, c23, rfl, hb3, o_3⟩
    have hbox_3 := kept_obj hb3 hbox_2
    clear hbox_2
    have c_3 := om2.below hb3
    clear om2
    have HB3 := Lib.hid (step_below (HB2.out) hb3)
    have hs3 := hb3.size
    clear hb3
    obtain ⟨w4, hW4⟩ : ∃ W, w3.alloc (.cells (two (.slice A13 n13 c13) (.slice A23 n23 c23)) 27) = W := ⟨_, rfl⟩
    have vo_4 : w4.heap[w3.heap.size]? = some (.cells (two (.slice A13 n13 c13) (.slice A23 n23 c23)) 27 (0, 0)) := by rw [← hW4]; exact World.alloc_heap_new _ _
    have hb4 : Below w3.heap.size w3 w4 := by rw [← hW4]; exact (Below.refl _ _).alloc (Nat.le_refl _) _
    obtain ⟨Nvo, hNvo⟩ : ∃ N, w3.heap.size = N := ⟨_, rfl⟩
    have lvo : Nvo < w4.heap.size := by rw [← hNvo, ← hW4]; simp
    rw [hNvo] at vo_4
    have HNvo := Lib.hid hNvo
    have hbox_4 := kept_obj hb4 hbox_3
    clear hbox_3
    have c_4 := c_3.below hb4
    clear c_3
    have o_4 := o_3.below hb4
    clear o_3
    have HB4 := Lib.hid (step_below (HB3.out) hb4)
    have hs4 := hb4.size
    clear hb4
    clear c_4
    try (obtain ⟨c0vo4, c1vo4, c2vo4, c3vo4⟩ := two_cells vo_4)
    go_wp2_with (first
          | (refine load_ml rfl _ rfl w.heap.size L R rfl hbox_4 ?_)
          | (refine load_mi rfl _ rfl Nvo _ _ rfl vo_4 ?_))
    refine (toMkt_any w4 L R ls rs (HL.out.below (HB4.out)) (HR.out.below (HB4.out)) HF.out).mono ?_
    rintro e w5 ⟨A15, n15, c15, A25, n25, c25, rfl, hb5, om5⟩
    have hbox_5 := kept_obj hb5 hbox_4
    clear hbox_4
    have o_5 := o_4.below hb5
    clear o_4
    have vo_5 := kept_obj hb5 vo_4
    clear vo_4
    have HB5 := Lib.hid (step_below (HB4.out) hb5)
    have hs5 := hb5.size
    clear hb5
    obtain ⟨w6, hW6⟩ : ∃ W, w5.alloc (.cells (two (.slice A15 n15 c15) (.slice A25 n25 c25)) 27) = W := ⟨_, rfl⟩
    have vx_6 : w6.heap[w5.heap.size]? = some (.cells (two (.slice A15 n15 c15) (.slice A25 n25 c25)) 27 (0, 0)) := by rw [← hW6]; exact World.alloc_heap_new _ _
    have hb6 : Below w5.heap.size w5 w6 := by rw [← hW6]; exact (Below.refl _ _).alloc (Nat.le_refl _) _
    obtain ⟨Nvx, hNvx⟩ : ∃ N, w5.heap.size = N := ⟨_, rfl⟩
    have lvx : Nvx < w6.heap.size := by rw [← hNvx, ← hW6]; simp
    rw [hNvx] at vx_6
    have HNvx := Lib.hid hNvx
    have hbox_6 := kept_obj hb6 hbox_5
    clear hbox_5
    have o_6 := o_5.below hb6
    clear o_5
    have vo_6 := kept_obj hb6 vo_5
    clear vo_5
    have x_6 := om5.below hb6
    clear om5
    have HB6 := Lib.hid (step_below (HB5.out) hb6)
    have hs6 := hb6.size
    clear hb6
    try (obtain ⟨c0vo6, c1vo6, c2vo6, c3vo6⟩ := two_cells vo_6)
    go_wp2_with (first
          | (refine load_ml rfl _ rfl w.heap.size L R rfl hbox_6 ?_)
          | (refine load_mi rfl _ rfl Nvo _ _ rfl vo_6 ?_)
          | (refine load_mi rfl _ rfl Nvx _ _ rfl vx_6 ?_))
    refine (HI.out w6 _ _ x_6.left x_6.right).mono ?_
    rintro e w7 ⟨A17, n17, c17, A27, n27, c27, rfl, hb7, g_7⟩
    have hbox_7 := kept_obj hb7 hbox_6
    clear hbox_6
    have o_7 := o_6.below hb7
    clear o_6
    have vo_7 := kept_obj hb7 vo_6
    clear vo_6
    have x_7 := x_6.below hb7
    clear x_6
    have vx_7 := kept_obj hb7 vx_6
    clear vx_6
    have HB7 := Lib.hid (step_below (HB6.out) hb7)
    have hs7 := hb7.size
    clear hb7
    obtain ⟨w8, hW8⟩ : ∃ W, w7.alloc (.cells (two (.slice A17 n17 c17) (.slice A27 n27 c27)) 27) = W := ⟨_, rfl⟩
    have vg_8 : w8.heap[w7.heap.size]? = some (.cells (two (.slice A17 n17 c17) (.slice A27 n27 c27)) 27 (0, 0)) := by rw [← hW8]; exact World.alloc_heap_new _ _
    have hb8 : Below w7.heap.size w7 w8 := by rw [← hW8]; exact (Below.refl _ _).alloc (Nat.le_refl _) _
    obtain ⟨Nvg, hNvg⟩ : ∃ N, w7.heap.size = N := ⟨_, rfl⟩
    have lvg : Nvg < w8.heap.size := by rw [← hNvg, ← hW8]; simp
    rw [hNvg] at vg_8
    have HNvg := Lib.hid hNvg
    have hbox_8 := kept_obj hb8 hbox_7
    clear hbox_7
    have o_8 := o_7.below hb8
    clear o_7
    have vo_8 := kept_obj hb8 vo_7
    clear vo_7
    have x_8 := x_7.below hb8
    clear x_7
    have vx_8 := kept_obj hb8 vx_7
    clear vx_7
    have g_8 := g_7.below hb8
    clear g_7
    have HB8 := Lib.hid (step_below (HB7.out) hb8)
    have hs8 := hb8.size
    clear hb8
    try (obtain ⟨c0vo8, c1vo8, c2vo8, c3vo8⟩ := two_cells vo_8)
    try (obtain ⟨c0vg8, c1vg8, c2vg8, c3vg8⟩ := two_cells vg_8)
    go_wp2_with (first
          | (refine load_ml rfl _ rfl w.heap.size L R rfl hbox_8 ?_)
          | (refine load_mi rfl _ rfl Nvo _ _ rfl vo_8 ?_)
          | (refine load_mi rfl _ rfl Nvx _ _ rfl vx_8 ?_)
          | (refine load_mi rfl _ rfl Nvg _ _ rfl vg_8 ?_))
    refine (eqMkt_same w8 _ _ _ _ ys zs g_8.left g_8.right o_8.left o_8.right).mono ?_
    rintro e w9 ⟨rfl, hb9⟩
    have hbox_9 := kept_obj hb9 hbox_8
    clear hbox_8
    have o_9 := o_8.below hb9
    clear o_8
    have vo_9 := kept_obj hb9 vo_8
    clear vo_8
    have x_9 := x_8.below hb9
    clear x_8
    have vx_9 := kept_obj hb9 vx_8
    clear vx_8
    have g_9 := g_8.below hb9
    clear g_8
    have vg_9 := kept_obj hb9 vg_8
    clear vg_8
    have HB9 := Lib.hid (step_below (HB8.out) hb9)
    have hs9 := hb9.size
    clear hb9
    have HX := Lib.hid vx_9
    have HM := Lib.hid x_9
    obtain ⟨d0, d1, df, dl⟩ := two_cells (w := w9.drew) vx_9
    obtain ⟨e0, e1, ef, el⟩ := two_cells (w := w9.drew) hbox_9
    have HTO := Lib.hid (toMkt_v w9.drew L R ls rs (HL.out.below (HB9.out).drew) (HR.out.below (HB9.out).drew) HF.out)
    try (obtain ⟨c0vo9, c1vo9, c2vo9, c3vo9⟩ := two_cells vo_9)
    try (obtain ⟨c0vg9, c1vg9, c2vg9, c3vg9⟩ := two_cells vg_9)
    go_wp2_with (first
          | (refine load_ml rfl _ rfl w.heap.size L R rfl hbox_9 ?_)
          | (refine load_mi rfl _ rfl Nvo _ _ rfl vo_9 ?_)
          | (refine load_mi rfl _ rfl Nvx _ _ rfl vx_9 ?_)
          | (refine load_mi rfl _ rfl Nvg _ _ rfl vg_9 ?_))
    apply once_any (fun (v : Value) (w' : World) => Below w9.heap.size w9 w')
    case h1 =>
      go_region_law (first
        | (go_simp; go_at_call 14; refine HTO.out.mono ?_; rintro e wq ⟨v, rfl, hbq, hvq⟩; obtain ⟨f0, f1, ff, fl⟩ := two_cells (kept_obj hbq HX.out))
        | (go_simp; go_at_call 16; refine (eqMkt_v wq _ _ v ls rs (HM.out.left.below (below_undrew hbq)) (HM.out.right.below (below_undrew hbq)) hvq).mono ?_; rintro e wr ⟨rfl, hbr⟩))
      all_goals exact ⟨v, step_below (below_undrew hbq) hbr, rfl⟩
    intro v w10 hb10
    clear d0 d1 df dl e0 e1 ef el HX HM HTO
    have hbox_10 := kept_obj hb10 hbox_9
    clear hbox_9
    have o_10 := o_9.below hb10
    clear o_9
    have vo_10 := kept_obj hb10 vo_9
    clear vo_9
    have x_10 := x_9.below hb10
    clear x_9
    have vx_10 := kept_obj hb10 vx_9
    clear vx_9
    have g_10 := g_9.below hb10
    clear g_9
    have vg_10 := kept_obj hb10 vg_9
    clear vg_9
    have HB10 := Lib.hid (step_below (HB9.out) hb10)
    have hs10 := hb10.size
    clear hb10
    try (obtain ⟨c0vo10, c1vo10, c2vo10, c3vo10⟩ := two_cells vo_10)
    try (obtain ⟨c0vg10, c1vg10, c2vg10, c3vg10⟩ := two_cells vg_10)
    go_wp2_with (first
          | (refine load_ml rfl _ rfl w.heap.size L R rfl hbox_10 ?_)
          | (refine load_mi rfl _ rfl Nvo _ _ rfl vo_10 ?_)
          | (refine load_mi rfl _ rfl Nvx _ _ rfl vx_10 ?_)
          | (refine load_mi rfl _ rfl Nvg _ _ rfl vg_10 ?_))
    refine (markMkt_any w10 _ _ _ _ ls rs (1) x_10 ((Nat.le_trans hs6 (Nat.le_trans hs7 (Nat.le_trans hs8 (Nat.le_trans hs9 hs10))))) (by omega) (by omega)).mono ?_
    rintro e w11 ⟨rfl, hw11, m11⟩
    have hbox_11 := (hw11.block _ (Array.getElem?_eq_some_iff.1 hbox_10).1 (.inl (Nat.lt_of_lt_of_le lW0 ((Nat.le_trans hs1 (Nat.le_trans hs2 (Nat.le_trans hs3 hs4))))))).trans hbox_10
    clear hbox_10
    have o_11 := o_10.kept hw11 (.inl (hs4))
    clear o_10
    have vo_11 := (hw11.block _ (Array.getElem?_eq_some_iff.1 vo_10).1 (.inl (Nat.lt_of_lt_of_le lvo (Nat.le_refl _)))).trans vo_10
    clear vo_10
    have vx_11 := (hw11.block _ (Array.getElem?_eq_some_iff.1 vx_10).1 (.inr (Nat.le_trans (Nat.le_refl _) (Nat.le_of_eq HNvx.out)))).trans vx_10
    clear vx_10
    have g_11 := g_10.kept hw11 (.inr (hs6))
    clear g_10
    have vg_11 := (hw11.block _ (Array.getElem?_eq_some_iff.1 vg_10).1 (.inr (Nat.le_trans ((Nat.le_trans hs6 hs7)) (Nat.le_of_eq HNvg.out)))).trans vg_10
    clear vg_10
    have HB11 := Lib.hid (Below.within (HB10.out) hw11 (Nat.le_trans (Nat.le_of_lt lW0) ((Nat.le_trans hs1 (Nat.le_trans hs2 (Nat.le_trans hs3 hs4))))))
    have hs11 := hw11.size
    clear m11 x_10
    clear hw11
    clear vx_11
    try (obtain ⟨c0vo11, c1vo11, c2vo11, c3vo11⟩ := two_cells vo_11)
    try (obtain ⟨c0vg11, c1vg11, c2vg11, c3vg11⟩ := two_cells vg_11)
    go_wp2_with (first
          | (refine load_ml rfl _ rfl w.heap.size L R rfl hbox_11 ?_)
          | (refine load_mi rfl _ rfl Nvo _ _ rfl vo_11 ?_)
          | (refine load_mi rfl _ rfl Nvg _ _ rfl vg_11 ?_))
    refine (eqMkt_same w11 _ _ _ _ ys zs g_11.left g_11.right o_11.left o_11.right).mono ?_
    rintro e w12 ⟨rfl, hb12⟩
    have hbox_12 := kept_obj hb12 hbox_11
    clear hbox_11
    have o_12 := o_11.below hb12
    clear o_11
    have vo_12 := kept_obj hb12 vo_11
    clear vo_11
    have g_12 := g_11.below hb12
    clear g_11
    have vg_12 := kept_obj hb12 vg_11
    clear vg_11
    have HB12 := Lib.hid (step_below (HB11.out) hb12)
    have hs12 := hb12.size
    clear hb12
    try (obtain ⟨c0vo12, c1vo12, c2vo12, c3vo12⟩ := two_cells vo_12)
    try (obtain ⟨c0vg12, c1vg12, c2vg12, c3vg12⟩ := two_cells vg_12)
    go_wp2_with (first
          | (refine load_ml rfl _ rfl w.heap.size L R rfl hbox_12 ?_)
          | (refine load_mi rfl _ rfl Nvo _ _ rfl vo_12 ?_)
          | (refine load_mi rfl _ rfl Nvg _ _ rfl vg_12 ?_))
    refine (markMktX_any w12 _ _ _ _ ys zs (1) g_12 ((Nat.le_trans hs8 (Nat.le_trans hs9 (Nat.le_trans hs10 (Nat.le_trans hs11 hs12))))) (by omega) (by omega)).mono ?_
    rintro e w13 ⟨rfl, hw13, m13⟩
    have hbox_13 := (hw13.block _ (Array.getElem?_eq_some_iff.1 hbox_12).1 (.inl (Nat.lt_of_lt_of_le lW0 ((Nat.le_trans hs1 (Nat.le_trans hs2 (Nat.le_trans hs3 (Nat.le_trans hs4 (Nat.le_trans hs5 hs6))))))))).trans hbox_12
    clear hbox_12
    have o_13 := o_12.kept hw13 (.inl ((Nat.le_trans hs4 (Nat.le_trans hs5 hs6))))
    clear o_12
    have vo_13 := (hw13.block _ (Array.getElem?_eq_some_iff.1 vo_12).1 (.inl (Nat.lt_of_lt_of_le lvo ((Nat.le_trans hs5 hs6))))).trans vo_12
    clear vo_12
    have vg_13 := (hw13.block _ (Array.getElem?_eq_some_iff.1 vg_12).1 (.inr (Nat.le_trans (Nat.le_refl _) (Nat.le_of_eq HNvg.out)))).trans vg_12
    clear vg_12
    have HB13 := Lib.hid (Below.within (HB12.out) hw13 (Nat.le_trans (Nat.le_of_lt lW0) ((Nat.le_trans hs1 (Nat.le_trans hs2 (Nat.le_trans hs3 (Nat.le_trans hs4 (Nat.le_trans hs5 hs6))))))))
    have hs13 := hw13.size
    clear g_12
    clear hw13
    try (obtain ⟨c0vo13, c1vo13, c2vo13, c3vo13⟩ := two_cells vo_13)
    try (obtain ⟨c0vg13, c1vg13, c2vg13, c3vg13⟩ := two_cells vg_13)
    go_wp2_with (first
          | (refine load_ml rfl _ rfl w.heap.size L R rfl hbox_13 ?_)
          | (refine load_mi rfl _ rfl Nvo _ _ rfl vo_13 ?_)
          | (refine load_mi rfl _ rfl Nvg _ _ rfl vg_13 ?_))
    refine (heldMkt_any w13 _ _ ys zs 1 m13.left m13.right (by omega) (by omega)).mono ?_
    rintro e w14 ⟨rfl, hb14⟩
    have hbox_14 := kept_obj hb14 hbox_13
    clear hbox_13
    have o_14 := o_13.below hb14
    clear o_13
    have vo_14 := kept_obj hb14 vo_13
    clear vo_13
    have g_14 := m13.below hb14
    clear m13
    have vg_14 := kept_obj hb14 vg_13
    clear vg_13
    have HB14 := Lib.hid (step_below (HB13.out) hb14)
    have hs14 := hb14.size
    clear hb14
    try (obtain ⟨c0vo14, c1vo14, c2vo14, c3vo14⟩ := two_cells vo_14)
    try (obtain ⟨c0vg14, c1vg14, c2vg14, c3vg14⟩ := two_cells vg_14)
    go_wp2_with (first
          | (refine load_ml rfl _ rfl w.heap.size L R rfl hbox_14 ?_)
          | (refine load_mi rfl _ rfl Nvo _ _ rfl vo_14 ?_)
          | (refine load_mi rfl _ rfl Nvg _ _ rfl vg_14 ?_))
    refine (toMkt_any w14 L R ls rs (HL.out.below (HB14.out)) (HR.out.below (HB14.out)) HF.out).mono ?_
    rintro e w15 ⟨A115, n115, c115, A215, n215, c215, rfl, hb15, om15⟩
    have hbox_15 := kept_obj hb15 hbox_14
    clear hbox_14
    have o_15 := o_14.below hb15
    clear o_14
    have vo_15 := kept_obj hb15 vo_14
    clear vo_14
    have g_15 := g_14.below hb15
    clear g_14
    have vg_15 := kept_obj hb15 vg_14
    clear vg_14
    have HB15 := Lib.hid (step_below (HB14.out) hb15)
    have hs15 := hb15.size
    clear hb15
    try (obtain ⟨c0vo15, c1vo15, c2vo15, c3vo15⟩ := two_cells vo_15)
    try (obtain ⟨c0vg15, c1vg15, c2vg15, c3vg15⟩ := two_cells vg_15)
    go_wp2_with (first
          | (refine load_ml rfl _ rfl w.heap.size L R rfl hbox_15 ?_)
          | (refine load_mi rfl _ rfl Nvo _ _ rfl vo_15 ?_)
          | (refine load_mi rfl _ rfl Nvg _ _ rfl vg_15 ?_))
    refine (HI.out w15 _ _ om15.left om15.right).mono ?_
    rintro e w16 ⟨A116, n116, c116, A216, n216, c216, rfl, hb16, h_16⟩
    have hbox_16 := kept_obj hb16 hbox_15
    clear hbox_15
    have o_16 := o_15.below hb16
    clear o_15
    have vo_16 := kept_obj hb16 vo_15
    clear vo_15
    have g_16 := g_15.below hb16
    clear g_15
    have vg_16 := kept_obj hb16 vg_15
    clear vg_15
    have d_16 := om15.below hb16
    clear om15
    have HB16 := Lib.hid (step_below (HB15.out) hb16)
    have hs16 := hb16.size
    clear hb16
    obtain ⟨w17, hW17⟩ : ∃ W, w16.alloc (.cells (two (.slice A116 n116 c116) (.slice A216 n216 c216)) 27) = W := ⟨_, rfl⟩
    have vh_17 : w17.heap[w16.heap.size]? = some (.cells (two (.slice A116 n116 c116) (.slice A216 n216 c216)) 27 (0, 0)) := by rw [← hW17]; exact World.alloc_heap_new _ _
    have hb17 : Below w16.heap.size w16 w17 := by rw [← hW17]; exact (Below.refl _ _).alloc (Nat.le_refl _) _
    obtain ⟨Nvh, hNvh⟩ : ∃ N, w16.heap.size = N := ⟨_, rfl⟩
    have lvh : Nvh < w17.heap.size := by rw [← hNvh, ← hW17]; simp
    rw [hNvh] at vh_17
    have HNvh := Lib.hid hNvh
    have hbox_17 := kept_obj hb17 hbox_16
    clear hbox_16
    have o_17 := o_16.below hb17
    clear o_16
    have vo_17 := kept_obj hb17 vo_16
    clear vo_16
    have g_17 := g_16.below hb17
    clear g_16
    have vg_17 := kept_obj hb17 vg_16
    clear vg_16
    have d_17 := d_16.below hb17
    clear d_16
    have h_17 := h_16.below hb17
    clear h_16
    have HB17 := Lib.hid (step_below (HB16.out) hb17)
    have hs17 := hb17.size
    clear hb17
    clear d_17
    try (obtain ⟨c0vo17, c1vo17, c2vo17, c3vo17⟩ := two_cells vo_17)
    try (obtain ⟨c0vg17, c1vg17, c2vg17, c3vg17⟩ := two_cells vg_17)
    try (obtain ⟨c0vh17, c1vh17, c2vh17, c3vh17⟩ := two_cells vh_17)
    go_wp2_with (first
          | (refine load_ml rfl _ rfl w.heap.size L R rfl hbox_17 ?_)
          | (refine load_mi rfl _ rfl Nvo _ _ rfl vo_17 ?_)
          | (refine load_mi rfl _ rfl Nvg _ _ rfl vg_17 ?_)
          | (refine load_mi rfl _ rfl Nvh _ _ rfl vh_17 ?_))
    refine (eqMkt_same w17 _ _ _ _ ys zs h_17.left h_17.right o_17.left o_17.right).mono ?_
    rintro e w18 ⟨rfl, hb18⟩
    have hbox_18 := kept_obj hb18 hbox_17
    clear hbox_17
    have o_18 := o_17.below hb18
    clear o_17
    have vo_18 := kept_obj hb18 vo_17
    clear vo_17
    have g_18 := g_17.below hb18
    clear g_17
    have vg_18 := kept_obj hb18 vg_17
    clear vg_17
    have h_18 := h_17.below hb18
    clear h_17
    have vh_18 := kept_obj hb18 vh_17
    clear vh_17
    have HB18 := Lib.hid (step_below (HB17.out) hb18)
    have hs18 := hb18.size
    clear hb18
    try (obtain ⟨c0vo18, c1vo18, c2vo18, c3vo18⟩ := two_cells vo_18)
    try (obtain ⟨c0vg18, c1vg18, c2vg18, c3vg18⟩ := two_cells vg_18)
    try (obtain ⟨c0vh18, c1vh18, c2vh18, c3vh18⟩ := two_cells vh_18)
    go_wp2_with (first
          | (refine load_ml rfl _ rfl w.heap.size L R rfl hbox_18 ?_)
          | (refine load_mi rfl _ rfl Nvo _ _ rfl vo_18 ?_)
          | (refine load_mi rfl _ rfl Nvg _ _ rfl vg_18 ?_)
          | (refine load_mi rfl _ rfl Nvh _ _ rfl vh_18 ?_))
    refine (heldMkt_any w18 _ _ ys zs 1 g_18.left g_18.right (by omega) (by omega)).mono ?_
    rintro e w19 ⟨rfl, hb19⟩
    have hbox_19 := kept_obj hb19 hbox_18
    clear hbox_18
    have o_19 := o_18.below hb19
    clear o_18
    have vo_19 := kept_obj hb19 vo_18
    clear vo_18
    have g_19 := g_18.below hb19
    clear g_18
    have vg_19 := kept_obj hb19 vg_18
    clear vg_18
    have h_19 := h_18.below hb19
    clear h_18
    have vh_19 := kept_obj hb19 vh_18
    clear vh_18
    have HB19 := Lib.hid (step_below (HB18.out) hb19)
    have hs19 := hb19.size
    clear hb19
    go_wp2
    go_ret
    exact ⟨rfl, HB19.out⟩
  · have HSZ := Lib.hid (szMkt_no ls rs hf)
    clear hf
    go_enter Try.func6, Try.ntmps6
    go_wp2_with (refine load_ml rfl _ rfl w.heap.size L R rfl hbox ?_)
    refine (HSZ.out W0 L R (HL.out.below HB0.out) (HR.out.below HB0.out)).mono ?_
    rintro e w1 ⟨rfl, hb1⟩
    go_wp2
    go_ret
    exact ⟨rfl, step_below HB0.out hb1⟩

end Go.Proofs.Ytjikbeegkpbocaa
