/-
  FnExactMarketAll: at every input what the program hands back is what the specification does, in memory of its own; the arguments stay as they were.
-/
import Derived.Test.YtahilcnmjnjcaaaDoorMktL
import Derived.Test.YtahilcnmjnjcaaaDoorCore1
import Derived.Test.YtahilcnmjnjcaaaDoorTz
namespace Go.Proofs.YtahilcnmjnjcaaaDoor
set_option linter.unusedVariables false
set_option linter.unusedSimpArgs false
open Go.RowKit

set_option maxRecDepth 100000 in
set_option maxHeartbeats 8000000 in
theorem FnExactMarketAll_walk (w : World) (L R : Value) (ls rs : List (List Int))  (hL : IntRows w L ls) (hR : IntRows w R rs)  (hT : Tab w) (ok : Bool) (ys : List (List Int)) (hly : ys.length + total ys ≤ 1048576)
    (hs : ∀ W L R, IntRows W L ls → IntRows W R rs → Calls Tryd.prog 11 #[.agg (two L R)] W (GivesRows W ok ys)) (hi : ∀ W L R, IntRows W L ls → IntRows W R rs → Tab W → Calls Tryd.prog 13 #[.agg (two L R)] W (GivesRows W ok ys)) :
    Calls Tryd.prog 3 #[.agg (two L R)] w fun e w' => e = .returned (.bool true) ∧ Below w.heap.size w w' := by
  have HT := Lib.hid hT
  clear hT
  have HS := Lib.hid hs
  have HI := Lib.hid hi
  have HL := Lib.hid hL
  have HR := Lib.hid hR
  clear hs hi hL hR
  obtain ⟨W0, hW0⟩ : ∃ W0, w.alloc (.cells (two L R) 24) = W0 := ⟨_, rfl⟩
  have hb0 : Below w.heap.size w W0 := by rw [← hW0]; exact (Below.refl _ _).alloc (Nat.le_refl _) _
  have hbox : W0.heap[w.heap.size]? = some (.cells (two L R) 24 (0, 0)) := by rw [← hW0]; exact World.alloc_heap_new _ _
  have lW0 : w.heap.size < W0.heap.size := (Array.getElem?_eq_some_iff.1 hbox).1
  have HB0 := Lib.hid hb0
  clear hb0
  by_cases hf : FitsM ls rs
  · obtain ⟨l, hl, hsz⟩ := szMkt_yes ls rs hf
    have HSZ := Lib.hid hsz
    have HF := Lib.hid hf
    unfold FitsM at hf
    clear hsz
    go_enter Tryd.func3, Tryd.ntmps3
    go_wp2_with (first
          | (refine load_ml rfl _ rfl w.heap.size L R rfl hbox ?_))
    refine (HSZ.out W0 L R (HL.out.below (HB0.out)) (HR.out.below (HB0.out))).mono ?_
    rintro e w1 ⟨rfl, hb1⟩
    have hbox_1 := kept_obj hb1 hbox
    clear hbox
    have HB1 := Lib.hid (step_below (HB0.out) hb1)
    have hs1 := hb1.size
    clear hb1
    go_wp2_with (first
          | (refine load_ml rfl _ rfl w.heap.size L R rfl hbox_1 ?_))
    refine (toMkt_any w1 L R ls rs (HL.out.below (HB1.out)) (HR.out.below (HB1.out)) HF.out).mono ?_
    rintro e w2 ⟨A12, n12, c12, A22, n22, c22, rfl, hb2, om2⟩
    have hbox_2 := kept_obj hb2 hbox_1
    clear hbox_1
    have HB2 := Lib.hid (step_below (HB1.out) hb2)
    have hs2 := hb2.size
    clear hb2
    go_wp2_with (first
          | (refine load_ml rfl _ rfl w.heap.size L R rfl hbox_2 ?_))
    refine (HS.out w2 _ _ om2.left om2.right).mono ?_
    rintro e w3 ⟨v3, us3, rfl, hb3, o_3⟩
    have hbox_3 := kept_obj hb3 hbox_2
    clear hbox_2
    have c_3 := om2.below hb3
    clear om2
    have HB3 := Lib.hid (step_below (HB2.out) hb3)
    have hs3 := hb3.size
    clear hb3
    clear c_3
    go_wp2_with (first
          | (refine load_ml rfl _ rfl w.heap.size L R rfl hbox_3 ?_))
    refine (toMkt_any w3 L R ls rs (HL.out.below (HB3.out)) (HR.out.below (HB3.out)) HF.out).mono ?_
    rintro e w4 ⟨A14, n14, c14, A24, n24, c24, rfl, hb4, om4⟩
    have hbox_4 := kept_obj hb4 hbox_3
    clear hbox_3
    have o_4 := o_3.below hb4
    clear o_3
    have HB4 := Lib.hid (step_below (HB3.out) hb4)
    have hs4 := hb4.size
    clear hb4
    obtain ⟨w5, hW5⟩ : ∃ W, w4.alloc (.cells (two (.slice A14 n14 c14) (.slice A24 n24 c24)) 28) = W := ⟨_, rfl⟩
    have vx_5 : w5.heap[w4.heap.size]? = some (.cells (two (.slice A14 n14 c14) (.slice A24 n24 c24)) 28 (0, 0)) := by rw [← hW5]; exact World.alloc_heap_new _ _
    have hb5 : Below w4.heap.size w4 w5 := by rw [← hW5]; exact (Below.refl _ _).alloc (Nat.le_refl _) _
    obtain ⟨Nvx, hNvx⟩ : ∃ N, w4.heap.size = N := ⟨_, rfl⟩
    have lvx : Nvx < w5.heap.size := by rw [← hNvx, ← hW5]; simp
    rw [hNvx] at vx_5
    have HNvx := Lib.hid hNvx
    have hbox_5 := kept_obj hb5 hbox_4
    clear hbox_4
    have o_5 := o_4.below hb5
    clear o_4
    have x_5 := om4.below hb5
    clear om4
    have HB5 := Lib.hid (step_below (HB4.out) hb5)
    have hs5 := hb5.size
    clear hb5
    go_wp2_with (first
          | (refine load_ml rfl _ rfl w.heap.size L R rfl hbox_5 ?_)
          | (refine load_mi rfl _ rfl Nvx _ _ rfl vx_5 ?_))
    refine (HI.out w5 _ _ x_5.left x_5.right (HT.out.later (HB5.out))).mono ?_
    rintro e w6 ⟨v6, us6, rfl, hb6, g_6⟩
    have hbox_6 := kept_obj hb6 hbox_5
    clear hbox_5
    have o_6 := o_5.below hb6
    clear o_5
    have x_6 := x_5.below hb6
    clear x_5
    have vx_6 := kept_obj hb6 vx_5
    clear vx_5
    have HB6 := Lib.hid (step_below (HB5.out) hb6)
    have hs6 := hb6.size
    clear hb6
    go_wp2_with (first
          | (refine load_ml rfl _ rfl w.heap.size L R rfl hbox_6 ?_)
          | (refine load_mi rfl _ rfl Nvx _ _ rfl vx_6 ?_))
    refine (eqIntSS_same w6 _ _ ys (rows_of_owns g_6) (rows_of_owns o_6)).mono ?_
    rintro e w7 ⟨rfl, q7, hq7⟩
    have hb7 : Below w6.heap.size w6 w7 := by rw [hq7]; exact below_drewN (Below.refl _ _) q7
    clear hq7
    have hbox_7 := kept_obj hb7 hbox_6
    clear hbox_6
    have o_7 := o_6.below hb7
    clear o_6
    have x_7 := x_6.below hb7
    clear x_6
    have vx_7 := kept_obj hb7 vx_6
    clear vx_6
    have g_7 := g_6.below hb7
    clear g_6
    have HB7 := Lib.hid (step_below (HB6.out) hb7)
    have hs7 := hb7.size
    clear hb7
    have HX := Lib.hid vx_7
    have HM := Lib.hid x_7
    obtain ⟨d0, d1, df, dl⟩ := two_cells (w := w7.drew) vx_7
    obtain ⟨e0, e1, ef, el⟩ := two_cells (w := w7.drew) hbox_7
    have HTO := Lib.hid (toMkt_v w7.drew L R ls rs (HL.out.below (HB7.out).drew) (HR.out.below (HB7.out).drew) HF.out)
    go_wp2_with (first
          | (refine load_ml rfl _ rfl w.heap.size L R rfl hbox_7 ?_)
          | (refine load_mi rfl _ rfl Nvx _ _ rfl vx_7 ?_))
    apply once_any (fun (v : Value) (w' : World) => Below w7.heap.size w7 w')
    case h1 =>
      go_region_law (first
        | (go_simp; go_at_call 12; refine HTO.out.mono ?_; rintro e wq ⟨v, rfl, hbq, hvq⟩; obtain ⟨f0, f1, ff, fl⟩ := two_cells (kept_obj hbq HX.out))
        | (go_simp; go_at_call 15; refine (eqMkt_v wq _ _ v ls rs (HM.out.left.below (below_undrew hbq)) (HM.out.right.below (below_undrew hbq)) hvq).mono ?_; rintro e wr ⟨rfl, hbr⟩))
      all_goals exact ⟨v, step_below (below_undrew hbq) hbr, rfl⟩
    intro v w8 hb8
    clear d0 d1 df dl e0 e1 ef el HX HM HTO
    have hbox_8 := kept_obj hb8 hbox_7
    clear hbox_7
    have o_8 := o_7.below hb8
    clear o_7
    have x_8 := x_7.below hb8
    clear x_7
    have vx_8 := kept_obj hb8 vx_7
    clear vx_7
    have g_8 := g_7.below hb8
    clear g_7
    have HB8 := Lib.hid (step_below (HB7.out) hb8)
    have hs8 := hb8.size
    clear hb8
    go_wp2_with (first
          | (refine load_ml rfl _ rfl w.heap.size L R rfl hbox_8 ?_)
          | (refine load_mi rfl _ rfl Nvx _ _ rfl vx_8 ?_))
    refine (markMkt_any w8 _ _ _ _ ls rs (1) x_8 ((Nat.le_trans hs5 (Nat.le_trans hs6 (Nat.le_trans hs7 hs8)))) (by omega) (by omega)).mono ?_
    rintro e w9 ⟨rfl, hw9, m9⟩
    have hbox_9 := (hw9.block _ (Array.getElem?_eq_some_iff.1 hbox_8).1 (.inl (Nat.lt_of_lt_of_le lW0 ((Nat.le_trans hs1 (Nat.le_trans hs2 hs3)))))).trans hbox_8
    clear hbox_8
    have o_9 := o_8.kept hw9 (.inl (Nat.le_refl _))
    clear o_8
    have vx_9 := (hw9.block _ (Array.getElem?_eq_some_iff.1 vx_8).1 (.inr (Nat.le_trans (Nat.le_refl _) (Nat.le_of_eq HNvx.out)))).trans vx_8
    clear vx_8
    have g_9 := g_8.kept hw9 (.inr (hs5))
    clear g_8
    have HB9 := Lib.hid (Below.within (HB8.out) hw9 (Nat.le_trans (Nat.le_of_lt lW0) ((Nat.le_trans hs1 (Nat.le_trans hs2 hs3)))))
    have hs9 := hw9.size
    clear m9 x_8
    clear hw9
    clear vx_9
    go_wp2_with (first
          | (refine load_ml rfl _ rfl w.heap.size L R rfl hbox_9 ?_))
    refine (eqIntSS_same w9 _ _ ys (rows_of_owns g_9) (rows_of_owns o_9)).mono ?_
    rintro e w10 ⟨rfl, q10, hq10⟩
    have hb10 : Below w9.heap.size w9 w10 := by rw [hq10]; exact below_drewN (Below.refl _ _) q10
    clear hq10
    have hbox_10 := kept_obj hb10 hbox_9
    clear hbox_9
    have o_10 := o_9.below hb10
    clear o_9
    have g_10 := g_9.below hb10
    clear g_9
    have HB10 := Lib.hid (step_below (HB9.out) hb10)
    have hs10 := hb10.size
    clear hb10
    go_wp2_with (first
          | (refine load_ml rfl _ rfl w.heap.size L R rfl hbox_10 ?_))
    refine (markIntSS_any w10 _ _ _ _ ys (1) g_10 (by omega) (by omega)).mono ?_
    rintro e w11 ⟨rfl, hw11, m11⟩
    have hbox_11 := (hw11.block _ (Array.getElem?_eq_some_iff.1 hbox_10).1 (.inl (Nat.lt_of_lt_of_le lW0 ((Nat.le_trans hs1 (Nat.le_trans hs2 (Nat.le_trans hs3 (Nat.le_trans hs4 hs5)))))))).trans hbox_10
    clear hbox_10
    have o_11 := o_10.kept hw11 (.inl ((Nat.le_trans hs4 hs5)))
    clear o_10
    have HB11 := Lib.hid (Below.within (HB10.out) hw11 (Nat.le_trans (Nat.le_of_lt lW0) ((Nat.le_trans hs1 (Nat.le_trans hs2 (Nat.le_trans hs3 (Nat.le_trans hs4 hs5)))))))
    have hs11 := hw11.size
    clear g_10
    clear hw11
    go_wp2_with (first
          | (refine load_ml rfl _ rfl w.heap.size L R rfl hbox_11 ?_))
    refine (heldIntSS_any w11 _ 1 ys (rows_of_owns m11) (by omega) (by omega)).mono ?_
    rintro e wh ⟨rfl, rfl⟩
    go_wp2_with (first
          | (refine load_ml rfl _ rfl w.heap.size L R rfl hbox_11 ?_))
    refine (toMkt_any w11 L R ls rs (HL.out.below (HB11.out)) (HR.out.below (HB11.out)) HF.out).mono ?_
    rintro e w12 ⟨A112, n112, c112, A212, n212, c212, rfl, hb12, om12⟩
    have hbox_12 := kept_obj hb12 hbox_11
    clear hbox_11
    have o_12 := o_11.below hb12
    clear o_11
    have g_12 := m11.below hb12
    clear m11
    have HB12 := Lib.hid (step_below (HB11.out) hb12)
    have hs12 := hb12.size
    clear hb12
    go_wp2_with (first
          | (refine load_ml rfl _ rfl w.heap.size L R rfl hbox_12 ?_))
    refine (HI.out w12 _ _ om12.left om12.right (HT.out.later (HB12.out))).mono ?_
    rintro e w13 ⟨v13, us13, rfl, hb13, h_13⟩
    have hbox_13 := kept_obj hb13 hbox_12
    clear hbox_12
    have o_13 := o_12.below hb13
    clear o_12
    have g_13 := g_12.below hb13
    clear g_12
    have d_13 := om12.below hb13
    clear om12
    have HB13 := Lib.hid (step_below (HB12.out) hb13)
    have hs13 := hb13.size
    clear hb13
    clear d_13
    go_wp2_with (first
          | (refine load_ml rfl _ rfl w.heap.size L R rfl hbox_13 ?_))
    refine (eqIntSS_same w13 _ _ ys (rows_of_owns h_13) (rows_of_owns o_13)).mono ?_
    rintro e w14 ⟨rfl, q14, hq14⟩
    have hb14 : Below w13.heap.size w13 w14 := by rw [hq14]; exact below_drewN (Below.refl _ _) q14
    clear hq14
    have hbox_14 := kept_obj hb14 hbox_13
    clear hbox_13
    have o_14 := o_13.below hb14
    clear o_13
    have g_14 := g_13.below hb14
    clear g_13
    have h_14 := h_13.below hb14
    clear h_13
    have HB14 := Lib.hid (step_below (HB13.out) hb14)
    have hs14 := hb14.size
    clear hb14
    go_wp2_with (first
          | (refine load_ml rfl _ rfl w.heap.size L R rfl hbox_14 ?_))
    refine (heldIntSS_any w14 _ 1 ys (rows_of_owns g_14) (by omega) (by omega)).mono ?_
    rintro e wh ⟨rfl, rfl⟩
    go_wp2
    go_ret
    exact ⟨rfl, HB14.out⟩
  · have HSZ := Lib.hid (szMkt_no ls rs hf)
    clear hf
    go_enter Tryd.func3, Tryd.ntmps3
    go_wp2_with (refine load_ml rfl _ rfl w.heap.size L R rfl hbox ?_)
    refine (HSZ.out W0 L R (HL.out.below HB0.out) (HR.out.below HB0.out)).mono ?_
    rintro e w1 ⟨rfl, hb1⟩
    go_wp2
    go_ret
    exact ⟨rfl, step_below HB0.out hb1⟩

end Go.Proofs.YtahilcnmjnjcaaaDoor
