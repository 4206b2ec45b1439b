/-
  FnExactMarketBlocks: at every input what the program hands back is what the specification does, in memory of its own; the arguments stay as they were.
-/
import Derived.Test.YtjikbeegkpbocaaMktMark
import Derived.Test.YtjikbeegkpbocaaOnce
import Derived.Test.YtjikbeegkpbocaaNum
namespace Go.Proofs.Ytjikbeegkpbocaa
set_option linter.unusedVariables false
set_option linter.unusedSimpArgs false
open Go.RowKit

set_option maxRecDepth 100000 in
set_option maxHeartbeats 8000000 in
theorem FnExactMarketBlocks_walk (w : World) (L R : Value) (ls rs : List (List Int)) (v0 : Value) (xs0 : List Int) (hL : IntRows w L ls) (hR : IntRows w R rs) (h0 : Ints w v0 xs0) (ok : Bool) (ys : List (List Int)) (hly : ys.length + total ys ≤ 1048576)
    (hs : ∀ W p0 L R, IntRows W L ls → IntRows W R rs → Ints W p0 xs0 → Calls Try.prog 35 #[.agg (two L R), p0] W (GivesRows W ok ys)) (hi : ∀ W p0 L R, IntRows W L ls → IntRows W R rs → Ints W p0 xs0 → Calls Try.prog 36 #[.agg (two L R), p0] W (GivesRows W ok ys)) :
    Calls Try.prog 10 #[.agg (two L R), v0] w fun e w' => e = .returned (.bool true) ∧ Below w.heap.size w w' := by
  have HS := Lib.hid hs
  have HI := Lib.hid hi
  have HL := Lib.hid hL
  have HR := Lib.hid hR
  clear hs hi hL hR
  have hv0 := h0
  obtain ⟨B0, capb0, rfl, hm0, _⟩ := h0
  have HV0 := Lib.hid hv0
  clear hv0
  unfold maxLen at hm0
  obtain ⟨W0, hW0⟩ : ∃ W0, w.alloc (.cells (two L R) 24) = W0 := ⟨_, rfl⟩
  have hb0 : Below w.heap.size w W0 := by rw [← hW0]; exact (Below.refl _ _).alloc (Nat.le_refl _) _
  have hbox : W0.heap[w.heap.size]? = some (.cells (two L R) 24 (0, 0)) := by rw [← hW0]; exact World.alloc_heap_new _ _
  have lW0 : w.heap.size < W0.heap.size := (Array.getElem?_eq_some_iff.1 hbox).1
  have HB0 := Lib.hid hb0
  clear hb0
  rcases Nat.lt_or_ge 1048576 xs0.length with hl0 | hl0
  · have hl0' : (1048576 : Int) < (xs0.length : Int) := by omega
    go_enter Try.func10, Try.ntmps10
    go_wp2
    go_ret
    exact ⟨rfl, HB0.out⟩
  have hl0' : ¬ (1048576 : Int) < (xs0.length : Int) := by omega
  by_cases hf : FitsM ls rs
  · obtain ⟨l, hl, hsz⟩ := szMkt_yes ls rs hf
    have HSZ := Lib.hid hsz
    have HF := Lib.hid hf
    unfold FitsM at hf
    clear hsz
    go_enter Try.func10, Try.ntmps10
    go_wp2_with (first
          | (refine load_ml rfl _ rfl w.heap.size L R rfl hbox ?_))
    refine (HSZ.out W0 L R (HL.out.below (HB0.out)) (HR.out.below (HB0.out))).mono ?_
    rintro e w1 ⟨rfl, hb1⟩
    have hbox_1 := kept_obj hb1 hbox
    clear hbox
    have HB1 := Lib.hid (step_below (HB0.out) hb1)
    have hs1 := hb1.size
    clear hb1
    go_wp2_with (first
          | (refine load_ml rfl _ rfl w.heap.size L R rfl hbox_1 ?_))
    refine (toMkt_any w1 L R ls rs (HL.out.below (HB1.out)) (HR.out.below (HB1.out)) HF.out).mono ?_
    rintro e w2 ⟨A12, n12, c12, A22, n22, c22, rfl, hb2, om2⟩
    have hbox_2 := kept_obj hb2 hbox_1
    clear hbox_1
    have HB2 := Lib.hid (step_below (HB1.out) hb2)
    have hs2 := hb2.size
    clear hb2
    go_wp2_with (first
          | (refine load_ml rfl _ rfl w.heap.size L R rfl hbox_2 ?_))
    refine (toIntS_any w2 _ xs0 (HV0.out.below (HB2.out)) (by omega)).mono ?_
    rintro e w3 ⟨rfl, hb3, b3⟩
    have hbox_3 := kept_obj hb3 hbox_2
    clear hbox_2
    have c_3 := om2.below hb3
    clear om2
    have HB3 := Lib.hid (step_below (HB2.out) hb3)
    have hs3 := hb3.size
    clear hb3
    have c0_3 := OwnsAt.of b3
    clear b3
    go_wp2_with (first
          | (refine load_ml rfl _ rfl w.heap.size L R rfl hbox_3 ?_))
    refine (HS.out w3 _ _ _ c_3.left c_3.right (ints_at_owns c0_3)).mono ?_
    rintro e w4 ⟨v4, us4, rfl, hb4, o_4⟩
    have hbox_4 := kept_obj hb4 hbox_3
    clear hbox_3
    have c_4 := c_3.below hb4
    clear c_3
    have c0_4 := c0_3.below hb4
    clear c0_3
    have HB4 := Lib.hid (step_below (HB3.out) hb4)
    have hs4 := hb4.size
    clear hb4
    clear c_4
    clear c0_4
    go_wp2_with (first
          | (refine load_ml rfl _ rfl w.heap.size L R rfl hbox_4 ?_))
    refine (toMkt_any w4 L R ls rs (HL.out.below (HB4.out)) (HR.out.below (HB4.out)) HF.out).mono ?_
    rintro e w5 ⟨A15, n15, c15, A25, n25, c25, rfl, hb5, om5⟩
    have hbox_5 := kept_obj hb5 hbox_4
    clear hbox_4
    have o_5 := o_4.below hb5
    clear o_4
    have HB5 := Lib.hid (step_below (HB4.out) hb5)
    have hs5 := hb5.size
    clear hb5
    obtain ⟨w6, hW6⟩ : ∃ W, w5.alloc (.cells (two (.slice A15 n15 c15) (.slice A25 n25 c25)) 27) = W := ⟨_, rfl⟩
    have vx_6 : w6.heap[w5.heap.size]? = some (.cells (two (.slice A15 n15 c15) (.slice A25 n25 c25)) 27 (0, 0)) := by rw [← hW6]; exact World.alloc_heap_new _ _
    have hb6 : Below w5.heap.size w5 w6 := by rw [← hW6]; exact (Below.refl _ _).alloc (Nat.le_refl _) _
    obtain ⟨Nvx, hNvx⟩ : ∃ N, w5.heap.size = N := ⟨_, rfl⟩
    have lvx : Nvx < w6.heap.size := by rw [← hNvx, ← hW6]; simp
    rw [hNvx] at vx_6
    have HNvx := Lib.hid hNvx
    have hbox_6 := kept_obj hb6 hbox_5
    clear hbox_5
    have o_6 := o_5.below hb6
    clear o_5
    have x_6 := om5.below hb6
    clear om5
    have HB6 := Lib.hid (step_below (HB5.out) hb6)
    have hs6 := hb6.size
    clear hb6
    go_wp2_with (first
          | (refine load_ml rfl _ rfl w.heap.size L R rfl hbox_6 ?_)
          | (refine load_mi rfl _ rfl Nvx _ _ rfl vx_6 ?_))
    refine (toIntS_any w6 _ xs0 (HV0.out.below (HB6.out)) (by omega)).mono ?_
    rintro e w7 ⟨rfl, hb7, b7⟩
    have hbox_7 := kept_obj hb7 hbox_6
    clear hbox_6
    have o_7 := o_6.below hb7
    clear o_6
    have x_7 := x_6.below hb7
    clear x_6
    have vx_7 := kept_obj hb7 vx_6
    clear vx_6
    have HB7 := Lib.hid (step_below (HB6.out) hb7)
    have hs7 := hb7.size
    clear hb7
    have x0_7 := OwnsAt.of b7
    clear b7
    go_wp2_with (first
          | (refine load_ml rfl _ rfl w.heap.size L R rfl hbox_7 ?_)
          | (refine load_mi rfl _ rfl Nvx _ _ rfl vx_7 ?_))
    refine (HI.out w7 _ _ _ x_7.left x_7.right (ints_at_owns x0_7)).mono ?_
    rintro e w8 ⟨v8, us8, rfl, hb8, g_8⟩
    have hbox_8 := kept_obj hb8 hbox_7
    clear hbox_7
    have o_8 := o_7.below hb8
    clear o_7
    have x_8 := x_7.below hb8
    clear x_7
    have vx_8 := kept_obj hb8 vx_7
    clear vx_7
    have x0_8 := x0_7.below hb8
    clear x0_7
    have HB8 := Lib.hid (step_below (HB7.out) hb8)
    have hs8 := hb8.size
    clear hb8
    go_wp2_with (first
          | (refine load_ml rfl _ rfl w.heap.size L R rfl hbox_8 ?_)
          | (refine load_mi rfl _ rfl Nvx _ _ rfl vx_8 ?_))
    refine (eqIntSS_same w8 _ _ ys (rows_of_owns g_8) (rows_of_owns o_8)).mono ?_
    rintro e w9 ⟨rfl, q9, hq9⟩
    have hb9 : Below w8.heap.size w8 w9 := by rw [hq9]; exact below_drewN (Below.refl _ _) q9
    clear hq9
    have hbox_9 := kept_obj hb9 hbox_8
    clear hbox_8
    have o_9 := o_8.below hb9
    clear o_8
    have x_9 := x_8.below hb9
    clear x_8
    have vx_9 := kept_obj hb9 vx_8
    clear vx_8
    have x0_9 := x0_8.below hb9
    clear x0_8
    have g_9 := g_8.below hb9
    clear g_8
    have HB9 := Lib.hid (step_below (HB8.out) hb9)
    have hs9 := hb9.size
    clear hb9
    have HX := Lib.hid vx_9
    have HM := Lib.hid x_9
    obtain ⟨d0, d1, df, dl⟩ := two_cells (w := w9.drew) vx_9
    obtain ⟨e0, e1, ef, el⟩ := two_cells (w := w9.drew) hbox_9
    have HTO := Lib.hid (toMkt_v w9.drew L R ls rs (HL.out.below (HB9.out).drew) (HR.out.below (HB9.out).drew) HF.out)
    go_wp2_with (first
          | (refine load_ml rfl _ rfl w.heap.size L R rfl hbox_9 ?_)
          | (refine load_mi rfl _ rfl Nvx _ _ rfl vx_9 ?_))
    apply once_any (fun (v : Value) (w' : World) => Below w9.heap.size w9 w')
    case h1 =>
      go_region_law (first
        | (go_simp; go_at_call 14; refine HTO.out.mono ?_; rintro e wq ⟨v, rfl, hbq, hvq⟩; obtain ⟨f0, f1, ff, fl⟩ := two_cells (kept_obj hbq HX.out))
        | (go_simp; go_at_call 16; refine (eqMkt_v wq _ _ v ls rs (HM.out.left.below (below_undrew hbq)) (HM.out.right.below (below_undrew hbq)) hvq).mono ?_; rintro e wr ⟨rfl, hbr⟩))
      all_goals exact ⟨v, step_below (below_undrew hbq) hbr, rfl⟩
    intro v w10 hb10
    clear d0 d1 df dl e0 e1 ef el HX HM HTO
    have hbox_10 := kept_obj hb10 hbox_9
    clear hbox_9
    have o_10 := o_9.below hb10
    clear o_9
    have x_10 := x_9.below hb10
    clear x_9
    have vx_10 := kept_obj hb10 vx_9
    clear vx_9
    have x0_10 := x0_9.below hb10
    clear x0_9
    have g_10 := g_9.below hb10
    clear g_9
    have HB10 := Lib.hid (step_below (HB9.out) hb10)
    have hs10 := hb10.size
    clear hb10
    go_wp2_with (first
          | (refine load_ml rfl _ rfl w.heap.size L R rfl hbox_10 ?_)
          | (refine load_mi rfl _ rfl Nvx _ _ rfl vx_10 ?_))
    refine (toIntS_any w10 _ xs0 (HV0.out.below (HB10.out)) (by omega)).mono ?_
    rintro e w11 ⟨rfl, hb11, b11⟩
    have hbox_11 := kept_obj hb11 hbox_10
    clear hbox_10
    have o_11 := o_10.below hb11
    clear o_10
    have x_11 := x_10.below hb11
    clear x_10
    have vx_11 := kept_obj hb11 vx_10
    clear vx_10
    have x0_11 := x0_10.below hb11
    clear x0_10
    have g_11 := g_10.below hb11
    clear g_10
    have HB11 := Lib.hid (step_below (HB10.out) hb11)
    have hs11 := hb11.size
    clear hb11
    have cc_11 := OwnsAt.of b11
    clear b11
    go_wp2_with (first
          | (refine load_ml rfl _ rfl w.heap.size L R rfl hbox_11 ?_)
          | (refine load_mi rfl _ rfl Nvx _ _ rfl vx_11 ?_))
    refine (eqIntS_same w11 _ _ xs0 (ints_at_owns x0_11) (ints_at_owns cc_11)).mono ?_
    rintro e w12 ⟨rfl, q12, hq12⟩
    have hb12 : Below w11.heap.size w11 w12 := by rw [hq12]; exact below_drewN (Below.refl _ _) q12
    clear hq12
    have hbox_12 := kept_obj hb12 hbox_11
    clear hbox_11
    have o_12 := o_11.below hb12
    clear o_11
    have x_12 := x_11.below hb12
    clear x_11
    have vx_12 := kept_obj hb12 vx_11
    clear vx_11
    have x0_12 := x0_11.below hb12
    clear x0_11
    have g_12 := g_11.below hb12
    clear g_11
    have cc_12 := cc_11.below hb12
    clear cc_11
    have HB12 := Lib.hid (step_below (HB11.out) hb12)
    have hs12 := hb12.size
    clear hb12
    clear cc_12
    go_wp2_with (first
          | (refine load_ml rfl _ rfl w.heap.size L R rfl hbox_12 ?_)
          | (refine load_mi rfl _ rfl Nvx _ _ rfl vx_12 ?_))
    refine (markMkt_any w12 _ _ _ _ ls rs (1) x_12 ((Nat.le_trans hs6 (Nat.le_trans hs7 (Nat.le_trans hs8 (Nat.le_trans hs9 (Nat.le_trans hs10 (Nat.le_trans hs11 hs12))))))) (by omega) (by omega)).mono ?_
    rintro e w13 ⟨rfl, hw13, m13⟩
    have hbox_13 := (hw13.block _ (Array.getElem?_eq_some_iff.1 hbox_12).1 (.inl (Nat.lt_of_lt_of_le lW0 ((Nat.le_trans hs1 (Nat.le_trans hs2 (Nat.le_trans hs3 hs4))))))).trans hbox_12
    clear hbox_12
    have o_13 := o_12.kept hw13 (.inl (Nat.le_refl _))
    clear o_12
    have vx_13 := (hw13.block _ (Array.getElem?_eq_some_iff.1 vx_12).1 (.inr (Nat.le_trans (Nat.le_refl _) (Nat.le_of_eq HNvx.out)))).trans vx_12
    clear vx_12
    have x0_13 := x0_12.kept hw13 (.inr (hs6))
    clear x0_12
    have g_13 := g_12.kept hw13 (.inr ((Nat.le_trans hs6 hs7)))
    clear g_12
    have HB13 := Lib.hid (Below.within (HB12.out) hw13 (Nat.le_trans (Nat.le_of_lt lW0) ((Nat.le_trans hs1 (Nat.le_trans hs2 (Nat.le_trans hs3 hs4))))))
    have hs13 := hw13.size
    clear m13 x_12
    clear hw13
    clear vx_13
    go_wp2_with (first
          | (refine load_ml rfl _ rfl w.heap.size L R rfl hbox_13 ?_))
    refine (markIntS_any w13 _ _ xs0 (1 + total ls + total rs) x0_13.1 (by omega) (by omega)).mono ?_
    rintro e w14 ⟨rfl, g14, m14⟩
    have hw14 := Within.of_grown g14 (fun k hk => ⟨(x0_13.1.lt k hk).1, x0_13.2 k hk⟩)
    clear g14
    have hbox_14 := (hw14.block _ (Array.getElem?_eq_some_iff.1 hbox_13).1 (.inl (Nat.lt_of_lt_of_le lW0 ((Nat.le_trans hs1 (Nat.le_trans hs2 (Nat.le_trans hs3 (Nat.le_trans hs4 (Nat.le_trans hs5 hs6))))))))).trans hbox_13
    clear hbox_13
    have o_14 := o_13.kept hw14 (.inl ((Nat.le_trans hs5 hs6)))
    clear o_13
    have g_14 := g_13.kept hw14 (.inr (Nat.le_refl _))
    clear g_13
    have HB14 := Lib.hid (Below.within (HB13.out) hw14 (Nat.le_trans (Nat.le_of_lt lW0) ((Nat.le_trans hs1 (Nat.le_trans hs2 (Nat.le_trans hs3 (Nat.le_trans hs4 (Nat.le_trans hs5 hs6))))))))
    have hs14 := hw14.size
    clear m14 x0_13
    clear hw14
    go_wp2_with (first
          | (refine load_ml rfl _ rfl w.heap.size L R rfl hbox_14 ?_))
    refine (eqIntSS_same w14 _ _ ys (rows_of_owns g_14) (rows_of_owns o_14)).mono ?_
    rintro e w15 ⟨rfl, q15, hq15⟩
    have hb15 : Below w14.heap.size w14 w15 := by rw [hq15]; exact below_drewN (Below.refl _ _) q15
    clear hq15
    have hbox_15 := kept_obj hb15 hbox_14
    clear hbox_14
    have o_15 := o_14.below hb15
    clear o_14
    have g_15 := g_14.below hb15
    clear g_14
    have HB15 := Lib.hid (step_below (HB14.out) hb15)
    have hs15 := hb15.size
    clear hb15
    go_wp2_with (first
          | (refine load_ml rfl _ rfl w.heap.size L R rfl hbox_15 ?_))
    refine (markIntSS_any w15 _ _ _ _ ys (1) g_15 (by omega) (by omega)).mono ?_
    rintro e w16 ⟨rfl, hw16, m16⟩
    have hbox_16 := (hw16.block _ (Array.getElem?_eq_some_iff.1 hbox_15).1 (.inl (Nat.lt_of_lt_of_le lW0 ((Nat.le_trans hs1 (Nat.le_trans hs2 (Nat.le_trans hs3 (Nat.le_trans hs4 (Nat.le_trans hs5 (Nat.le_trans hs6 hs7)))))))))).trans hbox_15
    clear hbox_15
    have o_16 := o_15.kept hw16 (.inl ((Nat.le_trans hs5 (Nat.le_trans hs6 hs7))))
    clear o_15
    have HB16 := Lib.hid (Below.within (HB15.out) hw16 (Nat.le_trans (Nat.le_of_lt lW0) ((Nat.le_trans hs1 (Nat.le_trans hs2 (Nat.le_trans hs3 (Nat.le_trans hs4 (Nat.le_trans hs5 (Nat.le_trans hs6 hs7)))))))))
    have hs16 := hw16.size
    clear g_15
    clear hw16
    go_wp2_with (first
          | (refine load_ml rfl _ rfl w.heap.size L R rfl hbox_16 ?_))
    refine (heldIntSS_any w16 _ 1 ys (rows_of_owns m16) (by omega) (by omega)).mono ?_
    rintro e wh ⟨rfl, rfl⟩
    go_wp2_with (first
          | (refine load_ml rfl _ rfl w.heap.size L R rfl hbox_16 ?_))
    refine (toMkt_any w16 L R ls rs (HL.out.below (HB16.out)) (HR.out.below (HB16.out)) HF.out).mono ?_
    rintro e w17 ⟨A117, n117, c117, A217, n217, c217, rfl, hb17, om17⟩
    have hbox_17 := kept_obj hb17 hbox_16
    clear hbox_16
    have o_17 := o_16.below hb17
    clear o_16
    have g_17 := m16.below hb17
    clear m16
    have HB17 := Lib.hid (step_below (HB16.out) hb17)
    have hs17 := hb17.size
    clear hb17
    go_wp2_with (first
          | (refine load_ml rfl _ rfl w.heap.size L R rfl hbox_17 ?_))
    refine (toIntS_any w17 _ xs0 (HV0.out.below (HB17.out)) (by omega)).mono ?_
    rintro e w18 ⟨rfl, hb18, b18⟩
    have hbox_18 := kept_obj hb18 hbox_17
    clear hbox_17
    have o_18 := o_17.below hb18
    clear o_17
    have g_18 := g_17.below hb18
    clear g_17
    have d_18 := om17.below hb18
    clear om17
    have HB18 := Lib.hid (step_below (HB17.out) hb18)
    have hs18 := hb18.size
    clear hb18
    have d0_18 := OwnsAt.of b18
    clear b18
    go_wp2_with (first
          | (refine load_ml rfl _ rfl w.heap.size L R rfl hbox_18 ?_))
    refine (HI.out w18 _ _ _ d_18.left d_18.right (ints_at_owns d0_18)).mono ?_
    rintro e w19 ⟨v19, us19, rfl, hb19, h_19⟩
    have hbox_19 := kept_obj hb19 hbox_18
    clear hbox_18
    have o_19 := o_18.below hb19
    clear o_18
    have g_19 := g_18.below hb19
    clear g_18
    have d_19 := d_18.below hb19
    clear d_18
    have d0_19 := d0_18.below hb19
    clear d0_18
    have HB19 := Lib.hid (step_below (HB18.out) hb19)
    have hs19 := hb19.size
    clear hb19
    clear d_19
    clear d0_19
    go_wp2_with (first
          | (refine load_ml rfl _ rfl w.heap.size L R rfl hbox_19 ?_))
    refine (eqIntSS_same w19 _ _ ys (rows_of_owns h_19) (rows_of_owns o_19)).mono ?_
    rintro e w20 ⟨rfl, q20, hq20⟩
    have hb20 : Below w19.heap.size w19 w20 := by rw [hq20]; exact below_drewN (Below.refl _ _) q20
    clear hq20
    have hbox_20 := kept_obj hb20 hbox_19
    clear hbox_19
    have o_20 := o_19.below hb20
    clear o_19
    have g_20 := g_19.below hb20
    clear g_19
    have h_20 := h_19.below hb20
    clear h_19
    have HB20 := Lib.hid (step_below (HB19.out) hb20)
    have hs20 := hb20.size
    clear hb20
    go_wp2_with (first
          | (refine load_ml rfl _ rfl w.heap.size L R rfl hbox_20 ?_))
    refine (heldIntSS_any w20 _ 1 ys (rows_of_owns g_20) (by omega) (by omega)).mono ?_
    rintro e wh ⟨rfl, rfl⟩
    go_wp2
    go_ret
    exact ⟨rfl, HB20.out⟩
  · have HSZ := Lib.hid (szMkt_no ls rs hf)
    clear hf
    go_enter Try.func10, Try.ntmps10
    go_wp2_with (refine load_ml rfl _ rfl w.heap.size L R rfl hbox ?_)
    refine (HSZ.out W0 L R (HL.out.below HB0.out) (HR.out.below HB0.out)).mono ?_
    rintro e w1 ⟨rfl, hb1⟩
    go_wp2
    go_ret
    exact ⟨rfl, step_below HB0.out hb1⟩

end Go.Proofs.Ytjikbeegkpbocaa
