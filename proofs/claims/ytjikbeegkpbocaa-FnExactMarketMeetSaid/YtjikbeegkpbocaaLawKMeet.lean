/-
  FnExactMarketMeet: at every input what the program hands back is what the specification does, in memory of its own; the arguments stay as they were.
-/
import Derived.Test.YtjikbeegkpbocaaMktMark
import Derived.Test.YtjikbeegkpbocaaOnce
import Derived.Test.YtjikbeegkpbocaaNum
namespace Go.Proofs.Ytjikbeegkpbocaa
set_option linter.unusedVariables false
set_option linter.unusedSimpArgs false
open Go.RowKit

set_option maxRecDepth 100000 in
set_option maxHeartbeats 8000000 in
theorem FnExactMarketMeet_walk (w : World) (L R : Value) (ls rs : List (List Int)) (v0 : Value) (xs0 : List Int) (v1 : Value) (xs1 : List Int) (hL : IntRows w L ls) (hR : IntRows w R rs) (h0 : Ints w v0 xs0) (h1 : Ints w v1 xs1) (ok : Bool) (ys : List Int) (hly : ys.length ≤ 1048576)
    (hs : ∀ W p0 p1 L R, IntRows W L ls → IntRows W R rs → Ints W p0 xs0 → Ints W p1 xs1 → Calls Try.prog 33 #[.agg (two L R), p0, p1] W (GivesInts W ok ys)) (hi : ∀ W p0 p1 L R, IntRows W L ls → IntRows W R rs → Ints W p0 xs0 → Ints W p1 xs1 → Calls Try.prog 34 #[.agg (two L R), p0, p1] W (GivesInts W ok ys)) :
    Calls Try.prog 9 #[.agg (two L R), v0, v1] w fun e w' => e = .returned (.bool true) ∧ Below w.heap.size w w' := by
  have HS := Lib.hid hs
  have HI := Lib.hid hi
  have HL := Lib.hid hL
  have HR := Lib.hid hR
  clear hs hi hL hR
  have hv0 := h0
  obtain ⟨B0, capb0, rfl, hm0, _⟩ := h0
  have HV0 := Lib.hid hv0
  clear hv0
  unfold maxLen at hm0
  have hv1 := h1
  obtain ⟨B1, capb1, rfl, hm1, _⟩ := h1
  have HV1 := Lib.hid hv1
  clear hv1
  unfold maxLen at hm1
  obtain ⟨W0, hW0⟩ : ∃ W0, w.alloc (.cells (two L R) 24) = W0 := ⟨_, rfl⟩
  have hb0 : Below w.heap.size w W0 := by rw [← hW0]; exact (Below.refl _ _).alloc (Nat.le_refl _) _
  have hbox : W0.heap[w.heap.size]? = some (.cells (two L R) 24 (0, 0)) := by rw [← hW0]; exact World.alloc_heap_new _ _
  have lW0 : w.heap.size < W0.heap.size := (Array.getElem?_eq_some_iff.1 hbox).1
  have HB0 := Lib.hid hb0
  clear hb0
  rcases Nat.lt_or_ge 1048576 xs0.length with hl0 | hl0
  · have hl0' : (1048576 : Int) < (xs0.length : Int) := by omega
    go_enter Try.func9, Try.ntmps9
    go_wp2
    go_ret
    exact ⟨rfl, HB0.out⟩
  have hl0' : ¬ (1048576 : Int) < (xs0.length : Int) := by omega
  rcases Nat.lt_or_ge 1048576 xs1.length with hl1 | hl1
  · have hl1' : (1048576 : Int) < (xs1.length : Int) := by omega
    go_enter Try.func9, Try.ntmps9
    go_wp2
    go_ret
    exact ⟨rfl, HB0.out⟩
  have hl1' : ¬ (1048576 : Int) < (xs1.length : Int) := by omega
  by_cases hf : FitsM ls rs
  · obtain ⟨l, hl, hsz⟩ := szMkt_yes ls rs hf
    have HSZ := Lib.hid hsz
    have HF := Lib.hid hf
    unfold FitsM at hf
    clear hsz
    go_enter Try.func9, Try.ntmps9
    go_wp2_with (first
          | (refine load_ml rfl _ rfl w.heap.size L R rfl hbox ?_))
    refine (HSZ.out W0 L R (HL.out.below (HB0.out)) (HR.out.below (HB0.out))).mono ?_
    rintro e w1 ⟨rfl, hb1⟩
    have hbox_1 := kept_obj hb1 hbox
    clear hbox
    have HB1 := Lib.hid (step_below (HB0.out) hb1)
    have hs1 := hb1.size
    clear hb1
    go_wp2_with (first
          | (refine load_ml rfl _ rfl w.heap.size L R rfl hbox_1 ?_))
    refine (toMkt_any w1 L R ls rs (HL.out.below (HB1.out)) (HR.out.below (HB1.out)) HF.out).mono ?_
    rintro e w2 ⟨A12, n12, c12, A22, n22, c22, rfl, hb2, om2⟩
    have hbox_2 := kept_obj hb2 hbox_1
    clear hbox_1
    have HB2 := Lib.hid (step_below (HB1.out) hb2)
    have hs2 := hb2.size
    clear hb2
    go_wp2_with (first
          | (refine load_ml rfl _ rfl w.heap.size L R rfl hbox_2 ?_))
    refine (toIntS_any w2 _ xs0 (HV0.out.below (HB2.out)) (by omega)).mono ?_
    rintro e w3 ⟨rfl, hb3, b3⟩
    have hbox_3 := kept_obj hb3 hbox_2
    clear hbox_2
    have c_3 := om2.below hb3
    clear om2
    have HB3 := Lib.hid (step_below (HB2.out) hb3)
    have hs3 := hb3.size
    clear hb3
    have c0_3 := OwnsAt.of b3
    clear b3
    go_wp2_with (first
          | (refine load_ml rfl _ rfl w.heap.size L R rfl hbox_3 ?_))
    refine (toIntS_any w3 _ xs1 (HV1.out.below (HB3.out)) (by omega)).mono ?_
    rintro e w4 ⟨rfl, hb4, b4⟩
    have hbox_4 := kept_obj hb4 hbox_3
    clear hbox_3
    have c_4 := c_3.below hb4
    clear c_3
    have c0_4 := c0_3.below hb4
    clear c0_3
    have HB4 := Lib.hid (step_below (HB3.out) hb4)
    have hs4 := hb4.size
    clear hb4
    have c1_4 := OwnsAt.of b4
    clear b4
    go_wp2_with (first
          | (refine load_ml rfl _ rfl w.heap.size L R rfl hbox_4 ?_))
    refine (HS.out w4 _ _ _ _ c_4.left c_4.right (ints_at_owns c0_4) (ints_at_owns c1_4)).mono ?_
    rintro e w5 ⟨v5, rfl, hb5, b5⟩
    have hbox_5 := kept_obj hb5 hbox_4
    clear hbox_4
    have c_5 := c_4.below hb5
    clear c_4
    have c0_5 := c0_4.below hb5
    clear c0_4
    have c1_5 := c1_4.below hb5
    clear c1_4
    have HB5 := Lib.hid (step_below (HB4.out) hb5)
    have hs5 := hb5.size
    clear hb5
    have o_5 := OwnsAt.of b5
    clear b5
    clear c_5
    clear c0_5
    clear c1_5
    go_wp2_with (first
          | (refine load_ml rfl _ rfl w.heap.size L R rfl hbox_5 ?_))
    refine (toMkt_any w5 L R ls rs (HL.out.below (HB5.out)) (HR.out.below (HB5.out)) HF.out).mono ?_
    rintro e w6 ⟨A16, n16, c16, A26, n26, c26, rfl, hb6, om6⟩
    have hbox_6 := kept_obj hb6 hbox_5
    clear hbox_5
    have o_6 := o_5.below hb6
    clear o_5
    have HB6 := Lib.hid (step_below (HB5.out) hb6)
    have hs6 := hb6.size
    clear hb6
    obtain ⟨w7, hW7⟩ : ∃ W, w6.alloc (.cells (two (.slice A16 n16 c16) (.slice A26 n26 c26)) 27) = W := ⟨_, rfl⟩
    have vx_7 : w7.heap[w6.heap.size]? = some (.cells (two (.slice A16 n16 c16) (.slice A26 n26 c26)) 27 (0, 0)) := by rw [← hW7]; exact World.alloc_heap_new _ _
    have hb7 : Below w6.heap.size w6 w7 := by rw [← hW7]; exact (Below.refl _ _).alloc (Nat.le_refl _) _
    obtain ⟨Nvx, hNvx⟩ : ∃ N, w6.heap.size = N := ⟨_, rfl⟩
    have lvx : Nvx < w7.heap.size := by rw [← hNvx, ← hW7]; simp
    rw [hNvx] at vx_7
    have HNvx := Lib.hid hNvx
    have hbox_7 := kept_obj hb7 hbox_6
    clear hbox_6
    have o_7 := o_6.below hb7
    clear o_6
    have x_7 := om6.below hb7
    clear om6
    have HB7 := Lib.hid (step_below (HB6.out) hb7)
    have hs7 := hb7.size
    clear hb7
    go_wp2_with (first
          | (refine load_ml rfl _ rfl w.heap.size L R rfl hbox_7 ?_)
          | (refine load_mi rfl _ rfl Nvx _ _ rfl vx_7 ?_))
    refine (toIntS_any w7 _ xs0 (HV0.out.below (HB7.out)) (by omega)).mono ?_
    rintro e w8 ⟨rfl, hb8, b8⟩
    have hbox_8 := kept_obj hb8 hbox_7
    clear hbox_7
    have o_8 := o_7.below hb8
    clear o_7
    have x_8 := x_7.below hb8
    clear x_7
    have vx_8 := kept_obj hb8 vx_7
    clear vx_7
    have HB8 := Lib.hid (step_below (HB7.out) hb8)
    have hs8 := hb8.size
    clear hb8
    have x0_8 := OwnsAt.of b8
    clear b8
    go_wp2_with (first
          | (refine load_ml rfl _ rfl w.heap.size L R rfl hbox_8 ?_)
          | (refine load_mi rfl _ rfl Nvx _ _ rfl vx_8 ?_))
    refine (toIntS_any w8 _ xs1 (HV1.out.below (HB8.out)) (by omega)).mono ?_
    rintro e w9 ⟨rfl, hb9, b9⟩
    have hbox_9 := kept_obj hb9 hbox_8
    clear hbox_8
    have o_9 := o_8.below hb9
    clear o_8
    have x_9 := x_8.below hb9
    clear x_8
    have vx_9 := kept_obj hb9 vx_8
    clear vx_8
    have x0_9 := x0_8.below hb9
    clear x0_8
    have HB9 := Lib.hid (step_below (HB8.out) hb9)
    have hs9 := hb9.size
    clear hb9
    have x1_9 := OwnsAt.of b9
    clear b9
    go_wp2_with (first
          | (refine load_ml rfl _ rfl w.heap.size L R rfl hbox_9 ?_)
          | (refine load_mi rfl _ rfl Nvx _ _ rfl vx_9 ?_))
    refine (HI.out w9 _ _ _ _ x_9.left x_9.right (ints_at_owns x0_9) (ints_at_owns x1_9)).mono ?_
    rintro e w10 ⟨v10, rfl, hb10, b10⟩
    have hbox_10 := kept_obj hb10 hbox_9
    clear hbox_9
    have o_10 := o_9.below hb10
    clear o_9
    have x_10 := x_9.below hb10
    clear x_9
    have vx_10 := kept_obj hb10 vx_9
    clear vx_9
    have x0_10 := x0_9.below hb10
    clear x0_9
    have x1_10 := x1_9.below hb10
    clear x1_9
    have HB10 := Lib.hid (step_below (HB9.out) hb10)
    have hs10 := hb10.size
    clear hb10
    have g_10 := OwnsAt.of b10
    clear b10
    go_wp2_with (first
          | (refine load_ml rfl _ rfl w.heap.size L R rfl hbox_10 ?_)
          | (refine load_mi rfl _ rfl Nvx _ _ rfl vx_10 ?_))
    refine (eqIntS_same w10 _ _ ys (ints_at_owns g_10) (ints_at_owns o_10)).mono ?_
    rintro e w11 ⟨rfl, q11, hq11⟩
    have hb11 : Below w10.heap.size w10 w11 := by rw [hq11]; exact below_drewN (Below.refl _ _) q11
    clear hq11
    have hbox_11 := kept_obj hb11 hbox_10
    clear hbox_10
    have o_11 := o_10.below hb11
    clear o_10
    have x_11 := x_10.below hb11
    clear x_10
    have vx_11 := kept_obj hb11 vx_10
    clear vx_10
    have x0_11 := x0_10.below hb11
    clear x0_10
    have x1_11 := x1_10.below hb11
    clear x1_10
    have g_11 := g_10.below hb11
    clear g_10
    have HB11 := Lib.hid (step_below (HB10.out) hb11)
    have hs11 := hb11.size
    clear hb11
    have HX := Lib.hid vx_11
    have HM := Lib.hid x_11
    obtain ⟨d0, d1, df, dl⟩ := two_cells (w := w11.drew) vx_11
    obtain ⟨e0, e1, ef, el⟩ := two_cells (w := w11.drew) hbox_11
    have HTO := Lib.hid (toMkt_v w11.drew L R ls rs (HL.out.below (HB11.out).drew) (HR.out.below (HB11.out).drew) HF.out)
    go_wp2_with (first
          | (refine load_ml rfl _ rfl w.heap.size L R rfl hbox_11 ?_)
          | (refine load_mi rfl _ rfl Nvx _ _ rfl vx_11 ?_))
    apply once_any (fun (v : Value) (w' : World) => Below w11.heap.size w11 w')
    case h1 =>
      go_region_law (first
        | (go_simp; go_at_call 14; refine HTO.out.mono ?_; rintro e wq ⟨v, rfl, hbq, hvq⟩; obtain ⟨f0, f1, ff, fl⟩ := two_cells (kept_obj hbq HX.out))
        | (go_simp; go_at_call 16; refine (eqMkt_v wq _ _ v ls rs (HM.out.left.below (below_undrew hbq)) (HM.out.right.below (below_undrew hbq)) hvq).mono ?_; rintro e wr ⟨rfl, hbr⟩))
      all_goals exact ⟨v, step_below (below_undrew hbq) hbr, rfl⟩
    intro v w12 hb12
    clear d0 d1 df dl e0 e1 ef el HX HM HTO
    have hbox_12 := kept_obj hb12 hbox_11
    clear hbox_11
    have o_12 := o_11.below hb12
    clear o_11
    have x_12 := x_11.below hb12
    clear x_11
    have vx_12 := kept_obj hb12 vx_11
    clear vx_11
    have x0_12 := x0_11.below hb12
    clear x0_11
    have x1_12 := x1_11.below hb12
    clear x1_11
    have g_12 := g_11.below hb12
    clear g_11
    have HB12 := Lib.hid (step_below (HB11.out) hb12)
    have hs12 := hb12.size
    clear hb12
    go_wp2_with (first
          | (refine load_ml rfl _ rfl w.heap.size L R rfl hbox_12 ?_)
          | (refine load_mi rfl _ rfl Nvx _ _ rfl vx_12 ?_))
    refine (toIntS_any w12 _ xs0 (HV0.out.below (HB12.out)) (by omega)).mono ?_
    rintro e w13 ⟨rfl, hb13, b13⟩
    have hbox_13 := kept_obj hb13 hbox_12
    clear hbox_12
    have o_13 := o_12.below hb13
    clear o_12
    have x_13 := x_12.below hb13
    clear x_12
    have vx_13 := kept_obj hb13 vx_12
    clear vx_12
    have x0_13 := x0_12.below hb13
    clear x0_12
    have x1_13 := x1_12.below hb13
    clear x1_12
    have g_13 := g_12.below hb13
    clear g_12
    have HB13 := Lib.hid (step_below (HB12.out) hb13)
    have hs13 := hb13.size
    clear hb13
    have cc_13 := OwnsAt.of b13
    clear b13
    go_wp2_with (first
          | (refine load_ml rfl _ rfl w.heap.size L R rfl hbox_13 ?_)
          | (refine load_mi rfl _ rfl Nvx _ _ rfl vx_13 ?_))
    refine (eqIntS_same w13 _ _ xs0 (ints_at_owns x0_13) (ints_at_owns cc_13)).mono ?_
    rintro e w14 ⟨rfl, q14, hq14⟩
    have hb14 : Below w13.heap.size w13 w14 := by rw [hq14]; exact below_drewN (Below.refl _ _) q14
    clear hq14
    have hbox_14 := kept_obj hb14 hbox_13
    clear hbox_13
    have o_14 := o_13.below hb14
    clear o_13
    have x_14 := x_13.below hb14
    clear x_13
    have vx_14 := kept_obj hb14 vx_13
    clear vx_13
    have x0_14 := x0_13.below hb14
    clear x0_13
    have x1_14 := x1_13.below hb14
    clear x1_13
    have g_14 := g_13.below hb14
    clear g_13
    have cc_14 := cc_13.below hb14
    clear cc_13
    have HB14 := Lib.hid (step_below (HB13.out) hb14)
    have hs14 := hb14.size
    clear hb14
    clear cc_14
    go_wp2_with (first
          | (refine load_ml rfl _ rfl w.heap.size L R rfl hbox_14 ?_)
          | (refine load_mi rfl _ rfl Nvx _ _ rfl vx_14 ?_))
    refine (toIntS_any w14 _ xs1 (HV1.out.below (HB14.out)) (by omega)).mono ?_
    rintro e w15 ⟨rfl, hb15, b15⟩
    have hbox_15 := kept_obj hb15 hbox_14
    clear hbox_14
    have o_15 := o_14.below hb15
    clear o_14
    have x_15 := x_14.below hb15
    clear x_14
    have vx_15 := kept_obj hb15 vx_14
    clear vx_14
    have x0_15 := x0_14.below hb15
    clear x0_14
    have x1_15 := x1_14.below hb15
    clear x1_14
    have g_15 := g_14.below hb15
    clear g_14
    have HB15 := Lib.hid (step_below (HB14.out) hb15)
    have hs15 := hb15.size
    clear hb15
    have cc_15 := OwnsAt.of b15
    clear b15
    go_wp2_with (first
          | (refine load_ml rfl _ rfl w.heap.size L R rfl hbox_15 ?_)
          | (refine load_mi rfl _ rfl Nvx _ _ rfl vx_15 ?_))
    refine (eqIntS_same w15 _ _ xs1 (ints_at_owns x1_15) (ints_at_owns cc_15)).mono ?_
    rintro e w16 ⟨rfl, q16, hq16⟩
    have hb16 : Below w15.heap.size w15 w16 := by rw [hq16]; exact below_drewN (Below.refl _ _) q16
    clear hq16
    have hbox_16 := kept_obj hb16 hbox_15
    clear hbox_15
    have o_16 := o_15.below hb16
    clear o_15
    have x_16 := x_15.below hb16
    clear x_15
    have vx_16 := kept_obj hb16 vx_15
    clear vx_15
    have x0_16 := x0_15.below hb16
    clear x0_15
    have x1_16 := x1_15.below hb16
    clear x1_15
    have g_16 := g_15.below hb16
    clear g_15
    have cc_16 := cc_15.below hb16
    clear cc_15
    have HB16 := Lib.hid (step_below (HB15.out) hb16)
    have hs16 := hb16.size
    clear hb16
    clear cc_16
    go_wp2_with (first
          | (refine load_ml rfl _ rfl w.heap.size L R rfl hbox_16 ?_)
          | (refine load_mi rfl _ rfl Nvx _ _ rfl vx_16 ?_))
    refine (markMkt_any w16 _ _ _ _ ls rs (1) x_16 ((Nat.le_trans hs7 (Nat.le_trans hs8 (Nat.le_trans hs9 (Nat.le_trans hs10 (Nat.le_trans hs11 (Nat.le_trans hs12 (Nat.le_trans hs13 (Nat.le_trans hs14 (Nat.le_trans hs15 hs16)))))))))) (by omega) (by omega)).mono ?_
    rintro e w17 ⟨rfl, hw17, m17⟩
    have hbox_17 := (hw17.block _ (Array.getElem?_eq_some_iff.1 hbox_16).1 (.inl (Nat.lt_of_lt_of_le lW0 ((Nat.le_trans hs1 (Nat.le_trans hs2 (Nat.le_trans hs3 (Nat.le_trans hs4 hs5)))))))).trans hbox_16
    clear hbox_16
    have o_17 := o_16.kept hw17 (.inl (Nat.le_refl _))
    clear o_16
    have vx_17 := (hw17.block _ (Array.getElem?_eq_some_iff.1 vx_16).1 (.inr (Nat.le_trans (Nat.le_refl _) (Nat.le_of_eq HNvx.out)))).trans vx_16
    clear vx_16
    have x0_17 := x0_16.kept hw17 (.inr (hs7))
    clear x0_16
    have x1_17 := x1_16.kept hw17 (.inr ((Nat.le_trans hs7 hs8)))
    clear x1_16
    have g_17 := g_16.kept hw17 (.inr ((Nat.le_trans hs7 (Nat.le_trans hs8 hs9))))
    clear g_16
    have HB17 := Lib.hid (Below.within (HB16.out) hw17 (Nat.le_trans (Nat.le_of_lt lW0) ((Nat.le_trans hs1 (Nat.le_trans hs2 (Nat.le_trans hs3 (Nat.le_trans hs4 hs5)))))))
    have hs17 := hw17.size
    clear m17 x_16
    clear hw17
    clear vx_17
    go_wp2_with (first
          | (refine load_ml rfl _ rfl w.heap.size L R rfl hbox_17 ?_))
    refine (markIntS_any w17 _ _ xs0 (1 + total ls + total rs) x0_17.1 (by omega) (by omega)).mono ?_
    rintro e w18 ⟨rfl, g18, m18⟩
    have hw18 := Within.of_grown g18 (fun k hk => ⟨(x0_17.1.lt k hk).1, x0_17.2 k hk⟩)
    clear g18
    have hbox_18 := (hw18.block _ (Array.getElem?_eq_some_iff.1 hbox_17).1 (.inl (Nat.lt_of_lt_of_le lW0 ((Nat.le_trans hs1 (Nat.le_trans hs2 (Nat.le_trans hs3 (Nat.le_trans hs4 (Nat.le_trans hs5 (Nat.le_trans hs6 hs7)))))))))).trans hbox_17
    clear hbox_17
    have o_18 := o_17.kept hw18 (.inl ((Nat.le_trans hs6 hs7)))
    clear o_17
    have x1_18 := x1_17.kept hw18 (.inr (Nat.le_refl _))
    clear x1_17
    have g_18 := g_17.kept hw18 (.inr (hs9))
    clear g_17
    have HB18 := Lib.hid (Below.within (HB17.out) hw18 (Nat.le_trans (Nat.le_of_lt lW0) ((Nat.le_trans hs1 (Nat.le_trans hs2 (Nat.le_trans hs3 (Nat.le_trans hs4 (Nat.le_trans hs5 (Nat.le_trans hs6 hs7)))))))))
    have hs18 := hw18.size
    clear m18 x0_17
    clear hw18
    go_wp2_with (first
          | (refine load_ml rfl _ rfl w.heap.size L R rfl hbox_18 ?_))
    refine (markIntS_any w18 _ _ xs1 (1 + total ls + total rs + xs0.length) x1_18.1 (by omega) (by omega)).mono ?_
    rintro e w19 ⟨rfl, g19, m19⟩
    have hw19 := Within.of_grown g19 (fun k hk => ⟨(x1_18.1.lt k hk).1, x1_18.2 k hk⟩)
    clear g19
    have hbox_19 := (hw19.block _ (Array.getElem?_eq_some_iff.1 hbox_18).1 (.inl (Nat.lt_of_lt_of_le lW0 ((Nat.le_trans hs1 (Nat.le_trans hs2 (Nat.le_trans hs3 (Nat.le_trans hs4 (Nat.le_trans hs5 (Nat.le_trans hs6 (Nat.le_trans hs7 hs8))))))))))).trans hbox_18
    clear hbox_18
    have o_19 := o_18.kept hw19 (.inl ((Nat.le_trans hs6 (Nat.le_trans hs7 hs8))))
    clear o_18
    have g_19 := g_18.kept hw19 (.inr (Nat.le_refl _))
    clear g_18
    have HB19 := Lib.hid (Below.within (HB18.out) hw19 (Nat.le_trans (Nat.le_of_lt lW0) ((Nat.le_trans hs1 (Nat.le_trans hs2 (Nat.le_trans hs3 (Nat.le_trans hs4 (Nat.le_trans hs5 (Nat.le_trans hs6 (Nat.le_trans hs7 hs8))))))))))
    have hs19 := hw19.size
    clear m19 x1_18
    clear hw19
    go_wp2_with (first
          | (refine load_ml rfl _ rfl w.heap.size L R rfl hbox_19 ?_))
    refine (eqIntS_same w19 _ _ ys (ints_at_owns g_19) (ints_at_owns o_19)).mono ?_
    rintro e w20 ⟨rfl, q20, hq20⟩
    have hb20 : Below w19.heap.size w19 w20 := by rw [hq20]; exact below_drewN (Below.refl _ _) q20
    clear hq20
    have hbox_20 := kept_obj hb20 hbox_19
    clear hbox_19
    have o_20 := o_19.below hb20
    clear o_19
    have g_20 := g_19.below hb20
    clear g_19
    have HB20 := Lib.hid (step_below (HB19.out) hb20)
    have hs20 := hb20.size
    clear hb20
    go_wp2_with (first
          | (refine load_ml rfl _ rfl w.heap.size L R rfl hbox_20 ?_))
    refine (markIntS_any w20 _ _ ys (1) g_20.1 (by omega) (by omega)).mono ?_
    rintro e w21 ⟨rfl, g21, m21⟩
    have hw21 := Within.of_grown g21 (fun k hk => ⟨(g_20.1.lt k hk).1, g_20.2 k hk⟩)
    clear g21
    have hbox_21 := (hw21.block _ (Array.getElem?_eq_some_iff.1 hbox_20).1 (.inl (Nat.lt_of_lt_of_le lW0 ((Nat.le_trans hs1 (Nat.le_trans hs2 (Nat.le_trans hs3 (Nat.le_trans hs4 (Nat.le_trans hs5 (Nat.le_trans hs6 (Nat.le_trans hs7 (Nat.le_trans hs8 hs9)))))))))))).trans hbox_20
    clear hbox_20
    have o_21 := o_20.kept hw21 (.inl ((Nat.le_trans hs6 (Nat.le_trans hs7 (Nat.le_trans hs8 hs9)))))
    clear o_20
    have HB21 := Lib.hid (Below.within (HB20.out) hw21 (Nat.le_trans (Nat.le_of_lt lW0) ((Nat.le_trans hs1 (Nat.le_trans hs2 (Nat.le_trans hs3 (Nat.le_trans hs4 (Nat.le_trans hs5 (Nat.le_trans hs6 (Nat.le_trans hs7 (Nat.le_trans hs8 hs9)))))))))))
    have hs21 := hw21.size
    have n21 : OwnsInts w21 w9.heap.size w10.heap.size v10 (marks 1 ys.length) := ⟨m21, g_20.2⟩
    clear m21 g_20
    clear hw21
    go_wp2_with (first
          | (refine load_ml rfl _ rfl w.heap.size L R rfl hbox_21 ?_))
    refine (heldIntS_any w21 _ 1 ys.length (ints_at_owns n21) (by omega) (by omega)).mono ?_
    rintro e wh ⟨rfl, rfl⟩
    go_wp2_with (first
          | (refine load_ml rfl _ rfl w.heap.size L R rfl hbox_21 ?_))
    refine (toMkt_any w21 L R ls rs (HL.out.below (HB21.out)) (HR.out.below (HB21.out)) HF.out).mono ?_
    rintro e w22 ⟨A122, n122, c122, A222, n222, c222, rfl, hb22, om22⟩
    have hbox_22 := kept_obj hb22 hbox_21
    clear hbox_21
    have o_22 := o_21.below hb22
    clear o_21
    have g_22 := n21.below hb22
    clear n21
    have HB22 := Lib.hid (step_below (HB21.out) hb22)
    have hs22 := hb22.size
    clear hb22
    go_wp2_with (first
          | (refine load_ml rfl _ rfl w.heap.size L R rfl hbox_22 ?_))
    refine (toIntS_any w22 _ xs0 (HV0.out.below (HB22.out)) (by omega)).mono ?_
    rintro e w23 ⟨rfl, hb23, b23⟩
    have hbox_23 := kept_obj hb23 hbox_22
    clear hbox_22
    have o_23 := o_22.below hb23
    clear o_22
    have g_23 := g_22.below hb23
    clear g_22
    have d_23 := om22.below hb23
    clear om22
    have HB23 := Lib.hid (step_below (HB22.out) hb23)
    have hs23 := hb23.size
    clear hb23
    have d0_23 := OwnsAt.of b23
    clear b23
    go_wp2_with (first
          | (refine load_ml rfl _ rfl w.heap.size L R rfl hbox_23 ?_))
    refine (toIntS_any w23 _ xs1 (HV1.out.below (HB23.out)) (by omega)).mono ?_
    rintro e w24 ⟨rfl, hb24, b24⟩
    have hbox_24 := kept_obj hb24 hbox_23
    clear hbox_23
    have o_24 := o_23.below hb24
    clear o_23
    have g_24 := g_23.below hb24
    clear g_23
    have d_24 := d_23.below hb24
    clear d_23
    have d0_24 := d0_23.below hb24
    clear d0_23
    have HB24 := Lib.hid (step_below (HB23.out) hb24)
    have hs24 := hb24.size
    clear hb24
    have d1_24 := OwnsAt.of b24
    clear b24
    go_wp2_with (first
          | (refine load_ml rfl _ rfl w.heap.size L R rfl hbox_24 ?_))
    refine (HI.out w24 _ _ _ _ d_24.left d_24.right (ints_at_owns d0_24) (ints_at_owns d1_24)).mono ?_
    rintro e w25 ⟨v25, rfl, hb25, b25⟩
    have hbox_25 := kept_obj hb25 hbox_24
    clear hbox_24
    have o_25 := o_24.below hb25
    clear o_24
    have g_25 := g_24.below hb25
    clear g_24
    have d_25 := d_24.below hb25
    clear d_24
    have d0_25 := d0_24.below hb25
    clear d0_24
    have d1_25 := d1_24.below hb25
    clear d1_24
    have HB25 := Lib.hid (step_below (HB24.out) hb25)
    have hs25 := hb25.size
    clear hb25
    have h_25 := OwnsAt.of b25
    clear b25
    clear d_25
    clear d0_25
    clear d1_25
    go_wp2_with (first
          | (refine load_ml rfl _ rfl w.heap.size L R rfl hbox_25 ?_))
    refine (eqIntS_same w25 _ _ ys (ints_at_owns h_25) (ints_at_owns o_25)).mono ?_
    rintro e w26 ⟨rfl, q26, hq26⟩
    have hb26 : Below w25.heap.size w25 w26 := by rw [hq26]; exact below_drewN (Below.refl _ _) q26
    clear hq26
    have hbox_26 := kept_obj hb26 hbox_25
    clear hbox_25
    have o_26 := o_25.below hb26
    clear o_25
    have g_26 := g_25.below hb26
    clear g_25
    have h_26 := h_25.below hb26
    clear h_25
    have HB26 := Lib.hid (step_below (HB25.out) hb26)
    have hs26 := hb26.size
    clear hb26
    go_wp2_with (first
          | (refine load_ml rfl _ rfl w.heap.size L R rfl hbox_26 ?_))
    refine (heldIntS_any w26 _ 1 ys.length (ints_at_owns g_26) (by omega) (by omega)).mono ?_
    rintro e wh ⟨rfl, rfl⟩
    go_wp2
    go_ret
    exact ⟨rfl, HB26.out⟩
  · have HSZ := Lib.hid (szMkt_no ls rs hf)
    clear hf
    go_enter Try.func9, Try.ntmps9
    go_wp2_with (refine load_ml rfl _ rfl w.heap.size L R rfl hbox ?_)
    refine (HSZ.out W0 L R (HL.out.below HB0.out) (HR.out.below HB0.out)).mono ?_
    rintro e w1 ⟨rfl, hb1⟩
    go_wp2
    go_ret
    exact ⟨rfl, step_below HB0.out hb1⟩

end Go.Proofs.Ytjikbeegkpbocaa
