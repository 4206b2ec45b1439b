/-
  FnExactMarketAbove: at every input what the program hands back is what the specification does; the arguments stay as they were.
-/
import Derived.Test.YtjikbeegkpbocaaMktEq
import Derived.Test.YtjikbeegkpbocaaOnce
import Derived.Test.YtjikbeegkpbocaaNum
namespace Go.Proofs.Ytjikbeegkpbocaa
set_option linter.unusedVariables false
set_option linter.unusedSimpArgs false
open Go.RowKit

set_option maxRecDepth 100000 in
set_option maxHeartbeats 4000000 in
theorem FnExactMarketAbove_walk (w : World) (L R : Value) (ls rs : List (List Int)) (v0 : Value) (xs0 : List Int) (v1 : Value) (xs1 : List Int) (hL : IntRows w L ls) (hR : IntRows w R rs) (h0 : Ints w v0 xs0) (h1 : Ints w v1 xs1) (r : Bool)
    (hs : ∀ W p0 p1 L R, IntRows W L ls → IntRows W R rs → Ints W p0 xs0 → Ints W p1 xs1 → Calls Try.prog 27 #[.agg (two L R), p0, p1] W (GivesBool W r)) (hi : ∀ W p0 p1 L R, IntRows W L ls → IntRows W R rs → Ints W p0 xs0 → Ints W p1 xs1 → Calls Try.prog 28 #[.agg (two L R), p0, p1] W (GivesBool W r)) :
    Calls Try.prog 7 #[.agg (two L R), v0, v1] w fun e w' => e = .returned (.bool true) ∧ Below w.heap.size w w' := by
  have HS := Lib.hid hs
  have HI := Lib.hid hi
  have HL := Lib.hid hL
  have HR := Lib.hid hR
  clear hs hi hL hR
  have hv0 := h0
  obtain ⟨B0, capb0, rfl, hm0, _⟩ := h0
  have HV0 := Lib.hid hv0
  clear hv0
  unfold maxLen at hm0
  have hv1 := h1
  obtain ⟨B1, capb1, rfl, hm1, _⟩ := h1
  have HV1 := Lib.hid hv1
  clear hv1
  unfold maxLen at hm1
  obtain ⟨W0, hW0⟩ : ∃ W0, w.alloc (.cells (two L R) 24) = W0 := ⟨_, rfl⟩
  have hb0 : Below w.heap.size w W0 := by rw [← hW0]; exact (Below.refl _ _).alloc (Nat.le_refl _) _
  have hbox : W0.heap[w.heap.size]? = some (.cells (two L R) 24 (0, 0)) := by rw [← hW0]; exact World.alloc_heap_new _ _
  have HB0 := Lib.hid hb0
  clear hb0
  rcases Nat.lt_or_ge 1048576 xs0.length with hl0 | hl0
  · have hl0' : (1048576 : Int) < (xs0.length : Int) := by omega
    go_enter Try.func7, Try.ntmps7
    go_wp2
    go_ret
    exact ⟨rfl, HB0.out⟩
  have hl0' : ¬ (1048576 : Int) < (xs0.length : Int) := by omega
  rcases Nat.lt_or_ge 1048576 xs1.length with hl1 | hl1
  · have hl1' : (1048576 : Int) < (xs1.length : Int) := by omega
    go_enter Try.func7, Try.ntmps7
    go_wp2
    go_ret
    exact ⟨rfl, HB0.out⟩
  have hl1' : ¬ (1048576 : Int) < (xs1.length : Int) := by omega
  by_cases hf : FitsM ls rs
  · obtain ⟨l, hl, hsz⟩ := szMkt_yes ls rs hf
    have HSZ := Lib.hid hsz
    have HF := Lib.hid hf
    clear hf hsz
    go_enter Try.func7, Try.ntmps7
    go_wp2_with (first
          | (refine load_ml rfl _ rfl w.heap.size L R rfl hbox ?_))
    refine (HSZ.out W0 L R (HL.out.below (HB0.out)) (HR.out.below (HB0.out))).mono ?_
    rintro e w1 ⟨rfl, hb1⟩
    have hbox_1 := kept_obj hb1 hbox
    clear hbox
    have HB1 := Lib.hid (step_below (HB0.out) hb1)
    go_wp2_with (first
          | (refine load_ml rfl _ rfl w.heap.size L R rfl hbox_1 ?_))
    refine (toMkt_any w1 L R ls rs (HL.out.below (HB1.out)) (HR.out.below (HB1.out)) HF.out).mono ?_
    rintro e w2 ⟨A12, n12, c12, A22, n22, c22, rfl, hb2, om2⟩
    have hbox_2 := kept_obj hb2 hbox_1
    clear hbox_1
    have HB2 := Lib.hid (step_below (HB1.out) hb2)
    go_wp2_with (first
          | (refine load_ml rfl _ rfl w.heap.size L R rfl hbox_2 ?_))
    refine (toIntS_any w2 _ xs0 (HV0.out.below (HB2.out)) (by omega)).mono ?_
    rintro e w3 ⟨rfl, hb3, b3⟩
    have hbox_3 := kept_obj hb3 hbox_2
    clear hbox_2
    have mc_3 := om2.below hb3
    clear om2
    have HB3 := Lib.hid (step_below (HB2.out) hb3)
    have c0_3 := OwnsAt.of b3
    go_wp2_with (first
          | (refine load_ml rfl _ rfl w.heap.size L R rfl hbox_3 ?_))
    refine (toIntS_any w3 _ xs1 (HV1.out.below (HB3.out)) (by omega)).mono ?_
    rintro e w4 ⟨rfl, hb4, b4⟩
    have hbox_4 := kept_obj hb4 hbox_3
    clear hbox_3
    have mc_4 := mc_3.below hb4
    clear mc_3
    have c0_4 := c0_3.below hb4
    clear c0_3
    have HB4 := Lib.hid (step_below (HB3.out) hb4)
    have c1_4 := OwnsAt.of b4
    go_wp2_with (first
          | (refine load_ml rfl _ rfl w.heap.size L R rfl hbox_4 ?_))
    refine (HS.out w4 _ _  _ _ mc_4.left mc_4.right (ints_at_owns c0_4) (ints_at_owns c1_4)).mono ?_
    rintro e w5 ⟨rfl, hb5⟩
    have hbox_5 := kept_obj hb5 hbox_4
    clear hbox_4
    have mc_5 := mc_4.below hb5
    clear mc_4
    have c0_5 := c0_4.below hb5
    clear c0_4
    have c1_5 := c1_4.below hb5
    clear c1_4
    have HB5 := Lib.hid (step_below (HB4.out) hb5)
    go_wp2_with (first
          | (refine load_ml rfl _ rfl w.heap.size L R rfl hbox_5 ?_))
    refine (toMkt_any w5 L R ls rs (HL.out.below (HB5.out)) (HR.out.below (HB5.out)) HF.out).mono ?_
    rintro e w6 ⟨A16, n16, c16, A26, n26, c26, rfl, hb6, om6⟩
    have hbox_6 := kept_obj hb6 hbox_5
    clear hbox_5
    have HB6 := Lib.hid (step_below (HB5.out) hb6)
    obtain ⟨w7, hW7⟩ : ∃ W, w6.alloc (.cells (two (.slice A16 n16 c16) (.slice A26 n26 c26)) 27) = W := ⟨_, rfl⟩
    have hx_7 : w7.heap[w6.heap.size]? = some (.cells (two (.slice A16 n16 c16) (.slice A26 n26 c26)) 27 (0, 0)) := by rw [← hW7]; exact World.alloc_heap_new _ _
    have hb7 : Below w6.heap.size w6 w7 := by rw [← hW7]; exact (Below.refl _ _).alloc (Nat.le_refl _) _
    obtain ⟨NX, hNX⟩ : ∃ NX, w6.heap.size = NX := ⟨_, rfl⟩
    have hbox_7 := kept_obj hb7 hbox_6
    clear hbox_6
    have mx_7 := om6.below hb7
    clear om6
    have HB7 := Lib.hid (step_below (HB6.out) hb7)
    rw [hNX] at hx_7
    go_wp2_with (first
          | (refine load_ml rfl _ rfl w.heap.size L R rfl hbox_7 ?_)
          | (refine load_mi rfl _ rfl NX _ _ rfl hx_7 ?_))
    refine (toIntS_any w7 _ xs0 (HV0.out.below (HB7.out)) (by omega)).mono ?_
    rintro e w8 ⟨rfl, hb8, b8⟩
    have hbox_8 := kept_obj hb8 hbox_7
    clear hbox_7
    have mx_8 := mx_7.below hb8
    clear mx_7
    have hx_8 := kept_obj hb8 hx_7
    clear hx_7
    have HB8 := Lib.hid (step_below (HB7.out) hb8)
    have x0_8 := OwnsAt.of b8
    go_wp2_with (first
          | (refine load_ml rfl _ rfl w.heap.size L R rfl hbox_8 ?_)
          | (refine load_mi rfl _ rfl NX _ _ rfl hx_8 ?_))
    refine (toIntS_any w8 _ xs1 (HV1.out.below (HB8.out)) (by omega)).mono ?_
    rintro e w9 ⟨rfl, hb9, b9⟩
    have hbox_9 := kept_obj hb9 hbox_8
    clear hbox_8
    have mx_9 := mx_8.below hb9
    clear mx_8
    have hx_9 := kept_obj hb9 hx_8
    clear hx_8
    have x0_9 := x0_8.below hb9
    clear x0_8
    have HB9 := Lib.hid (step_below (HB8.out) hb9)
    have x1_9 := OwnsAt.of b9
    go_wp2_with (first
          | (refine load_ml rfl _ rfl w.heap.size L R rfl hbox_9 ?_)
          | (refine load_mi rfl _ rfl NX _ _ rfl hx_9 ?_))
    refine (HI.out w9 _ _  _ _ mx_9.left mx_9.right (ints_at_owns x0_9) (ints_at_owns x1_9)).mono ?_
    rintro e w10 ⟨rfl, hb10⟩
    have hbox_10 := kept_obj hb10 hbox_9
    clear hbox_9
    have mx_10 := mx_9.below hb10
    clear mx_9
    have hx_10 := kept_obj hb10 hx_9
    clear hx_9
    have x0_10 := x0_9.below hb10
    clear x0_9
    have x1_10 := x1_9.below hb10
    clear x1_9
    have HB10 := Lib.hid (step_below (HB9.out) hb10)
    have HX := Lib.hid hx_10
    have HM := Lib.hid mx_10
    obtain ⟨d0, d1, df, dl⟩ := two_cells (w := w10.drew) hx_10
    obtain ⟨e0, e1, ef, el⟩ := two_cells (w := w10.drew) hbox_10
    have HTO := Lib.hid (toMkt_v w10.drew L R ls rs (HL.out.below (HB10.out).drew) (HR.out.below (HB10.out).drew) HF.out)
    clear hNX hW7
    go_wp2_with (first
          | (refine load_ml rfl _ rfl w.heap.size L R rfl hbox_10 ?_)
          | (refine load_mi rfl _ rfl NX _ _ rfl hx_10 ?_))
    apply once_any (fun (v : Value) (w' : World) => Below w10.heap.size w10 w')
    case h1 =>
      go_region_law (first
        | (go_simp; go_at_call 14; refine HTO.out.mono ?_; rintro e wq ⟨v, rfl, hbq, hvq⟩; obtain ⟨f0, f1, ff, fl⟩ := two_cells (kept_obj hbq HX.out))
        | (go_simp; go_at_call 16; refine (eqMkt_v wq _ _ v ls rs (HM.out.left.below (below_undrew hbq)) (HM.out.right.below (below_undrew hbq)) hvq).mono ?_; rintro e wr ⟨rfl, hbr⟩))
      all_goals exact ⟨v, step_below (below_undrew hbq) hbr, rfl⟩
    intro v w11 hb11
    clear d0 d1 df dl e0 e1 ef el
    have hbox_11 := kept_obj hb11 hbox_10
    clear hbox_10
    have mx_11 := mx_10.below hb11
    clear mx_10
    have hx_11 := kept_obj hb11 hx_10
    clear hx_10
    have x0_11 := x0_10.below hb11
    clear x0_10
    have x1_11 := x1_10.below hb11
    clear x1_10
    have HB11 := Lib.hid (step_below (HB10.out) hb11)
    go_wp2_with (first
          | (refine load_ml rfl _ rfl w.heap.size L R rfl hbox_11 ?_)
          | (refine load_mi rfl _ rfl NX _ _ rfl hx_11 ?_))
    refine (toIntS_any w11 _ xs0 (HV0.out.below (HB11.out)) (by omega)).mono ?_
    rintro e w12 ⟨rfl, hb12, b12⟩
    have hbox_12 := kept_obj hb12 hbox_11
    clear hbox_11
    have mx_12 := mx_11.below hb12
    clear mx_11
    have hx_12 := kept_obj hb12 hx_11
    clear hx_11
    have x0_12 := x0_11.below hb12
    clear x0_11
    have x1_12 := x1_11.below hb12
    clear x1_11
    have HB12 := Lib.hid (step_below (HB11.out) hb12)
    have cc_12 := OwnsAt.of b12
    go_wp2_with fail
    refine (eqIntS_same w12 _ _ xs0 (ints_at_owns x0_12) (ints_at_owns cc_12)).mono ?_
    rintro e w13 ⟨rfl, q13, hq13⟩
    have hb13 : Below w12.heap.size w12 w13 := by rw [hq13]; exact below_drewN (Below.refl _ _) q13
    clear hq13
    have hbox_13 := kept_obj hb13 hbox_12
    clear hbox_12
    have mx_13 := mx_12.below hb13
    clear mx_12
    have hx_13 := kept_obj hb13 hx_12
    clear hx_12
    have x0_13 := x0_12.below hb13
    clear x0_12
    have x1_13 := x1_12.below hb13
    clear x1_12
    have HB13 := Lib.hid (step_below (HB12.out) hb13)
    go_wp2_with (first
          | (refine load_ml rfl _ rfl w.heap.size L R rfl hbox_13 ?_)
          | (refine load_mi rfl _ rfl NX _ _ rfl hx_13 ?_))
    refine (toIntS_any w13 _ xs1 (HV1.out.below (HB13.out)) (by omega)).mono ?_
    rintro e w14 ⟨rfl, hb14, b14⟩
    have hbox_14 := kept_obj hb14 hbox_13
    clear hbox_13
    have mx_14 := mx_13.below hb14
    clear mx_13
    have hx_14 := kept_obj hb14 hx_13
    clear hx_13
    have x0_14 := x0_13.below hb14
    clear x0_13
    have x1_14 := x1_13.below hb14
    clear x1_13
    have HB14 := Lib.hid (step_below (HB13.out) hb14)
    have cc_14 := OwnsAt.of b14
    go_wp2_with fail
    refine (eqIntS_same w14 _ _ xs1 (ints_at_owns x1_14) (ints_at_owns cc_14)).mono ?_
    rintro e w15 ⟨rfl, q15, hq15⟩
    have hb15 : Below w14.heap.size w14 w15 := by rw [hq15]; exact below_drewN (Below.refl _ _) q15
    clear hq15
    have hbox_15 := kept_obj hb15 hbox_14
    clear hbox_14
    have mx_15 := mx_14.below hb15
    clear mx_14
    have hx_15 := kept_obj hb15 hx_14
    clear hx_14
    have x0_15 := x0_14.below hb15
    clear x0_14
    have x1_15 := x1_14.below hb15
    clear x1_14
    have HB15 := Lib.hid (step_below (HB14.out) hb15)
    go_wp2
    go_ret
    exact ⟨rfl, HB15.out⟩
  · have HSZ := Lib.hid (szMkt_no ls rs hf)
    clear hf
    go_enter Try.func7, Try.ntmps7
    go_wp2_with (refine load_ml rfl _ rfl w.heap.size L R rfl hbox ?_)
    refine (HSZ.out W0 L R (HL.out.below HB0.out) (HR.out.below HB0.out)).mono ?_
    rintro e w1 ⟨rfl, hb1⟩
    go_wp2
    go_ret
    exact ⟨rfl, step_below HB0.out hb1⟩

end Go.Proofs.Ytjikbeegkpbocaa
