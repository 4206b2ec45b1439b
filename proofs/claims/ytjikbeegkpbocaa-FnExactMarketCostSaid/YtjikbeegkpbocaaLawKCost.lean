/-
  FnExactMarketCost: at every input what the program hands back is what the specification does; the arguments stay as they were.
-/
import Derived.Test.YtjikbeegkpbocaaMktEq
import Derived.Test.YtjikbeegkpbocaaOnce
import Derived.Test.YtjikbeegkpbocaaNum
namespace Go.Proofs.Ytjikbeegkpbocaa
set_option linter.unusedVariables false
set_option linter.unusedSimpArgs false
open Go.RowKit

set_option maxRecDepth 100000 in
set_option maxHeartbeats 4000000 in
theorem FnExactMarketCost_walk (w : World) (L R : Value) (ls rs : List (List Int)) (v0 : Value) (xs0 : List Int) (hL : IntRows w L ls) (hR : IntRows w R rs) (h0 : Ints w v0 xs0) (ok : Bool) (r1 r2 : Int)
    (hs : ∀ W p0 L R, IntRows W L ls → IntRows W R rs → Ints W p0 xs0 → Calls Try.prog 21 #[.agg (two L R), p0] W (GivesNum2 W ok r1 r2)) (hi : ∀ W p0 L R, IntRows W L ls → IntRows W R rs → Ints W p0 xs0 → Calls Try.prog 22 #[.agg (two L R), p0] W (GivesNum2 W ok r1 r2)) :
    Calls Try.prog 5 #[.agg (two L R), v0] w fun e w' => e = .returned (.bool true) ∧ Below w.heap.size w w' := by
  have HS := Lib.hid hs
  have HI := Lib.hid hi
  have HL := Lib.hid hL
  have HR := Lib.hid hR
  clear hs hi hL hR
  have hv0 := h0
  obtain ⟨B0, capb0, rfl, hm0, _⟩ := h0
  have HV0 := Lib.hid hv0
  clear hv0
  unfold maxLen at hm0
  obtain ⟨W0, hW0⟩ : ∃ W0, w.alloc (.cells (two L R) 24) = W0 := ⟨_, rfl⟩
  have hb0 : Below w.heap.size w W0 := by rw [← hW0]; exact (Below.refl _ _).alloc (Nat.le_refl _) _
  have hbox : W0.heap[w.heap.size]? = some (.cells (two L R) 24 (0, 0)) := by rw [← hW0]; exact World.alloc_heap_new _ _
  have HB0 := Lib.hid hb0
  clear hb0
  rcases Nat.lt_or_ge 1048576 xs0.length with hl0 | hl0
  · have hl0' : (1048576 : Int) < (xs0.length : Int) := by omega
    go_enter Try.func5, Try.ntmps5
    go_wp2
    go_ret
    exact ⟨rfl, HB0.out⟩
  have hl0' : ¬ (1048576 : Int) < (xs0.length : Int) := by omega
  by_cases hf : FitsM ls rs
  · obtain ⟨l, hl, hsz⟩ := szMkt_yes ls rs hf
    have HSZ := Lib.hid hsz
    have HF := Lib.hid hf
    clear hf hsz
    go_enter Try.func5, Try.ntmps5
    go_wp2_with (first
          | (refine load_ml rfl _ rfl w.heap.size L R rfl hbox ?_))
    refine (HSZ.out W0 L R (HL.out.below (HB0.out)) (HR.out.below (HB0.out))).mono ?_
    rintro e w1 ⟨rfl, hb1⟩
    have hbox_1 := kept_obj hb1 hbox
    clear hbox
    have HB1 := Lib.hid (step_below (HB0.out) hb1)
    go_wp2_with (first
          | (refine load_ml rfl _ rfl w.heap.size L R rfl hbox_1 ?_))
    refine (toMkt_any w1 L R ls rs (HL.out.below (HB1.out)) (HR.out.below (HB1.out)) HF.out).mono ?_
    rintro e w2 ⟨A12, n12, c12, A22, n22, c22, rfl, hb2, om2⟩
    have hbox_2 := kept_obj hb2 hbox_1
    clear hbox_1
    have HB2 := Lib.hid (step_below (HB1.out) hb2)
    go_wp2_with (first
          | (refine load_ml rfl _ rfl w.heap.size L R rfl hbox_2 ?_))
    refine (toIntS_any w2 _ xs0 (HV0.out.below (HB2.out)) (by omega)).mono ?_
    rintro e w3 ⟨rfl, hb3, b3⟩
    have hbox_3 := kept_obj hb3 hbox_2
    clear hbox_2
    have mc_3 := om2.below hb3
    clear om2
    have HB3 := Lib.hid (step_below (HB2.out) hb3)
    have c0_3 := OwnsAt.of b3
    go_wp2_with (first
          | (refine load_ml rfl _ rfl w.heap.size L R rfl hbox_3 ?_))
    refine (HS.out w3 _  _ _ mc_3.left mc_3.right (ints_at_owns c0_3)).mono ?_
    rintro e w4 ⟨rfl, hb4⟩
    have hbox_4 := kept_obj hb4 hbox_3
    clear hbox_3
    have mc_4 := mc_3.below hb4
    clear mc_3
    have c0_4 := c0_3.below hb4
    clear c0_3
    have HB4 := Lib.hid (step_below (HB3.out) hb4)
    go_wp2_with (first
          | (refine load_ml rfl _ rfl w.heap.size L R rfl hbox_4 ?_))
    refine (toMkt_any w4 L R ls rs (HL.out.below (HB4.out)) (HR.out.below (HB4.out)) HF.out).mono ?_
    rintro e w5 ⟨A15, n15, c15, A25, n25, c25, rfl, hb5, om5⟩
    have hbox_5 := kept_obj hb5 hbox_4
    clear hbox_4
    have HB5 := Lib.hid (step_below (HB4.out) hb5)
    obtain ⟨w6, hW6⟩ : ∃ W, w5.alloc (.cells (two (.slice A15 n15 c15) (.slice A25 n25 c25)) 27) = W := ⟨_, rfl⟩
    have hx_6 : w6.heap[w5.heap.size]? = some (.cells (two (.slice A15 n15 c15) (.slice A25 n25 c25)) 27 (0, 0)) := by rw [← hW6]; exact World.alloc_heap_new _ _
    have hb6 : Below w5.heap.size w5 w6 := by rw [← hW6]; exact (Below.refl _ _).alloc (Nat.le_refl _) _
    obtain ⟨NX, hNX⟩ : ∃ NX, w5.heap.size = NX := ⟨_, rfl⟩
    have hbox_6 := kept_obj hb6 hbox_5
    clear hbox_5
    have mx_6 := om5.below hb6
    clear om5
    have HB6 := Lib.hid (step_below (HB5.out) hb6)
    rw [hNX] at hx_6
    go_wp2_with (first
          | (refine load_ml rfl _ rfl w.heap.size L R rfl hbox_6 ?_)
          | (refine load_mi rfl _ rfl NX _ _ rfl hx_6 ?_))
    refine (toIntS_any w6 _ xs0 (HV0.out.below (HB6.out)) (by omega)).mono ?_
    rintro e w7 ⟨rfl, hb7, b7⟩
    have hbox_7 := kept_obj hb7 hbox_6
    clear hbox_6
    have mx_7 := mx_6.below hb7
    clear mx_6
    have hx_7 := kept_obj hb7 hx_6
    clear hx_6
    have HB7 := Lib.hid (step_below (HB6.out) hb7)
    have x0_7 := OwnsAt.of b7
    go_wp2_with (first
          | (refine load_ml rfl _ rfl w.heap.size L R rfl hbox_7 ?_)
          | (refine load_mi rfl _ rfl NX _ _ rfl hx_7 ?_))
    refine (HI.out w7 _  _ _ mx_7.left mx_7.right (ints_at_owns x0_7)).mono ?_
    rintro e w8 ⟨rfl, hb8⟩
    have hbox_8 := kept_obj hb8 hbox_7
    clear hbox_7
    have mx_8 := mx_7.below hb8
    clear mx_7
    have hx_8 := kept_obj hb8 hx_7
    clear hx_7
    have x0_8 := x0_7.below hb8
    clear x0_7
    have HB8 := Lib.hid (step_below (HB7.out) hb8)
    have HX := Lib.hid hx_8
    have HM := Lib.hid mx_8
    obtain ⟨d0, d1, df, dl⟩ := two_cells (w := w8.drew) hx_8
    obtain ⟨e0, e1, ef, el⟩ := two_cells (w := w8.drew) hbox_8
    have HTO := Lib.hid (toMkt_v w8.drew L R ls rs (HL.out.below (HB8.out).drew) (HR.out.below (HB8.out).drew) HF.out)
    clear hNX hW6
    go_wp2_with (first
          | (refine load_ml rfl _ rfl w.heap.size L R rfl hbox_8 ?_)
          | (refine load_mi rfl _ rfl NX _ _ rfl hx_8 ?_))
    apply once_any (fun (v : Value) (w' : World) => Below w8.heap.size w8 w')
    case h1 =>
      go_region_law (first
        | (go_simp; go_at_call 14; refine HTO.out.mono ?_; rintro e wq ⟨v, rfl, hbq, hvq⟩; obtain ⟨f0, f1, ff, fl⟩ := two_cells (kept_obj hbq HX.out))
        | (go_simp; go_at_call 16; refine (eqMkt_v wq _ _ v ls rs (HM.out.left.below (below_undrew hbq)) (HM.out.right.below (below_undrew hbq)) hvq).mono ?_; rintro e wr ⟨rfl, hbr⟩))
      all_goals exact ⟨v, step_below (below_undrew hbq) hbr, rfl⟩
    intro v w9 hb9
    clear d0 d1 df dl e0 e1 ef el
    have hbox_9 := kept_obj hb9 hbox_8
    clear hbox_8
    have mx_9 := mx_8.below hb9
    clear mx_8
    have hx_9 := kept_obj hb9 hx_8
    clear hx_8
    have x0_9 := x0_8.below hb9
    clear x0_8
    have HB9 := Lib.hid (step_below (HB8.out) hb9)
    go_wp2_with (first
          | (refine load_ml rfl _ rfl w.heap.size L R rfl hbox_9 ?_)
          | (refine load_mi rfl _ rfl NX _ _ rfl hx_9 ?_))
    refine (toIntS_any w9 _ xs0 (HV0.out.below (HB9.out)) (by omega)).mono ?_
    rintro e w10 ⟨rfl, hb10, b10⟩
    have hbox_10 := kept_obj hb10 hbox_9
    clear hbox_9
    have mx_10 := mx_9.below hb10
    clear mx_9
    have hx_10 := kept_obj hb10 hx_9
    clear hx_9
    have x0_10 := x0_9.below hb10
    clear x0_9
    have HB10 := Lib.hid (step_below (HB9.out) hb10)
    have cc_10 := OwnsAt.of b10
    go_wp2_with fail
    refine (eqIntS_same w10 _ _ xs0 (ints_at_owns x0_10) (ints_at_owns cc_10)).mono ?_
    rintro e w11 ⟨rfl, q11, hq11⟩
    have hb11 : Below w10.heap.size w10 w11 := by rw [hq11]; exact below_drewN (Below.refl _ _) q11
    clear hq11
    have hbox_11 := kept_obj hb11 hbox_10
    clear hbox_10
    have mx_11 := mx_10.below hb11
    clear mx_10
    have hx_11 := kept_obj hb11 hx_10
    clear hx_10
    have x0_11 := x0_10.below hb11
    clear x0_10
    have HB11 := Lib.hid (step_below (HB10.out) hb11)
    go_wp2
    go_ret
    exact ⟨rfl, HB11.out⟩
  · have HSZ := Lib.hid (szMkt_no ls rs hf)
    clear hf
    go_enter Try.func5, Try.ntmps5
    go_wp2_with (refine load_ml rfl _ rfl w.heap.size L R rfl hbox ?_)
    refine (HSZ.out W0 L R (HL.out.below HB0.out) (HR.out.below HB0.out)).mono ?_
    rintro e w1 ⟨rfl, hb1⟩
    go_wp2
    go_ret
    exact ⟨rfl, step_below HB0.out hb1⟩

end Go.Proofs.Ytjikbeegkpbocaa
