/-
  FnExactMarketIn: at every input what the program hands back is what the specification does; the arguments stay as they were.
-/
import Derived.Test.YtjikbeegkpbocaaMktEq
import Derived.Test.YtjikbeegkpbocaaOnce
import Derived.Test.YtjikbeegkpbocaaNum
namespace Go.Proofs.Ytjikbeegkpbocaa
set_option linter.unusedVariables false
set_option linter.unusedSimpArgs false
open Go.RowKit

set_option maxRecDepth 100000 in
set_option maxHeartbeats 4000000 in
theorem FnExactMarketIn_walk (w : World) (L R : Value) (ls rs : List (List Int))  (hL : IntRows w L ls) (hR : IntRows w R rs)  (r : Bool)
    (hs : ∀ W L R, IntRows W L ls → IntRows W R rs → Calls Try.prog 13 #[.agg (two L R)] W (GivesBool W r)) (hi : ∀ W L R, IntRows W L ls → IntRows W R rs → Calls Try.prog 15 #[.agg (two L R)] W (GivesBool W r)) :
    Calls Try.prog 3 #[.agg (two L R)] w fun e w' => e = .returned (.bool true) ∧ Below w.heap.size w w' := by
  have HS := Lib.hid hs
  have HI := Lib.hid hi
  have HL := Lib.hid hL
  have HR := Lib.hid hR
  clear hs hi hL hR
  obtain ⟨W0, hW0⟩ : ∃ W0, w.alloc (.cells (two L R) 24) = W0 := ⟨_, rfl⟩
  have hb0 : Below w.heap.size w W0 := by rw [← hW0]; exact (Below.refl _ _).alloc (Nat.le_refl _) _
  have hbox : W0.heap[w.heap.size]? = some (.cells (two L R) 24 (0, 0)) := by rw [← hW0]; exact World.alloc_heap_new _ _
  have HB0 := Lib.hid hb0
  clear hb0
  by_cases hf : FitsM ls rs
  · obtain ⟨l, hl, hsz⟩ := szMkt_yes ls rs hf
    have HSZ := Lib.hid hsz
    have HF := Lib.hid hf
    clear hf hsz
    go_enter Try.func3, Try.ntmps3
    go_wp2_with (first
          | (refine load_ml rfl _ rfl w.heap.size L R rfl hbox ?_))
    refine (HSZ.out W0 L R (HL.out.below (HB0.out)) (HR.out.below (HB0.out))).mono ?_
    rintro e w1 ⟨rfl, hb1⟩
    have hbox_1 := kept_obj hb1 hbox
    clear hbox
    have HB1 := Lib.hid (step_below (HB0.out) hb1)
    go_wp2_with (first
          | (refine load_ml rfl _ rfl w.heap.size L R rfl hbox_1 ?_))
    refine (toMkt_any w1 L R ls rs (HL.out.below (HB1.out)) (HR.out.below (HB1.out)) HF.out).mono ?_
    rintro e w2 ⟨A12, n12, c12, A22, n22, c22, rfl, hb2, om2⟩
    have hbox_2 := kept_obj hb2 hbox_1
    clear hbox_1
    have HB2 := Lib.hid (step_below (HB1.out) hb2)
    go_wp2_with (first
          | (refine load_ml rfl _ rfl w.heap.size L R rfl hbox_2 ?_))
    refine (HS.out w2  _ _ om2.left om2.right).mono ?_
    rintro e w3 ⟨rfl, hb3⟩
    have hbox_3 := kept_obj hb3 hbox_2
    clear hbox_2
    have mc_3 := om2.below hb3
    clear om2
    have HB3 := Lib.hid (step_below (HB2.out) hb3)
    go_wp2_with (first
          | (refine load_ml rfl _ rfl w.heap.size L R rfl hbox_3 ?_))
    refine (toMkt_any w3 L R ls rs (HL.out.below (HB3.out)) (HR.out.below (HB3.out)) HF.out).mono ?_
    rintro e w4 ⟨A14, n14, c14, A24, n24, c24, rfl, hb4, om4⟩
    have hbox_4 := kept_obj hb4 hbox_3
    clear hbox_3
    have HB4 := Lib.hid (step_below (HB3.out) hb4)
    obtain ⟨w5, hW5⟩ : ∃ W, w4.alloc (.cells (two (.slice A14 n14 c14) (.slice A24 n24 c24)) 27) = W := ⟨_, rfl⟩
    have hx_5 : w5.heap[w4.heap.size]? = some (.cells (two (.slice A14 n14 c14) (.slice A24 n24 c24)) 27 (0, 0)) := by rw [← hW5]; exact World.alloc_heap_new _ _
    have hb5 : Below w4.heap.size w4 w5 := by rw [← hW5]; exact (Below.refl _ _).alloc (Nat.le_refl _) _
    obtain ⟨NX, hNX⟩ : ∃ NX, w4.heap.size = NX := ⟨_, rfl⟩
    have hbox_5 := kept_obj hb5 hbox_4
    clear hbox_4
    have mx_5 := om4.below hb5
    clear om4
    have HB5 := Lib.hid (step_below (HB4.out) hb5)
    rw [hNX] at hx_5
    go_wp2_with (first
          | (refine load_ml rfl _ rfl w.heap.size L R rfl hbox_5 ?_)
          | (refine load_mi rfl _ rfl NX _ _ rfl hx_5 ?_))
    refine (HI.out w5  _ _ mx_5.left mx_5.right).mono ?_
    rintro e w6 ⟨rfl, hb6⟩
    have hbox_6 := kept_obj hb6 hbox_5
    clear hbox_5
    have mx_6 := mx_5.below hb6
    clear mx_5
    have hx_6 := kept_obj hb6 hx_5
    clear hx_5
    have HB6 := Lib.hid (step_below (HB5.out) hb6)
    have HX := Lib.hid hx_6
    have HM := Lib.hid mx_6
    obtain ⟨d0, d1, df, dl⟩ := two_cells (w := w6.drew) hx_6
    obtain ⟨e0, e1, ef, el⟩ := two_cells (w := w6.drew) hbox_6
    have HTO := Lib.hid (toMkt_v w6.drew L R ls rs (HL.out.below (HB6.out).drew) (HR.out.below (HB6.out).drew) HF.out)
    clear hNX hW5
    go_wp2_with (first
          | (refine load_ml rfl _ rfl w.heap.size L R rfl hbox_6 ?_)
          | (refine load_mi rfl _ rfl NX _ _ rfl hx_6 ?_))
    apply once_any (fun (v : Value) (w' : World) => Below w6.heap.size w6 w')
    case h1 =>
      go_region_law (first
        | (go_simp; go_at_call 14; refine HTO.out.mono ?_; rintro e wq ⟨v, rfl, hbq, hvq⟩; obtain ⟨f0, f1, ff, fl⟩ := two_cells (kept_obj hbq HX.out))
        | (go_simp; go_at_call 16; refine (eqMkt_v wq _ _ v ls rs (HM.out.left.below (below_undrew hbq)) (HM.out.right.below (below_undrew hbq)) hvq).mono ?_; rintro e wr ⟨rfl, hbr⟩))
      all_goals exact ⟨v, step_below (below_undrew hbq) hbr, rfl⟩
    intro v w7 hb7
    clear d0 d1 df dl e0 e1 ef el
    have hbox_7 := kept_obj hb7 hbox_6
    clear hbox_6
    have mx_7 := mx_6.below hb7
    clear mx_6
    have hx_7 := kept_obj hb7 hx_6
    clear hx_6
    have HB7 := Lib.hid (step_below (HB6.out) hb7)
    go_wp2
    go_ret
    exact ⟨rfl, HB7.out⟩
  · have HSZ := Lib.hid (szMkt_no ls rs hf)
    clear hf
    go_enter Try.func3, Try.ntmps3
    go_wp2_with (refine load_ml rfl _ rfl w.heap.size L R rfl hbox ?_)
    refine (HSZ.out W0 L R (HL.out.below HB0.out) (HR.out.below HB0.out)).mono ?_
    rintro e w1 ⟨rfl, hb1⟩
    go_wp2
    go_ret
    exact ⟨rfl, step_below HB0.out hb1⟩

end Go.Proofs.Ytjikbeegkpbocaa
