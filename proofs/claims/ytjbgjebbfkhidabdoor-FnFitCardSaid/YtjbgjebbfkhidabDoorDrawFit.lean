/-
  Costs and prices are drawn: spec.DrawCostFit.
-/
import Derived.Test.YtjbgjebbfkhidabDoorDrawQ
import Derived.Test.YtjbgjebbfkhidabDoorSpecQPrices
namespace Go.Proofs.YtjbgjebbfkhidabDoor
set_option linter.unusedVariables false
set_option linter.unusedSimpArgs false
open Go.RowKit
set_option maxRecDepth 100000

def GivesCF (w : World) (e : Ending) (w' : World) : Prop := ∃ v u xss ps lo, e = .returned (.tuple #[v, u]) ∧ IntRows w' v xss ∧ Owns w' lo u ps ∧ xss.length ≤ 4 ∧ Below w.heap.size w w'

set_option maxHeartbeats 2000000 in
theorem DrawCostFit_any (w : World) (A : Option Addr) (L cap : Nat) (hc : L ≤ cap) (hm : L ≤ maxLen) (hx : Code8 w A L) :
    Calls Tryd.prog 36 #[.slice A L cap] w (GivesCF w) := by
  have HO := Lib.hid (open_any w A L cap hc hm)
  have HX := Lib.hid hx
  clear hx
  go_enter Tryd.func36, Tryd.ntmps36
  go_wp2_with fail
  refine HO.out.mono ?_
  rintro e w1 ⟨r, M, cap', rfl, hM, hML, hrw, hr, hb1⟩
  have hrl := (Array.getElem?_eq_some_iff.1 hr).1
  have HLC := Lib.hid (costs_draw w1 r 0 M cap' A hr ((HX.out.less hML).bytes hb1 r hrw) hM (by omega))
  have HB1 := Lib.hid hb1
  clear hr hb1
  go_wp2_with fail
  refine HLC.out.mono ?_
  rintro e w2 ⟨g, c, us, xss, q, rfl, ho, h1, h4, hq, hrd, hw⟩
  have H4 := Lib.hid h4
  have HB2 := Lib.hid (Below.within HB1.out hw hrw)
  have HR2 := Lib.hid ho
  have hr2 := (Array.getElem?_eq_some_iff.1 hrd).1
  have HRD := Lib.hid hrd
  have HSP := Lib.hid (specQPrices_any w2 _ xss (rows_of_owns HR2.out))
  clear ho hw hrd
  cases hci : cIn xss with
  | false =>
    rw [hci] at HSP
    go_wp2_with fail
    refine HSP.out.mono ?_
    rintro e w3 ⟨v3, rfl, hb3, ho3⟩
    have HB3 := Lib.hid (HB2.out.trans (hb3.mono HB2.out.size))
    have HR3 := Lib.hid (HR2.out.below hb3)
    clear hb3 ho3
    have HF := Lib.hid (World.ownsRow_lit (base := w3.heap.size) (e := 3) (size := 1) w3 #[.int .i64 0, .int .i64 0] 2 (Nat.le_refl _) (by unfold maxLen; omega) rfl)
    have HB4 := Lib.hid (HB3.out.alloc HB3.out.size (.cells #[.int .i64 0, .int .i64 0] 3))
    have HR4 := Lib.hid (HR3.out.below ((Below.refl w3.heap.size w3).alloc (Nat.le_refl _) (.cells #[.int .i64 0, .int .i64 0] 3)))
    go_wp2_with fail
    go_ret2
    exact ⟨_, _, xss, [0, 0], w3.heap.size, rfl, rows_of_owns HR4.out, HF.out, H4.out, HB4.out⟩
  | true =>
    have hpn : (pqOf xss).length = xss.length + xss.length := by unfold pqOf; rw [if_pos hci, List.length_append, relK_len]; simp [rowP]
    rw [hci] at HSP
    obtain ⟨ps, hps⟩ : ∃ ps, pqOf xss = ps := ⟨_, rfl⟩
    rw [hps] at HSP hpn
    have hN1 : 1 ≤ ps.length := by omega
    have hN8 : ps.length ≤ 8 := by omega
    clear hps hci hpn
    go_wp2_with fail
    refine HSP.out.mono ?_
    rintro e w3 ⟨v3, rfl, hb3, ho3⟩
    have HB3 := Lib.hid (HB2.out.trans (hb3.mono HB2.out.size))
    have HR3 := Lib.hid (HR2.out.below hb3)
    have hr3 := (hb3.block r hr2).trans HRD.out
    obtain ⟨g3, c3, rfl, hgl⟩ : ∃ g3 c3, v3 = .slice (some ⟨g3, 0, none⟩) ps.length c3 ∧ w2.heap.size ≤ g3 := by
      rcases ho3.2 with ⟨_, hz⟩ | ⟨g3, c3, cur, hs, hb, _⟩
      · omega
      · exact ⟨g3, c3, hs, hb⟩
    have HO3 := Lib.hid ho3
    have HP := Lib.hid (pick_any w3 r q 2 M cap' A hr3 ((HX.out.less hML).bytes HB3.out r hrw) (by omega) hM (by omega) (by omega))
    clear hb3 ho3 hr3
    go_wp2_with fail
    refine HP.out.mono ?_
    rintro e w4 ⟨x, hx, rfl, hr4, hw4⟩
    have HB4 := Lib.hid (Below.within HB3.out hw4 hrw)
    have HR4 := Lib.hid (HR3.out.kept hw4 (.inr (by omega)))
    have HO4 : Hid (Owns w4 w2.heap.size (.slice (some ⟨g3, 0, none⟩) ps.length c3) ps) := Lib.hid (own_same HO3.out (fun b hb => by cases hb; exact hw4.block _ (HO3.out.lt _ rfl).2 (.inr (show r + 1 ≤ g3 by omega))))
    by_cases hx0 : x = 0
    · have e0 : ((x : Int) == 0) = true := by rw [beq_iff_eq]; omega
      have HP4 := Lib.hid (pick_any w4 r (q + 1) ps.length M cap' A hr4 ((HX.out.less hML).bytes HB4.out r hrw) (by omega) hM (by omega) (by omega))
      clear hr4 hw4
      go_wp2_with fail
      refine HP4.out.mono ?_
      rintro e w5 ⟨k, hk, rfl, hr5, hw5⟩
      have HB5 := Lib.hid (Below.within HB4.out hw5 hrw)
      have HR5 := Lib.hid (HR4.out.kept hw5 (.inr (by omega)))
      have HO5 : Hid (Owns w5 w2.heap.size (.slice (some ⟨g3, 0, none⟩) ps.length c3) ps) := Lib.hid (own_same HO4.out (fun b hb => by cases hb; exact hw5.block _ (HO4.out.lt _ rfl).2 (.inr (show r + 1 ≤ g3 by omega))))
      have HP5 := Lib.hid (pick_any w5.drew r (q + 1 + 1) 5 M cap' A hr5 ((HX.out.less hML).bytes (below_drewN HB5.out 1) r hrw) (by omega) hM (by omega) (by omega))
      have hld : ∀ W, Owns W w2.heap.size (.slice (some ⟨g3, 0, none⟩) ps.length c3) ps → W.cell? ⟨g3, k, none⟩ = some (.int .i64 (ps.getD k 0)) ∧ W.frozen? ⟨g3, k, none⟩ = false := fun W h => by
        refine ⟨?_, h.frozenAt k⟩
        rw [h.cellAt k (by omega)]
        simp [vals, List.getD, hk]
      have HL6 := Lib.hid (fun (w6 : World) (hw6 : Within r (r + 1) w5.drew w6) => show w6.cell? ⟨g3, k, none⟩ = some (.int .i64 (ps.getD k 0)) ∧ w6.frozen? ⟨g3, k, none⟩ = false ∧ Owns w6 w2.heap.size (.slice (some ⟨g3, 0, none⟩) ps.length c3) ps from by
        have h6 : Owns w6 w2.heap.size (.slice (some ⟨g3, 0, none⟩) ps.length c3) ps := own_same HO5.out (fun b hb => by cases hb; exact hw6.block _ (HO5.out.lt _ rfl).2 (.inr (show r + 1 ≤ g3 by omega)))
        exact ⟨(hld _ h6).1, (hld _ h6).2, h6⟩)
      have HN := Lib.hid (fun (w6 : World) (hw6 : Within r (r + 1) w5.drew w6) => show (∀ z, Below w.heap.size w (w6.setCell ⟨g3, k, none⟩ (.int .i64 z))) ∧ (∀ z, IntRows (w6.setCell ⟨g3, k, none⟩ (.int .i64 z)) (sc g xss.length c) xss) ∧ (∀ z, Owns (w6.setCell ⟨g3, k, none⟩ (.int .i64 z)) w2.heap.size (.slice (some ⟨g3, 0, none⟩) ps.length c3) (ps.set k z)) from by
        have hs2 := HB2.out.size
        refine ⟨fun z => (Below.within (below_drewN HB5.out 1) hw6 hrw).setCell (p := ⟨g3, k, none⟩) (by show w.heap.size ≤ g3; omega) _, fun z => ?_, fun z => ?_⟩
        · have hwi : Within g3 (g3 + 1) w6 (w6.setCell ⟨g3, k, none⟩ (.int .i64 z)) := ⟨rfl, rfl, rfl, by simp [World.setCell], fun j hj ho => Below.heap_setCell _ _ _ j (by show j ≠ g3; omega)⟩
          exact rows_of_owns ((OwnsRows.kept (w := w5.drew) (HR5.out.drewN 1) hw6 (.inr (by omega))).kept hwi (.inl hgl))
        · have := ((HL6.out w6 hw6).2.2.stored k (.int .i64 z)).1
          unfold Owns
          rw [List.length_set]
          rwa [show (vals ps).set k (.int .i64 z) = vals (ps.set k z) by simp [vals, List.map_set]] at this)
      obtain ⟨g5, f5⟩ := hld w5.drew HO5.out
      obtain ⟨xk, hxk⟩ : ∃ xk, ps.getD k 0 = xk := ⟨_, rfl⟩
      rw [hxk] at g5 HL6
      have hki : (k : Int) < (ps.length : Int) := by omega
      have hk0 : (0 : Int) ≤ (k : Int) := by omega
      have hfo : Tryd.prog.follows Departure.mixedOrders = true := by kernel_rfl
      clear hr5 hw5 hld hxk
      go_wp2_with fail
      refine wp_region_held_drew (S := fun _ => True) hfo trivial (fun hHeld => ?_)
      refine wpAnyH_take (i := 0) (v := ?v0) rfl (by kernel_rfl) (by kernel_rfl) (by kernel_rfl) (fun _ _ _ h => h) (Or.inl ⟨by rfl, ?hy0⟩) (by assumption) ?_
      case hy0 =>
        intro w' hSw
        try dsimp only at hSw
        go_simp
        try with_reducible rfl
      try simp only [Act.put, List.getElem_toArray, List.getElem_cons_succ, List.getElem_cons_zero, List.setIfInBounds_toArray, List.set_cons_zero, List.set_cons_succ]
      refine wpAnyH_take (i := 1) (v := ?v1) rfl (by kernel_rfl) (by kernel_rfl) (by kernel_rfl) (fun _ _ _ h => h) (Or.inl ⟨by rfl, ?hy1⟩) (by assumption) ?_
      case hy1 =>
        intro w' hSw
        try dsimp only at hSw
        go_simp
        try with_reducible rfl
      try simp only [Act.put, List.getElem_toArray, List.getElem_cons_succ, List.getElem_cons_zero, List.setIfInBounds_toArray, List.set_cons_zero, List.set_cons_succ]
      refine wpAnyH_take (i := 2) (v := ?v2) rfl (by kernel_rfl) (by kernel_rfl) (by kernel_rfl) (fun _ _ _ h => h) (Or.inl ⟨by rfl, ?hy2⟩) (by assumption) ?_
      case hy2 =>
        intro w' hSw
        try dsimp only at hSw
        go_simp
        try with_reducible rfl
      try simp only [Act.put, List.getElem_toArray, List.getElem_cons_succ, List.getElem_cons_zero, List.setIfInBounds_toArray, List.set_cons_zero, List.set_cons_succ]
      refine wpAnyH_take (i := 3) (v := ?v3) rfl (by kernel_rfl) (by kernel_rfl) (by kernel_rfl) (fun _ _ _ h => h) (Or.inl ⟨by rfl, ?hy3⟩) (by assumption) ?_
      case hy3 =>
        intro w' hSw
        try dsimp only at hSw
        go_simp
        try with_reducible rfl
      try simp only [Act.put, List.getElem_toArray, List.getElem_cons_succ, List.getElem_cons_zero, List.setIfInBounds_toArray, List.set_cons_zero, List.set_cons_succ]
      refine wpAnyH_take (i := 4) (v := ?v4) rfl (by kernel_rfl) (by kernel_rfl) (by kernel_rfl) (fun _ _ _ h => h) (Or.inl ⟨by rfl, ?hy4⟩) (by assumption) ?_
      case hy4 =>
        intro w' hSw
        try dsimp only at hSw
        go_simp
        try with_reducible rfl
      try simp only [Act.put, List.getElem_toArray, List.getElem_cons_succ, List.getElem_cons_zero, List.setIfInBounds_toArray, List.set_cons_zero, List.set_cons_succ]
      refine wpAnyH_take (i := 6) (v := ?v6) rfl (by kernel_rfl) (by kernel_rfl) (by kernel_rfl) (fun _ _ _ h => h) (Or.inl ⟨by rfl, ?hy6⟩) (by assumption) ?_
      case hy6 =>
        intro w' hSw
        try dsimp only at hSw
        go_simp
        try with_reducible rfl
      try simp only [Act.put, List.getElem_toArray, List.getElem_cons_succ, List.getElem_cons_zero, List.setIfInBounds_toArray, List.set_cons_zero, List.set_cons_succ]
      refine wpAnyH_ready (rs := [5, 7]) (by kernel_rfl) (by simp) (AllReadyH.cons rfl (fun K hK => ?_) (AllReadyH.cons rfl (fun K hK => ?_) (AllReadyH.nil)))
      · go_simp
        refine hK.out _ _ trivial (fun hHeld2 => ?_)
        clear hK K
        try simp only [Act.put, List.getElem_toArray, List.getElem_cons_succ, List.getElem_cons_zero, List.setIfInBounds_toArray, List.set_cons_zero, List.set_cons_succ]
        refine wpAnyH_ready (rs := [7]) (by kernel_rfl) (by simp) (AllReadyH.cons rfl (fun K hK => ?_) (AllReadyH.nil))
        · go_simp
          go_at_call 74; refine HP5.out.mono ?_; rintro e w6 ⟨y, hy, rfl, hr6, hw6⟩; obtain ⟨k6, l6, m6⟩ := HL6.out w6 hw6
          refine hK.out _ _ trivial (fun hHeld2 => ?_)
          clear hK K
          try simp only [Act.put, List.getElem_toArray, List.getElem_cons_succ, List.getElem_cons_zero, List.setIfInBounds_toArray, List.set_cons_zero, List.set_cons_succ]
          refine wpAnyH_take (i := 8) (v := ?va8) rfl (by kernel_rfl) (by kernel_rfl) (by kernel_rfl) (fun _ _ _ h => h) (Or.inl ⟨by rfl, ?hya8⟩) (by assumption) ?_
          case hya8 =>
            intro w' hSw
            try dsimp only at hSw
            go_simp
            try with_reducible rfl
          try simp only [Act.put, List.getElem_toArray, List.getElem_cons_succ, List.getElem_cons_zero, List.setIfInBounds_toArray, List.set_cons_zero, List.set_cons_succ]
          refine wpAnyH_take (i := 9) (v := ?va9) rfl (by kernel_rfl) (by kernel_rfl) (by kernel_rfl) (fun _ _ _ h => h) (Or.inl ⟨by rfl, ?hya9⟩) (by assumption) ?_
          case hya9 =>
            intro w' hSw
            try dsimp only at hSw
            go_simp
            try with_reducible rfl
          try simp only [Act.put, List.getElem_toArray, List.getElem_cons_succ, List.getElem_cons_zero, List.setIfInBounds_toArray, List.set_cons_zero, List.set_cons_succ]
          refine wpAnyH_take (i := 10) (v := ?va10) rfl (by kernel_rfl) (by kernel_rfl) (by kernel_rfl) (fun _ _ _ h => h) (Or.inl ⟨by rfl, ?hya10⟩) (by assumption) ?_
          case hya10 =>
            intro w' hSw
            try dsimp only at hSw
            go_simp
            try with_reducible rfl
          try simp only [Act.put, List.getElem_toArray, List.getElem_cons_succ, List.getElem_cons_zero, List.setIfInBounds_toArray, List.set_cons_zero, List.set_cons_succ]
          refine wpAnyH_ready (rs := [11]) (by kernel_rfl) (by simp) (AllReadyH.cons rfl (fun K hK => ?_) (AllReadyH.nil))
          · go_simp
            refine hK.out _ _ trivial (fun hHeld2 => ?_)
            clear hK K
            try simp only [Act.put, List.getElem_toArray, List.getElem_cons_succ, List.getElem_cons_zero, List.setIfInBounds_toArray, List.set_cons_zero, List.set_cons_succ]
            refine wpAnyH_done (by kernel_rfl) ?_ _
            try simp only [Act.put, List.getElem_toArray, List.getElem_cons_succ, List.getElem_cons_zero, List.setIfInBounds_toArray, List.set_cons_zero, List.set_cons_succ]
            obtain ⟨hB6, hR6, hO6⟩ := HN.out w6 hw6
            have HF := Lib.hid (And.intro hB6 (And.intro hR6 hO6))
            clear hB6 hR6 hO6 hw6 hr6 k6 l6 m6
            go_wp2
            go_ret2
            exact ⟨_, _, xss, _, _, rfl, HF.out.2.1 _, HF.out.2.2 _, H4.out, HF.out.1 _⟩
      · go_simp
        go_at_call 74; refine HP5.out.mono ?_; rintro e w6 ⟨y, hy, rfl, hr6, hw6⟩; obtain ⟨k6, l6, m6⟩ := HL6.out w6 hw6
        refine hK.out _ _ trivial (fun hHeld2 => ?_)
        clear hK K
        try simp only [Act.put, List.getElem_toArray, List.getElem_cons_succ, List.getElem_cons_zero, List.setIfInBounds_toArray, List.set_cons_zero, List.set_cons_succ]
        refine wpAnyH_ready (rs := [5]) (by kernel_rfl) (by simp) (AllReadyH.cons rfl (fun K hK => ?_) (AllReadyH.nil))
        · go_simp
          refine hK.out _ _ trivial (fun hHeld2 => ?_)
          clear hK K
          try simp only [Act.put, List.getElem_toArray, List.getElem_cons_succ, List.getElem_cons_zero, List.setIfInBounds_toArray, List.set_cons_zero, List.set_cons_succ]
          refine wpAnyH_take (i := 8) (v := ?vb8) rfl (by kernel_rfl) (by kernel_rfl) (by kernel_rfl) (fun _ _ _ h => h) (Or.inl ⟨by rfl, ?hyb8⟩) (by assumption) ?_
          case hyb8 =>
            intro w' hSw
            try dsimp only at hSw
            go_simp
            try with_reducible rfl
          try simp only [Act.put, List.getElem_toArray, List.getElem_cons_succ, List.getElem_cons_zero, List.setIfInBounds_toArray, List.set_cons_zero, List.set_cons_succ]
          refine wpAnyH_take (i := 9) (v := ?vb9) rfl (by kernel_rfl) (by kernel_rfl) (by kernel_rfl) (fun _ _ _ h => h) (Or.inl ⟨by rfl, ?hyb9⟩) (by assumption) ?_
          case hyb9 =>
            intro w' hSw
            try dsimp only at hSw
            go_simp
            try with_reducible rfl
          try simp only [Act.put, List.getElem_toArray, List.getElem_cons_succ, List.getElem_cons_zero, List.setIfInBounds_toArray, List.set_cons_zero, List.set_cons_succ]
          refine wpAnyH_take (i := 10) (v := ?vb10) rfl (by kernel_rfl) (by kernel_rfl) (by kernel_rfl) (fun _ _ _ h => h) (Or.inl ⟨by rfl, ?hyb10⟩) (by assumption) ?_
          case hyb10 =>
            intro w' hSw
            try dsimp only at hSw
            go_simp
            try with_reducible rfl
          try simp only [Act.put, List.getElem_toArray, List.getElem_cons_succ, List.getElem_cons_zero, List.setIfInBounds_toArray, List.set_cons_zero, List.set_cons_succ]
          refine wpAnyH_ready (rs := [11]) (by kernel_rfl) (by simp) (AllReadyH.cons rfl (fun K hK => ?_) (AllReadyH.nil))
          · go_simp
            refine hK.out _ _ trivial (fun hHeld2 => ?_)
            clear hK K
            try simp only [Act.put, List.getElem_toArray, List.getElem_cons_succ, List.getElem_cons_zero, List.setIfInBounds_toArray, List.set_cons_zero, List.set_cons_succ]
            refine wpAnyH_done (by kernel_rfl) ?_ _
            try simp only [Act.put, List.getElem_toArray, List.getElem_cons_succ, List.getElem_cons_zero, List.setIfInBounds_toArray, List.set_cons_zero, List.set_cons_succ]
            obtain ⟨hB6, hR6, hO6⟩ := HN.out w6 hw6
            have HF := Lib.hid (And.intro hB6 (And.intro hR6 hO6))
            clear hB6 hR6 hO6 hw6 hr6 k6 l6 m6
            go_wp2
            go_ret2
            exact ⟨_, _, xss, _, _, rfl, HF.out.2.1 _, HF.out.2.2 _, H4.out, HF.out.1 _⟩
    · have e0 : ((x : Int) == 0) = false := by rw [beq_eq_false_iff_ne]; omega
      clear hr4 hw4
      go_wp2_with fail
      go_ret2
      exact ⟨_, _, xss, ps, w2.heap.size, rfl, rows_of_owns HR4.out, HO4.out, H4.out, HB4.out⟩

end Go.Proofs.YtjbgjebbfkhidabDoor
