/-
  impl.readStable reads a market and two stable pairings for it.
-/
import Derived.Test.YtahilcnmjnjcaaaDoorStable
namespace Go.Proofs.YtahilcnmjnjcaaaDoor
set_option linter.unusedVariables false
set_option linter.unusedSimpArgs false
open Go.RowKit

theorem ret_mkt4 {fn : Func} {p u q r : Tmp} (h : fn.results = #[.cell p 60, .tmp u, .tmp q, .tmp r]) (tmps : Array Value) (w : World) (g : Nat) (a b c d : Value) (v z y : Value)
    (hp : tmps.getD p undef = .pointer (some ⟨g, 0, none⟩)) (hv : tmps.getD u undef = v) (hz : tmps.getD q undef = z) (hy : tmps.getD r undef = y) (hg : w.heap[g]? = some (.cells (four a b c d) 60 (0, 0))) :
    (results fn tmps).run Tryd.prog w = .ok (.tuple #[.agg (four a b c d), v, z, y]) w := by
  subst hv
  subst hz
  subst hy
  have hh : (results fn tmps).run Tryd.prog w = ((asAddr (tmps.getD p undef)).run Tryd.prog w).andThen fun a w₁ => ((loadVar 60 a).run Tryd.prog w₁).andThen fun v w₂ => .ok (.tuple #[v, tmps.getD u undef, tmps.getD q undef, tmps.getD r undef]) w₂ := by
    simp only [results, h]
    simp [Sem.run_bind, Result.andThen]
  rw [hh, hp]
  simp only [asAddr, Sem.run_pure, Result.andThen]
  rw [run_loadVar_row w g 60 60 (four a b c d) (0, 0) _ hg Tryd.underlying60 rfl (size_four a b c d)]

def bothB (ls rs : List (List Int)) (ps qs : List Int) : Bool := stableB ls rs ps && stableB ls rs qs
def GivesStab (w : World) (ls rs : List (List Int)) (ps qs : List Int) (e : Ending) (w' : World) : Prop :=
  ∃ a1 a2 a3 a4 p q, e = .returned (.tuple #[.agg (four a1 a2 a3 a4), p, q, .bool (bothB ls rs ps qs)]) ∧ Below w.heap.size w w' ∧ (IsSl a1 ∧ IsSl a2 ∧ IsSl a3 ∧ IsSl a4 ∧ IsSl p ∧ IsSl q) ∧
    (bothB ls rs ps qs = true → MktAt w' w.heap.size a1 a2 a3 a4 ls rs ∧ Ints w' p ps ∧ Ints w' q qs)
theorem gives_stab_no {w W : World} {ls rs : List (List Int)} {ps qs : List Int} (h : bothB ls rs ps qs = false) (hb : Below w.heap.size w W) :
    GivesStab w ls rs ps qs (.returned (.tuple #[.agg (four nilS nilS nilS nilS), nilS, nilS, .bool false])) W :=
  ⟨nilS, nilS, nilS, nilS, nilS, nilS, by rw [h], hb, ⟨isSl_nil, isSl_nil, isSl_nil, isSl_nil, isSl_nil, isSl_nil⟩, fun e => by rw [h] at e; cases e⟩
theorem pair_same {ls rs : List (List Int)} {ps qs : List Int} (h : pairOk ls rs ps = true) : pairOk ls rs qs = rankB ls.length qs := by
  unfold pairOk at h ⊢
  rw [Bool.and_eq_true] at h
  rw [h.1]; rfl

set_option maxRecDepth 100000 in
set_option maxHeartbeats 4000000 in
theorem readStab_any (w : World) (L R v u : Value) (ls rs : List (List Int)) (ps qs : List Int) (hL : IntRows w L ls) (hR : IntRows w R rs) (hp : Ints w v ps) (hq : Ints w u qs) :
    Calls Tryd.prog 62 #[.agg (two L R), v, u] w (GivesStab w ls rs ps qs) := by
  obtain ⟨W0, hW0⟩ : ∃ W0, (w.alloc (.cells (two L R) 28)).alloc (.cells (four nilS nilS nilS nilS) 60) = W0 := ⟨_, rfl⟩
  have hb0 : Below w.heap.size w W0 := by rw [← hW0]; exact ((Below.refl _ _).alloc (Nat.le_refl _) _).alloc (by simp) _
  have hbox : W0.heap[w.heap.size]? = some (.cells (two L R) 28 (0, 0)) := by rw [← hW0]; exact heap_two_old _ _ _
  have hres : W0.heap[w.heap.size + 1]? = some (.cells (four nilS nilS nilS nilS) 60 (0, 0)) := by rw [← hW0]; exact heap_two_new _ _ _
  have HRP := Lib.hid (readPair_any W0 L R v ls rs ps (hL.below hb0) (hR.below hb0) (hp.below hb0))
  have HB0 := Lib.hid hb0
  have HQ := Lib.hid hq
  have HRES := Lib.hid hres
  clear hL hR hp hq hb0 hres
  cases hok : pairOk ls rs ps with
  | false =>
    have HNO : Hid (bothB ls rs ps qs = false) := Lib.hid (by unfold bothB stableB; rw [hok]; rfl)
    have HOK := Lib.hid hok
    clear hok
    go_enter Tryd.func62, Tryd.ntmps62
    go_wp2_with (refine load_mi rfl _ rfl w.heap.size L R rfl hbox ?_)
    clear hW0
    refine HRP.out.mono ?_
    rintro e w1 ⟨a1, a2, a3, a4, p, rfl, hb1, ⟨⟨A1, n1, c1, rfl⟩, ⟨A2, n2, c2, rfl⟩, ⟨A3, n3, c3, rfl⟩, ⟨A4, n4, c4, rfl⟩, ⟨Ap, np, cp, rfl⟩⟩, -⟩
    rw [HOK.out]
    obtain ⟨W2, hW2⟩ : ∃ W2, w1.alloc (.cells (four (.slice A1 n1 c1) (.slice A2 n2 c2) (.slice A3 n3 c3) (.slice A4 n4 c4)) 60) = W2 := ⟨_, rfl⟩
    have hb12 : Below w1.heap.size w1 W2 := by rw [← hW2]; exact (Below.refl _ _).alloc (Nat.le_refl _) _
    have hres2 := kept_obj hb12 (kept_obj hb1 HRES.out)
    have HB2 := Lib.hid (step_below (step_below HB0.out hb1) hb12)
    clear hb1 hb12
    go_wp2_with (refine store_mkt rfl _ _ rfl (w.heap.size + 1) nilS nilS nilS nilS rfl rfl nilS nilS nilS nilS rfl rfl rfl rfl hres2 ?_)
    refine bodyPost_ret (v := .tuple #[.agg (four nilS nilS nilS nilS), nilS, nilS, .bool false]) (ret_mkt4 rfl _ _ (w.heap.size + 1) nilS nilS nilS nilS nilS nilS (.bool false) rfl rfl rfl rfl (heap_setRow2 hres2)) rfl ?_
    exact gives_stab_no HNO.out (below_setRow2 HB2.out (by omega) _)
  | true =>
    obtain ⟨h1, h5, _, _, _, _, _⟩ := pair_parts hok
    have hpq := pair_same (qs := qs) hok
    have HOK := Lib.hid hok
    have HPQ := Lib.hid hpq
    clear hok hpq
    go_enter Tryd.func62, Tryd.ntmps62
    go_wp2_with (refine load_mi rfl _ rfl w.heap.size L R rfl hbox ?_)
    clear hW0
    refine HRP.out.mono ?_
    rintro e w1 ⟨a1, a2, a3, a4, p, rfl, hb1, ⟨⟨A1, n1, c1, rfl⟩, ⟨A2, n2, c2, rfl⟩, ⟨A3, n3, c3, rfl⟩, ⟨A4, n4, c4, rfl⟩, ⟨Ap, np, cp, rfl⟩⟩, hat⟩
    obtain ⟨hat1, lo1, hp0⟩ := hat HOK.out
    have hp1 := ints_of_owns hp0
    have HPO := Lib.hid hp0
    clear hp0
    rw [HOK.out]
    obtain ⟨A1', cap1', hv1, _, _⟩ := hat1.one.at
    obtain ⟨rfl, rfl, rfl⟩ : A1 = A1' ∧ n1 = ls.length ∧ c1 = cap1' := by simpa using hv1
    obtain ⟨W2, hW2⟩ : ∃ W2, w1.alloc (.cells (four (.slice A1 ls.length c1) (.slice A2 n2 c2) (.slice A3 n3 c3) (.slice A4 n4 c4)) 60) = W2 := ⟨_, rfl⟩
    have hb12 : Below w1.heap.size w1 W2 := by rw [← hW2]; exact (Below.refl _ _).alloc (Nat.le_refl _) _
    have hcur2 : W2.heap[w1.heap.size]? = some (.cells (four (.slice A1 ls.length c1) (.slice A2 n2 c2) (.slice A3 n3 c3) (.slice A4 n4 c4)) 60 (0, 0)) := by rw [← hW2]; exact World.alloc_heap_new _ _
    have hres2 := kept_obj hb12 (kept_obj hb1 HRES.out)
    have HB2 := Lib.hid (step_below (step_below HB0.out hb1) hb12)
    have HAT := Lib.hid (hat1.below hb12)
    have HP := Lib.hid (hp1.below hb12)
    have HPO2 := Lib.hid (owns_below HPO.out hb12)
    have HST := Lib.hid (fun (X : World) (hX : Below W2.heap.size W2 X) (A5 : Option Addr) (n5 c5 : Nat) (xs : List Int) (hx : Ints X (.slice A5 n5 c5) xs) (hxo : pairOk ls rs xs = true) => stable_any X A1 ls.length c1 A2 n2 c2 A3 n3 c3 A4 n4 c4 A5 n5 c5 ls rs xs hxo (HAT.out.left.below hX) (HAT.out.right.below hX) hx)
    have HST1 := Lib.hid (HST.out W2 (Below.refl _ _) Ap np cp ps HP.out HOK.out)
    obtain ⟨z0, z1, z2, z3, _⟩ := four_cells hcur2
    clear hat hat1 hp1 hv1 hbox hb1 hb12
    cases hst1 : stableB ls rs ps with
    | false =>
      have HNO : Hid (bothB ls rs ps qs = false) := Lib.hid (by unfold bothB; rw [hst1]; rfl)
      rw [hst1] at HST1
      clear hst1
      go_wp2_with (first
        | (go_at_call 46; (with_reducible refine HST1.out.mono ?_); rintro e w3 ⟨rfl, hb3⟩; have hres3 := kept_obj hb3 hres2)
        | (refine store_mkt rfl _ _ rfl (w.heap.size + 1) nilS nilS nilS nilS rfl rfl nilS nilS nilS nilS rfl rfl rfl rfl hres3 ?_))
      refine bodyPost_ret (v := .tuple #[.agg (four nilS nilS nilS nilS), nilS, nilS, .bool false]) (ret_mkt4 rfl _ _ (w.heap.size + 1) nilS nilS nilS nilS nilS nilS (.bool false) rfl rfl rfl rfl (heap_setRow2 hres3)) rfl ?_
      exact gives_stab_no HNO.out (below_setRow2 (step_below HB2.out hb3) (by omega) _)
    | true =>
      rw [hst1] at HST1
      have HS1 := Lib.hid hst1
      clear hst1
      go_wp2_with (first
        | (go_at_call 46; (with_reducible refine HST1.out.mono ?_); rintro e w3 ⟨rfl, hb3⟩; have hcur3 := kept_obj hb3 hcur2)
        | (refine load_mkt rfl _ rfl w1.heap.size _ _ _ _ rfl hcur3 ?_))
      have hres3 := kept_obj hb3 hres2
      have HB3 := Lib.hid hb3
      clear hb3 hW2 z0 z1 z2 z3 hcur2 hres2
      refine (count_any w3 A1 ls.length c1 _ _ _).mono ?_
      rintro e w4 ⟨rfl, hb4⟩
      have hcur4 := kept_obj hb4 hcur3
      have hres4 := kept_obj hb4 hres3
      have HB4 := Lib.hid (step_below HB3.out hb4)
      clear hcur3 hres3 hb4
      cases hrk : rankB ls.length qs with
      | false =>
        have HNO : Hid (bothB ls rs ps qs = false) := Lib.hid (by unfold bothB; rw [show stableB ls rs qs = false by unfold stableB; rw [HPQ.out, hrk]; rfl, Bool.and_false])
        have HOF := Lib.hid (orderFrom_any w4 u qs ((HQ.out.below HB2.out).below HB4.out) ls.length h1 h5)
        rw [hrk] at HOF
        clear hrk
        go_wp2_with fail
        refine HOF.out.mono ?_
        rintro e w5 ⟨q, rfl, hb5, ho5⟩
        obtain ⟨Aq, nq, cq, rfl⟩ := owns_sl ho5
        have hres5 := kept_obj hb5 hres4
        have HB5 := Lib.hid (step_below HB4.out hb5)
        clear hb5 ho5
        go_wp2_with (refine store_mkt rfl _ _ rfl (w.heap.size + 1) nilS nilS nilS nilS rfl rfl nilS nilS nilS nilS rfl rfl rfl rfl hres5 ?_)
        refine bodyPost_ret (v := .tuple #[.agg (four nilS nilS nilS nilS), nilS, nilS, .bool false]) (ret_mkt4 rfl _ _ (w.heap.size + 1) nilS nilS nilS nilS nilS nilS (.bool false) rfl rfl rfl rfl (heap_setRow2 hres5)) rfl ?_
        exact gives_stab_no HNO.out (below_setRow2 (step_below HB2.out HB5.out) (by omega) _)
      | true =>
        have hqo : pairOk ls rs qs = true := by rw [HPQ.out]; exact hrk
        have HQO := Lib.hid hqo
        have HOF := Lib.hid (orderFrom_any w4 u qs ((HQ.out.below HB2.out).below HB4.out) ls.length h1 h5)
        rw [hrk] at HOF
        have HRK := Lib.hid hrk
        clear hrk hqo
        go_wp2_with fail
        refine HOF.out.mono ?_
        rintro e w5 ⟨q, rfl, hb5, ho5⟩
        obtain ⟨Aq, nq, cq, rfl⟩ := owns_sl ho5
        have hq5 := ordOf_reads HRK.out ho5
        rw [ordOf_yes HRK.out] at ho5
        have hres5 := kept_obj hb5 hres4
        have hcur5 := kept_obj hb5 hcur4
        have HB5 := Lib.hid (step_below HB4.out hb5)
        have HST2 := Lib.hid (HST.out w5 HB5.out Aq nq cq qs hq5 HQO.out)
        have HO5 := Lib.hid ho5
        obtain ⟨z0, z1, z2, z3, _⟩ := four_cells hcur5
        clear hb5 ho5 hq5 hcur4 hres4
        cases hst2 : stableB ls rs qs with
        | false =>
          have HNO : Hid (bothB ls rs ps qs = false) := Lib.hid (by unfold bothB; rw [hst2, Bool.and_false])
          rw [hst2] at HST2
          clear hst2
          go_wp2_with (first
            | (go_at_call 46; (with_reducible refine HST2.out.mono ?_); rintro e w6 ⟨rfl, hb6⟩; have hres6 := kept_obj hb6 hres5)
            | (refine store_mkt rfl _ _ rfl (w.heap.size + 1) nilS nilS nilS nilS rfl rfl nilS nilS nilS nilS rfl rfl rfl rfl hres6 ?_))
          refine bodyPost_ret (v := .tuple #[.agg (four nilS nilS nilS nilS), nilS, nilS, .bool false]) (ret_mkt4 rfl _ _ (w.heap.size + 1) nilS nilS nilS nilS nilS nilS (.bool false) rfl rfl rfl rfl (heap_setRow2 hres6)) rfl ?_
          exact gives_stab_no HNO.out (below_setRow2 (step_below HB2.out (step_below HB5.out hb6)) (by omega) _)
        | true =>
          have HYES : Hid (bothB ls rs ps qs = true) := Lib.hid (by unfold bothB; rw [HS1.out, hst2]; rfl)
          rw [hst2] at HST2
          clear hst2
          go_wp2_with (first
            | (go_at_call 46; (with_reducible refine HST2.out.mono ?_); rintro e w6 ⟨rfl, hb6⟩; have hres6 := kept_obj hb6 hres5; have hcur6 := kept_obj hb6 hcur5)
            | (refine load_mkt rfl _ rfl w1.heap.size _ _ _ _ rfl hcur6 ?_)
            | (refine store_mkt rfl _ _ rfl (w.heap.size + 1) _ _ _ _ rfl rfl nilS nilS nilS nilS rfl rfl rfl rfl hres6 ?_))
          have hb56 := step_below HB5.out hb6
          refine bodyPost_ret (ret_mkt4 rfl _ _ (w.heap.size + 1) _ _ _ _ (.slice Ap np cp) (.slice Aq nq cq) (.bool true) rfl rfl rfl rfl (heap_setRow2 hres6)) rfl ?_
          have hg := grown_setRow2 w6 (w.heap.size + 1) (four (.slice A1 ls.length c1) (.slice A2 n2 c2) (.slice A3 n3 c3) (.slice A4 n4 c4))
          refine ⟨_, _, _, _, _, _, by rw [HYES.out], below_setRow2 (step_below HB2.out hb56) (by omega) _, ⟨⟨_, _, _, rfl⟩, ⟨_, _, _, rfl⟩, ⟨_, _, _, rfl⟩, ⟨_, _, _, rfl⟩, ⟨_, _, _, rfl⟩, ⟨_, _, _, rfl⟩⟩, fun _ => ?_⟩
          refine ⟨(HAT.out.below hb56).other HB0.out.size hg hres6 (by decide) (by decide), ints_of_owns (owns_other (owns_below HPO2.out hb56) hg hres6 (by decide)), ints_of_owns (owns_other (owns_below HO5.out hb6) hg hres6 (by decide))⟩

end Go.Proofs.YtahilcnmjnjcaaaDoor
