/-
  impl.readPairing reads a market and a pairing for it; impl.MarketPairing.
-/
import Derived.Test.YtahilcnmjnjcaaaDoorSide1
import Derived.Test.YtahilcnmjnjcaaaDoorMktL
import Derived.Test.YtahilcnmjnjcaaaDoorSpecMIn
namespace Go.Proofs.YtahilcnmjnjcaaaDoor
set_option linter.unusedVariables false
set_option linter.unusedSimpArgs false
open Go.RowKit

/-- Is it a market with a pairing? -/
def pairOk (ls rs : List (List Int)) (xs : List Int) : Bool := mktOk ls rs && rankB ls.length xs
def GivesPair (w : World) (ls rs : List (List Int)) (xs : List Int) (e : Ending) (w' : World) : Prop :=
  ∃ a1 a2 a3 a4 p, e = .returned (.tuple #[.agg (four a1 a2 a3 a4), p, .bool (pairOk ls rs xs)]) ∧ Below w.heap.size w w' ∧ (IsSl a1 ∧ IsSl a2 ∧ IsSl a3 ∧ IsSl a4 ∧ IsSl p) ∧
    (pairOk ls rs xs = true → MktAt w' w.heap.size a1 a2 a3 a4 ls rs ∧ ∃ lo, Owns w' lo p xs)

theorem ret_mkt3 {fn : Func} {p u q : Tmp} (h : fn.results = #[.cell p 60, .tmp u, .tmp q]) (tmps : Array Value) (w : World) (g : Nat) (a b c d : Value) (v z : Value)
    (hp : tmps.getD p undef = .pointer (some ⟨g, 0, none⟩)) (hv : tmps.getD u undef = v) (hz : tmps.getD q undef = z) (hg : w.heap[g]? = some (.cells (four a b c d) 60 (0, 0))) :
    (results fn tmps).run Tryd.prog w = .ok (.tuple #[.agg (four a b c d), v, z]) w := by
  subst hv
  subst hz
  have hh : (results fn tmps).run Tryd.prog w = ((asAddr (tmps.getD p undef)).run Tryd.prog w).andThen fun a w₁ => ((loadVar 60 a).run Tryd.prog w₁).andThen fun v w₂ => .ok (.tuple #[v, tmps.getD u undef, tmps.getD q undef]) w₂ := by
    simp only [results, h]
    simp [Sem.run_bind, Result.andThen]
  rw [hh, hp]
  simp only [asAddr, Sem.run_pure, Result.andThen]
  rw [run_loadVar_row w g 60 60 (four a b c d) (0, 0) _ hg Tryd.underlying60 rfl (size_four a b c d)]

theorem gives_pair_no {w W : World} {ls rs : List (List Int)} {xs : List Int} {p : Value} {a1 a2 a3 a4 : Value} (h : pairOk ls rs xs = false) (hb : Below w.heap.size w W) (h1 : IsSl a1) (h2 : IsSl a2) (h3 : IsSl a3) (h4 : IsSl a4) (hp : IsSl p) :
    GivesPair w ls rs xs (.returned (.tuple #[.agg (four a1 a2 a3 a4), p, .bool false])) W :=
  ⟨a1, a2, a3, a4, p, by rw [h], hb, ⟨h1, h2, h3, h4, hp⟩, fun e => by rw [h] at e; cases e⟩
theorem isSl_nil : IsSl nilS := ⟨none, 0, 0, rfl⟩
theorem owns_sl {w : World} {b n : Nat} {e : TypeId} {v : Value} {xs : List Value} (h : w.ownsRow b e 1 v n xs) : IsSl v := by
  rcases h.2 with ⟨rfl, _⟩ | ⟨g, cap, cur, rfl, _⟩
  · exact isSl_nil
  · exact ⟨_, _, _, rfl⟩
theorem ordOf_reads {w : World} {n : Nat} {u : Value} {b : Nat} {xs : List Int} (hr : rankB n xs = true) (h : Owns w b u (ordOf n xs)) : Ints w u xs := by
  rw [ordOf_yes hr] at h
  exact ints_of_owns h

set_option maxRecDepth 100000 in
set_option maxHeartbeats 4000000 in
theorem readPair_any (w : World) (L R v : Value) (ls rs : List (List Int)) (xs : List Int) (hL : IntRows w L ls) (hR : IntRows w R rs) (hx : Ints w v xs) :
    Calls Tryd.prog 55 #[.agg (two L R), v] w (GivesPair w ls rs xs) := by
  obtain ⟨W0, hW0⟩ : ∃ W0, (w.alloc (.cells (two L R) 28)).alloc (.cells (four nilS nilS nilS nilS) 60) = W0 := ⟨_, rfl⟩
  have hb0 : Below w.heap.size w W0 := by rw [← hW0]; exact ((Below.refl _ _).alloc (Nat.le_refl _) _).alloc (by simp) _
  have hbox : W0.heap[w.heap.size]? = some (.cells (two L R) 28 (0, 0)) := by rw [← hW0]; exact heap_two_old _ _ _
  have hres : W0.heap[w.heap.size + 1]? = some (.cells (four nilS nilS nilS nilS) 60 (0, 0)) := by rw [← hW0]; exact heap_two_new _ _ _
  have HMF := Lib.hid (mktFrom_any W0 L R ls rs (hL.below hb0) (hR.below hb0))
  have HB0 := Lib.hid hb0
  have HX := Lib.hid hx
  have HRES := Lib.hid hres
  clear hL hR hb0 hres hx
  cases hok : mktOk ls rs with
  | false =>
    rw [show GivesMkt W0 ls rs = GivesMkt W0 ls rs from rfl] at HMF
    have HNO : Hid (pairOk ls rs xs = false) := Lib.hid (by unfold pairOk; rw [hok]; rfl)
    have HOK := Lib.hid hok
    clear hok
    go_enter Tryd.func55, Tryd.ntmps55
    go_wp2_with (refine load_mi rfl _ rfl w.heap.size L R rfl hbox ?_)
    clear hW0
    refine HMF.out.mono ?_
    rintro e w1 ⟨a1, a2, a3, a4, rfl, hb1, ⟨⟨A1, n1, c1, rfl⟩, ⟨A2, n2, c2, rfl⟩, ⟨A3, n3, c3, rfl⟩, ⟨A4, n4, c4, rfl⟩⟩, -⟩
    rw [HOK.out]
    obtain ⟨W2, hW2⟩ : ∃ W2, w1.alloc (.cells (four (.slice A1 n1 c1) (.slice A2 n2 c2) (.slice A3 n3 c3) (.slice A4 n4 c4)) 60) = W2 := ⟨_, rfl⟩
    have hb12 : Below w1.heap.size w1 W2 := by rw [← hW2]; exact (Below.refl _ _).alloc (Nat.le_refl _) _
    have hres2 := kept_obj hb12 (kept_obj hb1 HRES.out)
    have HB2 := Lib.hid (step_below (step_below HB0.out hb1) hb12)
    go_wp2_with (refine store_mkt rfl _ _ rfl (w.heap.size + 1) nilS nilS nilS nilS rfl rfl nilS nilS nilS nilS rfl rfl rfl rfl hres2 ?_)
    refine bodyPost_ret (v := .tuple #[.agg (four nilS nilS nilS nilS), nilS, .bool false]) (ret_mkt3 rfl _ _ (w.heap.size + 1) nilS nilS nilS nilS nilS (.bool false) rfl rfl rfl (heap_setRow2 hres2)) rfl ?_
    exact gives_pair_no HNO.out (below_setRow2 HB2.out (by omega) _) isSl_nil isSl_nil isSl_nil isSl_nil isSl_nil
  | true =>
    obtain ⟨⟨h1, h5, hl⟩, _⟩ := mktOk_parts hok
    have HOK := Lib.hid hok
    have hpo : pairOk ls rs xs = rankB ls.length xs := by unfold pairOk; rw [hok]; rfl
    have HPO := Lib.hid hpo
    clear hok hl hpo
    go_enter Tryd.func55, Tryd.ntmps55
    go_wp2_with (refine load_mi rfl _ rfl w.heap.size L R rfl hbox ?_)
    clear hW0
    refine HMF.out.mono ?_
    rintro e w1 ⟨a1, a2, a3, a4, rfl, hb1, ⟨⟨A1, n1, c1, rfl⟩, ⟨A2, n2, c2, rfl⟩, ⟨A3, n3, c3, rfl⟩, ⟨A4, n4, c4, rfl⟩⟩, hat⟩
    have hat1 := hat HOK.out
    rw [HOK.out]
    obtain ⟨A1', cap1', hv1, _, _⟩ := hat1.one.at
    obtain ⟨rfl, rfl, rfl⟩ : A1 = A1' ∧ n1 = ls.length ∧ c1 = cap1' := by simpa using hv1
    obtain ⟨W2, hW2⟩ : ∃ W2, w1.alloc (.cells (four (.slice A1 ls.length c1) (.slice A2 n2 c2) (.slice A3 n3 c3) (.slice A4 n4 c4)) 60) = W2 := ⟨_, rfl⟩
    have hb12 : Below w1.heap.size w1 W2 := by rw [← hW2]; exact (Below.refl _ _).alloc (Nat.le_refl _) _
    have hcur2 : W2.heap[w1.heap.size]? = some (.cells (four (.slice A1 ls.length c1) (.slice A2 n2 c2) (.slice A3 n3 c3) (.slice A4 n4 c4)) 60 (0, 0)) := by rw [← hW2]; exact World.alloc_heap_new _ _
    have hres2 := kept_obj hb12 (kept_obj hb1 HRES.out)
    have HB2 := Lib.hid (step_below (step_below HB0.out hb1) hb12)
    have HAT := Lib.hid (hat1.below hb12)
    have hs0 := (Array.getElem?_eq_some_iff.1 HRES.out).1
    have hs1 := hb1.size
    have HS := Lib.hid (And.intro hs0 hs1)
    have HNX := Lib.hid (And.intro hb1 hb12)
    clear hat hat1 hv1 hbox hs0 hs1 hb1 hb12
    go_wp2_with (refine load_mkt rfl _ rfl w1.heap.size _ _ _ _ rfl hcur2 ?_)
    refine (count_any W2 A1 ls.length c1 _ _ _).mono ?_
    rintro e w3 ⟨rfl, hb3⟩
    have hcur3 := kept_obj hb3 hcur2
    have hres3 := kept_obj hb3 hres2
    go_wp2_with fail
    refine (orderFrom_any w3 v xs ((HX.out.below HB2.out).below hb3) ls.length h1 h5).mono ?_
    rintro e w4 ⟨u, rfl, hb4, ho4⟩
    obtain ⟨Au, nu, cu, rfl⟩ := owns_sl ho4
    have hcur4 := kept_obj hb4 hcur3
    have hres4 := kept_obj hb4 hres3
    have HO4 := Lib.hid (And.intro ho4 (And.intro hb3 hb4))
    clear hcur2 hres2 hcur3 hres3 hb3 hb4 ho4 hW2
    go_wp2_with (first
      | (refine load_mkt rfl _ rfl w1.heap.size _ _ _ _ rfl hcur4 ?_)
      | (refine store_mkt rfl _ _ rfl (w.heap.size + 1) _ _ _ _ rfl rfl nilS nilS nilS nilS rfl rfl rfl rfl hres4 ?_))
    obtain ⟨ho4, hb3, hb4⟩ := HO4.out
    refine bodyPost_ret (ret_mkt3 rfl _ _ (w.heap.size + 1) _ _ _ _ (.slice Au nu cu) (.bool (rankB ls.length xs)) rfl rfl rfl (heap_setRow2 hres4)) rfl ?_
    have hbel : Below w.heap.size w (w4.setRow (w.heap.size + 1) (four (.slice A1 ls.length c1) (.slice A2 n2 c2) (.slice A3 n3 c3) (.slice A4 n4 c4))) := below_setRow2 (step_below (step_below HB2.out hb3) hb4) (by omega) _
    refine ⟨_, _, _, _, _, by rw [HPO.out], hbel, ⟨⟨_, _, _, rfl⟩, ⟨_, _, _, rfl⟩, ⟨_, _, _, rfl⟩, ⟨_, _, _, rfl⟩, ⟨_, _, _, rfl⟩⟩, fun hp => ?_⟩
    have hg := grown_setRow2 w4 (w.heap.size + 1) (four (.slice A1 ls.length c1) (.slice A2 n2 c2) (.slice A3 n3 c3) (.slice A4 n4 c4))
    rw [HPO.out] at hp
    rw [ordOf_yes hp] at ho4
    exact ⟨((HAT.out.below hb3).below hb4).other HB0.out.size hg hres4 (by decide) (by decide), _, owns_other ho4 hg hres4 (by decide)⟩

set_option maxRecDepth 100000 in
set_option maxHeartbeats 4000000 in
theorem implMPair_any (w : World) (L R v : Value) (ls rs : List (List Int)) (xs : List Int) (hL : IntRows w L ls) (hR : IntRows w R rs) (hx : Ints w v xs) :
    Calls Tryd.prog 23 #[.agg (two L R), v] w fun e w' => e = .returned (.bool (pairOk ls rs xs)) ∧ Below w.heap.size w w' := by
  obtain ⟨W0, hW0⟩ : ∃ W0, w.alloc (.cells (two L R) 28) = W0 := ⟨_, rfl⟩
  have hb0 : Below w.heap.size w W0 := by rw [← hW0]; exact (Below.refl _ _).alloc (Nat.le_refl _) _
  have hbox : W0.heap[w.heap.size]? = some (.cells (two L R) 28 (0, 0)) := by rw [← hW0]; exact World.alloc_heap_new _ _
  have HRP := Lib.hid (readPair_any W0 L R v ls rs xs (hL.below hb0) (hR.below hb0) (hx.below hb0))
  have HB0 := Lib.hid hb0
  clear hL hR hb0 hx
  go_enter Tryd.func23, Tryd.ntmps23
  go_wp2_with (refine load_mi rfl _ rfl w.heap.size L R rfl hbox ?_)
  clear hW0
  refine HRP.out.mono ?_
  rintro e w1 ⟨a1, a2, a3, a4, p, rfl, hb1, ⟨⟨A1, n1, c1, rfl⟩, ⟨A2, n2, c2, rfl⟩, ⟨A3, n3, c3, rfl⟩, ⟨A4, n4, c4, rfl⟩, ⟨A5, n5, c5, rfl⟩⟩, -⟩
  have hb12 : Below w1.heap.size w1 (w1.alloc (.cells (four (.slice A1 n1 c1) (.slice A2 n2 c2) (.slice A3 n3 c3) (.slice A4 n4 c4)) 60)) := (Below.refl _ _).alloc (Nat.le_refl _) _
  have HB2 := Lib.hid (step_below (step_below HB0.out hb1) hb12)
  clear hb12
  go_wp2
  go_ret
  exact ⟨rfl, HB2.out⟩

set_option maxRecDepth 100000 in
set_option maxHeartbeats 4000000 in
theorem specMPair_any (w : World) (L R v : Value) (ls rs : List (List Int)) (xs : List Int) (hL : IntRows w L ls) (hR : IntRows w R rs) (hx : Ints w v xs) :
    Calls Tryd.prog 24 #[.agg (two L R), v] w fun e w' => e = .returned (.bool (pairOk ls rs xs)) ∧ Below w.heap.size w w' := by
  obtain ⟨A1, cap1, hLe, _, _⟩ := hL.at
  subst hLe
  obtain ⟨W0, hW0⟩ : ∃ W0, w.alloc (.cells (two (.slice A1 ls.length cap1) R) 28) = W0 := ⟨_, rfl⟩
  have hb0 : Below w.heap.size w W0 := by rw [← hW0]; exact (Below.refl _ _).alloc (Nat.le_refl _) _
  have hbox : W0.heap[w.heap.size]? = some (.cells (two (.slice A1 ls.length cap1) R) 28 (0, 0)) := by rw [← hW0]; exact World.alloc_heap_new _ _
  have HSI := Lib.hid (specMIn_any W0 _ R ls rs (hL.below hb0) (hR.below hb0))
  have HB0 := Lib.hid hb0
  have HX := Lib.hid hx
  clear hL hR hb0 hx
  cases hok : mktOk ls rs with
  | false =>
    have HNO : Hid (pairOk ls rs xs = false) := Lib.hid (by unfold pairOk; rw [hok]; rfl)
    rw [hok] at HSI
    clear hok
    go_enter Tryd.func24, Tryd.ntmps24
    go_wp2_with (refine load_mi rfl _ rfl w.heap.size _ R rfl hbox ?_)
    clear hW0
    refine HSI.out.mono ?_
    rintro e w1 ⟨rfl, hb1⟩
    have HB1 := Lib.hid (step_below HB0.out hb1)
    clear hb1
    go_wp2
    go_ret
    exact ⟨ret_bool HNO.out.symm, HB1.out⟩
  | true =>
    obtain ⟨⟨h1, h5, _⟩, _⟩ := mktOk_parts hok
    have HPO : Hid (pairOk ls rs xs = rankB ls.length xs) := Lib.hid (by unfold pairOk; rw [hok]; rfl)
    rw [hok] at HSI
    clear hok
    go_enter Tryd.func24, Tryd.ntmps24
    go_wp2_with (refine load_mi rfl _ rfl w.heap.size _ R rfl hbox ?_)
    clear hW0
    refine HSI.out.mono ?_
    rintro e w1 ⟨rfl, hb1⟩
    have HB1 := Lib.hid (step_below HB0.out hb1)
    have hbox1 := kept_obj hb1 hbox
    obtain ⟨x0, x1, xf, _⟩ := two_cells hbox1
    have HRK := Lib.hid (l6mRank_any w1 v xs (HX.out.below HB1.out) ls.length h1 h5)
    clear hb1 hbox hbox1
    go_wp2_with (go_at_call 53; refine HRK.out.mono ?_; rintro e w' ⟨rfl, rfl⟩)
    go_ret
    exact ⟨ret_bool HPO.out.symm, HB1.out⟩

end Go.Proofs.YtahilcnmjnjcaaaDoor
