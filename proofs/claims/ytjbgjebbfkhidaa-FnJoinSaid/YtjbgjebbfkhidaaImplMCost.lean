/-
  impl.MarketCost.
-/
import Derived.Test.YtjbgjebbfkhidaaRank1
import Derived.Test.YtjbgjebbfkhidaaMktCost
import Derived.Test.YtjbgjebbfkhidaaSide1
import Derived.Deep.RegionLaw
namespace Go.Proofs.Ytjbgjebbfkhidaa
set_option linter.unusedVariables false
set_option linter.unusedSimpArgs false
open Go.RowKit

theorem back_rows {ls : List (List Int)} {n : Nat} (h1 : 1 ≤ n) (h5 : n ≤ 5) (hr : ∀ l ∈ ls, rankB n l = true) : ∀ y ∈ ls.map backOf, y.length = n ∧ ∀ z ∈ y, 0 ≤ z ∧ z ≤ 5 := by
  intro y hy
  obtain ⟨l, hl, rfl⟩ := List.mem_map.1 hy
  exact ⟨by rw [backOf_len]; exact (rank_parts (hr l hl)).1, back_bounds h1 h5 (hr l hl)⟩

set_option maxRecDepth 100000 in
set_option maxHeartbeats 4000000 in
theorem implCost_any (w : World) (L R v : Value) (ls rs : List (List Int)) (xs : List Int) (hL : IntRows w L ls) (hR : IntRows w R rs) (hx : Ints w v xs) :
    Calls Try.prog 17 #[.agg (two L R), v] w (GivesCost w ls rs xs) := by
  obtain ⟨W0, hW0⟩ : ∃ W0, w.alloc (.cells (two L R) 25) = W0 := ⟨_, rfl⟩
  have hb0 : Below w.heap.size w W0 := by rw [← hW0]; exact (Below.refl _ _).alloc (Nat.le_refl _) _
  have hbox : W0.heap[w.heap.size]? = some (.cells (two L R) 25 (0, 0)) := by rw [← hW0]; exact World.alloc_heap_new _ _
  have HRP := Lib.hid (readPair_any W0 L R v ls rs xs (hL.below hb0) (hR.below hb0) (hx.below hb0))
  have HB0 := Lib.hid hb0
  clear hL hR hb0 hx
  cases hok : pairOk ls rs xs with
  | false =>
    have HNO := Lib.hid hok
    clear hok
    go_enter Try.func17, Try.ntmps17
    go_wp2_with (refine load_mi rfl _ rfl w.heap.size L R rfl hbox ?_)
    clear hW0
    refine HRP.out.mono ?_
    rintro e w1 ⟨a1, a2, a3, a4, p, rfl, hb1, ⟨⟨A1, n1, c1, rfl⟩, ⟨A2, n2, c2, rfl⟩, ⟨A3, n3, c3, rfl⟩, ⟨A4, n4, c4, rfl⟩, ⟨A5, n5, c5, rfl⟩⟩, -⟩
    rw [HNO.out]
    have hb12 : Below w1.heap.size w1 (w1.alloc (.cells (four (.slice A1 n1 c1) (.slice A2 n2 c2) (.slice A3 n3 c3) (.slice A4 n4 c4)) 54)) := (Below.refl _ _).alloc (Nat.le_refl _) _
    have HB2 := Lib.hid (step_below (step_below HB0.out hb1) hb12)
    clear hb12
    go_wp2
    go_ret3
    exact gives_cost_no HNO.out HB2.out
  | true =>
    obtain ⟨h1, h5, hrl, hxl, hls, hrs, hxr⟩ := pair_parts hok
    have HYES := Lib.hid hok
    have HFACT := Lib.hid (And.intro hrl (And.intro hxl (And.intro hls (And.intro hrs hxr))))
    clear hok hrl hxl hls hrs hxr
    go_enter Try.func17, Try.ntmps17
    go_wp2_with (refine load_mi rfl _ rfl w.heap.size L R rfl hbox ?_)
    clear hW0
    refine HRP.out.mono ?_
    rintro e w1 ⟨a1, a2, a3, a4, p, rfl, hb1, ⟨⟨A1, n1, c1, rfl⟩, ⟨A2, n2, c2, rfl⟩, ⟨A3, n3, c3, rfl⟩, ⟨A4, n4, c4, rfl⟩, ⟨A5, n5, c5, rfl⟩⟩, hat⟩
    rw [HYES.out]
    obtain ⟨hat1, lo1, hp0⟩ := hat HYES.out
    have hp1 := ints_of_owns hp0
    clear hp0
    obtain ⟨W2, hW2⟩ : ∃ W2, w1.alloc (.cells (four (.slice A1 n1 c1) (.slice A2 n2 c2) (.slice A3 n3 c3) (.slice A4 n4 c4)) 54) = W2 := ⟨_, rfl⟩
    have hb12 : Below w1.heap.size w1 W2 := by rw [← hW2]; exact (Below.refl _ _).alloc (Nat.le_refl _) _
    have hcur : W2.heap[w1.heap.size]? = some (.cells (four (.slice A1 n1 c1) (.slice A2 n2 c2) (.slice A3 n3 c3) (.slice A4 n4 c4)) 54 (0, 0)) := by rw [← hW2]; exact World.alloc_heap_new _ _
    have HB2 := Lib.hid (step_below (step_below HB0.out hb1) hb12)
    obtain ⟨hrl, hxl, hls, hrs, hxr⟩ := HFACT.out
    have hat2 := hat1.below hb12
    have hp2 := hp1.below hb12
    have hcl := cost_any W2.drew (.slice A1 n1 c1) (.slice A2 n2 c2) (.slice A5 n5 c5) (ls.map backOf) xs hat2.left hp2 (by omega) (by rw [List.length_map]; omega) (by rw [hxl]; exact (rank_parts hxr).2.1) (by rw [hxl]; exact back_rows h1 h5 hls)
    rw [hxl, cost_left h1 h5 rfl hls hxr] at hcl
    have htu := fun (W : World) (hW : Below W2.heap.size W2 W) => turned_any W (.slice A5 n5 c5) xs (hp2.below hW) (by omega) (by rw [hxl]; exact (rank_parts hxr).2.1)
    rw [hxl] at htu
    have hcr := fun (W : World) (u : Value) (hW : Below W2.heap.size W2 W) (hu : Ints W u (backOf xs)) => cost_any W (.slice A3 n3 c3) (.slice A4 n4 c4) u (rs.map backOf) (backOf xs) (hat2.right.below hW) hu (by rw [backOf_len]; omega) (by rw [List.length_map, backOf_len]; omega) (back_in h1 h5 hxr) (by rw [backOf_len, hxl]; exact back_rows h1 h5 hrs)
    rw [backOf_len, hxl, cost_right h1 h5 hrl hrs hxr] at hcr
    have HCL := Lib.hid hcl
    have HTU := Lib.hid htu
    have HCR := Lib.hid hcr
    have HCUR := Lib.hid hcur
    obtain ⟨d0, d1, d2, d3, dl⟩ := four_cells (w := W2.drew) hcur
    clear hcl htu hcr hat hat1 hat2 hp1 hp2 hrl hxl hls hrs hxr hb1 hb12 hbox
    go_wp2
    clear hW2
    go_region_law (first
      | (go_simp; go_at_call 41; with_reducible refine HCL.out.mono ?_; rintro e wa ⟨rfl, hba⟩; have hBa := below_undrew hba; obtain ⟨e0, e1, e2, e3, el⟩ := four_cells (kept_obj hBa HCUR.out))
      | (go_simp; go_at_call 42; with_reducible refine (HTU.out _ hBa).mono ?_; rintro e wb ⟨rfl, hbb, hob⟩; have hBb := hBa.trans (hbb.mono hBa.size); obtain ⟨f0, f1, f2, f3, fl⟩ := four_cells (kept_obj hBb HCUR.out))
      | (go_simp; go_at_call 41; with_reducible refine (HCR.out _ _ hBb (ints_of_owns hob)).mono ?_; rintro e wc ⟨rfl, hbc⟩))
    all_goals go_wp2
    all_goals go_ret3
    all_goals exact gives_cost_yes HYES.out (step_below HB2.out (hBb.trans (hbc.mono hBb.size)))

end Go.Proofs.Ytjbgjebbfkhidaa
