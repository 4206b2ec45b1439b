/-
  A market is drawn: spec.DrawMarketIn and its like.
-/
import Derived.Test.YtahilcnmjnjcaaaDoorDrawMkt
import Derived.Test.YtahilcnmjnjcaaaDoorMkSt
namespace Go.Proofs.YtahilcnmjnjcaaaDoor
set_option linter.unusedVariables false
set_option linter.unusedSimpArgs false
open Go.RowKit
set_option maxRecDepth 100000

theorem ret_mi0 {fn : Func} {p : Tmp} (h : fn.results = #[.cell p 28]) (tmps : Array Value) (w : World) (g : Nat) (a b : Value)
    (hp : tmps.getD p undef = .pointer (some ⟨g, 0, none⟩)) (hg : w.heap[g]? = some (.cells (two a b) 28 (0, 0))) :
    (results fn tmps).run Tryd.prog w = .ok (.agg (two a b)) w :=
  results_cell_row h tmps w g 28 (two a b) (0, 0) _ hp hg Tryd.underlying28 rfl (by kernel_rfl)

set_option maxHeartbeats 1000000 in
theorem DrawMarketIn_any (w : World) (A : Option Addr) (L cap : Nat) (hc : L ≤ cap) (hm : L ≤ maxLen) (hx : Code8 w A L) :
    Calls Tryd.prog 19 #[.slice A L cap] w (GivesM0 w) := by
  obtain ⟨W0, hW0⟩ : ∃ W0, w.alloc (.cells (two nilS nilS) 28) = W0 := ⟨_, rfl⟩
  have hb0 : Below w.heap.size w W0 := by rw [← hW0]; exact (Below.refl _ _).alloc (Nat.le_refl _) _
  have hres0 : W0.heap[w.heap.size]? = some (.cells (two nilS nilS) 28 (0, 0)) := by rw [← hW0]; exact World.alloc_heap_new _ _
  have hsz0 : W0.heap.size = w.heap.size + 1 := by rw [← hW0]; simp
  have HO := Lib.hid (open_any W0 A L cap hc hm)
  have HX := Lib.hid (hx.below hb0)
  have HB0 := Lib.hid (And.intro hb0 (And.intro hsz0 hres0))
  clear hx hb0 hsz0 hres0
  go_enter Tryd.func19, Tryd.ntmps19
  go_wp2_with fail
  clear hW0
  refine HO.out.mono ?_
  rintro e w1 ⟨r, M, cap', rfl, hM, hML, hrw, hr, hb1⟩
  have HLM := Lib.hid (market_draw w1 r 0 M cap' A hr ((HX.out.less hML).bytes hb1 r hrw) hM (by omega))
  have HB1 := Lib.hid (And.intro hb1 hrw)
  clear hr hb1 hML
  go_wp2_with fail
  refine HLM.out.mono ?_
  rintro e w2 ⟨A1, c1, A2, n2, c2, ls, rs, q, rfl, hl, hr', h1, h4, -, -, hw⟩
  obtain ⟨hb0, hsz0, hres0⟩ := HB0.out
  have hb1 := HB1.out.1
  have hsz1 := hb1.size
  have hrw := HB1.out.2
  have hres2 : w2.heap[w.heap.size]? = some (.cells (two nilS nilS) 28 (0, 0)) := (hw.block w.heap.size (by omega) (by omega)).trans ((hb1.block w.heap.size (by omega)).trans hres0)
  have hbw : Below w.heap.size w w2 := Below.within (step_below hb0 hb1) hw (by omega)
  have hg := grown_setRow2 w2 w.heap.size (two (.slice A1 ls.length c1) (.slice A2 n2 c2))
  have hk := KT.of_grown hg hres2 (by decide) (by decide)
  have HF : Hid (MkSt w (w2.setRow w.heap.size (two (.slice A1 ls.length c1) (.slice A2 n2 c2))) (.slice A1 ls.length c1) (.slice A2 n2 c2) ls rs ∧ ls.length ≤ 4) := Lib.hid
    ⟨⟨below_setRow2 hbw (Nat.le_refl _) _, (hl.kt hk).rows, (hr'.kt hk).rows⟩, h4⟩
  clear hl hr' h1 h4 hw hb0 hsz0 hres0 hb1 hsz1 hrw hbw hg hk
  go_wp2_with (refine store_mi rfl _ _ rfl w.heap.size _ _ rfl rfl nilS nilS rfl rfl hres2 ?_)
  refine bodyPost_ret (ret_mi0 rfl _ _ w.heap.size _ _ rfl (heap_setRow2 hres2)) rfl ?_
  exact ⟨_, _, ls, rs, rfl, HF.out.1, HF.out.2⟩

set_option maxHeartbeats 1000000 in
theorem DrawMarketLeft_any (w : World) (A : Option Addr) (L cap : Nat) (hc : L ≤ cap) (hm : L ≤ maxLen) (hx : Code8 w A L) :
    Calls Tryd.prog 31 #[.slice A L cap] w (GivesM0 w) := by
  obtain ⟨W0, hW0⟩ : ∃ W0, w.alloc (.cells (two nilS nilS) 28) = W0 := ⟨_, rfl⟩
  have hb0 : Below w.heap.size w W0 := by rw [← hW0]; exact (Below.refl _ _).alloc (Nat.le_refl _) _
  have hres0 : W0.heap[w.heap.size]? = some (.cells (two nilS nilS) 28 (0, 0)) := by rw [← hW0]; exact World.alloc_heap_new _ _
  have hsz0 : W0.heap.size = w.heap.size + 1 := by rw [← hW0]; simp
  have HO := Lib.hid (open_any W0 A L cap hc hm)
  have HX := Lib.hid (hx.below hb0)
  have HB0 := Lib.hid (And.intro hb0 (And.intro hsz0 hres0))
  clear hx hb0 hsz0 hres0
  go_enter Tryd.func31, Tryd.ntmps31
  go_wp2_with fail
  clear hW0
  refine HO.out.mono ?_
  rintro e w1 ⟨r, M, cap', rfl, hM, hML, hrw, hr, hb1⟩
  have HLM := Lib.hid (market_draw w1 r 0 M cap' A hr ((HX.out.less hML).bytes hb1 r hrw) hM (by omega))
  have HB1 := Lib.hid (And.intro hb1 hrw)
  clear hr hb1 hML
  go_wp2_with fail
  refine HLM.out.mono ?_
  rintro e w2 ⟨A1, c1, A2, n2, c2, ls, rs, q, rfl, hl, hr', h1, h4, -, -, hw⟩
  obtain ⟨hb0, hsz0, hres0⟩ := HB0.out
  have hb1 := HB1.out.1
  have hsz1 := hb1.size
  have hrw := HB1.out.2
  have hres2 : w2.heap[w.heap.size]? = some (.cells (two nilS nilS) 28 (0, 0)) := (hw.block w.heap.size (by omega) (by omega)).trans ((hb1.block w.heap.size (by omega)).trans hres0)
  have hbw : Below w.heap.size w w2 := Below.within (step_below hb0 hb1) hw (by omega)
  have hg := grown_setRow2 w2 w.heap.size (two (.slice A1 ls.length c1) (.slice A2 n2 c2))
  have hk := KT.of_grown hg hres2 (by decide) (by decide)
  have HF : Hid (MkSt w (w2.setRow w.heap.size (two (.slice A1 ls.length c1) (.slice A2 n2 c2))) (.slice A1 ls.length c1) (.slice A2 n2 c2) ls rs ∧ ls.length ≤ 4) := Lib.hid
    ⟨⟨below_setRow2 hbw (Nat.le_refl _) _, (hl.kt hk).rows, (hr'.kt hk).rows⟩, h4⟩
  clear hl hr' h1 h4 hw hb0 hsz0 hres0 hb1 hsz1 hrw hbw hg hk
  go_wp2_with (refine store_mi rfl _ _ rfl w.heap.size _ _ rfl rfl nilS nilS rfl rfl hres2 ?_)
  refine bodyPost_ret (ret_mi0 rfl _ _ w.heap.size _ _ rfl (heap_setRow2 hres2)) rfl ?_
  exact ⟨_, _, ls, rs, rfl, HF.out.1, HF.out.2⟩

set_option maxHeartbeats 1000000 in
theorem DrawMarketRight_any (w : World) (A : Option Addr) (L cap : Nat) (hc : L ≤ cap) (hm : L ≤ maxLen) (hx : Code8 w A L) :
    Calls Tryd.prog 35 #[.slice A L cap] w (GivesM0 w) := by
  obtain ⟨W0, hW0⟩ : ∃ W0, w.alloc (.cells (two nilS nilS) 28) = W0 := ⟨_, rfl⟩
  have hb0 : Below w.heap.size w W0 := by rw [← hW0]; exact (Below.refl _ _).alloc (Nat.le_refl _) _
  have hres0 : W0.heap[w.heap.size]? = some (.cells (two nilS nilS) 28 (0, 0)) := by rw [← hW0]; exact World.alloc_heap_new _ _
  have hsz0 : W0.heap.size = w.heap.size + 1 := by rw [← hW0]; simp
  have HO := Lib.hid (open_any W0 A L cap hc hm)
  have HX := Lib.hid (hx.below hb0)
  have HB0 := Lib.hid (And.intro hb0 (And.intro hsz0 hres0))
  clear hx hb0 hsz0 hres0
  go_enter Tryd.func35, Tryd.ntmps35
  go_wp2_with fail
  clear hW0
  refine HO.out.mono ?_
  rintro e w1 ⟨r, M, cap', rfl, hM, hML, hrw, hr, hb1⟩
  have HLM := Lib.hid (market_draw w1 r 0 M cap' A hr ((HX.out.less hML).bytes hb1 r hrw) hM (by omega))
  have HB1 := Lib.hid (And.intro hb1 hrw)
  clear hr hb1 hML
  go_wp2_with fail
  refine HLM.out.mono ?_
  rintro e w2 ⟨A1, c1, A2, n2, c2, ls, rs, q, rfl, hl, hr', h1, h4, -, -, hw⟩
  obtain ⟨hb0, hsz0, hres0⟩ := HB0.out
  have hb1 := HB1.out.1
  have hsz1 := hb1.size
  have hrw := HB1.out.2
  have hres2 : w2.heap[w.heap.size]? = some (.cells (two nilS nilS) 28 (0, 0)) := (hw.block w.heap.size (by omega) (by omega)).trans ((hb1.block w.heap.size (by omega)).trans hres0)
  have hbw : Below w.heap.size w w2 := Below.within (step_below hb0 hb1) hw (by omega)
  have hg := grown_setRow2 w2 w.heap.size (two (.slice A1 ls.length c1) (.slice A2 n2 c2))
  have hk := KT.of_grown hg hres2 (by decide) (by decide)
  have HF : Hid (MkSt w (w2.setRow w.heap.size (two (.slice A1 ls.length c1) (.slice A2 n2 c2))) (.slice A1 ls.length c1) (.slice A2 n2 c2) ls rs ∧ ls.length ≤ 4) := Lib.hid
    ⟨⟨below_setRow2 hbw (Nat.le_refl _) _, (hl.kt hk).rows, (hr'.kt hk).rows⟩, h4⟩
  clear hl hr' h1 h4 hw hb0 hsz0 hres0 hb1 hsz1 hrw hbw hg hk
  go_wp2_with (refine store_mi rfl _ _ rfl w.heap.size _ _ rfl rfl nilS nilS rfl rfl hres2 ?_)
  refine bodyPost_ret (ret_mi0 rfl _ _ w.heap.size _ _ rfl (heap_setRow2 hres2)) rfl ?_
  exact ⟨_, _, ls, rs, rfl, HF.out.1, HF.out.2⟩

set_option maxHeartbeats 1000000 in
theorem DrawMarketAll_any (w : World) (A : Option Addr) (L cap : Nat) (hc : L ≤ cap) (hm : L ≤ maxLen) (hx : Code8 w A L) :
    Calls Tryd.prog 39 #[.slice A L cap] w (GivesM0 w) := by
  obtain ⟨W0, hW0⟩ : ∃ W0, w.alloc (.cells (two nilS nilS) 28) = W0 := ⟨_, rfl⟩
  have hb0 : Below w.heap.size w W0 := by rw [← hW0]; exact (Below.refl _ _).alloc (Nat.le_refl _) _
  have hres0 : W0.heap[w.heap.size]? = some (.cells (two nilS nilS) 28 (0, 0)) := by rw [← hW0]; exact World.alloc_heap_new _ _
  have hsz0 : W0.heap.size = w.heap.size + 1 := by rw [← hW0]; simp
  have HO := Lib.hid (open_any W0 A L cap hc hm)
  have HX := Lib.hid (hx.below hb0)
  have HB0 := Lib.hid (And.intro hb0 (And.intro hsz0 hres0))
  clear hx hb0 hsz0 hres0
  go_enter Tryd.func39, Tryd.ntmps39
  go_wp2_with fail
  clear hW0
  refine HO.out.mono ?_
  rintro e w1 ⟨r, M, cap', rfl, hM, hML, hrw, hr, hb1⟩
  have HLM := Lib.hid (market_draw w1 r 0 M cap' A hr ((HX.out.less hML).bytes hb1 r hrw) hM (by omega))
  have HB1 := Lib.hid (And.intro hb1 hrw)
  clear hr hb1 hML
  go_wp2_with fail
  refine HLM.out.mono ?_
  rintro e w2 ⟨A1, c1, A2, n2, c2, ls, rs, q, rfl, hl, hr', h1, h4, -, -, hw⟩
  obtain ⟨hb0, hsz0, hres0⟩ := HB0.out
  have hb1 := HB1.out.1
  have hsz1 := hb1.size
  have hrw := HB1.out.2
  have hres2 : w2.heap[w.heap.size]? = some (.cells (two nilS nilS) 28 (0, 0)) := (hw.block w.heap.size (by omega) (by omega)).trans ((hb1.block w.heap.size (by omega)).trans hres0)
  have hbw : Below w.heap.size w w2 := Below.within (step_below hb0 hb1) hw (by omega)
  have hg := grown_setRow2 w2 w.heap.size (two (.slice A1 ls.length c1) (.slice A2 n2 c2))
  have hk := KT.of_grown hg hres2 (by decide) (by decide)
  have HF : Hid (MkSt w (w2.setRow w.heap.size (two (.slice A1 ls.length c1) (.slice A2 n2 c2))) (.slice A1 ls.length c1) (.slice A2 n2 c2) ls rs ∧ ls.length ≤ 4) := Lib.hid
    ⟨⟨below_setRow2 hbw (Nat.le_refl _) _, (hl.kt hk).rows, (hr'.kt hk).rows⟩, h4⟩
  clear hl hr' h1 h4 hw hb0 hsz0 hres0 hb1 hsz1 hrw hbw hg hk
  go_wp2_with (refine store_mi rfl _ _ rfl w.heap.size _ _ rfl rfl nilS nilS rfl rfl hres2 ?_)
  refine bodyPost_ret (ret_mi0 rfl _ _ w.heap.size _ _ rfl (heap_setRow2 hres2)) rfl ?_
  exact ⟨_, _, ls, rs, rfl, HF.out.1, HF.out.2⟩

set_option maxHeartbeats 1000000 in
theorem DrawMarketTurned_any (w : World) (A : Option Addr) (L cap : Nat) (hc : L ≤ cap) (hm : L ≤ maxLen) (hx : Code8 w A L) :
    Calls Tryd.prog 27 #[.slice A L cap] w (GivesM0 w) := by
  obtain ⟨W0, hW0⟩ : ∃ W0, w.alloc (.cells (two nilS nilS) 28) = W0 := ⟨_, rfl⟩
  have hb0 : Below w.heap.size w W0 := by rw [← hW0]; exact (Below.refl _ _).alloc (Nat.le_refl _) _
  have hres0 : W0.heap[w.heap.size]? = some (.cells (two nilS nilS) 28 (0, 0)) := by rw [← hW0]; exact World.alloc_heap_new _ _
  have hsz0 : W0.heap.size = w.heap.size + 1 := by rw [← hW0]; simp
  have HO := Lib.hid (open_any W0 A L cap hc hm)
  have HX := Lib.hid (hx.below hb0)
  have HB0 := Lib.hid (And.intro hb0 (And.intro hsz0 hres0))
  clear hx hb0 hsz0 hres0
  go_enter Tryd.func27, Tryd.ntmps27
  go_wp2_with fail
  clear hW0
  refine HO.out.mono ?_
  rintro e w1 ⟨r, M, cap', rfl, hM, hML, hrw, hr, hb1⟩
  have HLM := Lib.hid (market_draw w1 r 0 M cap' A hr ((HX.out.less hML).bytes hb1 r hrw) hM (by omega))
  have HB1 := Lib.hid (And.intro hb1 hrw)
  clear hr hb1 hML
  go_wp2_with fail
  refine HLM.out.mono ?_
  rintro e w2 ⟨A1, c1, A2, n2, c2, ls, rs, q, rfl, hl, hr', h1, h4, -, -, hw⟩
  obtain ⟨hb0, hsz0, hres0⟩ := HB0.out
  have hb1 := HB1.out.1
  have hsz1 := hb1.size
  have hrw := HB1.out.2
  have hres2 : w2.heap[w.heap.size]? = some (.cells (two nilS nilS) 28 (0, 0)) := (hw.block w.heap.size (by omega) (by omega)).trans ((hb1.block w.heap.size (by omega)).trans hres0)
  have hbw : Below w.heap.size w w2 := Below.within (step_below hb0 hb1) hw (by omega)
  have hg := grown_setRow2 w2 w.heap.size (two (.slice A1 ls.length c1) (.slice A2 n2 c2))
  have hk := KT.of_grown hg hres2 (by decide) (by decide)
  have HF : Hid (MkSt w (w2.setRow w.heap.size (two (.slice A1 ls.length c1) (.slice A2 n2 c2))) (.slice A1 ls.length c1) (.slice A2 n2 c2) ls rs ∧ ls.length ≤ 4) := Lib.hid
    ⟨⟨below_setRow2 hbw (Nat.le_refl _) _, (hl.kt hk).rows, (hr'.kt hk).rows⟩, h4⟩
  clear hl hr' h1 h4 hw hb0 hsz0 hres0 hb1 hsz1 hrw hbw hg hk
  go_wp2_with (refine store_mi rfl _ _ rfl w.heap.size _ _ rfl rfl nilS nilS rfl rfl hres2 ?_)
  refine bodyPost_ret (ret_mi0 rfl _ _ w.heap.size _ _ rfl (heap_setRow2 hres2)) rfl ?_
  exact ⟨_, _, ls, rs, rfl, HF.out.1, HF.out.2⟩

end Go.Proofs.YtahilcnmjnjcaaaDoor
