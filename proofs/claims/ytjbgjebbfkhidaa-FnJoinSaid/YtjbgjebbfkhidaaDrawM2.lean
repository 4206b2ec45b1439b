/-
  A market and two pairings are drawn: spec.DrawMarketAbove and its like.
-/
import Derived.Test.YtjbgjebbfkhidaaDrawBoth
namespace Go.Proofs.Ytjbgjebbfkhidaa
set_option linter.unusedVariables false
set_option linter.unusedSimpArgs false
open Go.RowKit
set_option maxRecDepth 100000

set_option maxHeartbeats 1000000 in
theorem DrawMarketAbove_any (w : World) (A : Option Addr) (L cap : Nat) (hc : L ≤ cap) (hm : L ≤ maxLen) (hx : Code8 w A L) :
    Calls Try.prog 14 #[.slice A L cap] w (GivesM2 w) := by
  obtain ⟨W0, hW0⟩ : ∃ W0, w.alloc (.cells (two nilS nilS) 25) = W0 := ⟨_, rfl⟩
  have hb0 : Below w.heap.size w W0 := by rw [← hW0]; exact (Below.refl _ _).alloc (Nat.le_refl _) _
  have hres0 : W0.heap[w.heap.size]? = some (.cells (two nilS nilS) 25 (0, 0)) := by rw [← hW0]; exact World.alloc_heap_new _ _
  have HLB := Lib.hid (both_draw W0 A L cap hc hm (hx.below hb0))
  have HB0 := Lib.hid (And.intro hb0 hres0)
  clear hx hb0 hres0
  go_enter Try.func14, Try.ntmps14
  go_wp2_with fail
  clear hW0
  refine HLB.out.mono ?_
  rintro e w2 ⟨L1, R1, v, u, ls, rs, xs, ys, rfl, hl, hr', hv, hu, hb2⟩
  obtain ⟨hb0, hres0⟩ := HB0.out
  have hres2 := kept_obj hb2 hres0
  have hbw := step_below hb0 hb2
  have hg := grown_setRow2 w2 w.heap.size (two L1 R1)
  have hk := KT.of_grown hg hres2 (by decide) (by decide)
  have ho1 := rows_one hl.rows
  have ho2 := rows_one hr'.rows
  have HF : Hid (MkSt w (w2.setRow w.heap.size (two L1 R1)) L1 R1 ls rs ∧ Ints (w2.setRow w.heap.size (two L1 R1)) v xs ∧ Ints (w2.setRow w.heap.size (two L1 R1)) u ys) := Lib.hid
    ⟨⟨below_setRow2 hbw (Nat.le_refl _) _, (hl.kt hk).rows, (hr'.kt hk).rows⟩, (hv.kt hk).ints, (hu.kt hk).ints⟩
  clear hl hr' hv hu hb2 hb0 hres0 hbw hg hk
  go_wp2_with (refine store_mi rfl _ _ rfl w.heap.size _ _ rfl rfl nilS nilS ho1 ho2 hres2 ?_)
  refine bodyPost_ret (ret_mi_ss rfl _ _ w.heap.size _ _ _ _ rfl rfl rfl (heap_setRow2 hres2)) rfl ?_
  exact ⟨_, _, ls, rs, v, xs, u, ys, rfl, HF.out.1, HF.out.2.1, HF.out.2.2⟩

set_option maxHeartbeats 1000000 in
theorem DrawMarketJoin_any (w : World) (A : Option Addr) (L cap : Nat) (hc : L ≤ cap) (hm : L ≤ maxLen) (hx : Code8 w A L) :
    Calls Try.prog 18 #[.slice A L cap] w (GivesM2 w) := by
  obtain ⟨W0, hW0⟩ : ∃ W0, w.alloc (.cells (two nilS nilS) 25) = W0 := ⟨_, rfl⟩
  have hb0 : Below w.heap.size w W0 := by rw [← hW0]; exact (Below.refl _ _).alloc (Nat.le_refl _) _
  have hres0 : W0.heap[w.heap.size]? = some (.cells (two nilS nilS) 25 (0, 0)) := by rw [← hW0]; exact World.alloc_heap_new _ _
  have HLB := Lib.hid (both_draw W0 A L cap hc hm (hx.below hb0))
  have HB0 := Lib.hid (And.intro hb0 hres0)
  clear hx hb0 hres0
  go_enter Try.func18, Try.ntmps18
  go_wp2_with fail
  clear hW0
  refine HLB.out.mono ?_
  rintro e w2 ⟨L1, R1, v, u, ls, rs, xs, ys, rfl, hl, hr', hv, hu, hb2⟩
  obtain ⟨hb0, hres0⟩ := HB0.out
  have hres2 := kept_obj hb2 hres0
  have hbw := step_below hb0 hb2
  have hg := grown_setRow2 w2 w.heap.size (two L1 R1)
  have hk := KT.of_grown hg hres2 (by decide) (by decide)
  have ho1 := rows_one hl.rows
  have ho2 := rows_one hr'.rows
  have HF : Hid (MkSt w (w2.setRow w.heap.size (two L1 R1)) L1 R1 ls rs ∧ Ints (w2.setRow w.heap.size (two L1 R1)) v xs ∧ Ints (w2.setRow w.heap.size (two L1 R1)) u ys) := Lib.hid
    ⟨⟨below_setRow2 hbw (Nat.le_refl _) _, (hl.kt hk).rows, (hr'.kt hk).rows⟩, (hv.kt hk).ints, (hu.kt hk).ints⟩
  clear hl hr' hv hu hb2 hb0 hres0 hbw hg hk
  go_wp2_with (refine store_mi rfl _ _ rfl w.heap.size _ _ rfl rfl nilS nilS ho1 ho2 hres2 ?_)
  refine bodyPost_ret (ret_mi_ss rfl _ _ w.heap.size _ _ _ _ rfl rfl rfl (heap_setRow2 hres2)) rfl ?_
  exact ⟨_, _, ls, rs, v, xs, u, ys, rfl, HF.out.1, HF.out.2.1, HF.out.2.2⟩

set_option maxHeartbeats 1000000 in
theorem DrawMarketMeet_any (w : World) (A : Option Addr) (L cap : Nat) (hc : L ≤ cap) (hm : L ≤ maxLen) (hx : Code8 w A L) :
    Calls Try.prog 22 #[.slice A L cap] w (GivesM2 w) := by
  obtain ⟨W0, hW0⟩ : ∃ W0, w.alloc (.cells (two nilS nilS) 25) = W0 := ⟨_, rfl⟩
  have hb0 : Below w.heap.size w W0 := by rw [← hW0]; exact (Below.refl _ _).alloc (Nat.le_refl _) _
  have hres0 : W0.heap[w.heap.size]? = some (.cells (two nilS nilS) 25 (0, 0)) := by rw [← hW0]; exact World.alloc_heap_new _ _
  have HLB := Lib.hid (both_draw W0 A L cap hc hm (hx.below hb0))
  have HB0 := Lib.hid (And.intro hb0 hres0)
  clear hx hb0 hres0
  go_enter Try.func22, Try.ntmps22
  go_wp2_with fail
  clear hW0
  refine HLB.out.mono ?_
  rintro e w2 ⟨L1, R1, v, u, ls, rs, xs, ys, rfl, hl, hr', hv, hu, hb2⟩
  obtain ⟨hb0, hres0⟩ := HB0.out
  have hres2 := kept_obj hb2 hres0
  have hbw := step_below hb0 hb2
  have hg := grown_setRow2 w2 w.heap.size (two L1 R1)
  have hk := KT.of_grown hg hres2 (by decide) (by decide)
  have ho1 := rows_one hl.rows
  have ho2 := rows_one hr'.rows
  have HF : Hid (MkSt w (w2.setRow w.heap.size (two L1 R1)) L1 R1 ls rs ∧ Ints (w2.setRow w.heap.size (two L1 R1)) v xs ∧ Ints (w2.setRow w.heap.size (two L1 R1)) u ys) := Lib.hid
    ⟨⟨below_setRow2 hbw (Nat.le_refl _) _, (hl.kt hk).rows, (hr'.kt hk).rows⟩, (hv.kt hk).ints, (hu.kt hk).ints⟩
  clear hl hr' hv hu hb2 hb0 hres0 hbw hg hk
  go_wp2_with (refine store_mi rfl _ _ rfl w.heap.size _ _ rfl rfl nilS nilS ho1 ho2 hres2 ?_)
  refine bodyPost_ret (ret_mi_ss rfl _ _ w.heap.size _ _ _ _ rfl rfl rfl (heap_setRow2 hres2)) rfl ?_
  exact ⟨_, _, ls, rs, v, xs, u, ys, rfl, HF.out.1, HF.out.2.1, HF.out.2.2⟩

end Go.Proofs.Ytjbgjebbfkhidaa
