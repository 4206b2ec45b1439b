/-
  laws.markMarket, laws.heldMarket.
-/
import Derived.Test.YtjhjfopokiaiiaaMktEq
import Derived.Test.YtjhjfopokiaiiaaRowsGrow
namespace Go.Proofs.Ytjhjfopokiaiiaa
set_option linter.unusedVariables false
set_option linter.unusedSimpArgs false
open Go.RowKit

theorem OwnsMkt.kept {w w' : World} {lo hi a b : Nat} {L R : Value} {ls rs : List (List Int)} (h : OwnsMkt w lo hi L R ls rs) (hw : Within a b w w') (hd : hi ≤ a ∨ b ≤ lo) : OwnsMkt w' lo hi L R ls rs := by
  obtain ⟨mid, us, us', h1, h2, h3, h4⟩ := h
  exact ⟨mid, us, us', h1, h2, h3.kept hw (by omega), h4.kept hw (by omega)⟩
theorem Within.alloc {lo hi : Nat} {w w' : World} (h : Within lo hi w w') (o : Obj) : Within lo hi w (w'.alloc o) :=
  h.trans (within_alloc lo hi w' o)
where within_alloc (lo hi : Nat) (w : World) (o : Obj) : Within lo hi w (w.alloc o) := ⟨rfl, rfl, rfl, by simp, fun k hk _ => Below.heap_alloc _ _ _ hk⟩
theorem Within.wider {lo hi lo' hi' : Nat} {w w' : World} (h : Within lo hi w w') (hl : lo' ≤ lo) (hh : hi ≤ hi') : Within lo' hi' w w' :=
  ⟨h.os, h.tape, h.output, h.size, fun k hk ho => h.block k hk (by omega)⟩

set_option maxRecDepth 100000 in
set_option maxHeartbeats 2000000 in
theorem markMkt_any (w : World) (lo hi : Nat) (L R : Value) (ls rs : List (List Int)) (k0 : Int) (h : OwnsMkt w lo hi L R ls rs) (hhi : hi ≤ w.heap.size) (hk0 : 0 ≤ k0) (hkt : k0 + total ls + total rs ≤ 1000000000000) :
    Calls Try.prog 16 #[.agg (two L R), .int .i64 k0] w fun e w' => e = .returned (.int .i64 (k0 + total ls + total rs)) ∧ Within lo hi w w' ∧ OwnsMkt w' lo hi L R (markRows k0 ls) (markRows (k0 + total ls) rs) := by
  obtain ⟨mid, us, us', h1, h2, h3, h4⟩ := h
  obtain ⟨W0, hW0⟩ : ∃ W0, w.alloc (.cells (two L R) 29) = W0 := ⟨_, rfl⟩
  have hb0 : Below w.heap.size w W0 := by rw [← hW0]; exact (Below.refl _ _).alloc (Nat.le_refl _) _
  have hbox : W0.heap[w.heap.size]? = some (.cells (two L R) 29 (0, 0)) := by rw [← hW0]; exact World.alloc_heap_new _ _
  have hw0 : Within lo hi w W0 := by rw [← hW0]; exact (Within.refl _ _ _).alloc _
  obtain ⟨x0, x1, xf, _⟩ := two_cells hbox
  have HM1 := Lib.hid (markIntSS_any W0 lo mid L us ls k0 (h3.below hb0) hk0 (by omega))
  obtain ⟨k1, hk1⟩ : ∃ k1 : Int, k0 + total ls = k1 := ⟨_, rfl⟩
  obtain ⟨k2, hk2⟩ : ∃ k2 : Int, k1 + total rs = k2 := ⟨_, rfl⟩
  rw [hk1] at HM1 ⊢
  rw [hk2]
  have HM2 := Lib.hid (fun (W : World) (h : OwnsRows W mid hi R us' rs) => markIntSS_any W mid hi R us' rs k1 h (by omega) (by omega))
  rw [hk2] at HM2
  have HX := Lib.hid (And.intro hw0 (And.intro (h4.below hb0) (And.intro h1 (And.intro h2 hhi))))
  clear hb0 hw0 h3 h4 h1 h2 hhi hk1 hk2
  go_enter Try.func16, Try.ntmps16
  go_wp2_with fail
  clear hW0
  refine HM1.out.mono ?_
  rintro e w1 ⟨rfl, hw1, ho1⟩
  obtain ⟨hw0, h4, h1, h2, hhi⟩ := HX.out
  have hbox1 := (hw1.block _ (Array.getElem?_eq_some_iff.1 hbox).1 (.inr (by omega))).trans hbox
  obtain ⟨y0, y1, _, _⟩ := two_cells hbox1
  have HM3 := Lib.hid (HM2.out w1 (h4.kept hw1 (.inr (Nat.le_refl _))))
  have HY := Lib.hid (And.intro hw0 (And.intro hw1 ho1))
  clear x0 x1 xf hbox hbox1 hw0 h4 hw1 ho1
  go_wp2_with fail
  refine HM3.out.mono ?_
  rintro e w2 ⟨rfl, hw2, ho2⟩
  obtain ⟨hw0, hw1, ho1⟩ := HY.out
  have HZ := Lib.hid (And.intro ((hw0.trans (hw1.wider (Nat.le_refl _) h2)).trans (hw2.wider h1 (Nat.le_refl _))) (And.intro (ho1.kept hw2 (.inl (Nat.le_refl _))) ho2))
  clear hw0 hw1 ho1 hw2 ho2 y0 y1
  go_wp2
  go_ret
  exact ⟨rfl, HZ.out.1, mid, us, us', h1, h2, HZ.out.2.1, HZ.out.2.2⟩


end Go.Proofs.Ytjhjfopokiaiiaa
