/-
  impl.GraphRing, impl.GraphWay and the specification's: what they hand back.
-/
import Derived.Test.YtmjilhddepnekacDoorWayOf
import Derived.Test.YtmjilhddepnekacDoorSpecWay
namespace Go.Proofs.YtmjilhddepnekacDoor
open Go.RowKit

def ringOf (n : Nat) : Nat → Nat := lnk (wayTo (n - 1)) 0 (n - 1)

set_option maxRecDepth 100000 in
set_option maxHeartbeats 400000 in
theorem ring_yes (n : Nat) (h3 : 3 ≤ n) (h8 : n ≤ 8) (w : World) :
    Calls Tryd.prog 49 #[.int .i64 (n : Int)] w (GivesInts w true (glist n (ringOf n))) := by
  have hl := fun W => linked_any n (wayTo (n - 1)) 0 (n - 1) (by omega) (by omega) (wayTo_lt (n - 1) (by omega)) W
  have e0 : ((n - 1 : Nat) : Int) = (n : Int) - 1 := by omega
  rw [e0] at hl
  clear e0
  have HL := Lib.hid hl
  clear hl
  go_enter Tryd.func49, Tryd.ntmps49
  go_wp2_with (first
    | (go_at_call 82; refine (wayOf_yes n (by omega) h8 _).mono ?_; rintro e w1 ⟨rfl, hb1⟩)
    | (refine store_graph_new rfl _ _ rfl n (wayTo (n - 1)) rfl rfl ?_)
    | (refine load_graph rfl _ rfl _ n (wayTo (n - 1)) rfl (World.alloc_heap_new _ _) ?_)
    | (go_at_call 63; refine (HL.out _).mono ?_; rintro e w2 ⟨rfl, hb2⟩)
    | (go_at_call 64; refine (list_any n _ h8 _).mono ?_; rintro e w3 ⟨rfl, hb3, ho⟩))
  go_ret2
  have hb4 := step_below (step_below (hb1.alloc hb1.size _) hb2) hb3
  refine ⟨_, rfl, hb4, owns_mono ho ?_⟩
  have := hb2.size
  have := hb1.size
  simp at *
  omega

set_option maxRecDepth 100000 in
set_option maxHeartbeats 400000 in
theorem ring_no (n : Int) (h : n < 3 ∨ 8 < n) (w : World) :
    Calls Tryd.prog 49 #[.int .i64 n] w (GivesInts w false []) := by
  by_cases h2 : n < 1 ∨ 8 < n
  · have H2 := Lib.hid h2
    go_enter Tryd.func49, Tryd.ntmps49
    go_wp2_with (first
      | (go_at_call 82; refine (wayOf_no n H2.out _).mono ?_; rintro e w1 ⟨rfl, hb1⟩)
      | (refine store_graph_new rfl _ _ rfl 0 (fun _ => 0) rfl rfl ?_))
    go_ret2
    exact ⟨_, rfl, hb1.alloc hb1.size _, World.ownsRow_nil _ _ _ _⟩
  · have h3 : n < 3 := by omega
    obtain ⟨m, rfl⟩ : ∃ m : Nat, n = m := ⟨n.toNat, by omega⟩
    have hm1 : 1 ≤ m := by omega
    clear h2 h
    go_enter Tryd.func49, Tryd.ntmps49
    go_wp2_with (first
      | (go_at_call 82; refine (wayOf_yes m hm1 (by omega) _).mono ?_; rintro e w1 ⟨rfl, hb1⟩)
      | (refine store_graph_new rfl _ _ rfl m (wayTo (m - 1)) rfl rfl ?_))
    go_ret2
    exact ⟨_, rfl, hb1.alloc hb1.size _, World.ownsRow_nil _ _ _ _⟩

set_option maxRecDepth 100000 in
set_option maxHeartbeats 400000 in
theorem specRing_yes (n : Nat) (h3 : 3 ≤ n) (h8 : n ≤ 8) (w : World) :
    Calls Tryd.prog 50 #[.int .i64 (n : Int)] w (GivesInts w true (glist n (ringOf n))) := by
  obtain ⟨f, hf⟩ : ∃ f, wayTo (n - 1) = f := ⟨_, rfl⟩
  have hring : ringOf n = upd (upd f 0 (f 0 ||| 2 ^ (n - 1))) (n - 1) (f (n - 1) ||| 1) := by
    unfold ringOf; rw [hf, lnk_ne _ (by omega)]
  have hlt : ∀ i, f i < 256 := by rw [← hf]; exact wayTo_lt (n - 1) (by omega)
  have hr1 := or_pow (hlt 0) (show n - 1 < 9 by omega)
  have hr2 := or_one (hlt (n - 1))
  have hw := fun W => l1Way_any n (by omega) h8 W
  rw [hf] at hw
  rw [hring]
  have HW := Lib.hid hw
  clear hlt hf hw hring
  go_enter Tryd.func50, Tryd.ntmps50
  go_wp2_with (first
    | (go_at_call 58; refine (l6In_yes n 3 8 (by omega) (by omega) _).mono ?_; rintro e w1 ⟨rfl, rfl⟩)
    | (go_at_call 83; refine (HW.out _).mono ?_; rintro e w1 ⟨rfl, hb1, ho⟩))
  have ho2 : w1.ownsRow w.heap.size 3 1 (.slice (some ⟨w.heap.size, 0, none⟩) n n) n (vals (glist n f)) := by
    have := ho; unfold Owns at this; rwa [glist_len] at this
  have hf1 := ho2.frozenAt 0
  have hf2 := ho2.frozenAt (n - 1)
  have hx1 := (ho2.cellAt 0 (by omega)).trans (glist_cell n f 0 (by omega))
  have hx2 := (ho2.cellAt (n - 1) (by omega)).trans (glist_cell n f (n - 1) (by omega))
  have HO := Lib.hid ho2
  clear ho ho2
  go_region
  go_wp2
  go_ret2
  have e1 := (HO.out.stored 0 (.int .i64 ((f 0 ||| 2 ^ (n - 1) : Nat) : Int))).1
  rw [glist_set] at e1
  have e2 := (e1.stored (n - 1) (.int .i64 ((f (n - 1) ||| 1 : Nat) : Int))).1
  rw [glist_set] at e2
  refine ⟨_, rfl, ((hb1.setCell (p := ⟨w.heap.size, 0, none⟩) (Nat.le_refl _) _).setCell (p := ⟨w.heap.size, n - 1, none⟩) (Nat.le_refl _) _).drew, ?_⟩
  show World.ownsRow _ _ _ _ _ (glist n _).length _
  rw [glist_len]
  exact e2

set_option maxRecDepth 100000 in
set_option maxHeartbeats 400000 in
theorem specRing_no (n : Int) (h : n < 3 ∨ 8 < n) (w : World) :
    Calls Tryd.prog 50 #[.int .i64 n] w (GivesInts w false []) := by
  have H := Lib.hid h
  clear h
  go_enter Tryd.func50, Tryd.ntmps50
  go_wp2_with (go_at_call 58; refine (l6In_no n 3 8 H.out _).mono ?_; rintro e w1 ⟨rfl, rfl⟩)
  go_ret2
  exact ⟨_, rfl, (Below.refl _ _).alloc (Nat.le_refl _) _, owns_empty w _ (Nat.le_refl _)⟩

end Go.Proofs.YtmjilhddepnekacDoor
