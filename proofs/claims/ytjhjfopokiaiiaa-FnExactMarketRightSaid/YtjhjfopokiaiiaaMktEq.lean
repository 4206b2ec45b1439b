/-
  laws.eqMarket.
-/
import Derived.Test.YtjhjfopokiaiiaaMktLaw
namespace Go.Proofs.Ytjhjfopokiaiiaa
set_option linter.unusedVariables false
set_option linter.unusedSimpArgs false
open Go.RowKit

theorem below_drew_of {w W W' : World} (h : Below w.heap.size w W) (q : Nat) (e : W' = W.drewN q) : Below w.heap.size w W' := by rw [e]; exact below_drewN h q

set_option maxRecDepth 100000 in
set_option maxHeartbeats 2000000 in
theorem eqMkt_same (w : World) (L R L' R' : Value) (ls rs : List (List Int)) (hL : IntRows w L ls) (hR : IntRows w R rs) (hL' : IntRows w L' ls) (hR' : IntRows w R' rs) :
    Calls Try.prog 15 #[.agg (two L R), .agg (two L' R')] w fun e w' => e = .returned (.bool true) ∧ Below w.heap.size w w' := by
  obtain ⟨W0, hW0⟩ : ∃ W0, (w.alloc (.cells (two L R) 29)).alloc (.cells (two L' R') 29) = W0 := ⟨_, rfl⟩
  have hb0 : Below w.heap.size w W0 := by rw [← hW0]; exact ((Below.refl _ _).alloc (Nat.le_refl _) _).alloc (by simp) _
  obtain ⟨x0, x1, xf, _⟩ := two_cells (show W0.heap[w.heap.size]? = some (.cells (two L R) 29 (0, 0)) by rw [← hW0]; exact heap_two_old _ _ _)
  obtain ⟨y0, y1, yf, _⟩ := two_cells (show W0.heap[w.heap.size + 1]? = some (.cells (two L' R') 29 (0, 0)) by rw [← hW0]; exact heap_two_new _ _ _)
  have h1 := Lib.hid (eqIntSS_same W0 L L' ls (hL.below hb0) (hL'.below hb0))
  have h2 := Lib.hid (fun q => eqIntSS_same (W0.drewN q) R R' rs ((hR.below hb0).drewN q) ((hR'.below hb0).drewN q))
  have HB0 := Lib.hid hb0
  have z1 : ∀ q, (W0.drewN q).cell? ⟨w.heap.size, 1, none⟩ = some R := fun _ => x1
  have z2 : ∀ q, (W0.drewN q).cell? ⟨w.heap.size + 1, 1, none⟩ = some R' := fun _ => y1
  clear hb0 hL hR hL' hR'
  go_enter Try.func15, Try.ntmps15
  go_wp2_with fail
  clear hW0
  refine h1.out.mono ?_
  rintro e w1 ⟨rfl, q, rfl⟩
  go_wp2_with fail
  refine (h2.out q).mono ?_
  rintro e w2 ⟨rfl, q2, rfl⟩
  go_wp2
  go_ret
  exact ⟨rfl, by simpa using below_drewN HB0.out (q + q2)⟩

/-- A value that is a market and can be read. -/
def ReadsM (w : World) (v : Value) (ls rs : List (List Int)) : Prop := ∃ L R, v = .agg (two L R) ∧ IntRows w L ls ∧ IntRows w R rs
theorem ReadsM.below {w w' : World} {v : Value} {ls rs : List (List Int)} (h : ReadsM w v ls rs) (hb : Below w.heap.size w w') : ReadsM w' v ls rs := by
  obtain ⟨L, R, hv, h1, h2⟩ := h
  exact ⟨L, R, hv, h1.below hb, h2.below hb⟩
theorem kept_obj {W W' : World} {g : Nat} {o : Obj} (hb : Below W.heap.size W W') (h : W.heap[g]? = some o) : W'.heap[g]? = some o :=
  (hb.block _ (Array.getElem?_eq_some_iff.1 h).1).trans h
theorem below_undrew {W W' : World} (h : Below W.drew.heap.size W.drew W') : Below W.heap.size W W' := ⟨h.os, h.tape, h.output, h.size, h.block⟩

theorem toMkt_v (w : World) (L R : Value) (ls rs : List (List Int)) (hL : IntRows w L ls) (hR : IntRows w R rs) (hf : FitsM ls rs) :
    Calls Try.prog 12 #[.agg (two L R)] w fun e w' => ∃ v, e = .returned v ∧ Below w.heap.size w w' ∧ ReadsM w' v ls rs := by
  refine (toMkt_any w L R ls rs hL hR hf).mono ?_
  rintro e w' ⟨A1, n1, c1, A2, n2, c2, rfl, hb, ho⟩
  exact ⟨_, rfl, hb, _, _, rfl, ho.left, ho.right⟩
theorem eqMkt_v (w : World) (L R v : Value) (ls rs : List (List Int)) (hL : IntRows w L ls) (hR : IntRows w R rs) (hv : ReadsM w v ls rs) :
    Calls Try.prog 15 #[.agg (two L R), v] w fun e w' => e = .returned (.bool true) ∧ Below w.heap.size w w' := by
  obtain ⟨L', R', rfl, h1, h2⟩ := hv
  exact eqMkt_same w L R L' R' ls rs hL hR h1 h2
theorem szMkt_yes (ls rs : List (List Int)) (hf : FitsM ls rs) : ∃ l : Nat, l ≤ 1048576 ∧ ∀ (w : World) (L R : Value), IntRows w L ls → IntRows w R rs →
    Calls Try.prog 10 #[.agg (two L R), .int .i64 1048576] w fun e w' => e = .returned (.int .i64 (l : Int)) ∧ Below w.heap.size w w' :=
  ⟨_, Nat.sub_le _ _, fun w L R hL hR => by have := szMkt_any w L R ls rs hL hR; rwa [szM_yes hf] at this⟩
theorem szMkt_no (ls rs : List (List Int)) (hf : ¬ FitsM ls rs) (w : World) (L R : Value) (hL : IntRows w L ls) (hR : IntRows w R rs) :
    Calls Try.prog 10 #[.agg (two L R), .int .i64 1048576] w fun e w' => e = .returned (.int .i64 (-1)) ∧ Below w.heap.size w w' := by
  have := szMkt_any w L R ls rs hL hR
  rwa [szM_no hf] at this

end Go.Proofs.Ytjhjfopokiaiiaa
