/-
  spec.l92Set: a list and a number are drawn.
-/
import Derived.Test.YtcklinoiaiilgabDoorDrawSome
import Derived.Test.YtcklinoiaiilgabDoorSpecLeast
namespace Go.Proofs.YtcklinoiaiilgabDoor
set_option linter.unusedVariables false
set_option linter.unusedSimpArgs false
open Go.RowKit
set_option maxRecDepth 100000

/-- A list and a number that were drawn. -/
def GivesSet (w : World) (most : Nat) (e : Ending) (w' : World) : Prop :=
  ∃ G xs a, e = .returned (.tuple #[.slice (some ⟨G, 0, none⟩) xs.length xs.length, .int .i64 a]) ∧ 1 ≤ xs.length ∧ xs.length ≤ most ∧ (∀ x ∈ xs, I64 x) ∧ I64 a ∧ Below w.heap.size w w' ∧ Ints w' (.slice (some ⟨G, 0, none⟩) xs.length xs.length) xs

/-- How things stand behind the graph. -/
def Stood (w1 : World) (r M cap G : Nat) (A : Option Addr) (xs : List Int) (p : Nat) (W : World) : Prop :=
  W.heap[r]? = some (.cells (rcells A M cap p) 109 (0, 0)) ∧ W.ownsRow w1.heap.size 3 1 (.slice (some ⟨G, 0, none⟩) xs.length xs.length) xs.length (vals xs) ∧ Within r (r + 1) w1 W
theorem Stood.drewN {w1 : World} {r M cap G : Nat} {A : Option Addr} {xs : List Int} {p : Nat} {W : World} (h : Stood w1 r M cap G A xs p W) (q : Nat) : Stood w1 r M cap G A xs p (W.drewN q) :=
  ⟨h.1, h.2.1, h.2.2.drewN q⟩
theorem stood_pick {w1 W : World} {r M cap G p m : Nat} {A : Option Addr} {xs : List Int} (h : Stood w1 r M cap G A xs p W) (hxr : Bytes w1 r A M) (hM : M ≤ 2000) (hrw : r < w1.heap.size) (hp : p ≤ 100000) (hm : 1 ≤ m) (hm2 : m ≤ 1000) :
    Calls Tryd.prog 113 #[.pointer (some ⟨r, 0, none⟩), .int .i64 m] W fun e W' => ∃ v : Nat, v < m ∧ e = .returned (.int .i64 v) ∧ Stood w1 r M cap G A xs (p + 1) W' := by
  refine (pick_any W r p m M cap A h.1 (hxr.within h.2.2) (by omega) hM hm hm2).mono ?_
  rintro e W' ⟨v, hv, rfl, hr4, hw4⟩
  exact ⟨v, hv, rfl, hr4, owns_within (w := w1) h.2.1 hw4 hrw, h.2.2.trans hw4⟩

theorem powN1 : ∀ n : Fin 9, wrap64 (wrap64 (2 ^ n.val) + 1) = ((2 ^ n.val + 1 : Nat) : Int) ∧ IntKind.i64.wrap (IntKind.i64.wrap (2 ^ n.val) + 1) = ((2 ^ n.val + 1 : Nat) : Int) := by decide +kernel
theorem quo23 {v : Nat} (h : v < 24) : ∃ d : Nat, (v : Int) / 23 = (d : Int) ∧ (v : Int).tdiv 23 = (d : Int) ∧ d ≤ 1 := by
  refine ⟨v / 23, by omega, ?_, by omega⟩
  rw [Int.tdiv_eq_ediv_of_nonneg (by omega)]; omega
theorem sub_some (v d : Nat) (hv : v ≤ 1000) (hd : d ≤ 1) : ∃ x : Int, IntKind.i64.wrap ((v : Int) - (d : Int)) = x ∧ wrap64 ((v : Int) - (d : Int)) = x ∧ I64 x := by
  refine ⟨(v : Int) - (d : Int), ?_, ?_, ?_⟩
  · rw [IntKind.wrap_i64]; omega
  · unfold wrap64; omega
  · unfold I64; omega

set_option maxHeartbeats 2000000 in
theorem set_any (w : World) (A : Option Addr) (L cap : Nat) (hc : L ≤ cap) (hm : L ≤ maxLen) (hx : Code8 w A L) :
    Calls Tryd.prog 94 #[.slice A L cap] w (GivesSet w 7) := by
  have HO := Lib.hid (open_any w A L cap hc hm)
  have HX := Lib.hid hx
  clear hx hm hc
  go_enter Tryd.func94, Tryd.ntmps94
  go_wp2_with fail
  refine HO.out.mono ?_
  rintro e w1 ⟨r, M, cap', rfl, hM, hML, hrw, hr, hb1⟩
  have hrl := (Array.getElem?_eq_some_iff.1 hr).1
  have hxr := (HX.out.less hML).bytes hb1 r hrw
  have HP := Lib.hid (graph_any w1 r M cap' 0 7 A hr hxr hM hrl (by omega) (by omega) (by omega))
  have HXR := Lib.hid hxr
  clear hr hxr
  go_wp2_with fail
  refine HP.out.mono ?_
  rintro e w2 ⟨G, xs, p, rfl, h1, h7, hI, hw2, ho2, hp, hr2⟩
  have HS2 := Lib.hid (show Stood w1 r M cap' G A xs p w2 from ⟨hr2, ho2, hw2⟩)
  have HI := Lib.hid hI
  have HCL := Lib.hid (least_some w2 _ xs (ints_vals ho2))
  clear hI ho2 hw2 hr2
  obtain ⟨N1, hN1e⟩ : ∃ N1, 2 ^ xs.length + 1 = N1 := ⟨_, rfl⟩
  have hp9 := powN1 ⟨xs.length, by omega⟩
  simp only at hp9
  rw [hN1e] at hp9
  have HP9 := Lib.hid hp9
  have hN256 : 2 ^ xs.length ≤ 256 := pow8_le (by omega)
  have hl8 : (xs.length : Int) ≤ 8 := by omega
  have hN11 : 1 ≤ N1 := by rw [← hN1e]; exact Nat.le_add_left _ _
  have hN12 : N1 ≤ 1000 := by rw [← hN1e]; exact Nat.le_trans (Nat.succ_le_succ hN256) (by decide)
  clear hp9 hN1e hN256
  go_wp2_with fail
  refine HCL.out.mono ?_
  rintro e w3 ⟨b, ok, hb, rfl, q, rfl⟩
  have HS3 := Lib.hid (HS2.out.drewN q)
  have q0 : p ≤ 100000 := by omega
  have q1 : p + 1 ≤ 100000 := by omega
  have q2 : p + 1 + 1 ≤ 100000 := by omega
  cases ok with
  | true =>
    go_wp2_with fail
    refine (stood_pick (m := 3) HS3.out HXR.out hM hrl q0 (by decide) (by decide)).mono ?_
    rintro e w4 ⟨v, hv, rfl, hS4⟩
    have HS4 := Lib.hid hS4
    clear hS4
    by_cases hv0 : v = 0
    · have e4 : ((v : Int) == 0) = true := by rw [beq_iff_eq]; omega
      clear hv0
      go_wp2
      go_ret2
      exact ⟨G, xs, (b : Int), rfl, h1, h7, HI.out, by unfold I64; omega, Below.within hb1 HS4.out.2.2 hrw, ints_vals HS4.out.2.1⟩
    · have e4 : ((v : Int) == 0) = false := by rw [beq_eq_false_iff_ne]; omega
      obtain ⟨hp1, hp2⟩ := HP9.out
      clear hv0
      go_wp2_with fail
      with_reducible refine (stood_pick (m := N1) HS4.out HXR.out hM hrl q1 hN11 hN12).mono ?_
      rintro e w5 ⟨v5, hv5, rfl, hS5⟩
      have HS5 := Lib.hid hS5
      clear hS5 hp1 hp2
      go_wp2_with fail
      refine (stood_pick (m := 24) HS5.out HXR.out hM hrl q2 (by decide) (by decide)).mono ?_
      rintro e w6 ⟨v6, hv6, rfl, hS6⟩
      have HS6 := Lib.hid hS6
      obtain ⟨d, hd1, hd2, hd3⟩ := quo23 hv6
      obtain ⟨x, hx1, hx2, hx3⟩ := sub_some v5 d (by omega) hd3
      clear hS6 hd3
      go_wp2
      go_ret2
      exact ⟨G, xs, x, rfl, h1, h7, HI.out, hx3, Below.within hb1 HS6.out.2.2 hrw, ints_vals HS6.out.2.1⟩
  | false =>
    obtain ⟨hp1, hp2⟩ := HP9.out
    go_wp2_with fail
    with_reducible refine (stood_pick (m := N1) HS3.out HXR.out hM hrl q0 hN11 hN12).mono ?_
    rintro e w5 ⟨v5, hv5, rfl, hS5⟩
    have HS5 := Lib.hid hS5
    clear hS5 hp1 hp2
    go_wp2_with fail
    refine (stood_pick (m := 24) HS5.out HXR.out hM hrl q1 (by decide) (by decide)).mono ?_
    rintro e w6 ⟨v6, hv6, rfl, hS6⟩
    have HS6 := Lib.hid hS6
    obtain ⟨d, hd1, hd2, hd3⟩ := quo23 hv6
    obtain ⟨x, hx1, hx2, hx3⟩ := sub_some v5 d (by omega) hd3
    clear hS6 hd3
    go_wp2
    go_ret2
    exact ⟨G, xs, x, rfl, h1, h7, HI.out, hx3, Below.within hb1 HS6.out.2.2 hrw, ints_vals HS6.out.2.1⟩

end Go.Proofs.YtcklinoiaiilgabDoor
