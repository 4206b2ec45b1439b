/-
  FnFull: the others of full graphs have no edges.
-/
import Derived.Test.YthafhcocgohjaabDoorDraw1
import Derived.Test.YthafhcocgohjaabDoorSame
import Derived.Test.YthafhcocgohjaabDoorFull
import Derived.Test.YthafhcocgohjaabDoorOtherMath
import Derived.Test.YthafhcocgohjaabDoorImplEdges
namespace Go.Proofs.YthafhcocgohjaabDoor
set_option linter.unusedVariables false
set_option linter.unusedSimpArgs false
open Go.RowKit
set_option maxRecDepth 100000

set_option maxHeartbeats 400000 in
theorem DrawGraphFull_num (w : World) (A : Option Addr) (L cap : Nat) (hc : L ≤ cap) (hm : L ≤ maxLen) (hx : Code8 w A L) :
    Calls Tryd.prog 20 #[.slice A L cap] w fun e w' => ∃ v : Nat, v < 10 ∧ e = .returned (.int .i64 v) ∧ Below w.heap.size w w' := by
  have HO := Lib.hid (number_any w A L cap hc hm hx)
  clear hx hm hc
  go_enter Tryd.func20, Tryd.ntmps20
  go_wp2_with (go_at_call 63; refine HO.out.mono ?_; rintro e w1 ⟨v, hv, rfl, hb1⟩)
  go_ret
  exact ⟨v, hv, rfl, hb1⟩

def fullLits (n : Nat) : List Int := [[], [0], [2, 1], [6, 5, 3], [14, 13, 11, 7], [30, 29, 27, 23, 15], [62, 61, 59, 55, 47, 31], [126, 125, 123, 119, 111, 95, 63], [254, 253, 251, 247, 239, 223, 191, 127]].getD n []
theorem full_lits : ∀ n : Fin 9, 1 ≤ n.val → glist n.val (fullOf n.val) = fullLits n.val := by decide +kernel
theorem full_gin : ∀ n : Fin 9, 1 ≤ n.val → gIn (fullLits n.val) = true ∧ (fullLits n.val).all (fun x => decide (-9223372036854775808 ≤ x ∧ x ≤ 9223372036854775807)) = true := by decide +kernel
theorem full_oth : ∀ n : Fin 9, 1 ≤ n.val → otherOf (fullLits n.val) = List.replicate n.val 0 := by decide +kernel
theorem bare_edges : ∀ n : Fin 9, 1 ≤ n.val → gIn (List.replicate n.val 0) = true ∧ edgesL (List.replicate n.val 0) = [] := by decide +kernel

set_option maxHeartbeats 1000000 in
theorem FnFull_final (w : World) (A : Option Addr) (L cap : Nat) (hc : L ≤ cap) (hm : L ≤ maxLen) (hx : Code8 w A L) (hT : Tab w) :
    Calls Tryd.prog 4 #[.slice A L cap] w fun e w' => e = .returned (.bool true) ∧ Below w.heap.size w w' := by
  have HD := Lib.hid (DrawGraphFull_num w A L cap hc hm hx)
  have HT := Lib.hid hT
  unfold maxLen at hm
  clear hx hT
  by_cases hbig : L ≤ 1048576
  · have e1 : ((1048576 : Int) < (L : Int)) = False := by simp; omega
    go_enter Tryd.func4, Tryd.ntmps4
    go_wp2_with fail
    refine HD.out.mono ?_
    rintro e w1 ⟨n, hn, rfl, hb1⟩
    have hT1 := Lib.hid (HT.out.later hb1)
    by_cases h : n < 1 ∨ 8 < n
    · have HR := Lib.hid (fun W => full_no (n : Int) (by omega) W)
      have HS := Lib.hid (fun W => specFull_no (n : Int) (by omega) W)
      clear h
      go_wp2_with fail
      refine (HR.out _).mono ?_
      rintro e w2 ⟨g0, rfl, hb2, ho2⟩
      go_wp2_with fail
      refine (HS.out _).mono ?_
      rintro e w3 ⟨s0, rfl, hb3, ho3⟩
      go_wp2_with fail
      refine (sameInts_same _ _ _ [] ((ints_of_owns ho2).below hb3) (ints_of_owns ho3)).mono ?_
      rintro e w4 ⟨rfl, q, rfl⟩
      go_wp2_with fail
      refine (sameInts_same _ _ _ [] (((ints_of_owns ho2).below hb3).drewN _) ((ints_of_owns ho3).drewN _)).mono ?_
      rintro e w5 ⟨rfl, q2, rfl⟩
      go_wp2
      go_ret
      exact ⟨rfl, below_drewN (step_below (step_below hb1 hb2) hb3) _⟩
    · have h1 : 1 ≤ n := by omega
      have h8 : n ≤ 8 := by omega
      have hR := fun W => full_yes n h1 h8 W
      have hS := fun W => specFull_yes n h1 h8 W
      have e0 := full_lits ⟨n, by omega⟩ h1
      obtain ⟨hg, hI⟩ := full_gin ⟨n, by omega⟩ h1
      have ho := full_oth ⟨n, by omega⟩ h1
      obtain ⟨hg2, he⟩ := bare_edges ⟨n, by omega⟩ h1
      simp only at e0 hg hI ho hg2 he
      obtain ⟨xs, hxs⟩ : ∃ xs, fullLits n = xs := ⟨_, rfl⟩
      obtain ⟨zs, hzs⟩ : ∃ zs : List Int, List.replicate n 0 = zs := ⟨_, rfl⟩
      have hIz : ∀ x ∈ zs, I64 x := fun x hx => by rw [← hzs] at hx; rw [List.eq_of_mem_replicate hx]; unfold I64; omega
      rw [hxs] at e0 hg hI ho
      rw [hzs] at hg2 he ho
      rw [e0] at hR hS
      have hO := fun W (u : Value) (hW : Ints W u xs) => implOther_any W u xs hW (fun x hx => by simpa [I64] using List.all_eq_true.1 hI x hx)
      rw [hg, ho] at hO
      have hE := fun W (u : Value) (hW : Ints W u zs) (hTW : Tab W) => implEdges_any W u zs hW hIz hTW
      rw [hg2, he] at hE
      have HR := Lib.hid hR
      have HS := Lib.hid hS
      have HO := Lib.hid hO
      have HE := Lib.hid hE
      clear h hR hS hO hE e0 hg hI ho hg2 he hxs hzs hIz
      go_wp2_with fail
      refine (HR.out _).mono ?_
      rintro e w2 ⟨g0, rfl, hb2, ho2⟩
      go_wp2_with fail
      refine (HS.out _).mono ?_
      rintro e w3 ⟨s0, rfl, hb3, ho3⟩
      have HBB := Lib.hid (step_below (step_below hb1 hb2) hb3)
      have HY1 := Lib.hid ((ints_of_owns ho2).below hb3)
      have HY2 := Lib.hid (ints_of_owns ho3)
      clear hb2 hb3 ho2 ho3 hb1
      go_wp2_with fail
      refine (sameInts_same _ _ _ xs HY1.out HY2.out).mono ?_
      rintro e w4 ⟨rfl, q, rfl⟩
      have HB4 := Lib.hid (below_drewN HBB.out q)
      go_wp2_with fail
      refine (HO.out _ _ (HY1.out.drewN q) (HT.out.later HB4.out)).mono ?_
      rintro e w5 ⟨x0, rfl, hb5, ho5⟩
      have HB5 := Lib.hid (step_below HB4.out hb5)
      have HX5 := Lib.hid (ints_of_owns ho5)
      clear hb5 ho5
      go_wp2_with fail
      refine (HE.out _ _ HX5.out (HT.out.later HB5.out)).mono ?_
      rintro e w6 ⟨a0, ua0, rfl, hb6, ho6⟩
      obtain ⟨Aa, ca, rfl, hma, _⟩ := (rows_of_owns ho6).at
      go_wp2
      go_ret
      exact ⟨rfl, step_below HB5.out hb6⟩
  · have e1 : ((1048576 : Int) < (L : Int)) = True := by simp; omega
    go_enter Tryd.func4, Tryd.ntmps4
    go_wp2
    go_ret
    exact ⟨rfl, Below.refl _ _⟩

end Go.Proofs.YthafhcocgohjaabDoor
