/-
  spec.DrawGraphOf: a number of nodes and some edges are drawn.
-/
import Derived.Test.YthafhcocgohjaabDoorDrawStood
import Derived.Test.YthafhcocgohjaabDoorRowsPush
namespace Go.Proofs.YthafhcocgohjaabDoor
set_option linter.unusedVariables false
set_option linter.unusedSimpArgs false
open Go.RowKit
set_option maxRecDepth 100000

/-- How the reader and the edges stand in the loop. -/
def DrawnE (w1 : World) (r M cap : Nat) (A : Option Addr) (q : Nat) (v : Value) (m : Nat) (W : World) : Prop :=
  ∃ p us xss, p ≤ q ∧ W.heap[r]? = some (.cells (rcells A M cap p) 106 (0, 0)) ∧ Within r (r + 1) w1 W ∧ OwnsRows W w1.heap.size W.heap.size v us xss ∧ xss.length = m
theorem drawnE_pick {w1 W : World} {r M cap q k m : Nat} {A : Option Addr} {v : Value} (h : DrawnE w1 r M cap A q v m W) (hxr : Bytes w1 r A M) (hM : M ≤ 2000) (hrw : r < w1.heap.size) (hq : q ≤ 100000) (hk : 1 ≤ k) (hk2 : k ≤ 1000) :
    Calls Tryd.prog 75 #[.pointer (some ⟨r, 0, none⟩), .int .i64 k] W fun e W' => ∃ x : Nat, x < k ∧ e = .returned (.int .i64 x) ∧ DrawnE w1 r M cap A (q + 1) v m W' := by
  obtain ⟨p, us, xss, hp, hr3, hw, ho, hl⟩ := h
  refine (pick_any W r p k M cap A hr3 (hxr.within hw) (by omega) hM hk hk2).mono ?_
  rintro e W' ⟨x, hx, rfl, hr4, hw4⟩
  exact ⟨x, hx, rfl, p + 1, us, xss, by omega, hr4, hw.trans hw4, (ho.kept hw4 (.inr hrw)).wide (Nat.le_refl _) hw4.size, hl⟩

/-- A number of nodes and edges that were drawn. -/
def GivesOf (w : World) (e : Ending) (w' : World) : Prop :=
  ∃ (n : Nat) (v : Value) (xss : List (List Int)), e = .returned (.tuple #[.int .i64 (n : Int), v]) ∧ 1 ≤ n ∧ n ≤ 7 ∧ Below w.heap.size w w' ∧ IntRows w' v xss ∧ xss.length ≤ 20

set_option maxHeartbeats 4000000 in
theorem of_drawn (w : World) (A : Option Addr) (L cap : Nat) (hc : L ≤ cap) (hm : L ≤ maxLen) (hx : Code8 w A L) :
    Calls Tryd.prog 38 #[.slice A L cap] w (GivesOf w) := by
  obtain ⟨i0, hi, hz0, hz1, hz2⟩ := info_parts infoRow
  have HO := Lib.hid (open_any w A L cap hc hm)
  have HX := Lib.hid hx
  clear hx hm hc
  go_enter Tryd.func38, Tryd.ntmps38
  go_wp2_with fail
  refine HO.out.mono ?_
  rintro e w1 ⟨r, M, cap', rfl, hM, hML, hrw, hr, hb1⟩
  have hrl := (Array.getElem?_eq_some_iff.1 hr).1
  have hxr := (HX.out.less hML).bytes hb1 r hrw
  have HXR := Lib.hid hxr
  have H1 := Lib.hid (pick_any w1 r 0 7 M cap' A hr hxr (by omega) hM (by omega) (by omega))
  clear hr hxr
  go_wp2_with fail
  refine H1.out.mono ?_
  rintro e w2 ⟨n0, hn0, rfl, hr2, hw2⟩
  have hn1 : IntKind.i64.wrap (1 + (n0 : Int)) = ((n0 + 1 : Nat) : Int) := by rw [wraps_i64 _ (by omega) (by omega)]; omega
  have hn2 := (wrap_eq _).symm.trans hn1
  obtain ⟨n, hn⟩ : ∃ n, n0 + 1 = n := ⟨_, rfl⟩
  have hnl : 1 ≤ n := by omega
  have hn7 : n ≤ 7 := by omega
  rw [hn] at hn1 hn2
  have hmd := World.ownsRow_made (base := w1.heap.size) (e := 23) (size := 1) w2 #[] 0 hw2.size (Nat.zero_le _) rfl
  have HE2 := Lib.hid (show r < w2.heap.size by have := hw2.size; omega)
  have hD0 : DrawnE w1 r M cap' A 1 (.slice (some ⟨w2.heap.size, 0, none⟩) 0 0) 0 (w2.alloc (.cells #[] 23)) :=
    ⟨1, [], [], Nat.le_refl _, (Below.heap_alloc _ _ _ HE2.out).trans hr2, hw2.trans (within_alloc w2 _ r), owns_rows_nil _ _ _ hmd, rfl⟩
  have HD0 := Lib.hid hD0
  clear hn hn0 hmd hD0 hr2 hw2
  go_wp2_with fail
  refine (drawnE_pick (k := 6) HD0.out HXR.out hM hrl (by decide) (by decide) (by decide)).mono ?_
  rintro e w3 ⟨k, hk, rfl, hD3⟩
  have HD3 := Lib.hid hD3
  clear hD3
  go_wp2_with fail
  go_loopw [6, 8, 9] (fun v i _ wr => ∃ j : Nat, j ≤ k ∧ i = .int .i64 j ∧ DrawnE w1 r M cap' A (2 + 2 * j) v j wr) (fun _ i _ _ => k - (intOf i).toNat)
  case atStart => exact ⟨0, by omega, rfl, HD3.out⟩
  case round =>
    obtain ⟨j, hj, rfl, hD⟩ := hrel
    have HD := Lib.hid hD
    clear hD
    by_cases hlt : j < k
    · have hji : (j : Int) < (k : Int) := by omega
      go_wp2_with fail
      refine (drawnE_pick (k := n) HD.out HXR.out hM hrl (by omega) hnl (by omega)).mono ?_
      rintro e w4 ⟨a, ha, rfl, hD4⟩
      have HD4 := Lib.hid hD4
      clear hD4
      obtain ⟨n1, hn1e⟩ : ∃ n1, n - 1 = n1 := ⟨_, rfl⟩
      have hn1i : (n : Int) - 1 = (n1 : Int) := by omega
      have hnz : ((n : Int) == 0) = false := by rw [beq_eq_false_iff_ne]; omega
      have hnz2 : ¬ (n : Int) = 0 := by omega
      go_wp2_with fail
      · first | with_reducible refine (drawnE_pick (k := n1) HD4.out HXR.out hM hrl (by omega) (by omega) (by omega)).mono ?_ | refine (drawnE_pick (k := 1) HD4.out HXR.out hM hrl (by omega) (by omega) (by omega)).mono ?_
        rintro e w5 ⟨x, hx, rfl, p, us, xss, hp, hr3, hw, ho, hl⟩
        obtain ⟨z, hz⟩ : ∃ z, ((a : Int) + 1 + (x : Int)) % (n : Int) = z := ⟨_, rfl⟩
        have hlo : w1.heap.size ≤ w5.heap.size := hw.size
        have hro := ho.outer.1
        have hlen5 := ho.len
        rw [← hlen5] at hro
        have HO5 := Lib.hid ho
        have hul : us.length < 100 := by omega
        clear ho
        go_wp2_with (at_builtin; (refine wpList_append_own _ rfl _ _ 28 rfl w1.heap.size 23 i0 (.slice none 0 0) 1 24 Tryd.underlying28 hi hz0 hz1 hz2 rfl (by decide) _ _ _ rfl ((hro.alloc _).alloc _) ⟨w5.heap.size + 1, 0, none⟩ 1 1 [.slice (some ⟨w5.heap.size, 0, none⟩) 2 2] rfl rfl ?q1 ?q2 ?q3 ?q4 ?q5 ?_; rotate_left 5; intro v' w6 hown' hgrow _))
        case q1 =>
          have := cell_one_new (w5.alloc (.cells #[.int .i64 (a : Int), .int .i64 z] 3)) (.slice (some ⟨w5.heap.size, 0, none⟩) 2 2) 23
          rw [World.size_alloc] at this
          exact this
        case q2 => intro z hz; rw [List.mem_singleton.1 hz]; rfl
        case q3 => unfold maxLen; omega
        case q4 => omega
        case q5 => simp; omega
        have hin : Owns ((w5.alloc (.cells #[.int .i64 (a : Int), .int .i64 z] 3)).alloc (.cells #[.slice (some ⟨w5.heap.size, 0, none⟩) 2 2] 23)) w5.heap.size (.slice (some ⟨w5.heap.size, 0, none⟩) 2 2) [(a : Int), z] :=
          (World.ownsRow_lit (base := w5.heap.size) (e := 3) (size := 1) w5 #[.int .i64 (a : Int), .int .i64 z] 2 (Nat.le_refl _) (by unfold maxLen; omega) (by simp)).alloc _
        have hb4 : Below w5.heap.size w5 ((w5.alloc (.cells #[.int .i64 (a : Int), .int .i64 z] 3)).alloc (.cells #[.slice (some ⟨w5.heap.size, 0, none⟩) 2 2] 23)) := ((Below.refl _ _).alloc (Nat.le_refl _) _).alloc (by simp) _
        have hps := HO5.out.push hlo hb4 hin hown' hgrow
        have hb6 : Below w1.heap.size w5 w6 := (hb4.mono hlo).grown hgrow (Nat.le_trans hlo hb4.size) (fun b hb => (hro.lt b hb).1)
        have hw6 : Within r (r + 1) w1 w6 := ⟨hb6.os.trans hw.os, hb6.tape.trans hw.tape, hb6.output.trans hw.output, Nat.le_trans hw.size hb6.size, fun k hk hk2 => (hb6.block k hk).trans (hw.block k hk hk2)⟩
        have HPS := Lib.hid hps
        have HW6 := Lib.hid hw6
        have HR6 := Lib.hid ((hb6.block r hrl).trans hr3)
        clear hps hw6 hb6 hin hb4 hown' hgrow hro hr3 hw hz
        go_wp2
        go_roundw
        all_goals first
          | (refine ⟨j + 1, by omega, by go_num, p, us ++ [.slice (some ⟨w5.heap.size, 0, none⟩) 2 2], xss ++ [[(a : Int), z]], by omega, HR6.out, HW6.out, HPS.out, by simp [hl]⟩)
          | (simp [intOf]; omega)
      · first | with_reducible refine (drawnE_pick (k := n1) HD4.out HXR.out hM hrl (by omega) (by omega) (by omega)).mono ?_ | refine (drawnE_pick (k := 1) HD4.out HXR.out hM hrl (by omega) (by omega) (by omega)).mono ?_
        rintro e w5 ⟨x, hx, rfl, p, us, xss, hp, hr3, hw, ho, hl⟩
        obtain ⟨z, hz⟩ : ∃ z, ((a : Int) + 1 + (x : Int)) % (n : Int) = z := ⟨_, rfl⟩
        have hlo : w1.heap.size ≤ w5.heap.size := hw.size
        have hro := ho.outer.1
        have hlen5 := ho.len
        rw [← hlen5] at hro
        have HO5 := Lib.hid ho
        have hul : us.length < 100 := by omega
        clear ho
        go_wp2_with (at_builtin; (refine wpList_append_own _ rfl _ _ 28 rfl w1.heap.size 23 i0 (.slice none 0 0) 1 24 Tryd.underlying28 hi hz0 hz1 hz2 rfl (by decide) _ _ _ rfl ((hro.alloc _).alloc _) ⟨w5.heap.size + 1, 0, none⟩ 1 1 [.slice (some ⟨w5.heap.size, 0, none⟩) 2 2] rfl rfl ?q1 ?q2 ?q3 ?q4 ?q5 ?_; rotate_left 5; intro v' w6 hown' hgrow _))
        case q1 =>
          have := cell_one_new (w5.alloc (.cells #[.int .i64 (a : Int), .int .i64 z] 3)) (.slice (some ⟨w5.heap.size, 0, none⟩) 2 2) 23
          rw [World.size_alloc] at this
          exact this
        case q2 => intro z hz; rw [List.mem_singleton.1 hz]; rfl
        case q3 => unfold maxLen; omega
        case q4 => omega
        case q5 => simp; omega
        have hin : Owns ((w5.alloc (.cells #[.int .i64 (a : Int), .int .i64 z] 3)).alloc (.cells #[.slice (some ⟨w5.heap.size, 0, none⟩) 2 2] 23)) w5.heap.size (.slice (some ⟨w5.heap.size, 0, none⟩) 2 2) [(a : Int), z] :=
          (World.ownsRow_lit (base := w5.heap.size) (e := 3) (size := 1) w5 #[.int .i64 (a : Int), .int .i64 z] 2 (Nat.le_refl _) (by unfold maxLen; omega) (by simp)).alloc _
        have hb4 : Below w5.heap.size w5 ((w5.alloc (.cells #[.int .i64 (a : Int), .int .i64 z] 3)).alloc (.cells #[.slice (some ⟨w5.heap.size, 0, none⟩) 2 2] 23)) := ((Below.refl _ _).alloc (Nat.le_refl _) _).alloc (by simp) _
        have hps := HO5.out.push hlo hb4 hin hown' hgrow
        have hb6 : Below w1.heap.size w5 w6 := (hb4.mono hlo).grown hgrow (Nat.le_trans hlo hb4.size) (fun b hb => (hro.lt b hb).1)
        have hw6 : Within r (r + 1) w1 w6 := ⟨hb6.os.trans hw.os, hb6.tape.trans hw.tape, hb6.output.trans hw.output, Nat.le_trans hw.size hb6.size, fun k hk hk2 => (hb6.block k hk).trans (hw.block k hk hk2)⟩
        have HPS := Lib.hid hps
        have HW6 := Lib.hid hw6
        have HR6 := Lib.hid ((hb6.block r hrl).trans hr3)
        clear hps hw6 hb6 hin hb4 hown' hgrow hro hr3 hw hz
        go_wp2
        go_roundw
        all_goals first
          | (refine ⟨j + 1, by omega, by go_num, p, us ++ [.slice (some ⟨w5.heap.size, 0, none⟩) 2 2], xss ++ [[(a : Int), z]], by omega, HR6.out, HW6.out, HPS.out, by simp [hl]⟩)
          | (simp [intOf]; omega)
    · obtain rfl : j = k := by omega
      have hjj : ¬ (j : Int) < (j : Int) := by omega
      go_wp2_with fail
      refine (drawnE_pick (k := 24) HD.out HXR.out hM hrl (by omega) (by omega) (by omega)).mono ?_
      rintro e w5 ⟨x, hx, rfl, p, us, xss, hp, hr3, hw, ho, hl⟩
      by_cases hx0 : x = 0
      · have e4 : ((x : Int) == 0) = true := by rw [beq_iff_eq]; omega
        clear hx0
        have hlo : w1.heap.size ≤ w5.heap.size := hw.size
        have hro := ho.outer.1
        have hlen5 := ho.len
        rw [← hlen5] at hro
        have HO5 := Lib.hid ho
        have hul : us.length < 100 := by omega
        clear ho
        go_wp2_with (at_builtin; (refine wpList_append_own _ rfl _ _ 28 rfl w1.heap.size 23 i0 (.slice none 0 0) 1 24 Tryd.underlying28 hi hz0 hz1 hz2 rfl (by decide) _ _ _ rfl ((hro.alloc _).alloc _) ⟨w5.heap.size + 1, 0, none⟩ 1 1 [.slice (some ⟨w5.heap.size, 0, none⟩) 2 2] rfl rfl ?q1 ?q2 ?q3 ?q4 ?q5 ?_; rotate_left 5; intro v' w6 hown' hgrow _))
        case q1 =>
          have := cell_one_new (w5.alloc (.cells #[.int .i64 0, .int .i64 (n : Int)] 3)) (.slice (some ⟨w5.heap.size, 0, none⟩) 2 2) 23
          rw [World.size_alloc] at this
          exact this
        case q2 => intro z hz; rw [List.mem_singleton.1 hz]; rfl
        case q3 => unfold maxLen; omega
        case q4 => omega
        case q5 => simp; omega
        have hin : Owns ((w5.alloc (.cells #[.int .i64 0, .int .i64 (n : Int)] 3)).alloc (.cells #[.slice (some ⟨w5.heap.size, 0, none⟩) 2 2] 23)) w5.heap.size (.slice (some ⟨w5.heap.size, 0, none⟩) 2 2) [(0 : Int), (n : Int)] :=
          (World.ownsRow_lit (base := w5.heap.size) (e := 3) (size := 1) w5 #[.int .i64 0, .int .i64 (n : Int)] 2 (Nat.le_refl _) (by unfold maxLen; omega) (by simp)).alloc _
        have hb4 : Below w5.heap.size w5 ((w5.alloc (.cells #[.int .i64 0, .int .i64 (n : Int)] 3)).alloc (.cells #[.slice (some ⟨w5.heap.size, 0, none⟩) 2 2] 23)) := ((Below.refl _ _).alloc (Nat.le_refl _) _).alloc (by simp) _
        have hps := HO5.out.push hlo hb4 hin hown' hgrow
        have hb6 : Below w1.heap.size w5 w6 := (hb4.mono hlo).grown hgrow (Nat.le_trans hlo hb4.size) (fun b hb => (hro.lt b hb).1)
        have hw6 : Within r (r + 1) w1 w6 := ⟨hb6.os.trans hw.os, hb6.tape.trans hw.tape, hb6.output.trans hw.output, Nat.le_trans hw.size hb6.size, fun k hk hk2 => (hb6.block k hk).trans (hw.block k hk hk2)⟩
        go_ret2
        exact ⟨n, v', _, rfl, hnl, hn7, Below.within hb1 hw6 hrw, rows_of_owns hps, by simp; omega⟩
      · have e4 : ((x : Int) == 0) = false := by rw [beq_eq_false_iff_ne]; omega
        clear hx0
        go_wp2
        go_ret2
        exact ⟨n, _, xss, rfl, hnl, hn7, Below.within hb1 hw hrw, rows_of_owns ho, by omega⟩

end Go.Proofs.YthafhcocgohjaabDoor
