/-
  (graph).hasLoneNode, impl.CoverEdges: the fewest edges of an edge cover.
-/
import Derived.Test.YtcklinoiaiilgabDoorImplNums
import Derived.Test.YtcklinoiaiilgabDoorCEdges
import Derived.Deep.RegionWith
namespace Go.Proofs.YtcklinoiaiilgabDoor
set_option linter.unusedVariables false
set_option linter.unusedSimpArgs false
open Go.RowKit

set_option maxRecDepth 100000 in
set_option maxHeartbeats 1000000 in
theorem lone_any (n : Nat) (f : Nat → Nat) (h8 : n ≤ 8) (w : World) :
    Calls Tryd.prog 100 #[.agg (gcells n f)] w fun e w' => e = .returned (.bool (loneB n f)) ∧ Below w.heap.size w w' := by
  have hb : Below w.heap.size w (w.alloc (.cells (gcells n f) 55)) := (Below.refl _ _).alloc (Nat.le_refl _) _
  have hg := World.alloc_heap_new w (.cells (gcells n f) 55)
  obtain ⟨W0, hW0⟩ : ∃ W0, w.alloc (.cells (gcells n f) 55) = W0 := ⟨_, rfl⟩
  rw [hW0] at hb hg
  obtain ⟨c0, cs, _, _⟩ := graph_cells hg
  have CS := Lib.hid cs
  clear cs hg
  go_enter Tryd.func100, Tryd.ntmps100
  go_wp2
  go_loop [6] (fun i => ∃ k : Nat, k ≤ n ∧ i = .int .i64 k ∧ ∀ j, j < k → f j ≠ 0) (fun i => n - (intOf i).toNat)
  case atStart => exact ⟨0, by omega, rfl, fun j hj => by omega⟩
  case round =>
    obtain ⟨k, hk, rfl, hall⟩ := hrel
    have HA := Lib.hid hall
    clear hall
    by_cases hlt : k < n
    · have ck := CS.out k (by omega)
      have hk8 : (k : Int) < 8 := by omega
      by_cases h0 : f k = 0
      · have HV := Lib.hid (loneB_yes hlt h0)
        rw [h0] at ck
        clear h0
        go_wp2
        go_ret
        exact ⟨ret_bool HV.out.symm, hb⟩
      · have hne : (((f k : Nat) : Int) == 0) = false := by rw [beq_eq_false_iff_ne]; omega
        have H0 := Lib.hid h0
        clear h0
        go_wp2
        go_round
        all_goals first | exact ⟨k + 1, by omega, by go_num, fun j hj => if e : j = k then e ▸ H0.out else HA.out j (by omega)⟩ | (simp [intOf]; omega)
    · obtain rfl : k = n := by omega
      have HV := Lib.hid (loneB_no HA.out)
      go_wp2
      go_ret
      exact ⟨ret_bool HV.out.symm, hb⟩

set_option maxRecDepth 100000 in
set_option maxHeartbeats 4000000 in
theorem implCE_any (w : World) (u : Value) (xs : List Int) (h : Ints w u xs) (hr : ∀ x ∈ xs, I64 x) (hT : Tab w) :
    Calls Tryd.prog 52 #[u] w (GivesNum w (ceOk xs) (ceOf xs)) := by
  cases hg : gIn xs with
  | false =>
    have HR := Lib.hid (readC_any w u xs h hr hT 0 _ (from_no hg))
    rw [hg] at HR
    have ho : ceOk xs = false := by unfold ceOk; rw [hg]; rfl
    have ho2 : ceOf xs = 0 := by unfold ceOf; rw [if_neg (by rw [ho]; simp)]
    rw [ho, ho2]
    clear h hr hT ho ho2
    go_enter Tryd.func52, Tryd.ntmps52
    go_wp2_with (first
      | (go_at_call 75; refine HR.out.mono ?_; rintro e w1 ⟨B, rfl, hB, hb1, hM⟩)
      | (refine store_counter_new rfl _ _ rfl 0 (fun _ => 0) B rfl rfl ?_))
    go_ret2
    exact ⟨rfl, hb1.alloc hb1.size _⟩
  | true =>
    obtain ⟨h1, h8, hok⟩ := gIn_parts hg
    have hlt := gfun_lt h8 hok
    have HR := Lib.hid (readC_any w u xs h hr hT _ _ (from_yes hg))
    rw [hg] at HR
    have HT := Lib.hid hT
    have hs := all256 h8
    have HL := Lib.hid hlt
    have HLN := Lib.hid (fun W => lone_any xs.length (gfun xs) h8 W)
    cases hl : loneB xs.length (gfun xs) with
    | true =>
      have ho : ceOk xs = false := by unfold ceOk; rw [hg, hl]; rfl
      have ho2 : ceOf xs = 0 := by unfold ceOf; rw [if_neg (by rw [ho]; simp)]
      rw [hl] at HLN
      rw [ho, ho2]
      clear h hr hT ho ho2 hl hok hlt
      go_enter Tryd.func52, Tryd.ntmps52
      go_wp2_with (first
        | (go_at_call 75; refine HR.out.mono ?_; rintro e w1 ⟨B, rfl, hB, hb1, hM⟩)
        | (refine store_counter_new rfl _ _ rfl xs.length (gfun xs) B rfl rfl ?_; obtain ⟨c0, cs, c9, _, _⟩ := counter_cells (World.alloc_heap_new w1 (.cells (ccells xs.length (gfun xs) B) 62)); have c1 := cs 0 (by decide); have c2 := cs 1 (by decide); have c3 := cs 2 (by decide); have c4 := cs 3 (by decide); have c5 := cs 4 (by decide); have c6 := cs 5 (by decide); have c7 := cs 6 (by decide); have c8 := cs 7 (by decide); clear cs)
        | (go_at_call 100; refine (HLN.out _).mono ?_; rintro e w2 ⟨rfl, hb2⟩))
      go_ret2
      exact ⟨rfl, step_below (hb1.alloc hb1.size _) hb2⟩
    | false =>
      have ho : ceOk xs = true := by unfold ceOk; rw [hg, hl]; rfl
      have hgr := gr_all h8 (gfun xs)
      have ho2 : ceOf xs = (xs.length : Int) - ((gr (gfun xs) (2 ^ xs.length - 1) : Nat) : Int) := ceOf_eq ho
      have HGR := Lib.hid (greatest_any (nums (gfun xs) (2 ^ xs.length - 1)) (gr (gfun xs) (2 ^ xs.length - 1)) gr_le4 (Nat.ne_of_gt (gr_pos hs)) (fun k hk _ => gr_top hs hk))
      obtain ⟨E, hE⟩ : ∃ E, gr (gfun xs) (2 ^ xs.length - 1) = E := ⟨_, rfl⟩
      rw [hE] at HGR hgr ho2
      rw [hl] at HLN
      rw [ho, ho2]
      have hE8 : (E : Int) ≤ 8 := by omega
      have hn8 : (xs.length : Int) ≤ 8 := by omega
      have hsub : (0 : Int) ≤ (xs.length : Int) - (E : Int) := by omega
      have hsub8 : (xs.length : Int) - (E : Int) ≤ 8 := by omega
      have hw1 : IntKind.i64.wrap ((xs.length : Int) - (E : Int)) = (xs.length : Int) - (E : Int) := wraps_i64 _ (by omega) (by omega)
      have hw2 := (wrap_eq _).symm.trans hw1
      have HW := Lib.hid (And.intro hw1 hw2)
      clear h hr hT ho ho2 hl hok hlt hE hgr hw1 hw2
      go_enter Tryd.func52, Tryd.ntmps52
      go_wp2_with (first
        | (go_at_call 75; refine HR.out.mono ?_; rintro e w1 ⟨B, rfl, hB, hb1, hM⟩)
        | (refine store_counter_new rfl _ _ rfl xs.length (gfun xs) B rfl rfl ?_; obtain ⟨c0, cs, c9, _, _⟩ := counter_cells (World.alloc_heap_new w1 (.cells (ccells xs.length (gfun xs) B) 62)); have c1 := cs 0 (by decide); have c2 := cs 1 (by decide); have c3 := cs 2 (by decide); have c4 := cs 3 (by decide); have c5 := cs 4 (by decide); have c6 := cs 5 (by decide); have c7 := cs 6 (by decide); have c8 := cs 7 (by decide); clear cs)
        | (go_at_call 100; refine (HLN.out _).mono ?_; rintro e w2 ⟨rfl, hb2⟩))
      have hBs := hM.lt
      have hblk := (hb2.block w1.heap.size (by simp)).trans (World.alloc_heap_new w1 (.cells (ccells xs.length (gfun xs) B) 62))
      clear c0 c1 c2 c3 c4 c5 c6 c7 c8 c9
      obtain ⟨c0, cs, c9, _, hltc⟩ := counter_cells hblk
      have c1 := cs 0 (by decide)
      have c2 := cs 1 (by decide)
      have c3 := cs 2 (by decide)
      have c4 := cs 3 (by decide)
      have c5 := cs 4 (by decide)
      have c6 := cs 5 (by decide)
      have c7 := cs 6 (by decide)
      have c8 := cs 7 (by decide)
      have hb12 : Below w.heap.size w w2 := step_below (hb1.alloc hb1.size _) hb2
      have hM2 := (hM.below (Below.alloc (Below.refl _ _) (Nat.le_refl _) (.cells (ccells xs.length (gfun xs) B) 62))).below hb2
      have HWH := Lib.hid (whole_read (w1 := w2.drew) h8 HL.out hB hb12.drew (hM2.below (Below.refl _ _).drew) (by omega) HT.out)
      have HBK := Lib.hid hblk
      clear cs hblk hM2
      obtain ⟨hw1, hw2⟩ := HW.out
      go_wp2
      go_region_with (first
        | (go_at_call 90; refine HWH.out.mono ?_; rintro e w3 ⟨rfl, hM3, hb3, hwi3⟩; have hbk3 := (hwi3.block w1.heap.size hltc (.inr (by omega))).trans HBK.out; have d0 := (counter_cells hbk3).1; have hl3 := (Array.getElem?_eq_some_iff.1 hbk3).1; clear hbk3)
        | (go_at_call 92; refine (HGR.out _).mono ?_; rintro e w4 ⟨rfl, hb4⟩; have e0 := (hb4.cell (p := ⟨w1.heap.size, 0, none⟩) hl3).trans d0))
      all_goals (go_wp2; go_ret2; exact ⟨rfl, step_below hb3 hb4⟩)

end Go.Proofs.YtcklinoiaiilgabDoor
