/-
  (impl.wholeCosts).allow.
-/
import Derived.Test.YtellghhilcjbnaaDoorQFit
import Derived.Test.YtellghhilcjbnaaDoorFinQOf
import Derived.Test.YtellghhilcjbnaaDoorYWhole
import Derived.Deep.RegionLaw
namespace Go.Proofs.YtellghhilcjbnaaDoor
set_option linter.unusedVariables false
set_option linter.unusedSimpArgs false
open Go.RowKit

set_option maxRecDepth 100000 in
set_option maxHeartbeats 4000000 in
theorem allow_any (w : World) (v1 v2 : Value) (xss : List (List Int)) (pr pc : List Int) (f g : Nat → Int) (hci : cIn xss = true) (h1 : Ints w v1 pr) (h2 : Ints w v2 pc) (hl1 : pr.length = xss.length) (hl2 : pc.length = xss.length)
    (hf : ∀ r (hr : r < pr.length), pr[r] = f r ∧ -100000 ≤ f r ∧ f r ≤ 100000) (hg : ∀ c (hc : c < pc.length), pc[c] = g c ∧ -100000 ≤ g c ∧ g c ≤ 100000) :
    Calls Tryd.prog 36 #[.agg (tcells xss.length (flat xss)), v1, v2] w fun e w' => e = .returned (.bool (fitB xss f g)) ∧ Below w.heap.size w w' := by
  obtain ⟨W0, hW0⟩ : ∃ W0, w.alloc (.cells (tcells xss.length (flat xss)) 49) = W0 := ⟨_, rfl⟩
  have hb0 : Below w.heap.size w W0 := by rw [← hW0]; exact (Below.refl _ _).alloc (Nat.le_refl _) _
  have hgW : W0.heap[w.heap.size]? = some (.cells (tcells xss.length (flat xss)) 49 (0, 0)) := by rw [← hW0]; exact World.alloc_heap_new _ _
  have hi1 := h1.below hb0
  have hi2 := h2.below hb0
  obtain ⟨A1, cap1, rfl, hm1, -⟩ := h1
  obtain ⟨A2, cap2, rfl, hm2, -⟩ := h2
  have HI := Lib.hid (And.intro hi1 hi2)
  have HB0 := Lib.hid (And.intro hb0 hgW)
  have HFG := Lib.hid (And.intro hf hg)
  have HCI := Lib.hid hci
  have HLL := Lib.hid (And.intro hl1 hl2)
  have hmi := fun W => iface_whole xss.length (flat xss) W
  obtain ⟨h11, h16⟩ := cIn_size hci
  unfold maxLen at hm1 hm2
  rw [hl1] at hm1 ⊢
  rw [hl2] at hm2 ⊢
  clear hb0 hgW hi1 hi2 hf hg hci hl1 hl2
  go_enter Tryd.func36, Tryd.ntmps36
  go_wp2
  clear hW0
  go_loopw [7, 8, 11] (fun _ _ i wr => ∃ r : Nat, r ≤ xss.length ∧ i = .int .i64 r ∧ (∀ r' c', r' < r → c' < xss.length → fitAt xss f g r' c' = true) ∧ Below W0.heap.size W0 wr) (fun _ _ i _ => xss.length - (intOf i).toNat)
  case atStart => exact ⟨0, by omega, rfl, fun r' c' h => by omega, Below.refl _ _⟩
  case round =>
    obtain ⟨r, hr, rfl, hfit, hb⟩ := hrel
    have HFIT := Lib.hid hfit
    have HB := Lib.hid hb
    clear hfit hb
    by_cases hlr : r < xss.length
    · have hri : (r : Int) < (xss.length : Int) := by omega
      have hr0 : (0 : Int) ≤ (r : Int) := by omega
      go_wp2
      go_loopw [8, 16] (fun _ i wr => ∃ c : Nat, c ≤ xss.length ∧ i = .int .i64 c ∧ (∀ c', c' < c → fitAt xss f g r c' = true) ∧ Below W0.heap.size W0 wr) (fun _ i _ => xss.length - (intOf i).toNat)
      case atStart => exact ⟨0, by omega, rfl, fun c' h => by omega, HB.out⟩
      case round =>
        clear HB
        obtain ⟨c, hcc, rfl, hfc, hb⟩ := hrel
        have HFC := Lib.hid hfc
        clear hfc
        by_cases hlc : c < xss.length
        · have hll := HLL.out
          have hr1 : r < pr.length := by omega
          have hc1 : c < pc.length := by omega
          obtain ⟨A1', cap1', e1, -, hc⟩ := HI.out.1
          obtain ⟨b1, o1, rfl, hcell1⟩ := hc r hr1
          obtain ⟨rfl, -, rfl⟩ : A1 = some ⟨b1, o1, none⟩ ∧ True ∧ cap1 = cap1' := by simpa using e1
          obtain ⟨A2', cap2', e2, -, hc'⟩ := HI.out.2
          obtain ⟨b2, o2, rfl, hcell2⟩ := hc' c hc1
          obtain ⟨rfl, -, rfl⟩ : A2 = some ⟨b2, o2, none⟩ ∧ True ∧ cap2 = cap2' := by simpa using e2
          obtain ⟨hf1, hf2, hf3⟩ := HFG.out.1 r hr1
          obtain ⟨hg1, hg2, hg3⟩ := HFG.out.2 c hc1
          obtain ⟨hc2, hget, hz1, hz2⟩ := cIn_at HCI.out hlr hlc
          have hfl := flat_at xss hlr hc2 (by omega)
          have hat : fitAt xss f g r c = decide (f r + g c ≤ xss[r][c]) := by unfold fitAt; rw [hget]
          obtain ⟨x, hx⟩ : ∃ x, f r = x := ⟨_, rfl⟩
          obtain ⟨y, hy⟩ : ∃ y, g c = y := ⟨_, rfl⟩
          obtain ⟨z, hz⟩ : ∃ z, xss[r][c] = z := ⟨_, rfl⟩
          rw [hx] at hf1 hf2 hf3 hat
          rw [hy] at hg1 hg2 hg3 hat
          rw [hz] at hfl hz1 hz2 hat
          rw [hf1] at hcell1
          rw [hg1] at hcell2
          obtain ⟨s, hs⟩ : ∃ s, x + y = s := ⟨_, rfl⟩
          rw [hs] at hat
          have hci2 : (c : Int) < (xss.length : Int) := by omega
          have hc0 : (0 : Int) ≤ (c : Int) := by omega
          have hsb : -4000000 ≤ s ∧ s ≤ 4000000 := by omega
          have HW := Lib.hid (wrap_near s hsb.1 hsb.2)
          have HAT := Lib.hid hat
          have HCA := Lib.hid (costAt_any wr.drew xss.length (flat xss) r c (by omega) (by omega) z hfl)
          have HCEL := Lib.hid (fun (w3 : World) (hb3 : Below wr.heap.size wr w3) => show w3.cell? ⟨b1, o1 + r, none⟩ = some (.int .i64 x) ∧ w3.cell? ⟨b2, o2 + c, none⟩ = some (.int .i64 y) from by
            have hb4 := step_below hb hb3
            exact ⟨(hb4.cell (p := ⟨b1, o1 + r, none⟩) (World.block_lt_of_cell? W0 _ hcell1)).trans hcell1, (hb4.cell (p := ⟨b2, o2 + c, none⟩) (World.block_lt_of_cell? W0 _ hcell2)).trans hcell2⟩)
          have hgd : wr.drew.heap[w.heap.size]? = some (.cells (tcells xss.length (flat xss)) 49 (0, 0)) := kept_obj hb.drew HB0.out.2
          obtain ⟨f1, f2⟩ := HCEL.out wr.drew (Below.refl wr.heap.size wr).drew
          have HB := Lib.hid hb
          clear hc hc' e1 e2 hf1 hf2 hf3 hg1 hg2 hg3 hget hz1 hz2 hfl hat hx hy hz hsb hcell1 hcell2 hc2 hll hr1 hc1 hb
          by_cases hgt : z < s
          · have HNO : Hid (fitB xss f g = false) := Lib.hid (fitB_no hlr hlc (by rw [HAT.out, decide_eq_false (by omega)]))
            obtain ⟨hw1, hw2⟩ := HW.out
            go_wp2
            apply once_zero (fun (w' : World) => Below wr.heap.size wr w')
            case h1 =>
              refine wp_region_held_drew (S := fun w' => w'.cell? ⟨b1, o1 + r, none⟩ = some (.int .i64 x) ∧ w'.cell? ⟨b2, o2 + c, none⟩ = some (.int .i64 y) ∧ w'.heap[w.heap.size]? = some (.cells (tcells xss.length (flat xss)) 49 (0, 0))) (by kernel_rfl) ⟨f1, f2, hgd⟩ (fun hHeld => ?_)
              refine wpAnyH_take (i := 9) rfl (by kernel_rfl) (by kernel_rfl) (by kernel_rfl) (fun _ _ _ h => h) (yieldsIf_whole (by rfl) _ rfl w.heap.size xss.length (flat xss) rfl (fun w' hw' => hw'.2.2)) (by assumption) ?_
              try simp only [Act.put, List.setIfInBounds_toArray, List.set_cons_zero, List.set_cons_succ]
              refine wpAnyH_take (i := 10) (v := ?v10) rfl (by kernel_rfl) (by kernel_rfl) (by kernel_rfl) (fun _ _ _ h => h) (Or.inl ⟨by rfl, ?hy10⟩) (by assumption) ?_
              case hy10 =>
                intro w' hSw
                try dsimp only at hSw
                obtain ⟨p1, p2, p3⟩ := hSw
                go_simp
                try with_reducible rfl
              try simp only [Act.put, List.setIfInBounds_toArray, List.set_cons_zero, List.set_cons_succ]
              refine wpAnyH_take (i := 0) (v := ?v0) rfl (by kernel_rfl) (by kernel_rfl) (by kernel_rfl) (fun _ _ _ h => h) (Or.inl ⟨by rfl, ?hy0⟩) (by assumption) ?_
              case hy0 =>
                intro w' hSw
                try dsimp only at hSw
                obtain ⟨p1, p2, p3⟩ := hSw
                go_simp
                try with_reducible rfl
              try simp only [Act.put, List.setIfInBounds_toArray, List.set_cons_zero, List.set_cons_succ]
              refine wpAnyH_take (i := 1) (v := ?v1) rfl (by kernel_rfl) (by kernel_rfl) (by kernel_rfl) (fun _ _ _ h => h) (Or.inl ⟨by rfl, ?hy1⟩) (by assumption) ?_
              case hy1 =>
                intro w' hSw
                try dsimp only at hSw
                obtain ⟨p1, p2, p3⟩ := hSw
                go_simp
                try with_reducible rfl
              try simp only [Act.put, List.setIfInBounds_toArray, List.set_cons_zero, List.set_cons_succ]
              refine wpAnyH_take (i := 2) (v := ?v2) rfl (by kernel_rfl) (by kernel_rfl) (by kernel_rfl) (fun _ _ _ h => h) (Or.inl ⟨by rfl, ?hy2⟩) (by assumption) ?_
              case hy2 =>
                intro w' hSw
                try dsimp only at hSw
                obtain ⟨p1, p2, p3⟩ := hSw
                go_simp
                try with_reducible rfl
              try simp only [Act.put, List.setIfInBounds_toArray, List.set_cons_zero, List.set_cons_succ]
              refine wpAnyH_take (i := 3) (v := ?v3) rfl (by kernel_rfl) (by kernel_rfl) (by kernel_rfl) (fun _ _ _ h => h) (Or.inl ⟨by rfl, ?hy3⟩) (by assumption) ?_
              case hy3 =>
                intro w' hSw
                try dsimp only at hSw
                obtain ⟨p1, p2, p3⟩ := hSw
                go_simp
                try with_reducible rfl
              try simp only [Act.put, List.setIfInBounds_toArray, List.set_cons_zero, List.set_cons_succ]
              refine wpAnyH_take (i := 4) (v := ?v4) rfl (by kernel_rfl) (by kernel_rfl) (by kernel_rfl) (fun _ _ _ h => h) (Or.inl ⟨by rfl, ?hy4⟩) (by assumption) ?_
              case hy4 =>
                intro w' hSw
                try dsimp only at hSw
                obtain ⟨p1, p2, p3⟩ := hSw
                go_simp
                try with_reducible rfl
              try simp only [Act.put, List.setIfInBounds_toArray, List.set_cons_zero, List.set_cons_succ]
              refine wpAnyH_take (i := 5) (v := ?v5) rfl (by kernel_rfl) (by kernel_rfl) (by kernel_rfl) (fun _ _ _ h => h) (Or.inl ⟨by rfl, ?hy5⟩) (by assumption) ?_
              case hy5 =>
                intro w' hSw
                try dsimp only at hSw
                obtain ⟨p1, p2, p3⟩ := hSw
                go_simp
                try with_reducible rfl
              try simp only [Act.put, List.setIfInBounds_toArray, List.set_cons_zero, List.set_cons_succ]
              refine wpAnyH_take (i := 6) (v := ?v6) rfl (by kernel_rfl) (by kernel_rfl) (by kernel_rfl) (fun _ _ _ h => h) (Or.inl ⟨by rfl, ?hy6⟩) (by assumption) ?_
              case hy6 =>
                intro w' hSw
                try dsimp only at hSw
                obtain ⟨p1, p2, p3⟩ := hSw
                go_simp
                try with_reducible rfl
              try simp only [Act.put, List.setIfInBounds_toArray, List.set_cons_zero, List.set_cons_succ]
              refine wpAnyH_take (i := 7) (v := ?v7) rfl (by kernel_rfl) (by kernel_rfl) (by kernel_rfl) (fun _ _ _ h => h) (Or.inl ⟨by rfl, ?hy7⟩) (by assumption) ?_
              case hy7 =>
                intro w' hSw
                try dsimp only at hSw
                obtain ⟨p1, p2, p3⟩ := hSw
                go_simp
                try with_reducible rfl
              try simp only [Act.put, List.setIfInBounds_toArray, List.set_cons_zero, List.set_cons_succ]
              refine wpAnyH_take (i := 8) (v := ?v8) rfl (by kernel_rfl) (by kernel_rfl) (by kernel_rfl) (fun _ _ _ h => h) (Or.inl ⟨by rfl, ?hy8⟩) (by assumption) ?_
              case hy8 =>
                intro w' hSw
                try dsimp only at hSw
                obtain ⟨p1, p2, p3⟩ := hSw
                go_simp
                try with_reducible rfl
              try simp only [Act.put, List.setIfInBounds_toArray, List.set_cons_zero, List.set_cons_succ]
              refine wpAnyH_take (i := 11) (v := ?v11) rfl (by kernel_rfl) (by kernel_rfl) (by kernel_rfl) (fun _ _ _ h => h) (Or.inl ⟨by rfl, ?hy11⟩) (by assumption) ?_
              case hy11 =>
                intro w' hSw
                try dsimp only at hSw
                obtain ⟨p1, p2, p3⟩ := hSw
                go_simp
                try with_reducible rfl
              try simp only [Act.put, List.setIfInBounds_toArray, List.set_cons_zero, List.set_cons_succ]
              refine wpAnyH_take (i := 12) (v := ?v12) rfl (by kernel_rfl) (by kernel_rfl) (by kernel_rfl) (fun _ _ _ h => h) (Or.inl ⟨by rfl, ?hy12⟩) (by assumption) ?_
              case hy12 =>
                intro w' hSw
                try dsimp only at hSw
                obtain ⟨p1, p2, p3⟩ := hSw
                go_simp
                try with_reducible rfl
              try simp only [Act.put, List.setIfInBounds_toArray, List.set_cons_zero, List.set_cons_succ]
              refine wpAnyH_ready (rs := [13]) (by kernel_rfl) (by simp) (AllReadyH.cons rfl (fun K hK => ?_) AllReadyH.nil)
              go_simp
              go_at_call 48
              refine HCA.out.mono ?_
              rintro e w3 ⟨rfl, hb3⟩
              refine hK.out _ _ (⟨(HCEL.out w3 (below_undrew hb3)).1, (HCEL.out w3 (below_undrew hb3)).2, kept_obj hb3 hgd⟩) (fun hHeld2 => ?_)
              clear hK K
              try simp only [Act.put, List.setIfInBounds_toArray, List.set_cons_zero, List.set_cons_succ]
              refine wpAnyH_take (i := 14) (v := ?v14) rfl (by kernel_rfl) (by kernel_rfl) (by kernel_rfl) (fun _ _ _ h => h) (Or.inl ⟨by rfl, ?hy14⟩) (by assumption) ?_
              case hy14 =>
                intro w' hSw
                try dsimp only at hSw
                obtain ⟨p1, p2, p3⟩ := hSw
                go_simp
                try with_reducible rfl
              try simp only [Act.put, List.setIfInBounds_toArray, List.set_cons_zero, List.set_cons_succ]
              refine wpAnyH_done (by kernel_rfl) ?_ _
              exact ⟨below_undrew hb3, rfl⟩
            intro w3 hb3
            clear hw1 hw2 hs f1 f2 hgd
            go_wp2
            go_ret
            exact ⟨ret_bool HNO.out.symm, step_below HB0.out.1 (step_below HB.out hb3)⟩
          · have HYES : Hid (fitAt xss f g r c = true) := Lib.hid (by rw [HAT.out, decide_eq_true (by omega)])
            obtain ⟨hw1, hw2⟩ := HW.out
            go_wp2
            apply once_zero (fun (w' : World) => Below wr.heap.size wr w')
            case h1 =>
              refine wp_region_held_drew (S := fun w' => w'.cell? ⟨b1, o1 + r, none⟩ = some (.int .i64 x) ∧ w'.cell? ⟨b2, o2 + c, none⟩ = some (.int .i64 y) ∧ w'.heap[w.heap.size]? = some (.cells (tcells xss.length (flat xss)) 49 (0, 0))) (by kernel_rfl) ⟨f1, f2, hgd⟩ (fun hHeld => ?_)
              refine wpAnyH_take (i := 9) rfl (by kernel_rfl) (by kernel_rfl) (by kernel_rfl) (fun _ _ _ h => h) (yieldsIf_whole (by rfl) _ rfl w.heap.size xss.length (flat xss) rfl (fun w' hw' => hw'.2.2)) (by assumption) ?_
              try simp only [Act.put, List.setIfInBounds_toArray, List.set_cons_zero, List.set_cons_succ]
              refine wpAnyH_take (i := 10) (v := ?vb10) rfl (by kernel_rfl) (by kernel_rfl) (by kernel_rfl) (fun _ _ _ h => h) (Or.inl ⟨by rfl, ?hyb10⟩) (by assumption) ?_
              case hyb10 =>
                intro w' hSw
                try dsimp only at hSw
                obtain ⟨p1, p2, p3⟩ := hSw
                go_simp
                try with_reducible rfl
              try simp only [Act.put, List.setIfInBounds_toArray, List.set_cons_zero, List.set_cons_succ]
              refine wpAnyH_take (i := 0) (v := ?vb0) rfl (by kernel_rfl) (by kernel_rfl) (by kernel_rfl) (fun _ _ _ h => h) (Or.inl ⟨by rfl, ?hyb0⟩) (by assumption) ?_
              case hyb0 =>
                intro w' hSw
                try dsimp only at hSw
                obtain ⟨p1, p2, p3⟩ := hSw
                go_simp
                try with_reducible rfl
              try simp only [Act.put, List.setIfInBounds_toArray, List.set_cons_zero, List.set_cons_succ]
              refine wpAnyH_take (i := 1) (v := ?vb1) rfl (by kernel_rfl) (by kernel_rfl) (by kernel_rfl) (fun _ _ _ h => h) (Or.inl ⟨by rfl, ?hyb1⟩) (by assumption) ?_
              case hyb1 =>
                intro w' hSw
                try dsimp only at hSw
                obtain ⟨p1, p2, p3⟩ := hSw
                go_simp
                try with_reducible rfl
              try simp only [Act.put, List.setIfInBounds_toArray, List.set_cons_zero, List.set_cons_succ]
              refine wpAnyH_take (i := 2) (v := ?vb2) rfl (by kernel_rfl) (by kernel_rfl) (by kernel_rfl) (fun _ _ _ h => h) (Or.inl ⟨by rfl, ?hyb2⟩) (by assumption) ?_
              case hyb2 =>
                intro w' hSw
                try dsimp only at hSw
                obtain ⟨p1, p2, p3⟩ := hSw
                go_simp
                try with_reducible rfl
              try simp only [Act.put, List.setIfInBounds_toArray, List.set_cons_zero, List.set_cons_succ]
              refine wpAnyH_take (i := 3) (v := ?vb3) rfl (by kernel_rfl) (by kernel_rfl) (by kernel_rfl) (fun _ _ _ h => h) (Or.inl ⟨by rfl, ?hyb3⟩) (by assumption) ?_
              case hyb3 =>
                intro w' hSw
                try dsimp only at hSw
                obtain ⟨p1, p2, p3⟩ := hSw
                go_simp
                try with_reducible rfl
              try simp only [Act.put, List.setIfInBounds_toArray, List.set_cons_zero, List.set_cons_succ]
              refine wpAnyH_take (i := 4) (v := ?vb4) rfl (by kernel_rfl) (by kernel_rfl) (by kernel_rfl) (fun _ _ _ h => h) (Or.inl ⟨by rfl, ?hyb4⟩) (by assumption) ?_
              case hyb4 =>
                intro w' hSw
                try dsimp only at hSw
                obtain ⟨p1, p2, p3⟩ := hSw
                go_simp
                try with_reducible rfl
              try simp only [Act.put, List.setIfInBounds_toArray, List.set_cons_zero, List.set_cons_succ]
              refine wpAnyH_take (i := 5) (v := ?vb5) rfl (by kernel_rfl) (by kernel_rfl) (by kernel_rfl) (fun _ _ _ h => h) (Or.inl ⟨by rfl, ?hyb5⟩) (by assumption) ?_
              case hyb5 =>
                intro w' hSw
                try dsimp only at hSw
                obtain ⟨p1, p2, p3⟩ := hSw
                go_simp
                try with_reducible rfl
              try simp only [Act.put, List.setIfInBounds_toArray, List.set_cons_zero, List.set_cons_succ]
              refine wpAnyH_take (i := 6) (v := ?vb6) rfl (by kernel_rfl) (by kernel_rfl) (by kernel_rfl) (fun _ _ _ h => h) (Or.inl ⟨by rfl, ?hyb6⟩) (by assumption) ?_
              case hyb6 =>
                intro w' hSw
                try dsimp only at hSw
                obtain ⟨p1, p2, p3⟩ := hSw
                go_simp
                try with_reducible rfl
              try simp only [Act.put, List.setIfInBounds_toArray, List.set_cons_zero, List.set_cons_succ]
              refine wpAnyH_take (i := 7) (v := ?vb7) rfl (by kernel_rfl) (by kernel_rfl) (by kernel_rfl) (fun _ _ _ h => h) (Or.inl ⟨by rfl, ?hyb7⟩) (by assumption) ?_
              case hyb7 =>
                intro w' hSw
                try dsimp only at hSw
                obtain ⟨p1, p2, p3⟩ := hSw
                go_simp
                try with_reducible rfl
              try simp only [Act.put, List.setIfInBounds_toArray, List.set_cons_zero, List.set_cons_succ]
              refine wpAnyH_take (i := 8) (v := ?vb8) rfl (by kernel_rfl) (by kernel_rfl) (by kernel_rfl) (fun _ _ _ h => h) (Or.inl ⟨by rfl, ?hyb8⟩) (by assumption) ?_
              case hyb8 =>
                intro w' hSw
                try dsimp only at hSw
                obtain ⟨p1, p2, p3⟩ := hSw
                go_simp
                try with_reducible rfl
              try simp only [Act.put, List.setIfInBounds_toArray, List.set_cons_zero, List.set_cons_succ]
              refine wpAnyH_take (i := 11) (v := ?vb11) rfl (by kernel_rfl) (by kernel_rfl) (by kernel_rfl) (fun _ _ _ h => h) (Or.inl ⟨by rfl, ?hyb11⟩) (by assumption) ?_
              case hyb11 =>
                intro w' hSw
                try dsimp only at hSw
                obtain ⟨p1, p2, p3⟩ := hSw
                go_simp
                try with_reducible rfl
              try simp only [Act.put, List.setIfInBounds_toArray, List.set_cons_zero, List.set_cons_succ]
              refine wpAnyH_take (i := 12) (v := ?vb12) rfl (by kernel_rfl) (by kernel_rfl) (by kernel_rfl) (fun _ _ _ h => h) (Or.inl ⟨by rfl, ?hyb12⟩) (by assumption) ?_
              case hyb12 =>
                intro w' hSw
                try dsimp only at hSw
                obtain ⟨p1, p2, p3⟩ := hSw
                go_simp
                try with_reducible rfl
              try simp only [Act.put, List.setIfInBounds_toArray, List.set_cons_zero, List.set_cons_succ]
              refine wpAnyH_ready (rs := [13]) (by kernel_rfl) (by simp) (AllReadyH.cons rfl (fun K hK => ?_) AllReadyH.nil)
              go_simp
              go_at_call 48
              refine HCA.out.mono ?_
              rintro e w3 ⟨rfl, hb3⟩
              refine hK.out _ _ (⟨(HCEL.out w3 (below_undrew hb3)).1, (HCEL.out w3 (below_undrew hb3)).2, kept_obj hb3 hgd⟩) (fun hHeld2 => ?_)
              clear hK K
              try simp only [Act.put, List.setIfInBounds_toArray, List.set_cons_zero, List.set_cons_succ]
              refine wpAnyH_take (i := 14) (v := ?vb14) rfl (by kernel_rfl) (by kernel_rfl) (by kernel_rfl) (fun _ _ _ h => h) (Or.inl ⟨by rfl, ?hyb14⟩) (by assumption) ?_
              case hyb14 =>
                intro w' hSw
                try dsimp only at hSw
                obtain ⟨p1, p2, p3⟩ := hSw
                go_simp
                try with_reducible rfl
              try simp only [Act.put, List.setIfInBounds_toArray, List.set_cons_zero, List.set_cons_succ]
              refine wpAnyH_done (by kernel_rfl) ?_ _
              exact ⟨below_undrew hb3, rfl⟩
            intro w3 hb3
            clear hw1 hw2 hs f1 f2 hgd
            go_wp2
            go_roundw
            all_goals first
              | (refine ⟨c + 1, by omega, by go_num, fun c' h => ?_, step_below HB.out hb3⟩; by_cases e : c' = c; (· subst e; exact HYES.out); exact HFC.out c' (by omega))
              | (simp [intOf]; omega)
        · obtain rfl : c = xss.length := by omega
          have HB := Lib.hid hb
          clear hb
          go_wp2
          go_roundw
          all_goals first
            | (refine ⟨r + 1, by omega, by go_num, fun r' c' h h' => ?_, HB.out⟩; by_cases e : r' = r; (· subst e; exact HFC.out c' h'); exact HFIT.out r' c' (by omega) h')
            | (simp [intOf]; omega)
    · obtain rfl : r = xss.length := by omega
      have HYES : Hid (fitB xss f g = true) := Lib.hid (fitB_yes fun r c hr hc => HFIT.out r c hr hc)
      go_wp2
      go_ret
      exact ⟨ret_bool HYES.out.symm, step_below HB0.out.1 HB.out⟩

end Go.Proofs.YtellghhilcjbnaaDoor
