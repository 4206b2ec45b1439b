/-
  impl.CostLeast; the law's walk with both contracts.
-/
import Derived.Test.YtellghhilcjbnaaDoorChs
import Derived.Test.YtellghhilcjbnaaDoorTabs
import Derived.Test.YtellghhilcjbnaaDoorYWhole
import Derived.Test.YtellghhilcjbnaaDoorSpecQLeast
import Derived.Test.YtellghhilcjbnaaDoorLawQLeast
import Derived.Laws.EntriesVeiled
namespace Go.Proofs.YtellghhilcjbnaaDoor
set_option linter.unusedVariables false
set_option linter.unusedSimpArgs false
open Go.RowKit

theorem flat_bound {xss : List (List Int)} (h : cIn xss = true) (k : Nat) : -1000 ≤ flat xss k ∧ flat xss k ≤ 1000 := by
  unfold cIn at h
  rw [Bool.and_eq_true, List.all_eq_true, decide_eq_true_iff] at h
  unfold flat
  by_cases h1 : k / 6 < xss.length
  · have := h.1 _ (List.getElem_mem h1)
    unfold rowC at this
    rw [Bool.and_eq_true, decide_eq_true_iff, List.all_eq_true] at this
    rw [show xss.getD (k / 6) [] = xss[k / 6] by rw [List.getD_eq_getElem?_getD, List.getElem?_eq_getElem h1, Option.getD_some]]
    by_cases h2 : k % 6 < xss[k / 6].length
    · rw [List.getD_eq_getElem?_getD, List.getElem?_eq_getElem h2, Option.getD_some]
      exact numC_yes (this.2 _ (List.getElem_mem h2))
    · rw [List.getD_eq_getElem?_getD, List.getElem?_eq_none (by omega), Option.getD_none]
      omega
  · rw [show xss.getD (k / 6) [] = [] by rw [List.getD_eq_getElem?_getD, List.getElem?_eq_none (by omega), Option.getD_none]]
    simp
/-- The program's choice is the specification's. -/
theorem lq_greedy {xss : List (List Int)} (h : cIn xss = true) : lqOf xss = (greedy (· + ·) 0 (flat xss) (lst (· + ·) 0 (flat xss) xss.length 0 (2 ^ xss.length - 1)) xss.length 0 (2 ^ xss.length - 1) 0).map Int.ofNat ∧ lqC xss = lst (· + ·) 0 (flat xss) xss.length 0 (2 ^ xss.length - 1) := by
  obtain ⟨h1, h6⟩ := cIn_size h
  obtain ⟨b, l, hl⟩ := chI_cons h1 h6
  have hF := flat_bound h
  have hm : 2 ^ xss.length - 1 < 256 := by
    have : 2 ^ xss.length ≤ 2 ^ 6 := Nat.pow_le_pow_right (by decide) h6
    omega
  have := best_greedy addMeas (F := flat xss) (fun _ => trivial) (sum_max hF) (n := xss.length) (by omega) (MI := cost8 xss) (fun p hp => by
    refine cost_meas xss p (fun v hv => ?_) (by rw [chs_len _ _ _ hp]; exact Nat.le_refl _)
    obtain ⟨hv8, hvb⟩ := chs_mem _ _ _ hp v hv
    have hb := hvb hm
    have h64 : 2 ^ xss.length - 1 < 64 := by
      have : 2 ^ xss.length ≤ 2 ^ 6 := Nat.pow_le_pow_right (by decide) h6
      omega
    exact bits_six' ⟨v, hv8⟩ ⟨_, h64⟩ hb) hl (full_len _ h6)
  have e := leastI_eq (M := cost8 xss) hl
  unfold lqOf lqC
  rw [if_pos h, if_pos h, e]
  exact this

theorem bySum_any (w : World) : Calls Tryd.prog 30 #[] w fun e w' => e = .returned (.agg #[.int .i64 0, .func (.func 45) #[] #[]]) ∧ Below w.heap.size w w' := by
  go_enter Tryd.func30, Tryd.ntmps30
  go_wp2
  refine bodyPost_ret (v := .agg #[.int .i64 0, .func (.func 45) #[] #[]]) (results_cell_row rfl _ _ w.heap.size 58 #[.int .i64 0, .func (.func 45) #[] #[]] (0, 0) _ rfl (World.alloc_heap_new _ _) Tryd.underlying58 rfl (by kernel_rfl)) rfl ⟨rfl, (Below.refl _ _).alloc (Nat.le_refl _) _⟩

set_option maxRecDepth 100000 in
theorem chooserOf_any (w : World) (n : Nat) (F : Nat → Int) : Calls Tryd.prog 29 #[.iface 49 (.agg (tcells n F)), .agg #[.int .i64 0, .func (.func 45) #[] #[]]] w fun e w' => ∃ B, e = .returned (.agg (lcells n F 0 45 B)) ∧ Below w.heap.size w w' ∧ w.heap.size ≤ B ∧ MemoI w' B (gS n F) 0 := by
  have hmk : ∀ W : World, (Instr.makeMap 59 none).run Tryd.prog W = .ok (.map (some W.heap.size)) (W.alloc (.map #[] 0)) := fun W => run_makeMap 59 W
  go_enter Tryd.func29, Tryd.ntmps29
  go_wp2
  have hb2 : Below w.heap.size w ((w.alloc (.cells #[.int .i64 0, .func (.func 45) #[] #[]] 58)).alloc (.cells #[.iface 49 (.agg (tcells n F)), .int .i64 0, .func (.func 45) #[] #[], .map (some (w.heap.size + 1 + 1))] 61)) := ((Below.refl _ _).alloc (Nat.le_refl _) _).alloc (by simp) _
  have hg : (((w.alloc (.cells #[.int .i64 0, .func (.func 45) #[] #[]] 58)).alloc (.cells #[.iface 49 (.agg (tcells n F)), .int .i64 0, .func (.func 45) #[] #[], .map (some (w.heap.size + 1 + 1))] 61)).alloc (.map #[] 0)).heap[w.heap.size + 1]? = some (.cells #[.iface 49 (.agg (tcells n F)), .int .i64 0, .func (.func 45) #[] #[], .map (some (w.heap.size + 1 + 1))] 61 (0, 0)) := by
    rw [Below.heap_alloc _ _ _ (by simp)]
    have := World.alloc_heap_new (w.alloc (.cells #[.int .i64 0, .func (.func 45) #[] #[]] 58)) (.cells #[.iface 49 (.agg (tcells n F)), .int .i64 0, .func (.func 45) #[] #[], .map (some (w.heap.size + 1 + 1))] 61)
    rwa [World.size_alloc] at this
  refine bodyPost_ret (v := .agg (lcells n F 0 45 (w.heap.size + 1 + 1))) (results_cell_row rfl _ _ (w.heap.size + 1) 61 (lcells n F 0 45 (w.heap.size + 1 + 1)) (0, 0) _ rfl hg Tryd.underlying61 rfl (show _ = some 4 by kernel_rfl)) rfl ⟨_, rfl, hb2.alloc (by simp; omega) _, by omega, ?_⟩
  have := MemoI.made ((w.alloc (.cells #[.int .i64 0, .func (.func 45) #[] #[]] 58)).alloc (.cells #[.iface 49 (.agg (tcells n F)), .int .i64 0, .func (.func 45) #[] #[], .map (some (w.heap.size + 1 + 1))] 61)) (gS n F)
  rwa [World.size_alloc, World.size_alloc] at this

set_option maxRecDepth 100000 in
set_option maxHeartbeats 400000 in
theorem implQLeast_any (w : World) (v : Value) (xss : List (List Int)) (hv : IntRows w v xss) (hT : Tab w) :
    Calls Tryd.prog 20 #[v] w (GivesIntsN w (cIn xss) (lqOf xss) (lqC xss)) := by
  have hf := cFrom_any w v xss hv
  obtain ⟨A, cap, rfl, hm, -⟩ := hv.at
  clear hv
  cases hci : cIn xss with
  | false =>
    have hfr : cFromOf xss = tcells 0 (fun _ => 0) := by unfold cFromOf; rw [hci]; rfl
    rw [hci, hfr] at hf
    have HF := Lib.hid hf
    clear hf hfr
    go_enter Tryd.func20, Tryd.ntmps20
    go_wp2_with (first
      | (go_at_call 28; refine HF.out.mono ?_; rintro e w1 ⟨rfl, hb1⟩)
      | (refine alloc_whole rfl rfl ?_)
      | (refine store_whole_last rfl _ _ rfl 0 (fun _ => 0) _ rfl rfl rfl ?_))
    go_ret3
    have e1 : lqOf xss = [] := by unfold lqOf; rw [hci]; rfl
    have e2 : lqC xss = 0 := by unfold lqC; rw [hci]; rfl
    unfold GivesIntsN
    rw [e1, e2]
    exact ⟨_, rfl, hb1.alloc hb1.size _, ⟨rfl, .inl ⟨rfl, rfl⟩⟩⟩
  | true =>
    obtain ⟨h1, h6⟩ := cIn_size hci
    have hfr : cFromOf xss = tcells xss.length (flat xss) := by unfold cFromOf; rw [hci]; rfl
    rw [hci, hfr] at hf
    have HF := Lib.hid hf
    have HT := Lib.hid hT
    clear hf hfr hT
    go_enter Tryd.func20, Tryd.ntmps20
    go_wp2_with (first
      | (go_at_call 28; refine HF.out.mono ?_; rintro e w1 ⟨rfl, hb1⟩)
      | (refine alloc_whole rfl rfl ?_)
      | (refine store_whole_last rfl _ _ rfl xss.length (flat xss) _ rfl rfl rfl ?_))
    obtain ⟨W1, hW1⟩ : ∃ W1, w1.alloc (.cells (tcells xss.length (flat xss)) 49) = W1 := ⟨_, rfl⟩
    have hB1 : Below w.heap.size w W1 := by rw [← hW1]; exact hb1.alloc hb1.size _
    have hg1 : W1.heap[w1.heap.size]? = some (.cells (tcells xss.length (flat xss)) 49 (0, 0)) := by rw [← hW1]; exact World.alloc_heap_new _ _
    have hl1 := (Array.getElem?_eq_some_iff.1 hg1).1
    rw [hW1]
    clear hW1
    refine wp_region_held_drew (S := fun w' => w'.heap[w1.heap.size]? = some (.cells (tcells xss.length (flat xss)) 49 (0, 0))) (by kernel_rfl) hg1 (fun hHeld => ?_)
    refine wpAnyH_take (i := 0) rfl (by kernel_rfl) (by kernel_rfl) (by kernel_rfl) (fun _ _ _ h => h) (yieldsIf_whole (by rfl) _ rfl w1.heap.size xss.length (flat xss) rfl (fun w' hw' => hw')) (by assumption) ?_
    try simp only [Act.put, List.setIfInBounds_toArray, List.set_cons_zero, List.set_cons_succ]
    refine wpAnyH_take (i := 1) (v := ?v1) rfl (by kernel_rfl) (by kernel_rfl) (by kernel_rfl) (fun _ _ _ h => h) (Or.inl ⟨by rfl, ?hy1⟩) (by assumption) ?_
    case hy1 =>
      intro w' hSw
      try dsimp only at hSw
      skip
      go_simp
      try with_reducible rfl
    try simp only [Act.put, List.setIfInBounds_toArray, List.set_cons_zero, List.set_cons_succ]
    refine wpAnyH_ready (rs := [2]) (by kernel_rfl) (by simp) (AllReadyH.cons rfl (fun K hK => ?_) AllReadyH.nil)
    go_simp
    go_at_call 30; refine (bySum_any _).mono ?_; rintro e w2 ⟨rfl, hb2⟩
    refine hK.out _ _ ((hb2.block _ hl1).trans hg1) (fun hHeld2 => ?_)
    clear hK K
    try simp only [Act.put, List.setIfInBounds_toArray, List.set_cons_zero, List.set_cons_succ]
    refine wpAnyH_ready (rs := [3]) (by kernel_rfl) (by simp) (AllReadyH.cons rfl (fun K hK => ?_) AllReadyH.nil)
    go_simp
    go_at_call 29; refine (chooserOf_any _ _ _).mono ?_; rintro e w3 ⟨B, rfl, hb3, hB3, hM3⟩
    refine hK.out _ _ ((hb3.block _ (Nat.lt_of_lt_of_le hl1 hb2.size)).trans ((hb2.block _ hl1).trans hg1)) (fun hHeld2 => ?_)
    clear hK K
    try simp only [Act.put, List.setIfInBounds_toArray, List.set_cons_zero, List.set_cons_succ]
    have hM3' := hM3
    have hT3 : Tab w3 := ((HT.out.later hB1).later (undrewL hb2)).later hb3
    have hg3 := (hb3.block _ (Nat.lt_of_lt_of_le hl1 hb2.size)).trans ((hb2.block _ hl1).trans hg1)
    have hsz2 := hb2.size
    have hsB := hB1.size
    refine wpAnyH_ready (rs := [4]) (by kernel_rfl) (by simp) (AllReadyH.cons rfl (fun K hK => ?_) AllReadyH.nil)
    go_simp
    go_at_call 31; refine (first_any xss.length h1 h6 (flat xss) (flat_bound hci) w3 B hM3 hT3 (by have := HT.out.lt; simp at hsz2; omega)).mono ?_; rintro e w4 ⟨u, rfl, hw4, ho4⟩
    refine hK.out _ _ ((hw4.block _ (Nat.lt_of_lt_of_le (Nat.lt_of_lt_of_le hl1 hb2.size) hb3.size) (.inl (by simp at hsz2; omega))).trans hg3) (fun hHeld2 => ?_)
    clear hK K
    try simp only [Act.put, List.setIfInBounds_toArray, List.set_cons_zero, List.set_cons_succ]
    refine wpAnyH_take (i := 5) (v := ?v5) rfl (by kernel_rfl) (by kernel_rfl) (by kernel_rfl) (fun _ _ _ h => h) (Or.inl ⟨by rfl, ?hy5⟩) (by assumption) ?_
    case hy5 =>
      intro w' hSw
      try dsimp only at hSw
      skip
      go_simp
      try with_reducible rfl
    try simp only [Act.put, List.setIfInBounds_toArray, List.set_cons_zero, List.set_cons_succ]
    refine wpAnyH_take (i := 6) (v := ?v6) rfl (by kernel_rfl) (by kernel_rfl) (by kernel_rfl) (fun _ _ _ h => h) (Or.inl ⟨by rfl, ?hy6⟩) (by assumption) ?_
    case hy6 =>
      intro w' hSw
      try dsimp only at hSw
      skip
      go_simp
      try with_reducible rfl
    try simp only [Act.put, List.setIfInBounds_toArray, List.set_cons_zero, List.set_cons_succ]
    refine wpAnyH_take (i := 7) (v := ?v7) rfl (by kernel_rfl) (by kernel_rfl) (by kernel_rfl) (fun _ _ _ h => h) (Or.inl ⟨by rfl, ?hy7⟩) (by assumption) ?_
    case hy7 =>
      intro w' hSw
      try dsimp only at hSw
      skip
      go_simp
      try with_reducible rfl
    try simp only [Act.put, List.setIfInBounds_toArray, List.set_cons_zero, List.set_cons_succ]
    refine wpAnyH_take (i := 8) (v := ?v8) rfl (by kernel_rfl) (by kernel_rfl) (by kernel_rfl) (fun _ _ _ h => h) (Or.inl ⟨by rfl, ?hy8⟩) (by assumption) ?_
    case hy8 =>
      intro w' hSw
      try dsimp only at hSw
      skip
      go_simp
      try with_reducible rfl
    try simp only [Act.put, List.setIfInBounds_toArray, List.set_cons_zero, List.set_cons_succ]
    refine wpAnyH_take (i := 9) (v := ?v9) rfl (by kernel_rfl) (by kernel_rfl) (by kernel_rfl) (fun _ _ _ h => h) (Or.inl ⟨by rfl, ?hy9⟩) (by assumption) ?_
    case hy9 =>
      intro w' hSw
      try dsimp only at hSw
      skip
      go_simp
      try with_reducible rfl
    try simp only [Act.put, List.setIfInBounds_toArray, List.set_cons_zero, List.set_cons_succ]
    refine wpAnyH_done (by kernel_rfl) ?_ _
    obtain ⟨e1, e2⟩ := lq_greedy hci
    have HE := Lib.hid (And.intro e1 (And.intro e2 (And.intro hw4 (And.intro ho4 (And.intro hb3 (And.intro hb2 (And.intro hB1 hB3)))))))
    clear e1 e2 hw4 ho4 hb3 hb2 hB1 hB3 hg1 hg3 hT3 hM3 hM3' hl1 hsz2 hsB
    try simp only [Act.put, List.getElem_toArray, List.getElem_cons_succ, List.getElem_cons_zero, List.setIfInBounds_toArray, List.set_cons_zero, List.set_cons_succ]
    go_wp2
    go_ret3
    obtain ⟨e1, e2, hw4, ho4, hb3, hb2, hB1, hB3⟩ := HE.out
    unfold GivesIntsN
    rw [e1, e2]
    have hs2 := hb2.size
    have hs3 := hb3.size
    have hs1 := hB1.size
    have hb03 := step_below (step_below hB1 (undrewL hb2)) hb3
    refine ⟨_, rfl, ⟨hw4.os.trans hb03.os, hw4.tape.trans hb03.tape, hw4.output.trans hb03.output, Nat.le_trans hb03.size hw4.size, fun k hk => (hw4.block k (by have := hb03.size; omega) (.inl (by simp at hs2; omega))).trans (hb03.block k hk)⟩, owns_mono ho4 hb03.size⟩


end Go.Proofs.YtellghhilcjbnaaDoor
