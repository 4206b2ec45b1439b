/-
  impl.CostPrices.
-/
import Derived.Test.YtellghhilcjbnaaDoorFinQLeast
import Derived.Test.YtellghhilcjbnaaDoorPW
namespace Go.Proofs.YtellghhilcjbnaaDoor
set_option linter.unusedVariables false
set_option linter.unusedSimpArgs false
open Go.RowKit

theorem build_pricer {ops : Array Oper} {rest : List Oper} {o : Oper} {a : Act} {w : World} {Q : Exit → Act → World → Prop} (hgd : o.guard = none) (x y z : Operand) (ho : o.op = .build 67 #[(0, x), (1, y), (2, z)])
    (n : Nat) (F : Nat → Int) (A : Option Addr) (l c : Nat) (B : Option Nat) (hx : a.eval x = .agg (tcells n F)) (hy : a.eval y = .slice A l c) (hz : a.eval z = .map B)
    (h : wpList Tryd.prog ops Q rest (a.put o.dst (.agg (pcells n F (.slice A l c) (.map B)))) w) : wpList Tryd.prog ops Q (o :: rest) a w := by
  have hb : Tryd.prog.built 67 [(0, .agg (tcells n F)), (1, .slice A l c), (2, .map B)] = some (pcells n F (.slice A l c) (.map B)) := by kernel_rfl
  have hr := run_build (P := Tryd.prog) w 67 #[(0, .agg (tcells n F)), (1, .slice A l c), (2, .map B)] _ hb
  refine wpList_plain hgd fun K hK => ?_
  unfold Oper.wp
  simp only [ho, execOp, List.map_toArray, List.map_cons, List.map_nil, hx, hy, hz, Sem.run_bind, hr, Result.andThen_ok, Sem.run_pure]
  exact hK _ _ h

set_option maxRecDepth 100000 in
set_option maxHeartbeats 400000 in
theorem implQPrices_any (w : World) (v : Value) (xss : List (List Int)) (hv : IntRows w v xss) (hT : Tab w) :
    Calls Tryd.prog 10 #[v] w (GivesInts w (cIn xss) (pqOf xss)) := by
  have hf := cFrom_any w v xss hv
  obtain ⟨A, cap, rfl, hm, -⟩ := hv.at
  clear hv
  cases hci : cIn xss with
  | false =>
    have hfr : cFromOf xss = tcells 0 (fun _ => 0) := by unfold cFromOf; rw [hci]; rfl
    rw [hci, hfr] at hf
    have HF := Lib.hid hf
    clear hf hfr
    go_enter Tryd.func10, Tryd.ntmps10
    go_wp2_with (first
      | (go_at_call 28; refine HF.out.mono ?_; rintro e w1 ⟨rfl, hb1⟩)
      | (refine alloc_whole rfl rfl ?_)
      | (refine store_whole_last rfl _ _ rfl 0 (fun _ => 0) _ rfl rfl rfl ?_))
    go_ret2
    have e1 : pqOf xss = [] := by unfold pqOf; rw [hci]; rfl
    unfold GivesInts
    rw [e1]
    exact ⟨_, rfl, hb1.alloc hb1.size _, ⟨rfl, .inl ⟨rfl, rfl⟩⟩⟩
  | true =>
    obtain ⟨h1, h6⟩ := cIn_size hci
    have hfr : cFromOf xss = tcells xss.length (flat xss) := by unfold cFromOf; rw [hci]; rfl
    rw [hci, hfr] at hf
    have HF := Lib.hid hf
    have HT := Lib.hid hT
    clear hf hfr hT
    go_enter Tryd.func10, Tryd.ntmps10
    go_wp2_with (first
      | (go_at_call 28; refine HF.out.mono ?_; rintro e w1 ⟨rfl, hb1⟩)
      | (refine alloc_whole rfl rfl ?_)
      | (refine store_whole_last rfl _ _ rfl xss.length (flat xss) _ rfl rfl rfl ?_))
    obtain ⟨W1, hW1⟩ : ∃ W1, w1.alloc (.cells (tcells xss.length (flat xss)) 49) = W1 := ⟨_, rfl⟩
    have hB1 : Below w.heap.size w W1 := by rw [← hW1]; exact hb1.alloc hb1.size _
    have hg1 : W1.heap[w1.heap.size]? = some (.cells (tcells xss.length (flat xss)) 49 (0, 0)) := by rw [← hW1]; exact World.alloc_heap_new _ _
    have hl1 := (Array.getElem?_eq_some_iff.1 hg1).1
    rw [hW1]
    clear hW1
    refine wp_region_held_drew (S := fun w' => w'.heap[w1.heap.size]? = some (.cells (tcells xss.length (flat xss)) 49 (0, 0))) (by kernel_rfl) hg1 (fun hHeld => ?_)
    refine wpAnyH_take (i := 0) rfl (by kernel_rfl) (by kernel_rfl) (by kernel_rfl) (fun _ _ _ h => h) (yieldsIf_whole (by rfl) _ rfl w1.heap.size xss.length (flat xss) rfl (fun w' hw' => hw')) (by assumption) ?_
    try simp only [Act.put, List.setIfInBounds_toArray, List.set_cons_zero, List.set_cons_succ]
    refine wpAnyH_take (i := 1) (v := ?v1) rfl (by kernel_rfl) (by kernel_rfl) (by kernel_rfl) (fun _ _ _ h => h) (Or.inl ⟨by rfl, ?hy1⟩) (by assumption) ?_
    case hy1 =>
      intro w' hSw
      try dsimp only at hSw
      skip
      go_simp
      try with_reducible rfl
    try simp only [Act.put, List.setIfInBounds_toArray, List.set_cons_zero, List.set_cons_succ]
    refine wpAnyH_ready (rs := [2]) (by kernel_rfl) (by simp) (AllReadyH.cons rfl (fun K hK => ?_) AllReadyH.nil)
    go_simp
    go_at_call 30; refine (bySum_any _).mono ?_; rintro e w2 ⟨rfl, hb2⟩
    refine hK.out _ _ ((hb2.block _ hl1).trans hg1) (fun hHeld2 => ?_)
    clear hK K
    try simp only [Act.put, List.setIfInBounds_toArray, List.set_cons_zero, List.set_cons_succ]
    refine wpAnyH_ready (rs := [3]) (by kernel_rfl) (by simp) (AllReadyH.cons rfl (fun K hK => ?_) AllReadyH.nil)
    go_simp
    go_at_call 29; refine (chooserOf_any _ _ _).mono ?_; rintro e w3 ⟨B, rfl, hb3, hB3, hM3⟩
    refine hK.out _ _ ((hb3.block _ (Nat.lt_of_lt_of_le hl1 hb2.size)).trans ((hb2.block _ hl1).trans hg1)) (fun hHeld2 => ?_)
    clear hK K
    try simp only [Act.put, List.setIfInBounds_toArray, List.set_cons_zero, List.set_cons_succ]
    have hM3' := hM3
    have hT3 : Tab w3 := ((HT.out.later hB1).later (undrewL hb2)).later hb3
    have hg3 := (hb3.block _ (Nat.lt_of_lt_of_le hl1 hb2.size)).trans ((hb2.block _ hl1).trans hg1)
    have hsz2 := hb2.size
    have hsB := hB1.size
    refine wpAnyH_ready (rs := [4]) (by kernel_rfl) (by simp) (AllReadyH.cons rfl (fun K hK => ?_) AllReadyH.nil)
    go_simp
    go_at_call 31; refine (first_any xss.length h1 h6 (flat xss) (flat_bound hci) w3 B hM3 hT3 (by have := HT.out.lt; simp at hsz2; omega)).mono ?_; rintro e w4 ⟨u, rfl, hw4, ho4⟩
    refine hK.out _ _ ((hw4.block _ (Nat.lt_of_lt_of_le (Nat.lt_of_lt_of_le hl1 hb2.size) hb3.size) (.inl (by simp at hsz2; omega))).trans hg3) (fun hHeld2 => ?_)
    clear hK K
    try simp only [Act.put, List.setIfInBounds_toArray, List.set_cons_zero, List.set_cons_succ]
    refine wpAnyH_take (i := 5) (v := ?v5) rfl (by kernel_rfl) (by kernel_rfl) (by kernel_rfl) (fun _ _ _ h => h) (Or.inl ⟨by rfl, ?hy5⟩) (by assumption) ?_
    case hy5 =>
      intro w' hSw
      try dsimp only at hSw
      skip
      go_simp
      try with_reducible rfl
    try simp only [Act.put, List.setIfInBounds_toArray, List.set_cons_zero, List.set_cons_succ]
    refine wpAnyH_take (i := 6) (v := ?v6) rfl (by kernel_rfl) (by kernel_rfl) (by kernel_rfl) (fun _ _ _ h => h) (Or.inl ⟨by rfl, ?hy6⟩) (by assumption) ?_
    case hy6 =>
      intro w' hSw
      try dsimp only at hSw
      skip
      go_simp
      try with_reducible rfl
    try simp only [Act.put, List.setIfInBounds_toArray, List.set_cons_zero, List.set_cons_succ]
    refine wpAnyH_take (i := 7) (v := ?v7) rfl (by kernel_rfl) (by kernel_rfl) (by kernel_rfl) (fun _ _ _ h => h) (Or.inl ⟨by rfl, ?hy7⟩) (by assumption) ?_
    case hy7 =>
      intro w' hSw
      try dsimp only at hSw
      skip
      go_simp
      try with_reducible rfl
    try simp only [Act.put, List.setIfInBounds_toArray, List.set_cons_zero, List.set_cons_succ]
    refine wpAnyH_take (i := 8) (v := ?v8) rfl (by kernel_rfl) (by kernel_rfl) (by kernel_rfl) (fun _ _ _ h => h) (Or.inl ⟨by rfl, ?hy8⟩) (by assumption) ?_
    case hy8 =>
      intro w' hSw
      try dsimp only at hSw
      skip
      go_simp
      try with_reducible rfl
    try simp only [Act.put, List.setIfInBounds_toArray, List.set_cons_zero, List.set_cons_succ]
    refine wpAnyH_take (i := 9) (v := ?v9) rfl (by kernel_rfl) (by kernel_rfl) (by kernel_rfl) (fun _ _ _ h => h) (Or.inl ⟨by rfl, ?hy9⟩) (by assumption) ?_
    case hy9 =>
      intro w' hSw
      try dsimp only at hSw
      skip
      go_simp
      try with_reducible rfl
    try simp only [Act.put, List.setIfInBounds_toArray, List.set_cons_zero, List.set_cons_succ]
    refine wpAnyH_done (by kernel_rfl) ?_ _
    obtain ⟨e1, e2⟩ := lq_greedy hci
    rw [← e1] at ho4
    have hg4 := (hw4.block _ (Nat.lt_of_lt_of_le (Nat.lt_of_lt_of_le hl1 hb2.size) hb3.size) (.inl (by simp at hsz2; omega))).trans hg3
    have hlp := least_p hci
    obtain ⟨A4, c4, hu, hmm, hcc⟩ := ints_of_owns ho4
    have hin4 := ints_of_owns ho4
    rw [(rank_parts hlp.1).1] at hu
    subst hu
    have hpl := pqS_end hci
    have HPL := Lib.hid (plist_any (w4.alloc (.map #[] 0)) xss.length xss rfl h1 hci A4 c4 (lqOf xss) (hin4.below ((Below.refl _ _).alloc (Nat.le_refl _) _)) (choiceAt hlp.1 h6) hlp w4.heap.size 0 _ (ColMap.made w4) (2 * xss.length) rfl)
    rw [hpl] at HPL
    have HE := Lib.hid (And.intro hw4 (And.intro hb3 (And.intro hb2 (And.intro hB1 hB3))))
    have HG4 := Lib.hid hg4
    have HQL := Lib.hid (pq_len hci)
    clear e1 e2 hw4 ho4 hb3 hb2 hB1 hB3 hg1 hg3 hg4 hT3 hM3 hM3' hl1 hsz2 hsB hlp hmm hcc hin4 hpl
    try simp only [Act.put, List.getElem_toArray, List.getElem_cons_succ, List.getElem_cons_zero, List.setIfInBounds_toArray, List.set_cons_zero, List.set_cons_succ]
    have hmk : ∀ W : World, (Instr.makeMap 65 none).run Tryd.prog W = .ok (.map (some W.heap.size)) (W.alloc (.map #[] 0)) := fun W => run_makeMap 65 W
    go_wp2_with (first
      | (refine load_whole rfl _ rfl w1.heap.size xss.length (flat xss) rfl HG4.out ?_)
      | (refine build_pricer rfl _ _ _ rfl xss.length (flat xss) A4 xss.length c4 (some w4.heap.size) rfl rfl rfl ?_))
    refine HPL.out.mono ?_
    rintro e w6 ⟨rfl, ho6, hw6⟩
    have HO6 := Lib.hid (And.intro ho6 hw6)
    clear ho6 hw6
    go_wp2
    go_ret2
    obtain ⟨hw4, hb3, hb2, hB1, hB3⟩ := HE.out
    obtain ⟨ho6, hw6⟩ := HO6.out
    have hs2 := hb2.size
    have hs3 := hb3.size
    have hs1 := hB1.size
    have hs4 := hw4.size
    have hb03 := step_below (step_below hB1 (undrewL hb2)) hb3
    have hb04 : Below w.heap.size w w4 := ⟨hw4.os.trans hb03.os, hw4.tape.trans hb03.tape, hw4.output.trans hb03.output, Nat.le_trans hb03.size hw4.size, fun k hk => (hw4.block k (by have := hb03.size; omega) (.inl (by simp at hs2; omega))).trans (hb03.block k hk)⟩
    have hb05 := hb04.alloc hb04.size (.map #[] 0)
    have hb06 : Below w.heap.size w w6 := Below.within hb05 hw6 hb04.size
    unfold GivesInts
    simp only [World.size_alloc] at ho6
    exact ⟨_, rfl, hb06, by unfold Owns; rw [HQL.out]; exact owns_mono ho6 (by have := hb04.size; omega)⟩

end Go.Proofs.YtellghhilcjbnaaDoor
