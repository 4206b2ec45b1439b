/-
  FT: ImplTG LawTGraph FinTGraph.
-/
import Derived.Test.YtjijkgmeddeihaaDoorFrom
import Derived.Test.YtjijkgmeddeihaaDoorSpecTG
import Derived.Test.YtjijkgmeddeihaaDoorGives
import Derived.Test.YtjijkgmeddeihaaDoorNum
import Derived.Test.YtjijkgmeddeihaaDoorToInts
import Derived.Test.YtjijkgmeddeihaaDoorEqInts
import Derived.Test.YtjijkgmeddeihaaDoorMarkInts
import Derived.Test.YtjijkgmeddeihaaDoorRows2
import Derived.Test.YtjijkgmeddeihaaDoorRowsGrow
import Derived.Test.YtjijkgmeddeihaaDoorTz
import Derived.Test.YtjijkgmeddeihaaDoorIn
import Derived.Test.YtjijkgmeddeihaaDoorLK
import Derived.Test.YtjijkgmeddeihaaDoorPow
/-
  impl.tableGraphFrom: a graph of at most six nodes.
-/
namespace Go.Proofs.YtjijkgmeddeihaaDoor
set_option linter.unusedVariables false
set_option linter.unusedSimpArgs false
open Go.RowKit

/-- What is read. -/
def tgFrom (xs : List Int) : Array Value := if tgOk xs = true then gcells xs.length (gfun xs) else gcells 0 (fun _ => 0)
abbrev zG : Array Value := #[.int .i64 0, .int .i64 0, .int .i64 0, .int .i64 0, .int .i64 0, .int .i64 0, .int .i64 0, .int .i64 0, .int .i64 0]
theorem run_mkG (W : World) : (Instr.build 39 #[]).run Tryd.prog W = .ok (.agg (gcells 0 fun _ => 0)) W := run_build W 39 _ _ (by kernel_rfl)
theorem build_G0 {ops : Array Oper} {rest : List Oper} {o : Oper} {a : Act} {w : World} {Q : Exit → Act → World → Prop} (hgd : o.guard = none) (ho : o.op = .build 39 #[])
    (h : wpList Tryd.prog ops Q rest (a.put o.dst (.agg (gcells 0 fun _ => 0))) w) : wpList Tryd.prog ops Q (o :: rest) a w := by
  refine wpList_plain hgd fun K hK' => ?_
  unfold Oper.wp
  simp only [execOp, ho, List.map_toArray, List.map_cons, List.map_nil, run_mkG, Result.andThen, Sem.run_bind, Sem.run_pure]
  exact hK' _ _ h

set_option maxRecDepth 100000 in
set_option maxHeartbeats 2000000 in
theorem tgFrom_any (w : World) (v : Value) (xs : List Int) (h : Ints w v xs) (hr : ∀ x ∈ xs, I64 x) (hT : Tab w) :
    Calls Tryd.prog 22 #[v] w fun e w' => e = .returned (.tuple #[.agg (tgFrom xs), .bool (tgOk xs)]) ∧ Below w.heap.size w w' := by
  have hb0 : Below w.heap.size w (w.alloc (.cells zG 39)) := (Below.refl _ _).alloc (Nat.le_refl _) _
  have hf := from_any (w.alloc (.cells zG 39)) v xs (h.below hb0) hr (hT.later hb0)
  have hz := World.alloc_heap_new w (.cells zG 39)
  obtain ⟨W0, hW0⟩ : ∃ W0, w.alloc (.cells zG 39) = W0 := ⟨_, rfl⟩
  have hsz0 : W0.heap.size = w.heap.size + 1 := by rw [← hW0]; simp
  rw [hW0] at hf hb0 hz
  cases hg : gIn xs with
  | false =>
    have hfr : fromOf xs = gcells 0 (fun _ => 0) := by simp [fromOf, hg]
    have hok : tgOk xs = false := by unfold tgOk; rw [hg]; rfl
    have htf : tgFrom xs = gcells 0 (fun _ => 0) := by unfold tgFrom; rw [hok]; rfl
    rw [hg, hfr] at hf
    rw [hok, htf]
    have HF := Lib.hid hf
    clear hf hfr hT hr h hg hok htf
    go_enter Tryd.func22, Tryd.ntmps22
    go_wp2_with (first
      | (go_at_call 36; refine HF.out.mono ?_; rintro e w1 ⟨rfl, hb1⟩)
      | (refine store_graph_new rfl _ _ rfl 0 (fun _ => 0) rfl rfl ?_)
      | (refine build_G0 rfl rfl ?_)
      | (refine store_graph rfl _ _ rfl w.heap.size 0 (fun _ => 0) rfl rfl 0 (fun _ => 0) ?hs ?_))
    case hs =>
      have hs1 := hb1.size
      rw [Below.heap_alloc _ _ _ (by omega)]
      exact (hb1.block _ (by omega)).trans hz
    have hs1 := hb1.size
    have hz3 : (w1.alloc (.cells (gcells 0 fun _ => 0) 39)).heap[w.heap.size]? = some (.cells zG 39 (0, 0)) := by
      rw [Below.heap_alloc _ _ _ (by omega)]
      exact (hb1.block _ (by omega)).trans hz
    refine bodyPost_ret (v := .tuple #[.agg (gcells 0 fun _ => 0), .bool false]) (ret_graph2 rfl _ _ w.heap.size _ _ _ rfl rfl (heap_setRow_same hz3)) rfl ⟨rfl, below_setRow ?_ (Nat.le_refl _) _⟩
    exact ((hb0.trans (hb1.mono (by omega))).alloc (by omega) _)
  | true =>
    obtain ⟨h1, h8, -⟩ := gIn_parts hg
    have hfr : fromOf xs = gcells xs.length (gfun xs) := by simp [fromOf, hg]
    rw [hg, hfr] at hf
    by_cases h6 : xs.length ≤ 6
    · have hok : tgOk xs = true := by unfold tgOk; rw [hg, decide_eq_true h6]; rfl
      have htf : tgFrom xs = gcells xs.length (gfun xs) := by unfold tgFrom; rw [if_pos hok]
      rw [hok, htf]
      have h6' : ¬ (6 : Int) < (xs.length : Int) := by omega
      have HF := Lib.hid hf
      clear hf hfr hT hr h hg hok htf
      go_enter Tryd.func22, Tryd.ntmps22
      go_wp2_with (first
        | (go_at_call 36; refine HF.out.mono ?_; rintro e w1 ⟨rfl, hb1⟩)
        | (refine store_graph_new rfl _ _ rfl xs.length (gfun xs) rfl rfl ?_; have c0 := (graph_cells (World.alloc_heap_new w1 (.cells (gcells xs.length (gfun xs)) 39))).1)
        | (refine load_graph rfl _ rfl _ xs.length (gfun xs) rfl (World.alloc_heap_new w1 (.cells (gcells xs.length (gfun xs)) 39)) ?_)
        | (refine store_graph rfl _ _ rfl w.heap.size xs.length (gfun xs) rfl rfl 0 (fun _ => 0) ?hs ?_))
      case hs =>
        have hs1 := hb1.size
        rw [Below.heap_alloc _ _ _ (by omega)]
        exact (hb1.block _ (by omega)).trans hz
      have hs1 := hb1.size
      have hz3 : (w1.alloc (.cells (gcells xs.length (gfun xs)) 39)).heap[w.heap.size]? = some (.cells zG 39 (0, 0)) := by
        rw [Below.heap_alloc _ _ _ (by omega)]
        exact (hb1.block _ (by omega)).trans hz
      refine bodyPost_ret (v := .tuple #[.agg (gcells xs.length (gfun xs)), .bool true]) (ret_graph2 rfl _ _ w.heap.size _ _ _ rfl rfl (heap_setRow_same hz3)) rfl ⟨rfl, below_setRow ?_ (Nat.le_refl _) _⟩
      exact ((hb0.trans (hb1.mono (by omega))).alloc (by omega) _)
    · have hok : tgOk xs = false := by unfold tgOk; rw [hg, decide_eq_false h6]; rfl
      have htf : tgFrom xs = gcells 0 (fun _ => 0) := by unfold tgFrom; rw [hok]; rfl
      rw [hok, htf]
      have h6' : (6 : Int) < (xs.length : Int) := by omega
      have HF := Lib.hid hf
      clear hf hfr hT hr h hg hok htf
      go_enter Tryd.func22, Tryd.ntmps22
      go_wp2_with (first
        | (go_at_call 36; refine HF.out.mono ?_; rintro e w1 ⟨rfl, hb1⟩)
        | (refine store_graph_new rfl _ _ rfl xs.length (gfun xs) rfl rfl ?_; have c0 := (graph_cells (World.alloc_heap_new w1 (.cells (gcells xs.length (gfun xs)) 39))).1)
        | (refine build_G0 rfl rfl ?_)
        | (refine store_graph rfl _ _ rfl w.heap.size 0 (fun _ => 0) rfl rfl 0 (fun _ => 0) ?hs ?_))
      case hs =>
        have hs1 := hb1.size
        rw [Below.heap_alloc _ _ _ (by omega)]
        exact (hb1.block _ (by omega)).trans hz
      have hs1 := hb1.size
      have hz3 : (w1.alloc (.cells (gcells xs.length (gfun xs)) 39)).heap[w.heap.size]? = some (.cells zG 39 (0, 0)) := by
        rw [Below.heap_alloc _ _ _ (by omega)]
        exact (hb1.block _ (by omega)).trans hz
      refine bodyPost_ret (v := .tuple #[.agg (gcells 0 fun _ => 0), .bool false]) (ret_graph2 rfl _ _ w.heap.size _ _ _ rfl rfl (heap_setRow_same hz3)) rfl ⟨rfl, below_setRow ?_ (Nat.le_refl _) _⟩
      exact ((hb0.trans (hb1.mono (by omega))).alloc (by omega) _)

end Go.Proofs.YtjijkgmeddeihaaDoor

/-
  FnExactTableGraph: at every input what the program hands back is what the specification does, in memory of its own; the arguments stay as they were.
-/
namespace Go.Proofs.YtjijkgmeddeihaaDoor
set_option linter.unusedVariables false
set_option linter.unusedSimpArgs false
open Go.RowKit

set_option maxRecDepth 100000 in
set_option maxHeartbeats 4000000 in
theorem FnExactTableGraph_walk (w : World) (v0 : Value) (xs0 : List Int) (h0 : Ints w v0 xs0) (hT : Tab w) (ok : Bool) (ys : List (List Int)) (hly : ys.length + total ys ≤ 1048576)
    (hs : ∀ W p0, Ints W p0 xs0 → Calls Tryd.prog 6 #[p0] W (GivesRows W ok ys)) (hi : ∀ W p0, Ints W p0 xs0 → Tab W → Calls Tryd.prog 8 #[p0] W (GivesRows W ok ys)) :
    Calls Tryd.prog 3 #[v0] w fun e w' => e = .returned (.bool true) ∧ Below w.heap.size w w' := by
  have hv0 := h0
  obtain ⟨A0, cap0, rfl, hm0, _⟩ := h0
  have HV0 := Lib.hid hv0
  clear hv0
  unfold maxLen at hm0
  have HT := Lib.hid hT
  clear hT
  have HS := Lib.hid hs
  have HI := Lib.hid hi
  clear hs hi
  by_cases hl0 : xs0.length ≤ 1048576
  · have hl0' : ¬ (1048576 : Int) < (xs0.length : Int) := by omega
    go_enter Tryd.func3, Tryd.ntmps3
    go_wp2_with fail
    refine (toIntS_any (w) _ xs0 (HV0.out.below (Below.refl _ _)) (by omega)).mono ?_
    rintro e w1 ⟨rfl, hb1, b1⟩
    have hb1' : Below w.heap.size w w1 := step_below (Below.refl _ _) hb1
    have c0_1 := OwnsAt.of b1
    go_wp2_with fail
    refine (HS.out (w1) _ (ints_at_owns c0_1)).mono ?_
    rintro e w2 ⟨v2, us2, rfl, hb2, o_2⟩
    have c0_2 := c0_1.below hb2
    have hb2' : Below w.heap.size w w2 := step_below (hb1') hb2
    go_wp2_with fail
    refine (toIntS_any (w2) _ xs0 (HV0.out.below (hb2')) (by omega)).mono ?_
    rintro e w3 ⟨rfl, hb3, b3⟩
    have o_3 := o_2.below hb3
    have hb3' : Below w.heap.size w w3 := step_below (hb2') hb3
    have x0_3 := OwnsAt.of b3
    go_wp2_with fail
    refine (HI.out (w3) _ (ints_at_owns x0_3) (HT.out.later (hb3'))).mono ?_
    rintro e w4 ⟨v4, us4, rfl, hb4, g_4⟩
    have o_4 := o_3.below hb4
    have x0_4 := x0_3.below hb4
    have hb4' : Below w.heap.size w w4 := step_below (hb3') hb4
    go_wp2_with fail
    refine (eqIntSS_same (w4) _ _ ys (rows_of_owns g_4) (rows_of_owns o_4)).mono ?_
    rintro e w5 ⟨rfl, q5, rfl⟩
    have o_5 := o_4.drewN q5
    have x0_5 := x0_4.drewN q5
    have g_5 := g_4.drewN q5
    have hb5' := below_drewN (hb4') q5
    go_wp2_with fail
    refine (toIntS_any (w4.drewN q5) _ xs0 (HV0.out.below (hb5')) (by omega)).mono ?_
    rintro e w6 ⟨rfl, hb6, b6⟩
    have o_6 := o_5.below hb6
    have x0_6 := x0_5.below hb6
    have g_6 := g_5.below hb6
    have hb6' : Below w.heap.size w w6 := step_below (hb5') hb6
    have cc_6 := OwnsAt.of b6
    go_wp2_with fail
    refine (eqIntS_same (w6) _ _ xs0 (ints_at_owns x0_6) (ints_at_owns cc_6)).mono ?_
    rintro e w7 ⟨rfl, q7, rfl⟩
    have o_7 := o_6.drewN q7
    have x0_7 := x0_6.drewN q7
    have g_7 := g_6.drewN q7
    have cc_7 := cc_6.drewN q7
    have hb7' := below_drewN (hb6') q7
    go_wp2_with fail
    refine (markIntS_any (w6.drewN q7) _ _ xs0 (1) x0_7.1 (by omega) (by omega)).mono ?_
    rintro e w8 ⟨rfl, g8, m8⟩
    have hw8 := Within.of_grown g8 (fun k hk => ⟨(x0_7.1.lt k hk).1, x0_7.2 k hk⟩)
    have o_8 := o_7.kept hw8 (.inl (Nat.le_refl _))
    have g_8 := g_7.kept hw8 (.inr (Nat.le_refl _))
    have hb8' : Below w.heap.size w w8 := Below.within (hb7') hw8 ((Nat.le_trans hb1.size hb2.size))
    go_wp2_with fail
    refine (eqIntSS_same (w8) _ _ ys (rows_of_owns g_8) (rows_of_owns o_8)).mono ?_
    rintro e w9 ⟨rfl, q9, rfl⟩
    have o_9 := o_8.drewN q9
    have g_9 := g_8.drewN q9
    have hb9' := below_drewN (hb8') q9
    go_wp2_with fail
    refine (markIntSS_any (w8.drewN q9) _ _ _ _ ys (1) g_9 (by omega) (by omega)).mono ?_
    rintro e w10 ⟨rfl, hw10, m10⟩
    have o_10 := o_9.kept hw10 (.inl (hb3.size))
    have hb10' : Below w.heap.size w w10 := Below.within (hb9') hw10 ((Nat.le_trans hb1.size (Nat.le_trans hb2.size hb3.size)))
    have g_10 := m10
    go_wp2_with fail
    refine (heldIntSS_any (w10) _ 1 ys (rows_of_owns g_10) (by omega) (by omega)).mono ?_
    rintro e w11 ⟨rfl, rfl⟩
    go_wp2_with fail
    refine (toIntS_any (w10) _ xs0 (HV0.out.below (hb10')) (by omega)).mono ?_
    rintro e w12 ⟨rfl, hb12, b12⟩
    have o_12 := o_10.below hb12
    have g_12 := g_10.below hb12
    have hb12' : Below w.heap.size w w12 := step_below (hb10') hb12
    have d0_12 := OwnsAt.of b12
    go_wp2_with fail
    refine (HI.out (w12) _ (ints_at_owns d0_12) (HT.out.later (hb12'))).mono ?_
    rintro e w13 ⟨v13, us13, rfl, hb13, h_13⟩
    have o_13 := o_12.below hb13
    have g_13 := g_12.below hb13
    have d0_13 := d0_12.below hb13
    have hb13' : Below w.heap.size w w13 := step_below (hb12') hb13
    go_wp2_with fail
    refine (eqIntSS_same (w13) _ _ ys (rows_of_owns h_13) (rows_of_owns o_13)).mono ?_
    rintro e w14 ⟨rfl, q14, rfl⟩
    have o_14 := o_13.drewN q14
    have g_14 := g_13.drewN q14
    have h_14 := h_13.drewN q14
    have hb14' := below_drewN (hb13') q14
    go_wp2_with fail
    refine (heldIntSS_any (w13.drewN q14) _ 1 ys (rows_of_owns g_14) (by omega) (by omega)).mono ?_
    rintro e w15 ⟨rfl, rfl⟩
    go_wp2
    go_ret
    exact ⟨rfl, hb14'⟩
  · have hl0' : (1048576 : Int) < (xs0.length : Int) := by omega
    go_enter Tryd.func3, Tryd.ntmps3
    go_wp2
    go_ret
    exact ⟨rfl, Below.refl _ _⟩

end Go.Proofs.YtjijkgmeddeihaaDoor

/-
  impl.TableGraph; the law's walk with both contracts.
-/
namespace Go.Proofs.YtjijkgmeddeihaaDoor
set_option linter.unusedVariables false
set_option linter.unusedSimpArgs false
open Go.RowKit

theorem tgOk_facts {xs : List Int} (h : tgOk xs = true) : gIn xs = true ∧ xs.length ≤ 6 := by
  unfold tgOk at h
  rw [Bool.and_eq_true, decide_eq_true_iff] at h
  exact h
set_option maxRecDepth 100000 in
set_option maxHeartbeats 1000000 in
theorem implTG_any (w : World) (v : Value) (xs : List Int) (h : Ints w v xs) (hr : ∀ x ∈ xs, I64 x) (hT : Tab w) :
    Calls Tryd.prog 8 #[v] w (GivesRows w (tgOk xs) (tgOf xs)) := by
  have hf := tgFrom_any w v xs h hr hT
  cases ht : tgOk xs with
  | false =>
    have hfr : tgFrom xs = gcells 0 (fun _ => 0) := by unfold tgFrom; rw [ht]; rfl
    have ho : tgOf xs = [] := by unfold tgOf; rw [ht]; rfl
    rw [ht, hfr] at hf
    rw [ho]
    have HF := Lib.hid hf
    clear hf hfr hT hr h ht ho
    go_enter Tryd.func8, Tryd.ntmps8
    go_wp2_with (first
      | (go_at_call 22; refine HF.out.mono ?_; rintro e w1 ⟨rfl, hb1⟩)
      | (refine store_graph_new rfl _ _ rfl 0 (fun _ => 0) rfl rfl ?_))
    go_ret2
    exact ⟨_, [], rfl, hb1.alloc hb1.size _, owns_rows_nil _ _ _ (World.ownsRow_nil _ _ _ _)⟩
  | true =>
    obtain ⟨hg, h6⟩ := tgOk_facts ht
    obtain ⟨h1, h8, hok⟩ := gIn_parts hg
    have hfr : tgFrom xs = gcells xs.length (gfun xs) := by unfold tgFrom; rw [if_pos ht]
    have ho : tgOf xs = adjOf (gfun xs) xs.length := by unfold tgOf; rw [if_pos ht]
    have hpw := gfun_pow hok
    have hla := link_adj hg h6
    rw [ht, hfr] at hf
    rw [ho, ← hla]
    have HF := Lib.hid hf
    have HT := Lib.hid hT
    have HL := Lib.hid (fun W (hTW : Tab W) => linkTable_any xs.length (gfun xs) h6 hpw W hTW)
    obtain ⟨Fp, hFp⟩ : ∃ Fp, linkF 1 (pairsTo (gfun xs) xs.length xs.length) = Fp := ⟨_, rfl⟩
    simp only [hFp] at HL ⊢
    have HTL := Lib.hid (fun W => tlist_any xs.length Fp h1 h6 W)
    clear hf hfr hT hr h ht ho hg hok hpw hla hFp h1 h6 h8
    go_enter Tryd.func8, Tryd.ntmps8
    go_wp2_with (first
      | (go_at_call 22; refine HF.out.mono ?_; rintro e w1 ⟨rfl, hb1⟩)
      | (refine store_graph_new rfl _ _ rfl xs.length (gfun xs) rfl rfl ?_)
      | (refine load_graph rfl _ rfl _ xs.length (gfun xs) rfl (World.alloc_heap_new w1 (.cells (gcells xs.length (gfun xs)) 39)) ?_)
      | (go_at_call 23; refine (HL.out _ (HT.out.later (hb1.alloc hb1.size _))).mono ?_; rintro e w2 ⟨rfl, hb2⟩)
      | (go_at_call 24; refine (HTL.out _).mono ?_; rintro e w3 ⟨r, us, rfl, hb3, ho3⟩))
    go_ret2
    have hb12 := step_below (hb1.alloc hb1.size (.cells (gcells xs.length (gfun xs)) 39)) hb2
    exact ⟨_, _, rfl, step_below hb12 hb3, ho3.wide hb12.size (Nat.le_refl _)⟩

theorem adj_size {f : Nat → Nat} {n : Nat} (h6 : n ≤ 6) : (adjOf f n).length + total (adjOf f n) ≤ 1048576 := by
  have hl : (adjOf f n).length = n := by simp [adjOf]
  have ht : total (adjOf f n) ≤ 36 := by
    have h : n = 0 ∨ n = 1 ∨ n = 2 ∨ n = 3 ∨ n = 4 ∨ n = 5 ∨ n = 6 := by omega
    rcases h with rfl | rfl | rfl | rfl | rfl | rfl | rfl <;> simp [total, adjOf, List.range_succ]
  omega

theorem FnExactTableGraph_final (w : World) (v : Value) (xs : List Int) (h : Ints w v xs) (hr : ∀ x ∈ xs, I64 x) (hT : Tab w) :
    Calls Tryd.prog 3 #[v] w fun e w' => e = .returned (.bool true) ∧ Below w.heap.size w w' := by
  refine FnExactTableGraph_walk w v xs h hT (tgOk xs) (tgOf xs) ?_ (fun W u hu => specTG_any W u xs hu (fun hg i hi => ?_)) (fun W u hu hTW => implTG_any W u xs hu hr hTW)
  · unfold tgOf
    cases ht : tgOk xs with
    | false => simp [total]
    | true => exact adj_size (tgOk_facts ht).2
  · obtain ⟨-, h8, hok⟩ := gIn_parts hg
    exact row_value h8 hok hi

end Go.Proofs.YtjijkgmeddeihaaDoor

