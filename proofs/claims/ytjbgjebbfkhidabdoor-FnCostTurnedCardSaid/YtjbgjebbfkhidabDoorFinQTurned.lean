/-
  impl.CostTurned; the law's walk with both contracts.
-/
import Derived.Test.YtjbgjebbfkhidabDoorQTurned
import Derived.Test.YtjbgjebbfkhidabDoorLawQTurned
import Derived.Deep.MidRow
namespace Go.Proofs.YtjbgjebbfkhidabDoor
set_option linter.unusedVariables false
set_option linter.unusedSimpArgs false
open Go.RowKit

theorem load36w {w : World} {g n : Nat} {F : Nat → Int} (hg : w.heap[g]? = some (.cells (tcells n F) 59 (0, 0))) : (Instr.loadAt 55 (.pointer (some ⟨g, 1, none⟩))).run Tryd.prog w = .ok (.agg (kcells F)) w := by
  have h := run_loadAt_mid (P := Tryd.prog) w g 1 55 (kcells F).toList _ (fun j v hv => by
    have hj : j < 36 := by
      have := (List.getElem?_eq_some_iff.1 hv).1
      simpa [kcells_size] using this
    rw [Array.getElem?_toList, kcells_at F j hj] at hv
    obtain rfl := Option.some.inj hv
    exact (whole_cells hg).2.1 j hj) Tryd.underlying55 rfl (by rw [sizeCE]; simp [kcells_size])
  simpa using h
/-- The numbers of costs out of their block. -/
theorem load_wcells {ops : Array Oper} {rest : List Oper} {o : Oper} {a : Act} {w : World} {Q : Exit → Act → World → Prop} (hgd : o.guard = none) (x : Operand) (ho : o.op = .load 55 x)
    (g n : Nat) (F : Nat → Int) (hx : a.eval x = .pointer (some ⟨g, 1, none⟩)) (hg : w.heap[g]? = some (.cells (tcells n F) 59 (0, 0)))
    (h : wpList Tryd.prog ops Q rest (a.put o.dst (.agg (kcells F))) w) : wpList Tryd.prog ops Q (o :: rest) a w := by
  refine wpList_plain hgd fun K hK => ?_
  unfold Oper.wp
  simp only [ho, execOp, hx, Sem.run_bind, load36w hg, Result.andThen_ok, Sem.run_pure]
  exact hK _ _ h
/-- Costs as the table they are. -/
theorem load_wtable {ops : Array Oper} {rest : List Oper} {o : Oper} {a : Act} {w : World} {Q : Exit → Act → World → Prop} (hgd : o.guard = none) (x : Operand) (ho : o.op = .load 57 x)
    (g : Nat) (n : Nat) (F : Nat → Int) (hx : a.eval x = .pointer (some ⟨g, 0, none⟩)) (hg : w.heap[g]? = some (.cells (tcells n F) 59 (0, 0)))
    (h : wpList Tryd.prog ops Q rest (a.put o.dst (.agg (tcells n F))) w) : wpList Tryd.prog ops Q (o :: rest) a w :=
  wpList_load_row hgd 57 x ho g hx 59 (tcells n F) (0, 0) _ hg Tryd.underlying57 rfl (size_tcells n F) h
theorem put36 (n : Nat) (F G : Nat → Int) : ((tcells n F).toList.take (1 + 0) ++ (kcells G).toList ++ (tcells n F).toList.drop (1 + 0 + (kcells G).toList.length)).toArray = tcells n G := rfl
theorem store36w {w : World} {g n : Nat} {F : Nat → Int} (G : Nat → Int) (hg : w.heap[g]? = some (.cells (tcells n F) 59 (0, 0))) : (Instr.storeAt 55 (.pointer (some ⟨g, 1, none⟩)) (.agg (kcells G))).run Tryd.prog w = .ok () (w.setRow g (tcells n G)) := by
  have h := run_storeCells_at Tryd.prog g 1 59 (kcells G).toList 0 (tcells n F) w hg (by rw [tcells_size]; simp [kcells_size]) (fun v hv => (Array.all_eq_true_iff_forall_mem.1 (kcells_one G)) v (by simpa using hv))
  rw [put36] at h
  have hsz : ∀ w, (sizeOf 55).run Tryd.prog w = .ok 36 w := fun _ => by kernel_rfl
  have hc : ∀ G, (Value.agg (kcells G)).cells = kcells G := fun _ => rfl
  simp only [Instr.storeAt, Instr.sureAddr, storeVar, Sem.run_bind, Sem.run_pure, Result.andThen_ok, hsz, hc, kcells_size, ne_eq, not_true_eq_false, if_false, h]
/-- The numbers of costs into their block. -/
theorem store_wcells {ops : Array Oper} {rest : List Oper} {o : Oper} {a : Act} {w : World} {Q : Exit → Act → World → Prop} (hgd : o.guard = none) (x y : Operand) (ho : o.op = .store 55 x y)
    (g n : Nat) (F G : Nat → Int) (hx : a.eval x = .pointer (some ⟨g, 1, none⟩)) (hy : a.eval y = .agg (kcells G)) (hg : w.heap[g]? = some (.cells (tcells n F) 59 (0, 0)))
    (h : wpList Tryd.prog ops Q rest (a.put o.dst undef) (w.setRow g (tcells n G))) : wpList Tryd.prog ops Q (o :: rest) a w := by
  refine wpList_plain hgd fun K hK => ?_
  unfold Oper.wp
  simp only [ho, execOp, hx, hy, Sem.run_bind, store36w G hg, Result.andThen_ok, Sem.run_pure]
  exact hK _ _ h

set_option maxRecDepth 100000 in
set_option maxHeartbeats 2000000 in
theorem implQTurned_any (w : World) (v : Value) (xss : List (List Int)) (hv : IntRows w v xss) :
    Calls Tryd.prog 40 #[v] w (GivesRows w (cIn xss) (trOf xss)) := by
  have hf := cFrom_any w v xss hv
  obtain ⟨A, cap, rfl, hm, -⟩ := hv.at
  unfold maxLen at hm
  clear hv
  cases hci : cIn xss with
  | false =>
    have HNO : Hid (trOf xss = []) := Lib.hid (by unfold trOf; rw [hci]; rfl)
    have hfr : cFromOf xss = tcells 0 (fun _ => 0) := by unfold cFromOf; rw [hci]; rfl
    rw [hci, hfr] at hf
    have HF := Lib.hid hf
    clear hci hf hfr
    go_enter Tryd.func40, Tryd.ntmps40
    go_wp2_with (first
      | (go_at_call 56; refine HF.out.mono ?_; rintro e w1 ⟨rfl, hb1⟩)
      | (refine alloc_whole rfl rfl ?_)
      | (refine store_whole_last rfl _ _ rfl 0 (fun _ => 0) _ rfl rfl rfl ?_))
    go_ret2
    rw [HNO.out]
    have hb2 := hb1.alloc hb1.size (.cells (tcells 0 fun _ => 0) 59)
    exact ⟨_, [], rfl, hb2, (owns_rows_nil _ _ _ (World.ownsRow_nil _ _ _ _)).wide (Nat.le_refl _) (Nat.le_refl _)⟩
  | true =>
    obtain ⟨h1, h6⟩ := cIn_size hci
    have HYES : Hid (trOf xss = rowsOf xss.length (trF (flat xss))) := Lib.hid (by unfold trOf; rw [hci, rows_flat xss h6]; rfl)
    have hfr : cFromOf xss = tcells xss.length (flat xss) := by unfold cFromOf; rw [hci]; rfl
    rw [hci, hfr] at hf
    have HF := Lib.hid hf
    have HTL := Lib.hid (fun W => tlist_any xss.length (trF (flat xss)) h1 h6 W)
    have HTR := Lib.hid (fun W => transposed_any (flat xss) W)
    clear hci hf hfr
    go_enter Tryd.func40, Tryd.ntmps40
    go_wp2_with (first
      | (go_at_call 56; refine HF.out.mono ?_; rintro e w1 ⟨rfl, hb1⟩; have hb2 := hb1.alloc hb1.size (.cells (tcells xss.length (flat xss)) 59); have hg2 := World.alloc_heap_new w1 (.cells (tcells xss.length (flat xss)) 59))
      | (refine alloc_whole rfl rfl ?_)
      | (refine store_whole_last rfl _ _ rfl xss.length (flat xss) _ rfl rfl rfl ?_)
      | (refine load_wcells rfl _ rfl w1.heap.size xss.length (flat xss) rfl hg2 ?_)
      | (go_at_call 79; refine (HTR.out _).mono ?_; rintro e w3 ⟨rfl, hb3⟩; have hg3 := kept_obj hb3 hg2; have hg4 := heap_setRowT (c' := tcells xss.length (trF (flat xss))) hg3; have hb4 := below_setRowT (step_below hb2 hb3) hb1.size (tcells xss.length (trF (flat xss))))
      | (refine store_wcells rfl _ _ rfl w1.heap.size xss.length (flat xss) (trF (flat xss)) rfl rfl hg3 ?_)
      | (refine load_wtable rfl _ rfl w1.heap.size xss.length (trF (flat xss)) rfl hg4 ?_)
      | (go_at_call 80; refine (HTL.out _).mono ?_; rintro e w5 ⟨u, us, rfl, hb5, ho5⟩))
    go_ret2
    rw [HYES.out]
    exact ⟨_, us, rfl, step_below hb4 hb5, ho5.wide hb4.size (Nat.le_refl _)⟩


end Go.Proofs.YtjbgjebbfkhidabDoor
