/-
  (impl.table).isSkew, isEven.
-/
import Derived.Test.YtfcbhcjgjbcjdacDoorNegate
import Derived.Laws.StructEq
import Derived.Deep.MidRow
namespace Go.Proofs.YtfcbhcjgjbcjdacDoor
set_option linter.unusedVariables false
set_option linter.unusedSimpArgs false
open Go.RowKit

def allOf (c : Nat → Bool) : List Nat → Bool
  | [] => true
  | i :: l => c i && allOf c l
theorem allOf_iff (c : Nat → Bool) : ∀ l, allOf c l = true ↔ ∀ i ∈ l, c i = true
  | [] => by simp [allOf]
  | i :: l => by unfold allOf; rw [Bool.and_eq_true, allOf_iff c l]; simp
theorem run_array_eq {P : Program} (d : Nat) (t elem : TypeId) (len n : Nat) (xs ys : Array Value) (ht : P.underlying t = some (.array len elem)) (hn : ∀ w, (sizeOf elem).run P w = .ok n w)
    (A B : Nat → Value) (hA : ∀ i, i < len → ∀ w, (part elem xs (i * n)).run P w = .ok (A i) w) (hB : ∀ i, i < len → ∀ w, (part elem ys (i * n)).run P w = .ok (B i) w)
    (c : Nat → Bool) (hc : ∀ i, i < len → ∀ w, (Op.equalIn d elem (A i) (B i)).run P w = .ok (c i) w) (w : World) :
    (Op.equalIn (d + 1) t (.agg xs) (.agg ys)).run P w = .ok (allOf c (List.range len)) w := by
  simp only [Op.equalIn, Sem.run_bind, run_underlying ht, Result.andThen_ok, hn]
  simp only [Std.Legacy.Range.forIn_eq_forIn_range', Std.Legacy.Range.size, Nat.sub_zero, Nat.add_sub_cancel, Nat.div_one]
  rw [List.range_eq_range']
  have hl : ∀ i ∈ List.range' 0 len, i < len := fun i hi => by rw [List.mem_range'_1] at hi; omega
  generalize List.range' 0 len = l at hl ⊢
  induction l with
  | nil => simp [allOf]
  | cons i l ih =>
    have hi := hl i (List.mem_cons_self)
    simp only [List.forIn_cons, Sem.run_bind, hA i hi, hB i hi, hc i hi, Result.andThen_ok]
    cases hci : c i
    · simp [allOf, hci]
    · simp only [Bool.not_true, Bool.false_eq_true, if_false, Sem.run_pure, Result.andThen_ok, allOf, hci, Bool.true_and]
      exact ih fun k hk => hl k (List.mem_cons_of_mem _ hk)
theorem equal_row (d : Nat) (A B : Nat → Int) (w : World) : (Op.equalIn (d + 1 + 1) 70 (.agg (vcells A)) (.agg (vcells B))).run Tryd.prog w = .ok (allOf (fun i => A i == B i) (List.range 6)) w := by
  refine run_array_eq (d + 1) 70 3 6 1 _ _ (by kernel_rfl) (fun _ => by kernel_rfl) (fun i => .int .i64 (A i)) (fun i => .int .i64 (B i)) (fun i hi w => ?_) (fun i hi w => ?_) _ (fun i hi w => ?_) w
  · obtain rfl | rfl | rfl | rfl | rfl | rfl : i = 0 ∨ i = 1 ∨ i = 2 ∨ i = 3 ∨ i = 4 ∨ i = 5 := by omega
    all_goals kernel_rfl
  · obtain rfl | rfl | rfl | rfl | rfl | rfl : i = 0 ∨ i = 1 ∨ i = 2 ∨ i = 3 ∨ i = 4 ∨ i = 5 := by omega
    all_goals kernel_rfl
  · exact run_equalIn_int w d 3 .i64 .i64 _ _ (by kernel_rfl)
/-- Whether two tables hold the same numbers, row by row. -/
def sameB (A B : Nat → Int) : Bool := allOf (fun k => allOf (fun j => A (6 * k + j) == B (6 * k + j)) (List.range 6)) (List.range 6)
theorem sameB_iff (A B : Nat → Int) : sameB A B = true ↔ ∀ i, i < 36 → A i = B i := by
  unfold sameB
  rw [allOf_iff]
  constructor
  · intro h i hi
    have h1 := (allOf_iff _ _).1 (h (i / 6) (List.mem_range.2 (by omega))) (i % 6) (List.mem_range.2 (by omega))
    rw [beq_iff_eq, show 6 * (i / 6) + i % 6 = i by omega] at h1
    exact h1
  · intro h k hk
    rw [allOf_iff]
    intro j hj
    rw [List.mem_range] at hk hj
    rw [beq_iff_eq]
    exact h _ (by omega)
theorem equal_cells (A B : Nat → Int) (w : World) : (Op.equalIn 10000 72 (.agg (kcells A)) (.agg (kcells B))).run Tryd.prog w = .ok (sameB A B) w := by
  refine run_array_eq 9999 72 70 6 6 _ _ (by kernel_rfl) (fun _ => by kernel_rfl) (fun k => .agg (vcells fun j => A (6 * k + j))) (fun k => .agg (vcells fun j => B (6 * k + j))) (fun i hi w => ?_) (fun i hi w => ?_) _ (fun i hi w => ?_) w
  · obtain rfl | rfl | rfl | rfl | rfl | rfl : i = 0 ∨ i = 1 ∨ i = 2 ∨ i = 3 ∨ i = 4 ∨ i = 5 := by omega
    all_goals kernel_rfl
  · obtain rfl | rfl | rfl | rfl | rfl | rfl : i = 0 ∨ i = 1 ∨ i = 2 ∨ i = 3 ∨ i = 4 ∨ i = 5 := by omega
    all_goals kernel_rfl
  · exact equal_row 9997 _ _ w
theorem equal_rows6 (A B : Nat → Int) (w : World) : (Op.equalIn 10000 70 (.agg (vcells A)) (.agg (vcells B))).run Tryd.prog w = .ok (allOf (fun i => A i == B i) (List.range 6)) w := equal_row 9998 A B w

def skewB (F : Nat → Int) : Bool := sameB (trF F) (fun i => -F i)
def evenB (F : Nat → Int) : Bool := sameB (trF F) F && allOf (fun j => F (6 * j + j) == 0) (List.range 6)

theorem load36 {w : World} {g n : Nat} {F : Nat → Int} (hg : w.heap[g]? = some (.cells (tcells n F) 74 (0, 0))) : (Instr.loadAt 72 (.pointer (some ⟨g, 1, none⟩))).run Tryd.prog w = .ok (.agg (kcells F)) w := by
  have h := run_loadAt_mid (P := Tryd.prog) w g 1 72 (kcells F).toList _ (fun j v hv => by
    have hj : j < 36 := by
      have := (List.getElem?_eq_some_iff.1 hv).1
      simpa [kcells_size] using this
    rw [Array.getElem?_toList, kcells_at F j hj] at hv
    obtain rfl := Option.some.inj hv
    exact (table_cells hg).2.1 j hj) Tryd.underlying72 rfl (by rw [sizeCE]; simp [kcells_size])
  simpa using h
/-- The numbers of a table out of its block, as one step of a region that draws, the guard being met. -/
theorem any_load_g {ops : Array Oper} {o : Oper} {a : Act} {w : World} {K : Act → World → Prop} {Q : Exit → Act → World → Prop} {E : Prop} (hw : Region.wanted o (yielded ops a.tmps) = true) (x : Operand) (hop : o.op = .load 72 x)
    (g n : Nat) (F : Nat → Int) (hx : a.eval x = .pointer (some ⟨g, 1, none⟩)) (hc : w.heap[g]? = some (.cells (tcells n F) 74 (0, 0))) (hK : K (a.put o.dst (.agg (kcells F))) w) :
    if Region.wanted o (yielded ops a.tmps) = true then Oper.wp Tryd.prog o a w K Q else E := by
  rw [if_pos hw]
  unfold Oper.wp
  simp only [execOp, hop, hx, Sem.run_bind, load36 hc, Result.andThen_ok, Sem.run_pure]
  exact hK
/-- The numbers of a table out of its block, as one step of a region that draws. -/
theorem any_load {ops : Array Oper} {o : Oper} {a : Act} {w : World} {K : Act → World → Prop} {Q : Exit → Act → World → Prop} {E : Prop} (hg : o.guard = none) (x : Operand) (hop : o.op = .load 72 x)
    (g n : Nat) (F : Nat → Int) (hx : a.eval x = .pointer (some ⟨g, 1, none⟩)) (hc : w.heap[g]? = some (.cells (tcells n F) 74 (0, 0))) (hK : K (a.put o.dst (.agg (kcells F))) w) :
    if Region.wanted o (yielded ops a.tmps) = true then Oper.wp Tryd.prog o a w K Q else E := by
  have hw : Region.wanted o (yielded ops a.tmps) = true := by simp [Region.wanted, hg]
  rw [if_pos hw]
  unfold Oper.wp
  simp only [execOp, hop, hx, Sem.run_bind, load36 hc, Result.andThen_ok, Sem.run_pure]
  exact hK

set_option maxRecDepth 100000 in
set_option maxHeartbeats 4000000 in
theorem isSkew_any (n : Nat) (F : Nat → Int) (hF : ∀ i, -30 ≤ F i ∧ F i ≤ 30) (w : World) :
    Calls Tryd.prog 61 #[.agg (tcells n F)] w fun e w' => e = .returned (.bool (skewB F)) ∧ Below w.heap.size w w' := by
  have heq := equal_cells (trF F) (fun i => -F i)
  have HT := Lib.hid (fun W => transposed_any F W)
  have HN := Lib.hid (fun W => negated_any F hF W)
  go_enter Tryd.func61, Tryd.ntmps61
  go_wp2_with (first
    | (refine alloc_table rfl rfl ?_)
    | (refine store_table_last rfl _ _ rfl n F _ rfl rfl rfl ?_))
  obtain ⟨W, hW⟩ : ∃ W, w.alloc (.cells (tcells n F) 74) = W := ⟨_, rfl⟩
  have hB : Below w.heap.size w W := by rw [← hW]; exact (Below.refl _ _).alloc (Nat.le_refl _) _
  have hg : W.drew.heap[w.heap.size]? = some (.cells (tcells n F) 74 (0, 0)) := by rw [← hW]; exact World.alloc_heap_new _ _
  have HB := Lib.hid hB.drew
  have HG := Lib.hid hg
  have KB : ∀ {w1 : World}, Below W.drew.heap.size W.drew w1 → w1.heap[w.heap.size]? = some (.cells (tcells n F) 74 (0, 0)) := fun {w1} h => (h.block _ (Array.getElem?_eq_some_iff.1 HG.out).1).trans HG.out
  have FIN : ∀ {w1 w2 : World}, Below W.drew.heap.size W.drew w1 → Below w1.heap.size w1 w2 → Below w.heap.size w w2 := fun {w1 w2} h1 h2 => step_below (step_below HB.out h1) h2
  rw [hW]
  clear hW hB hg hF
  refine wp_region_any (by kernel_rfl) ?_
  change wpAny _ _ _ _ _ _ _ (World.drew _)
  refine wpAny_take (i := 0) (v := .pointer (some ⟨w.heap.size, 1, none⟩)) rfl (by kernel_rfl) (by kernel_rfl) (by kernel_rfl) (fun _ _ _ h => h) (Or.inl ⟨by rfl, fun w => by go_simp⟩) ?_
  refine wpAny_take (i := 3) (v := .pointer (some ⟨w.heap.size, 1, none⟩)) rfl (by kernel_rfl) (by kernel_rfl) (by kernel_rfl) (fun _ _ _ h => h) (Or.inl ⟨by rfl, fun w => by go_simp⟩) ?_
  refine wpAny_ready (rs := [1, 4]) (by kernel_rfl) (by simp) (AllReady.cons rfl (fun K hK => ?_) (AllReady.cons rfl (fun K hK => ?_) AllReady.nil))
  · refine any_load rfl _ rfl w.heap.size n F rfl HG.out ?_
    refine hK _ _ ?_
    clear hK K
    refine wpAny_ready (rs := [2, 4]) (by kernel_rfl) (by simp) (AllReady.cons rfl (fun K hK => ?_) (AllReady.cons rfl (fun K hK => ?_) AllReady.nil))
    · go_simp
      refine (HT.out _).mono ?_
      rintro e w1 ⟨rfl, hb1⟩
      go_wp2
      refine wpAny_ready (rs := [4]) (by kernel_rfl) (by simp) (AllReady.cons rfl (fun K hK => ?_) AllReady.nil)
      refine any_load rfl _ rfl w.heap.size n F rfl (KB hb1) ?_
      refine hK _ _ ?_
      clear hK K
      refine wpAny_ready (rs := [5]) (by kernel_rfl) (by simp) (AllReady.cons rfl (fun K hK => ?_) AllReady.nil)
      go_simp
      refine (HN.out _).mono ?_
      rintro e w2 ⟨rfl, hb2⟩
      go_wp2
      refine wpAny_ready (rs := [6]) (by kernel_rfl) (by simp) (AllReady.cons rfl (fun K hK => ?_) AllReady.nil)
      go_simp
      refine hK _ _ ?_
      clear hK K
      refine wpAny_ready (rs := [7]) (by kernel_rfl) (by simp) (AllReady.cons rfl (fun K hK => ?_) AllReady.nil)
      go_simp
      refine hK _ _ ?_
      clear hK K
      refine wpAny_done (by kernel_rfl) ?_ _
      go_wp2
      go_ret
      exact ⟨rfl, FIN hb1 hb2⟩
    · refine any_load rfl _ rfl w.heap.size n F rfl HG.out ?_
      refine hK _ _ ?_
      clear hK K
      refine wpAny_ready (rs := [2]) (by kernel_rfl) (by simp) (AllReady.cons rfl (fun K hK => ?_) AllReady.nil)
      go_simp
      refine (HT.out _).mono ?_
      rintro e w1 ⟨rfl, hb1⟩
      go_wp2
      refine wpAny_ready (rs := [5]) (by kernel_rfl) (by simp) (AllReady.cons rfl (fun K hK => ?_) AllReady.nil)
      go_simp
      refine (HN.out _).mono ?_
      rintro e w2 ⟨rfl, hb2⟩
      go_wp2
      refine wpAny_ready (rs := [6]) (by kernel_rfl) (by simp) (AllReady.cons rfl (fun K hK => ?_) AllReady.nil)
      go_simp
      refine hK _ _ ?_
      clear hK K
      refine wpAny_ready (rs := [7]) (by kernel_rfl) (by simp) (AllReady.cons rfl (fun K hK => ?_) AllReady.nil)
      go_simp
      refine hK _ _ ?_
      clear hK K
      refine wpAny_done (by kernel_rfl) ?_ _
      go_wp2
      go_ret
      exact ⟨rfl, FIN hb1 hb2⟩
  · refine any_load rfl _ rfl w.heap.size n F rfl HG.out ?_
    refine hK _ _ ?_
    clear hK K
    refine wpAny_ready (rs := [1]) (by kernel_rfl) (by simp) (AllReady.cons rfl (fun K hK => ?_) AllReady.nil)
    refine any_load rfl _ rfl w.heap.size n F rfl HG.out ?_
    refine hK _ _ ?_
    clear hK K
    refine wpAny_ready (rs := [2]) (by kernel_rfl) (by simp) (AllReady.cons rfl (fun K hK => ?_) AllReady.nil)
    go_simp
    refine (HT.out _).mono ?_
    rintro e w1 ⟨rfl, hb1⟩
    go_wp2
    refine wpAny_ready (rs := [5]) (by kernel_rfl) (by simp) (AllReady.cons rfl (fun K hK => ?_) AllReady.nil)
    go_simp
    refine (HN.out _).mono ?_
    rintro e w2 ⟨rfl, hb2⟩
    go_wp2
    refine wpAny_ready (rs := [6]) (by kernel_rfl) (by simp) (AllReady.cons rfl (fun K hK => ?_) AllReady.nil)
    go_simp
    refine hK _ _ ?_
    clear hK K
    refine wpAny_ready (rs := [7]) (by kernel_rfl) (by simp) (AllReady.cons rfl (fun K hK => ?_) AllReady.nil)
    go_simp
    refine hK _ _ ?_
    clear hK K
    refine wpAny_done (by kernel_rfl) ?_ _
    go_wp2
    go_ret
    exact ⟨rfl, FIN hb1 hb2⟩

end Go.Proofs.YtfcbhcjgjbcjdacDoor
