/-
  (graph).mutual: whether each node is a neighbour of all its neighbours.
-/
import Derived.Test.YtjijkgmeddeihaaDoorNeigh
import Derived.Test.YtjijkgmeddeihaaDoorIn
import Derived.Deep.QuietTactic
import Derived.BigQuiet
import Derived.Test.YtjijkgmeddeihaaDoorMarks
import Derived.Test.YtjijkgmeddeihaaDoorGraphsIn
namespace Go.Proofs.YtjijkgmeddeihaaDoor
set_option linter.unusedVariables false
set_option linter.unusedSimpArgs false
open Go.RowKit Go.Shelf
attribute [local go_sem] Oper.semAt_some

theorem round_k {F : Fence} {n : Nat} {P : Program} {c : Code} {J : Act → World → Prop} {Q : Exit → Act → World → Prop} {a : Act} {w : World}
    (h : ∀ K : Act → World → Prop, (∀ a' w', J a' w' → K a' w') → c.wpIn F n P (Exit.then K Q) a w) : c.wpIn F n P (Exit.then J Q) a w := h J (fun _ _ q => q)

theorem mutual_leave (n : Nat) (f : Nat → Nat) (w : World) (b : Bool) (hb : mutB n f = b) (tmps : Array Value) (hp : tmps[2]? = some (.pointer (some ⟨w.heap.size + 1, 0, none⟩))) (ds : List Deferred) (W : World)
    (hM : Marks w.heap.size ds W) (hB : Below w.heap.size w W) (hx : Boxed W (w.heap.size + 1) 4 (.bool b)) :
    bodyPostM Fence.wide 9 Tryd.prog Tryd.f53 (fun e w' => e = .returned (.bool (mutB n f)) ∧ Below w.heap.size w w') .ret { tmps := tmps, defers := ds } W := by
  refine leaves_marks (F := Fence.wide) (n := 9) w.heap.size (fun W => Below w.heap.size w W ∧ Boxed W (w.heap.size + 1) 4 (.bool b)) ?_ ?_ ds W hM ⟨hB, hx⟩
  · rintro W D hD hk ⟨h1, h2⟩
    refine ⟨below_shut h1 hD hk, (World.putObj_heap_other (fun e => ?_)).trans h2⟩
    have h2' : W.heap[w.heap.size + 1]? = some (.cells #[.bool b] 4 (0, 0)) := h2
    rw [e, hk] at h2'
    cases h2'
  · rintro W ⟨h1, h2⟩
    have hc := h2.cell
    refine ⟨.bool b, ?_, by rw [hb], h1⟩
    simp [results, Tryd.f53, go_sem, hp, hc]

set_option maxRecDepth 100000 in
set_option maxHeartbeats 1000000 in
theorem mutual_any (n : Nat) (f : Nat → Nat) (h8 : n ≤ 8) (hf : ∀ i, f i < 256) (w : World) (hT : Tab w) :
    Calls Tryd.prog 53 #[.agg (gcells n f)] w fun e w' => e = .returned (.bool (mutB n f)) ∧ Below w.heap.size w w' := by
  have g0 := gcells_zero n f
  refine (callsIn_wide (n := 9)).1 ?_
  refine callsIn_of_wp_marks Tryd.func53 rfl trivial ?_ rfl
  simp only [Tryd.ntmps53, List.size_toArray, List.length_cons, List.length_nil, Nat.reduceAdd, Nat.reduceSub, Array.replicate_succ, Array.replicate_zero, List.push_toArray, List.append_toArray, List.nil_append, List.cons_append]
  gi_wp2
  clear g0
  obtain ⟨W1, hW1⟩ : ∃ W1, (w.alloc (.cells (gcells n f) 39)).alloc (.cells #[.bool false] 4) = W1 := ⟨_, rfl⟩
  have hb1 : Below w.heap.size w W1 := by rw [← hW1]; exact ((Below.refl _ _).alloc (Nat.le_refl _) _).alloc (by simp) _
  have hg1 : W1.heap[w.heap.size]? = some (.cells (gcells n f) 39 (0, 0)) := by rw [← hW1]; exact heap_alloc2_old _ _ _
  have hr1 : Boxed W1 (w.heap.size + 1) 4 (.bool false) := by rw [← hW1]; exact heap_alloc2_new _ _ _
  rw [hW1]
  clear hW1
  refine wpIn_loop (fun a wr => ∃ (k : Nat) (ds : List Deferred) (u3 u4 u8 u9 u10 u11 u12 u13 u14 u15 u16 u17 u18 u19 u20 u21 : Value), k ≤ n ∧ (∀ i, i < k → mutRow f i = true) ∧
      Below w.heap.size w wr ∧ wr.heap[w.heap.size]? = some (.cells (gcells n f) 39 (0, 0)) ∧ Boxed wr (w.heap.size + 1) 4 (.bool false) ∧ Marks w.heap.size ds wr ∧
      a = { tmps := #[.agg (gcells n f), .pointer (some ⟨w.heap.size, 0, none⟩), .pointer (some ⟨w.heap.size + 1, 0, none⟩), u3, u4, .pointer (some ⟨w.heap.size, 0, none⟩), .int .i64 n, .int .i64 k, u8, u9, u10, u11, u12, u13, u14, u15, u16, u17, u18, u19, u20, u21], defers := ds })
    (fun a _ => n - (intOf (a.tmps.getD 7 undef)).toNat) ⟨0, [], _, _, _, _, _, _, _, _, _, _, _, _, _, _, _, _, by omega, fun i hi => by omega, hb1, hg1, hr1, Marks.nil _ _, rfl⟩ ?_
  rintro a wr ⟨k, ds, u3, u4, u8, u9, u10, u11, u12, u13, u14, u15, u16, u17, u18, u19, u20, u21, hk, hrows, hb, hg, hr, hM, rfl⟩
  refine round_k (fun K hK => ?_)
  have HK := Lib.hid hK
  have HR := Lib.hid hrows
  have HG := Lib.hid hg
  clear hK hrows hg hb1 hg1 hr1
  by_cases hlt : k < n
  · have hTr := hT.later hb
    have hk8 : (k : Int) < 8 := by omega
    have HT := Lib.hid hTr
    clear hTr hT
    have hlt1 := (Array.getElem?_eq_some_iff.1 HG.out).1
    gi_wp2_with (first
      | (refine ⟨trivial, ?_⟩; gi_at_call 55; refine (callsIn_wide.2 (neighbours_any n f k (by omega) _)).mono ?_; rintro e w' ⟨rfl, rfl⟩)
      | (refine load_graph_in rfl _ rfl _ n f rfl ((Below.heap_alloc _ _ _ (by omega)).trans HG.out) ?_))
    obtain ⟨W0, hW0⟩ : ∃ W0, ((wr.alloc (.cells #[.int .i64 (k : Int)] 3)).alloc (.cells (gcells n f) 39)).alloc (.cells #[.int .i64 (f k : Nat)] 36) = W0 := ⟨_, rfl⟩
    have hb0 : Below wr.heap.size wr W0 := by rw [← hW0]; exact (((Below.refl _ _).alloc (Nat.le_refl _) _).alloc (by simp) _).alloc (by simp; omega) _
    have hsz : W0.heap.size = wr.heap.size + 3 := by rw [← hW0]; simp
    have hv0 : W0.heap[wr.heap.size]? = some (.cells #[.int .i64 (k : Int)] 3 (0, 0)) := by
      rw [← hW0, Below.heap_alloc _ _ _ (by simp; omega), Below.heap_alloc _ _ _ (by simp)]; exact World.alloc_heap_new _ _
    have hs0 : W0.heap[wr.heap.size + 1 + 1]? = some (.cells #[.int .i64 (f k : Nat)] 36 (0, 0)) := by
      rw [← hW0]
      have := World.alloc_heap_new ((wr.alloc (.cells #[.int .i64 (k : Int)] 3)).alloc (.cells (gcells n f) 39)) (.cells #[.int .i64 (f k : Nat)] 36)
      rwa [World.size_alloc, World.size_alloc] at this
    have hg0 : W0.heap[w.heap.size]? = some (.cells (gcells n f) 39 (0, 0)) := (hb0.block _ hlt1).trans HG.out
    have hr0 : Boxed W0 (w.heap.size + 1) 4 (.bool false) := (hb0.block _ hr.lt).trans hr
    have hM0 := hM.below hb0
    have hbw : Below w.heap.size w W0 := step_below hb hb0
    have hT0 : Tab W0 := HT.out.later hb0
    rw [hW0]
    clear hW0
    refine wpIn_rangeFunc_ownF rfl (by decide) (gf := 62) (lb := #[.pointer (some ⟨wr.heap.size + 1 + 1, 0, none⟩)]) rfl trivial (enters_of Tryd.func62 (by kernel_rfl) rfl)
      (all_stops (9 - 1) (by decide) (wr.heap.size + 1 + 1) W0.heap.size (f k) (hf k) W0 hT0.lt (by omega) (cell_of_one hs0) hT0) belowK_t (belowK_b (Nat.le_refl _)) (Below.refl _ _) (fun _ => rfl)
      (fun pre W => (∀ b ∈ pre, (f (Fin.val b)).testBit k = true) ∧ Below W0.heap.size W0 W)
      (fun c pre W => (c = .ret ∧ ∃ b, b ∈ pre ∧ (f (Fin.val b)).testBit k = false) ∧ (W0.grownBy W (some (w.heap.size + 1)) ∧ Boxed W (w.heap.size + 1) 4 (.bool false)))
      (OwnFrom.and (ownFrom_pure _ _) (ownFrom_below (Nat.le_refl _) (Nat.le_refl _)))
      (fun c => OwnFrom.and (ownFrom_pure _ (fun pre => c = .ret ∧ ∃ b, b ∈ pre ∧ (f (Fin.val b)).testBit k = false)) (OwnFrom.and (ownFrom_grown _) (Own.from (boxed_own _ _ _) _)))
      ⟨fun b hb => (by cases hb), Below.refl _ _⟩
      (fun x => { tmps := #[.agg (gcells n f), .pointer (some ⟨w.heap.size, 0, none⟩), .pointer (some ⟨w.heap.size + 1, 0, none⟩), .pointer (some ⟨wr.heap.size, 0, none⟩), .int .i64 (x.val : Int), .pointer (some ⟨w.heap.size, 0, none⟩), .int .i64 n, .int .i64 k, .bool true, .int .i64 k, .agg (gcells n f), .int .i64 k, seqOf (wr.heap.size + 1 + 1), .int .i64 (x.val : Int), u14, u15, u16, u17, u18, u19, u20, u21], defers := [] })
      ?assign ?body ?done ?stop
    case assign =>
      intro l x W K hK
      gi_wp2
      exact hK
    case body =>
      rintro l pre x W ⟨hp, hbW⟩ _
      have hgW := (hbW.block _ (by omega)).trans hg0
      obtain ⟨_, cs, _, _⟩ := graph_cells hgW
      have ck := cs x.val x.isLt
      have cv := cell_of_one ((hbW.block _ (by omega)).trans hv0)
      have bx : Boxed W (w.heap.size + 1) 4 (.bool false) := (hbW.block _ hr0.lt).trans hr0
      have hcr := bx.cell
      have hfr := bx.frozen
      have hx8 : (x.val : Int) < 8 := by have := x.isLt; omega
      have hh := fun W => has_any (f x.val) k (hf _) (by omega) W
      have HP := Lib.hid hp
      have HB := Lib.hid hbW
      have HX := Lib.hid bx
      clear hp hbW hgW bx cs
      have hfo : Tryd.prog.follows Departure.mixedOrders = true := by kernel_rfl
      cases ht : (f x.val).testBit k with
      | true =>
        rw [ht] at hh
        have HH := Lib.hid hh
        have HT2 := Lib.hid ht
        clear hh ht
        gi_wp2
        gi_region_with_o (first | (refine ⟨trivial, ?_⟩; gi_at_call 52; refine (CallsIn.inRound l (callsIn_wide.2 (HH.out _))).mono ?_; rintro e w' ⟨rfl, rfl⟩) | (gi_at_call 52; refine (CallsIn.inRound l (callsIn_wide.2 (HH.out _))).mono ?_; rintro e w' ⟨rfl, rfl⟩))
        all_goals gi_wp2
        all_goals exact ⟨KeepsOthers.drew _, (Below.refl _ _).drew, fun b hb => ((List.mem_append.1 hb).elim (HP.out b) (fun e => by rw [List.mem_singleton.1 e]; exact HT2.out)), HB.out.drew⟩
      | false =>
        rw [ht] at hh
        have HH := Lib.hid hh
        have HT2 := Lib.hid ht
        clear hh ht
        gi_wp2
        gi_region_with_o (first | (refine ⟨trivial, ?_⟩; gi_at_call 52; refine (CallsIn.inRound l (callsIn_wide.2 (HH.out _))).mono ?_; rintro e w' ⟨rfl, rfl⟩) | (gi_at_call 52; refine (CallsIn.inRound l (callsIn_wide.2 (HH.out _))).mono ?_; rintro e w' ⟨rfl, rfl⟩))
        all_goals gi_wp2
        all_goals exact ⟨(KeepsOthers.setCell _ _ _).trans (KeepsOthers.drew _), ⟨rfl, x, by simp, HT2.out⟩, grown_drew (grown_trans (grown_of_below_row HB.out _) (grownBy_setCell' _ _ _)), HX.out.set _⟩
    case done =>
      rintro D ys W hD rfl ⟨hp, hbW⟩ hKD
      have HP := Lib.hid hp
      clear hp
      gi_wp2
      refine HK.out _ _ ⟨⟨k + 1, _, _, _, _, _, _, _, _, _, _, _, _, _, _, _, _, _, by omega, fun i hi => ?_, hbw.trans (hbW.mono hbw.size), (hbW.block _ (by omega)).trans hg0, (hbW.block _ hr0.lt).trans hr0,
        (hM0.below hbW).cons (Nat.le_trans hbw.size hD) hKD (fun d hd => hM0.lt d hd D hD), rfl⟩, by simp [intOf]; omega⟩
      by_cases h : i = k
      · subst h
        unfold mutRow
        rw [List.all_eq_true]
        exact fun b hb => HP.out b hb
      · exact HR.out i (by omega)
    case stop =>
      rintro D c pre W hD hpre ⟨⟨rfl, b, hbm, hbf⟩, hgr, hbx⟩ hKD
      have hno : mutB n f = false := by
        unfold mutB
        rw [Bool.eq_false_iff]
        intro hall
        have h1 := List.all_eq_true.1 hall k (List.mem_range.2 hlt)
        unfold mutRow at h1
        have h2 := List.all_eq_true.1 h1 b (hpre.subset hbm)
        rw [hbf] at h2
        cases h2
      have hMW : Marks w.heap.size ({ target := .collected D, args := #[] } :: ds) W :=
        (hM0.grown hgr hr0 rfl).cons (Nat.le_trans hbw.size hD) hKD (fun d hd => hM0.lt d hd D hD)
      have hBW : Below w.heap.size w W := hbw.grown hgr hbw.size (fun j hj => by cases hj; omega)
      have HN := Lib.hid hno
      clear hbf hno
      gi_wp2
      exact mutual_leave n f w false HN.out _ (by rfl) _ W hMW hBW hbx
  · have hkn : k = n := by omega
    have hcr := hr.cell
    have hfr := hr.frozen
    have hyes : mutB n f = true := by
      unfold mutB
      rw [List.all_eq_true]
      exact fun i hi => HR.out i (by rw [hkn]; exact List.mem_range.1 hi)
    have HN := Lib.hid hyes
    clear hyes hkn
    gi_wp2
    exact mutual_leave n f w true HN.out _ (by rfl) _ _ (hM.grown (grownBy_setCell' _ _ _) hr rfl) (hb.setCell (p := ⟨w.heap.size + 1, 0, none⟩) (by simp) _) (hr.set _)

end Go.Proofs.YtjijkgmeddeihaaDoor
