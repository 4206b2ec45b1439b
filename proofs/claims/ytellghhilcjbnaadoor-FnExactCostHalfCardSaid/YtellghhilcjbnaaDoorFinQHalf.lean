/-
  impl.CostHalf; the law's walk with both contracts.
-/
import Derived.Test.YtellghhilcjbnaaDoorLeastAnyH
import Derived.Test.YtellghhilcjbnaaDoorSpecHalf
import Derived.Test.YtellghhilcjbnaaDoorFinQLeast
import Derived.Test.YtellghhilcjbnaaDoorBare
import Derived.Test.YtellghhilcjbnaaDoorFrom
import Derived.Test.YtellghhilcjbnaaDoorLawQHalf
namespace Go.Proofs.YtellghhilcjbnaaDoor.Hf
set_option linter.unusedVariables false
set_option linter.unusedSimpArgs false
open Go.RowKit Go.Shelf

/-- A graph out of its block, where S says what lies there. -/
theorem yieldsIf_graph {ops : Array Oper} {S : World → Prop} {op : Oper} {a : Act} (hw : Region.wanted op (yielded ops a.tmps) = true) (x : Operand) (ho : op.op = .load 78 x)
    (g n : Nat) (f : Nat → Nat) (hx : a.eval x = .pointer (some ⟨g, 0, none⟩)) (hS : ∀ w, S w → w.heap[g]? = some (.cells (gcells n f) 78 (0, 0))) : YieldsIf Tryd.prog ops S op (.agg (gcells n f)) a :=
  .inl ⟨hw, fun w hw' => by
    have hr : (Instr.loadAt 78 (.pointer (some ⟨g, 0, none⟩))).run Tryd.prog w = .ok (.agg (gcells n f)) w := by
      simp only [Instr.loadAt, Instr.sureAddr, Sem.run_bind, Sem.run_pure, Result.andThen_ok, run_loadVar_row w g 78 78 (gcells n f) (0, 0) _ (hS w hw') Tryd.underlying78 rfl (size_gcells n f)]
    unfold execOp
    simp only [ho, hx, Sem.run_bind, hr, Result.andThen_ok, Sem.run_pure]⟩
/-- Half costs out of a graph. -/
theorem yieldsIf_half {ops : Array Oper} {S : World → Prop} {op : Oper} {a : Act} (hw : Region.wanted op (yielded ops a.tmps) = true) (x : Operand) (ho : op.op = .build 82 #[(0, x)])
    (n : Nat) (f : Nat → Nat) (hx : a.eval x = .agg (gcells n f)) : YieldsIf Tryd.prog ops S op (.agg (gcells n f)) a :=
  .inl ⟨hw, fun w _ => by
    have hb : Tryd.prog.built 82 [(0, .agg (gcells n f))] = some (gcells n f) := by kernel_rfl
    have hr := run_build (P := Tryd.prog) w 82 #[(0, .agg (gcells n f))] _ hb
    unfold execOp
    simp only [ho, List.map_toArray, List.map_cons, List.map_nil, hx, Sem.run_bind, hr, Result.andThen_ok, Sem.run_pure]⟩

set_option maxRecDepth 100000 in
theorem chooserOfH_any (w : World) (n : Nat) (f : Nat → Nat) : Calls Tryd.prog 29 #[.iface 82 (.agg (gcells n f)), .agg #[.int .i64 0, .func (.func 45) #[] #[]]] w fun e w' => ∃ B, e = .returned (.agg (hcs n f B)) ∧ Below w.heap.size w w' ∧ w.heap.size ≤ B ∧ MemoI w' B (gH n f) 0 := by
  have hmk : ∀ W : World, (Instr.makeMap 59 none).run Tryd.prog W = .ok (.map (some W.heap.size)) (W.alloc (.map #[] 0)) := fun W => run_makeMap 59 W
  go_enter Tryd.func29, Tryd.ntmps29
  go_wp2
  have hb2 : Below w.heap.size w ((w.alloc (.cells #[.int .i64 0, .func (.func 45) #[] #[]] 58)).alloc (.cells #[.iface 82 (.agg (gcells n f)), .int .i64 0, .func (.func 45) #[] #[], .map (some (w.heap.size + 1 + 1))] 61)) := ((Below.refl _ _).alloc (Nat.le_refl _) _).alloc (by simp) _
  have hg : (((w.alloc (.cells #[.int .i64 0, .func (.func 45) #[] #[]] 58)).alloc (.cells #[.iface 82 (.agg (gcells n f)), .int .i64 0, .func (.func 45) #[] #[], .map (some (w.heap.size + 1 + 1))] 61)).alloc (.map #[] 0)).heap[w.heap.size + 1]? = some (.cells #[.iface 82 (.agg (gcells n f)), .int .i64 0, .func (.func 45) #[] #[], .map (some (w.heap.size + 1 + 1))] 61 (0, 0)) := by
    rw [Below.heap_alloc _ _ _ (by simp)]
    have := World.alloc_heap_new (w.alloc (.cells #[.int .i64 0, .func (.func 45) #[] #[]] 58)) (.cells #[.iface 82 (.agg (gcells n f)), .int .i64 0, .func (.func 45) #[] #[], .map (some (w.heap.size + 1 + 1))] 61)
    rwa [World.size_alloc] at this
  refine bodyPost_ret (v := .agg (hcs n f (w.heap.size + 1 + 1))) (results_cell_row rfl _ _ (w.heap.size + 1) 61 (hcs n f (w.heap.size + 1 + 1)) (0, 0) _ rfl hg Tryd.underlying61 rfl (show _ = some 4 by kernel_rfl)) rfl ⟨_, rfl, hb2.alloc (by simp; omega) _, by omega, ?_⟩
  have := MemoI.made ((w.alloc (.cells #[.int .i64 0, .func (.func 45) #[] #[]] 58)).alloc (.cells #[.iface 82 (.agg (gcells n f)), .int .i64 0, .func (.func 45) #[] #[], .map (some (w.heap.size + 1 + 1))] 61)) (gH n f)
  rwa [World.size_alloc, World.size_alloc] at this

theorem full_len8_all : ∀ n : Fin 9, (bitsOf (2 ^ n.val - 1)).length = n.val := by decide +kernel
theorem free_all : ∀ (n : Fin 9) (u : Fin 8), (2 ^ n.val - 1).testBit u.val = decide (u.val < n.val) := by decide +kernel
/-- The least cost of all columns is what the specification finds, with the other sign. -/
theorem gH_full {xs : List Int} (h8 : xs.length ≤ 8) : gH xs.length (gfun xs) (2 ^ xs.length - 1) = -(sd (eX xs) xs.length xs.length 0 0) := by
  have hl := full_len8_all ⟨xs.length, by omega⟩
  simp only at hl
  have hm : 2 ^ xs.length - 1 < 256 := by
    have : 2 ^ xs.length ≤ 2 ^ 8 := Nat.pow_le_pow_right (by decide) h8
    omega
  unfold gH
  rw [hl, Nat.sub_self]
  exact half_eq (eX xs) h8 xs.length 0 0 (2 ^ xs.length - 1) hm (fun u hu => by
    have := free_all ⟨xs.length, by omega⟩ ⟨u, hu⟩
    simp only at this
    rw [this, decide_eq_true_iff]
    simp) hl

set_option maxRecDepth 100000 in
set_option maxHeartbeats 1000000 in
theorem implHalf_any (w : World) (v : Value) (xs : List Int) (hv : Ints w v xs) (hr : ∀ x ∈ xs, I64 x) (hT : Tab w) :
    Calls Tryd.prog 24 #[v] w (GivesNum w (gIn xs) (halfOf xs)) := by
  have hf := from_any w v xs hv hr hT
  obtain ⟨A, cap, rfl, hm, -⟩ := hv
  cases hci : gIn xs with
  | false =>
    have hfr : fromOf xs = gcells 0 (fun _ => 0) := by unfold fromOf; rw [hci]; rfl
    rw [hci, hfr] at hf
    have HF := Lib.hid hf
    clear hf hfr
    go_enter Tryd.func24, Tryd.ntmps24
    go_wp2_with (first
      | (go_at_call 40; refine HF.out.mono ?_; rintro e w1 ⟨rfl, hb1⟩)
      | (refine store_graph_new rfl _ _ rfl 0 (fun _ => 0) rfl rfl ?_))
    go_ret2
    have e1 : halfOf xs = 0 := by unfold halfOf; rw [hci]; rfl
    rw [e1]
    exact ⟨rfl, hb1.alloc hb1.size _⟩
  | true =>
    obtain ⟨h1, h8, hok⟩ := gIn_parts hci
    have hfr : fromOf xs = gcells xs.length (gfun xs) := by unfold fromOf; rw [hci]; rfl
    have hgl : ∀ i, gfun xs i < 256 := fun i => gfun_lt h8 hok i
    have hfull := gH_full h8
    have hz : halfOf xs = sd (eX xs) xs.length xs.length 0 0 := by unfold halfOf; rw [hci]; rfl
    have hsb := sd_bounds (eX xs) xs.length xs.length 0 0
    obtain ⟨z, hzz⟩ : ∃ z, sd (eX xs) xs.length xs.length 0 0 = z := ⟨_, rfl⟩
    rw [hzz] at hz hfull hsb
    have hng : IntKind.i64.wrap z = z := by rw [IntKind.wrap_i64]; omega
    have HNG := Lib.hid hng
    clear hng
    rw [hci, hfr] at hf
    rw [hz]
    have HF := Lib.hid hf
    have HT := Lib.hid hT
    have HX := Lib.hid (And.intro h8 (And.intro hgl hfull))
    have hfl := full_len8_all ⟨xs.length, by omega⟩
    simp only at hfl
    have HFL := Lib.hid hfl
    clear hf hfr hT hgl hfull hzz hz hok hfl
    go_enter Tryd.func24, Tryd.ntmps24
    go_wp2_with (first
      | (go_at_call 40; refine HF.out.mono ?_; rintro e w1 ⟨rfl, hb1⟩)
      | (refine store_graph_new rfl _ _ rfl xs.length (gfun xs) rfl rfl ?_))
    obtain ⟨W1, hW1⟩ : ∃ W1, w1.alloc (.cells (gcells xs.length (gfun xs)) 78) = W1 := ⟨_, rfl⟩
    have hB1 : Below w.heap.size w W1 := by rw [← hW1]; exact hb1.alloc hb1.size _
    have hg1 : W1.heap[w1.heap.size]? = some (.cells (gcells xs.length (gfun xs)) 78 (0, 0)) := by rw [← hW1]; exact World.alloc_heap_new _ _
    have hl1 := (Array.getElem?_eq_some_iff.1 hg1).1
    rw [hW1]
    clear hW1
    have HND := Lib.hid (fun W => nodes_any xs.length (gfun xs) HX.out.1 W)
    have HLE := Lib.hid (fun (B : Nat) (W : World) (hM : MemoI W B (gH xs.length (gfun xs)) 0) (hTW : Tab W) (hgB : 1 < B) =>
      show Calls Tryd.prog 41 #[.agg (hcs xs.length (gfun xs) B), .int .i64 ((2 ^ xs.length - 1 : Nat) : Int)] W fun e w' => e = .returned (.int .i64 (-z)) ∧ Within B (B + 1) W w' from
        (least_any xs.length HX.out.1 (gfun xs) HX.out.2.1 B hgB (2 ^ xs.length - 1) (by
          have : 2 ^ xs.length ≤ 2 ^ 8 := Nat.pow_le_pow_right (by decide) HX.out.1
          omega) W 0 (by rw [HFL.out]; exact Nat.le_refl _) hM hTW (by
          unfold cntI
          rw [HFL.out]
          have : 10 ^ xs.length ≤ 10 ^ 8 := Nat.pow_le_pow_right (by decide) HX.out.1
          omega)).mono fun e w' h => ⟨by rw [h.1, HX.out.2.2], h.2.2⟩)
    obtain ⟨N, hN⟩ : ∃ N, 2 ^ xs.length - 1 = N := ⟨_, rfl⟩
    simp only [hN] at HND HLE
    clear hN
    have hsB := hB1.size
    refine wp_region_held_drew (S := fun w' => w'.heap[w1.heap.size]? = some (.cells (gcells xs.length (gfun xs)) 78 (0, 0))) (by kernel_rfl) hg1 (fun hHeld => ?_)
    refine wpAnyH_take (i := 0) rfl (by kernel_rfl) (by kernel_rfl) (by kernel_rfl) (fun _ _ _ h => h) (yieldsIf_graph (by rfl) _ rfl w1.heap.size xs.length (gfun xs) rfl (fun w' hw' => hw')) (by assumption) ?_
    try simp only [Act.put, List.setIfInBounds_toArray, List.set_cons_zero, List.set_cons_succ]
    refine wpAnyH_take (i := 1) rfl (by kernel_rfl) (by kernel_rfl) (by kernel_rfl) (fun _ _ _ h => h) (yieldsIf_half (by rfl) _ rfl xs.length (gfun xs) rfl) (by assumption) ?_
    try simp only [Act.put, List.setIfInBounds_toArray, List.set_cons_zero, List.set_cons_succ]
    refine wpAnyH_take (i := 2) (v := ?v2) rfl (by kernel_rfl) (by kernel_rfl) (by kernel_rfl) (fun _ _ _ h => h) (Or.inl ⟨by rfl, ?hy2⟩) (by assumption) ?_
    case hy2 =>
      intro w' hSw
      try dsimp only at hSw
      go_simp
      try with_reducible rfl
    try simp only [Act.put, List.getElem_toArray, List.getElem_cons_succ, List.getElem_cons_zero, List.setIfInBounds_toArray, List.set_cons_zero, List.set_cons_succ]
    refine wpAnyH_take (i := 5) rfl (by kernel_rfl) (by kernel_rfl) (by kernel_rfl) (fun _ _ _ h => h) (yieldsIf_graph (by rfl) _ rfl w1.heap.size xs.length (gfun xs) rfl (fun w' hw' => hw')) (by assumption) ?_
    try simp only [Act.put, List.setIfInBounds_toArray, List.set_cons_zero, List.set_cons_succ]
    refine wpAnyH_ready (rs := [3]) (by kernel_rfl) (by simp) (AllReadyH.cons rfl (fun K hK => ?_) (AllReadyH.nil))
    · go_simp
      go_at_call 30; refine (bySum_any _).mono ?_; rintro e w3 ⟨rfl, p1⟩
      refine hK.out _ _ ((p1.block _ (by simpa using hl1)).trans hg1) (fun hHeld2 => ?_)
      clear hK K
      try simp only [Act.put, List.setIfInBounds_toArray, List.set_cons_zero, List.set_cons_succ]
      refine wpAnyH_ready (rs := [4]) (by kernel_rfl) (by simp) (AllReadyH.cons rfl (fun K hK => ?_) (AllReadyH.nil))
      · go_simp
        go_at_call 29; refine (chooserOfH_any _ _ _).mono ?_; rintro e w4 ⟨B, rfl, p4, hB0, hM0⟩
        have p2 := step_below p1 p4
        refine hK.out _ _ ((p2.block _ (by simpa using hl1)).trans hg1) (fun hHeld2 => ?_)
        clear hK K
        try simp only [Act.put, List.setIfInBounds_toArray, List.set_cons_zero, List.set_cons_succ]
        refine wpAnyH_ready (rs := [6]) (by kernel_rfl) (by simp) (AllReadyH.cons rfl (fun K hK => ?_) (AllReadyH.nil))
        · go_simp
          go_at_call 42; refine (HND.out _).mono ?_; rintro e w' ⟨rfl, rfl⟩
          have hq6 : Below w4.heap.size w4 (w4.alloc (.cells (gcells xs.length (gfun xs)) 78)) := (Below.refl _ _).alloc (Nat.le_refl _) _
          have q3 := step_below p2 hq6
          refine hK.out _ _ ((q3.block _ (by simpa using hl1)).trans hg1) (fun hHeld2 => ?_)
          clear hK K
          try simp only [Act.put, List.setIfInBounds_toArray, List.set_cons_zero, List.set_cons_succ]
          have hM5 := hM0.below hq6
          obtain ⟨w5, hw5e⟩ : ∃ w5, w4.alloc (.cells (gcells xs.length (gfun xs)) 78) = w5 := ⟨_, rfl⟩
          rw [hw5e] at q3 hM5 ⊢
          have hBw : W1.drew.heap.size ≤ B := Nat.le_trans p1.size hB0
          refine wpAnyH_ready (rs := [7]) (by kernel_rfl) (by simp) (AllReadyH.cons rfl (fun K hK => ?_) (AllReadyH.nil))
          · go_simp
            have hT3 : Tab w5 := (HT.out.later hB1).later (undrewL q3)
            have hBB : W1.heap.size ≤ B := by have := hBw; simpa using this
            go_at_call 41; refine (HLE.out B _ hM5 hT3 (by have := HT.out.lt; omega)).mono ?_; rintro e w6 ⟨rfl, hw6⟩
            refine hK.out _ _ ((hw6.block _ (Nat.lt_of_lt_of_le hl1 (by have := q3.size; simpa using this)) (.inl (by omega))).trans ((q3.block _ (by simpa using hl1)).trans hg1)) (fun hHeld2 => ?_)
            clear hK K
            try simp only [Act.put, List.setIfInBounds_toArray, List.set_cons_zero, List.set_cons_succ]
            refine wpAnyH_take (i := 8) (v := ?va8) rfl (by kernel_rfl) (by kernel_rfl) (by kernel_rfl) (fun _ _ _ h => h) (Or.inl ⟨by rfl, ?hya8⟩) (by assumption) ?_
            case hya8 =>
              intro w' hSw
              try dsimp only at hSw
              go_simp
              try with_reducible rfl
            try simp only [Act.put, List.getElem_toArray, List.getElem_cons_succ, List.getElem_cons_zero, List.setIfInBounds_toArray, List.set_cons_zero, List.set_cons_succ]
            refine wpAnyH_take (i := 9) (v := ?va9) rfl (by kernel_rfl) (by kernel_rfl) (by kernel_rfl) (fun _ _ _ h => h) (Or.inl ⟨by rfl, ?hya9⟩) (by assumption) ?_
            case hya9 =>
              intro w' hSw
              try dsimp only at hSw
              go_simp
              try with_reducible rfl
            try simp only [Act.put, List.getElem_toArray, List.getElem_cons_succ, List.getElem_cons_zero, List.setIfInBounds_toArray, List.set_cons_zero, List.set_cons_succ]
            refine wpAnyH_take (i := 10) (v := ?va10) rfl (by kernel_rfl) (by kernel_rfl) (by kernel_rfl) (fun _ _ _ h => h) (Or.inl ⟨by rfl, ?hya10⟩) (by assumption) ?_
            case hya10 =>
              intro w' hSw
              try dsimp only at hSw
              go_simp
              try with_reducible rfl
            try simp only [Act.put, List.getElem_toArray, List.getElem_cons_succ, List.getElem_cons_zero, List.setIfInBounds_toArray, List.set_cons_zero, List.set_cons_succ]
            refine wpAnyH_done (by kernel_rfl) ?_ _
            have HE := Lib.hid (And.intro q3 hw6)
            clear q3 hw6 hg1 hl1 hsB
            try simp only [Act.put, List.getElem_toArray, List.getElem_cons_succ, List.getElem_cons_zero, List.setIfInBounds_toArray, List.set_cons_zero, List.set_cons_succ]
            go_wp2
            go_ret2
            obtain ⟨q3, hw6⟩ := HE.out
            have q3' := step_below hB1 (undrewL q3)
            exact ⟨show Ending.returned (.tuple #[.int .i64 (IntKind.i64.wrap z), .bool true]) = .returned (.tuple #[.int .i64 z, .bool true]) by rw [HNG.out], ⟨hw6.os.trans q3'.os, hw6.tape.trans q3'.tape, hw6.output.trans q3'.output, Nat.le_trans q3'.size hw6.size, fun k hk => (hw6.block k (Nat.lt_of_lt_of_le hk q3'.size) (.inl (by have := hBB; have := hB1.size; omega))).trans (q3'.block k hk)⟩⟩

theorem FnExactCostHalf_final (w : World) (v : Value) (xs : List Int) (h : Ints w v xs) (hr : ∀ x ∈ xs, I64 x) (hT : Tab w) :
    Calls Tryd.prog 6 #[v] w fun e w' => e = .returned (.bool true) ∧ Below w.heap.size w w' :=
  FnExactCostHalf_walk w v xs h hT (gIn xs) (halfOf xs) (fun W u hu => specHalf_any W u xs hu) (fun W u hu hTW => implHalf_any W u xs hu hr hTW)

end Go.Proofs.YtellghhilcjbnaaDoor.Hf
