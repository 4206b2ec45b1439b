/-
  impl.CostFit; the law's walk with both contracts.
-/
import Derived.Test.YtellghhilcjbnaaDoorAllow
import Derived.Test.YtellghhilcjbnaaDoorLawQFit
namespace Go.Proofs.YtellghhilcjbnaaDoor
set_option linter.unusedVariables false
set_option linter.unusedSimpArgs false
open Go.RowKit

theorem ints_take {w : World} {b off cap : Nat} {xs : List Int} (h : Ints w (.slice (some ⟨b, off, none⟩) xs.length cap) xs) (k : Nat) (hk : k ≤ xs.length) : Ints w (.slice (some ⟨b, off, none⟩) k cap) (xs.take k) := by
  obtain ⟨A, cap', e, hm, hc⟩ := h
  obtain ⟨rfl, -, rfl⟩ : A = some ⟨b, off, none⟩ ∧ True ∧ cap = cap' := by simpa [eq_comm] using e
  have hl : (xs.take k).length = k := by rw [List.length_take]; omega
  refine ⟨some ⟨b, off, none⟩, cap, by rw [hl], by rw [hl]; omega, fun i hi => ?_⟩
  obtain ⟨b', off', e', hx⟩ := hc i (by omega)
  exact ⟨b', off', e', by rw [hx, List.getElem_take]⟩
theorem ints_drop {w : World} {b off cap c2 : Nat} {xs : List Int} (h : Ints w (.slice (some ⟨b, off, none⟩) xs.length cap) xs) (k m : Nat) (hk : k + m = xs.length) : Ints w (.slice (some ⟨b, off + k, none⟩) m c2) (xs.drop k) := by
  obtain ⟨A, cap', e, hm, hc⟩ := h
  obtain ⟨rfl, -, rfl⟩ : A = some ⟨b, off, none⟩ ∧ True ∧ cap = cap' := by simpa [eq_comm] using e
  have hl : (xs.drop k).length = m := by rw [List.length_drop]; omega
  refine ⟨some ⟨b, off + k, none⟩, c2, by rw [hl], by rw [hl]; omega, fun i hi => ?_⟩
  obtain ⟨b', off', e', hx⟩ := hc (k + i) (by omega)
  obtain ⟨rfl, rfl⟩ : b = b' ∧ off = off' := by simpa using e'
  exact ⟨b, off + k, rfl, by rw [Nat.add_assoc, hx, List.getElem_drop]⟩

set_option maxRecDepth 100000 in
set_option maxHeartbeats 4000000 in
theorem implQFit_any (w : World) (v u : Value) (xss : List (List Int)) (ps : List Int) (hv : IntRows w v xss) (hu : Ints w u ps) (hcap : CapOk u ps.length) :
    Calls Tryd.prog 18 #[v, u] w (GivesBool w (fitOk xss ps)) := by
  have hf := cFrom_any w v xss hv
  have HU := Lib.hid hu
  obtain ⟨A2, cap2, rfl, hm2, hc2⟩ := hu
  have HC2 := Lib.hid hc2
  have HCAP := Lib.hid (hcap _ _ _ rfl)
  obtain ⟨A, cap, rfl, hm, -⟩ := hv.at
  unfold maxLen at hm hm2
  clear hv hc2 hcap
  cases hci : cIn xss with
  | false =>
    have HNO : Hid (fitOk xss ps = false) := Lib.hid (by unfold fitOk; rw [hci]; rfl)
    have hfr : cFromOf xss = tcells 0 (fun _ => 0) := by unfold cFromOf; rw [hci]; rfl
    rw [hci, hfr] at hf
    have HF := Lib.hid hf
    clear hci hf hfr
    go_enter Tryd.func18, Tryd.ntmps18
    go_wp2_with (first
      | (go_at_call 28; refine HF.out.mono ?_; rintro e w1 ⟨rfl, hb1⟩)
      | (refine alloc_whole rfl rfl ?_)
      | (refine store_whole_last rfl _ _ rfl 0 (fun _ => 0) _ rfl rfl rfl ?_))
    go_ret
    exact ⟨ret_bool HNO.out.symm, hb1.alloc hb1.size _⟩
  | true =>
    obtain ⟨h1, h6⟩ := cIn_size hci
    have hfr : cFromOf xss = tcells xss.length (flat xss) := by unfold cFromOf; rw [hci]; rfl
    rw [hci, hfr] at hf
    have HF := Lib.hid hf
    clear hf hfr
    by_cases hl : ps.length = 2 * xss.length
    · have hwr : IntKind.i64.wrap (2 * (xss.length : Int)) = (ps.length : Int) := by rw [IntKind.wrap_i64]; omega
      have hwr2 : wrap64 (2 * (xss.length : Int)) = (ps.length : Int) := by rw [← wrap_eq]; exact hwr
      have e1 : ((ps.length : Int) != (ps.length : Int)) = false := by simp
      have hfo : fitOk xss ps = (ps.all (inL 100000) && fitB xss (fun r => ps.getD r 0) (fun c => ps.getD (xss.length + c) 0)) := by unfold fitOk; rw [hci, decide_eq_true hl]; rfl
      have HAW := Lib.hid (fun (W : World) (hW : Below w.heap.size w W) => areWithin_any W (.slice A2 ps.length cap2) ps (HU.out.below hW) 100000 (by omega) (by omega))
      cases hall : ps.all (inL 100000) with
      | false =>
        rw [hall] at HAW
        have HNO : Hid (fitOk xss ps = false) := Lib.hid (by rw [hfo, hall]; rfl)
        clear hci hl hfo hall
        go_enter Tryd.func18, Tryd.ntmps18
        go_wp2_with (first
          | (go_at_call 28; refine HF.out.mono ?_; rintro e w1 ⟨rfl, hb1⟩; have hb2 := hb1.alloc hb1.size (.cells (tcells xss.length (flat xss)) 49); obtain ⟨d0, -, -, -⟩ := whole_cells (World.alloc_heap_new w1 (.cells (tcells xss.length (flat xss)) 49)))
          | (refine alloc_whole rfl rfl ?_)
          | (refine store_whole_last rfl _ _ rfl xss.length (flat xss) _ rfl rfl rfl ?_)
          | (go_at_call 35; refine (HAW.out _ hb2).mono ?_; rintro e w3 ⟨rfl, hb3⟩))
        go_ret
        exact ⟨ret_bool HNO.out.symm, step_below hb2 hb3⟩
      | true =>
        rw [hall] at HAW
        have HFO : Hid (fitOk xss ps = fitB xss (fun r => ps.getD r 0) (fun c => ps.getD (xss.length + c) 0)) := Lib.hid (by rw [hfo, hall]; rfl)
        obtain ⟨b2, off2, rfl, -⟩ := HC2.out 0 (by omega)
        have hpb : ∀ j (hj : j < ps.length), ps.getD j 0 = ps[j] ∧ -100000 ≤ ps[j] ∧ ps[j] ≤ 100000 := fun j hj => by
          have := List.all_eq_true.1 hall _ (List.getElem_mem hj)
          unfold inL at this
          exact ⟨by simp [List.getD, hj], of_decide_eq_true this⟩
        have hl1 : (ps.take xss.length).length = xss.length := by rw [List.length_take]; omega
        have hl2 : (ps.drop xss.length).length = xss.length := by rw [List.length_drop]; omega
        obtain ⟨bb, hbb⟩ : ∃ bb, fitB xss (fun r => ps.getD r 0) (fun c => ps.getD (xss.length + c) 0) = bb := ⟨_, rfl⟩
        rw [hbb] at HFO
        have HALL := Lib.hid (fun (W : World) (hW : Below w.heap.size w W) (c2 : Nat) => allow_any W (.slice (some ⟨b2, off2, none⟩) xss.length cap2) (.slice (some ⟨b2, off2 + xss.length, none⟩) xss.length c2) xss (ps.take xss.length) (ps.drop xss.length) (fun r => ps.getD r 0) (fun c => ps.getD (xss.length + c) 0) hci
          (ints_take (HU.out.below hW) xss.length (by omega)) (ints_drop (HU.out.below hW) xss.length xss.length (by omega)) hl1 hl2
          (fun r hr => by
            obtain ⟨g1, g2, g3⟩ := hpb r (by omega)
            have e : (ps.take xss.length)[r] = ps[r]'(by omega) := List.getElem_take
            simp only [e, g1]
            exact ⟨trivial, g2, g3⟩)
          (fun c hc => by
            obtain ⟨g1, g2, g3⟩ := hpb (xss.length + c) (by omega)
            have e : (ps.drop xss.length)[c] = ps[xss.length + c]'(by omega) := List.getElem_drop
            simp only [e, g1]
            exact ⟨trivial, g2, g3⟩))
        rw [hbb] at HALL
        have HBB := Lib.hid hbb
        have hn0 : (0 : Int) ≤ (xss.length : Int) := by omega
        have hnl : (xss.length : Int) ≤ (ps.length : Int) := by omega
        have hcap := HCAP.out
        have hnc : (xss.length : Int) ≤ (cap2 : Int) := by omega
        have hcne : ¬ cap2 = xss.length := by omega
        have hlc : (ps.length : Int) ≤ (cap2 : Int) := by omega
        have hsub : ps.length - xss.length = xss.length := by omega
        clear hci hl hfo hall hl1 hl2 hpb hcap hbb
        go_enter Tryd.func18, Tryd.ntmps18
        go_wp2_with (first
          | (go_at_call 28; refine HF.out.mono ?_; rintro e w1 ⟨rfl, hb1⟩; have hb2 := hb1.alloc hb1.size (.cells (tcells xss.length (flat xss)) 49); have hg2 := World.alloc_heap_new w1 (.cells (tcells xss.length (flat xss)) 49); obtain ⟨d0, -, -, -⟩ := whole_cells hg2)
          | (refine alloc_whole rfl rfl ?_)
          | (refine store_whole_last rfl _ _ rfl xss.length (flat xss) _ rfl rfl rfl ?_)
          | (go_at_call 35; refine (HAW.out _ hb2).mono ?_; rintro e w2 ⟨rfl, hb3⟩))
        have hgd : w2.drew.heap[w1.heap.size]? = some (.cells (tcells xss.length (flat xss)) 49 (0, 0)) := kept_obj hb3.drew hg2
        have HB3 := Lib.hid (step_below hb2 hb3)
        clear d0 hg2 hb2 hb3 hwr hwr2 e1
        obtain ⟨d0, -, -, -⟩ := whole_cells hgd
        have HAL := Lib.hid (HALL.out w2.drew HB3.out.drew (cap2 - xss.length))
        apply once_zero (fun (w' : World) => Below w2.heap.size w2 w')
        case h1 =>
          refine wp_region_held_drew (S := fun w' => w'.heap[w1.heap.size]? = some (.cells (tcells xss.length (flat xss)) 49 (0, 0)) ∧ w'.cell? ⟨w1.heap.size, 0, none⟩ = some (.int .i64 (xss.length : Int))) (by kernel_rfl) ⟨hgd, d0⟩ (fun hHeld => ?_)
          refine wpAnyH_take (i := 0) rfl (by kernel_rfl) (by kernel_rfl) (by kernel_rfl) (fun _ _ _ h => h) (yieldsIf_whole (by rfl) _ rfl w1.heap.size xss.length (flat xss) rfl (fun w' hw' => hw'.1)) (by assumption) ?_
          try simp only [Act.put, List.setIfInBounds_toArray, List.set_cons_zero, List.set_cons_succ]
          refine wpAnyH_take (i := 1) (v := ?v1) rfl (by kernel_rfl) (by kernel_rfl) (by kernel_rfl) (fun _ _ _ h => h) (Or.inl ⟨by rfl, ?hy1⟩) (by assumption) ?_
          case hy1 =>
            intro w' hSw
            try dsimp only at hSw
            obtain ⟨p1, p2⟩ := hSw
            go_simp
            try with_reducible rfl
          try simp only [Act.put, List.setIfInBounds_toArray, List.set_cons_zero, List.set_cons_succ]
          refine wpAnyH_take (i := 2) (v := ?v2) rfl (by kernel_rfl) (by kernel_rfl) (by kernel_rfl) (fun _ _ _ h => h) (Or.inl ⟨by rfl, ?hy2⟩) (by assumption) ?_
          case hy2 =>
            intro w' hSw
            try dsimp only at hSw
            obtain ⟨p1, p2⟩ := hSw
            go_simp
            try with_reducible rfl
          try simp only [Act.put, List.setIfInBounds_toArray, List.set_cons_zero, List.set_cons_succ]
          refine wpAnyH_take (i := 3) (v := ?v3) rfl (by kernel_rfl) (by kernel_rfl) (by kernel_rfl) (fun _ _ _ h => h) (Or.inl ⟨by rfl, ?hy3⟩) (by assumption) ?_
          case hy3 =>
            intro w' hSw
            try dsimp only at hSw
            obtain ⟨p1, p2⟩ := hSw
            go_simp
            try with_reducible rfl
          try simp only [Act.put, List.setIfInBounds_toArray, List.set_cons_zero, List.set_cons_succ]
          refine wpAnyH_take (i := 4) (v := ?v4) rfl (by kernel_rfl) (by kernel_rfl) (by kernel_rfl) (fun _ _ _ h => h) (Or.inl ⟨by rfl, ?hy4⟩) (by assumption) ?_
          case hy4 =>
            intro w' hSw
            try dsimp only at hSw
            obtain ⟨p1, p2⟩ := hSw
            go_simp
            try with_reducible rfl
          try simp only [Act.put, List.setIfInBounds_toArray, List.set_cons_zero, List.set_cons_succ]
          refine wpAnyH_take (i := 5) (v := ?v5) rfl (by kernel_rfl) (by kernel_rfl) (by kernel_rfl) (fun _ _ _ h => h) (Or.inl ⟨by rfl, ?hy5⟩) (by assumption) ?_
          case hy5 =>
            intro w' hSw
            try dsimp only at hSw
            obtain ⟨p1, p2⟩ := hSw
            go_simp
            try with_reducible rfl
          try simp only [Act.put, List.setIfInBounds_toArray, List.set_cons_zero, List.set_cons_succ]
          refine wpAnyH_take (i := 6) (v := ?v6) rfl (by kernel_rfl) (by kernel_rfl) (by kernel_rfl) (fun _ _ _ h => h) (Or.inl ⟨by rfl, ?hy6⟩) (by assumption) ?_
          case hy6 =>
            intro w' hSw
            try dsimp only at hSw
            obtain ⟨p1, p2⟩ := hSw
            go_simp
            try with_reducible rfl
          try simp only [Act.put, List.setIfInBounds_toArray, List.set_cons_zero, List.set_cons_succ]
          refine wpAnyH_take (i := 7) (v := ?v7) rfl (by kernel_rfl) (by kernel_rfl) (by kernel_rfl) (fun _ _ _ h => h) (Or.inl ⟨by rfl, ?hy7⟩) (by assumption) ?_
          case hy7 =>
            intro w' hSw
            try dsimp only at hSw
            obtain ⟨p1, p2⟩ := hSw
            go_simp
            try with_reducible rfl
          try simp only [Act.put, List.setIfInBounds_toArray, List.set_cons_zero, List.set_cons_succ]
          refine wpAnyH_take (i := 8) (v := ?v8) rfl (by kernel_rfl) (by kernel_rfl) (by kernel_rfl) (fun _ _ _ h => h) (Or.inl ⟨by rfl, ?hy8⟩) (by assumption) ?_
          case hy8 =>
            intro w' hSw
            try dsimp only at hSw
            obtain ⟨p1, p2⟩ := hSw
            go_simp
            try with_reducible rfl
          try simp only [Act.put, List.setIfInBounds_toArray, List.set_cons_zero, List.set_cons_succ]
          refine wpAnyH_take (i := 9) (v := ?v9) rfl (by kernel_rfl) (by kernel_rfl) (by kernel_rfl) (fun _ _ _ h => h) (Or.inl ⟨by rfl, ?hy9⟩) (by assumption) ?_
          case hy9 =>
            intro w' hSw
            try dsimp only at hSw
            obtain ⟨p1, p2⟩ := hSw
            go_simp
            try with_reducible rfl
          try simp only [Act.put, List.setIfInBounds_toArray, List.set_cons_zero, List.set_cons_succ]
          refine wpAnyH_take (i := 10) (v := ?v10) rfl (by kernel_rfl) (by kernel_rfl) (by kernel_rfl) (fun _ _ _ h => h) (Or.inl ⟨by rfl, ?hy10⟩) (by assumption) ?_
          case hy10 =>
            intro w' hSw
            try dsimp only at hSw
            obtain ⟨p1, p2⟩ := hSw
            go_simp
            try with_reducible rfl
          try simp only [Act.put, List.setIfInBounds_toArray, List.set_cons_zero, List.set_cons_succ]
          refine wpAnyH_ready (rs := [11]) (by kernel_rfl) (by simp) (AllReadyH.cons rfl (fun K hK => ?_) AllReadyH.nil)
          go_simp
          go_at_call 36
          refine HAL.out.mono ?_
          rintro e w3 ⟨rfl, hb3⟩
          refine hK.out _ _ (⟨kept_obj hb3 hgd, (whole_cells (kept_obj hb3 hgd)).1⟩) (fun hHeld2 => ?_)
          clear hK K
          try simp only [Act.put, List.setIfInBounds_toArray, List.set_cons_zero, List.set_cons_succ]
          refine wpAnyH_take (i := 12) (v := ?v12) rfl (by kernel_rfl) (by kernel_rfl) (by kernel_rfl) (fun _ _ _ h => h) (Or.inl ⟨by rfl, ?hy12⟩) (by assumption) ?_
          case hy12 =>
            intro w' hSw
            try dsimp only at hSw
            obtain ⟨p1, p2⟩ := hSw
            go_simp
            try with_reducible rfl
          simp only [Act.put, List.getElem_toArray, List.getElem_cons_zero, List.getElem_cons_succ, List.setIfInBounds_toArray, List.set_cons_zero, List.set_cons_succ]
          refine wpAnyH_done (by kernel_rfl) ?_ _
          exact ⟨below_undrew hb3, rfl⟩
        intro w3 hb3
        go_wp2
        go_ret
        exact ⟨ret_bool HFO.out.symm, step_below HB3.out hb3⟩
    · have hwr : IntKind.i64.wrap (2 * (xss.length : Int)) = 2 * (xss.length : Int) := by rw [IntKind.wrap_i64]; omega
      have hwr2 : wrap64 (2 * (xss.length : Int)) = 2 * (xss.length : Int) := by rw [← wrap_eq]; exact hwr
      have e1 : ((ps.length : Int) != 2 * (xss.length : Int)) = true := by simp; omega
      have HNO : Hid (fitOk xss ps = false) := Lib.hid (by unfold fitOk; rw [decide_eq_false hl, Bool.false_and, Bool.and_false])
      clear hci hl
      go_enter Tryd.func18, Tryd.ntmps18
      go_wp2_with (first
        | (go_at_call 28; refine HF.out.mono ?_; rintro e w1 ⟨rfl, hb1⟩; have hb2 := hb1.alloc hb1.size (.cells (tcells xss.length (flat xss)) 49); obtain ⟨d0, -, -, -⟩ := whole_cells (World.alloc_heap_new w1 (.cells (tcells xss.length (flat xss)) 49)))
        | (refine alloc_whole rfl rfl ?_)
        | (refine store_whole_last rfl _ _ rfl xss.length (flat xss) _ rfl rfl rfl ?_))
      go_ret
      exact ⟨ret_bool HNO.out.symm, hb2⟩


end Go.Proofs.YtellghhilcjbnaaDoor
