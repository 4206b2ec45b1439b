/-
  spec.l2Add: sums of lists.
-/
import Derived.Test.YtbbnagkbbhbbgaaDoorSpecPoly
namespace Go.Proofs.YtbbnagkbbhbbgaaDoor
set_option linter.unusedVariables false
set_option linter.unusedSimpArgs false
open Go.RowKit

set_option maxHeartbeats 4000000 in
theorem l2Add_ge (w : World) (v u : Value) (p q : List Int) (hv : Ints w v p) (hu : Ints w u q) (lp : p.length ≤ 50) (lq : q.length ≤ p.length) (hp : within 1000000000000 p = true) (hq : within 1000000000000 q = true) :
    Calls Tryd.prog 18 #[v, u] w (GivesAt w (addL p q)) := by
  obtain ⟨A, cap, rfl, hm, hc⟩ := hv
  obtain ⟨B, cap2, rfl, hm2, hd⟩ := hu
  unfold maxLen at hm hm2
  have HC := Lib.hid hc
  have HD := Lib.hid hd
  have HP := Lib.hid hp
  have HQ := Lib.hid hq
  clear hc hd hp hq
  have hlt0 : ¬ (p.length : Int) < (q.length : Int) := by omega
  have hmk := fun W => run_make_row' (P := Tryd.prog) 22 3 (.int .i64 0) 8 Tryd.underlying22 infoInt rfl .i64 .i64 p.length (by omega) (by omega) W
  have hadd : addL p q = tab p.length (fun i => co p i + co q i) := by
    unfold addL
    have e : max p.length q.length = p.length := by omega
    rw [e]
  have HADD := Lib.hid hadd
  clear hadd
  go_enter Tryd.func18, Tryd.ntmps18
  go_wp2
  go_loopw [6] (fun i wr => ∃ k : Nat, k ≤ p.length ∧ i = .int .i64 k ∧ Below w.heap.size w wr ∧
      wr.ownsRow w.heap.size 3 1 (.slice (some ⟨w.heap.size, 0, none⟩) p.length p.length) p.length (vals (tab p.length (fun i => if i < k then co p i + co q i else 0))))
    (fun i _ => p.length - (intOf i).toNat)
  case atStart =>
    refine ⟨0, by omega, rfl, (Below.refl _ _).alloc (Nat.le_refl _) _, ?_⟩
    have := World.ownsRow_lit (base := w.heap.size) (e := 3) (size := 1) w (madeCells #[Value.int .i64 0] p.length) p.length (Nat.le_refl _) (by unfold maxLen; omega) (by simp [madeCells])
    rw [toList_madeCells_one, ← tab_const] at this
    simpa using this
  case round =>
    obtain ⟨k, hk, rfl, hb, ho⟩ := hrel
    have HO := Lib.hid ho
    clear ho hlt0
    by_cases hlt : k < p.length
    · have hkp : k < p.length := hlt
      by_cases hkq : k < q.length
      · have hT : True := trivial
        obtain ⟨b1, off1, rfl, hcp0⟩ := HC.out k hkp
        have hcp := (hb.cell (p := ⟨b1, off1 + k, none⟩) (World.block_lt_of_cell? w _ hcp0)).trans hcp0
        have zb := within_at HP.out hkp
        have zc : co p k = p[k] := co_at hkp
        obtain ⟨z, hz⟩ : ∃ z, p[k] = z := ⟨_, rfl⟩
        rw [hz] at hcp zb zc
        clear hcp0 hz
        obtain ⟨z1, z2⟩ := zb
        have wz1 : IntKind.i64.wrap (0 + z) = z := by rw [Int.zero_add]; exact IntWalk.i64_in _ (by omega)
        have wz2 : wrap64 (0 + z) = z := by rw [← wrap_eq]; exact wz1
        have wz3 : IntKind.i64.wrap z = z := IntWalk.i64_in _ (by omega)
        have wz4 : wrap64 z = z := by rw [← wrap_eq]; exact wz3
        have hkp' : (k : Int) < (p.length : Int) := by omega
        obtain ⟨b2, off2, rfl, hcq0⟩ := HD.out k hkq
        have hbq := World.block_lt_of_cell? w _ hcq0
        simp only at hbq
        have hcq := (hb.cell (p := ⟨b2, off2 + k, none⟩) (World.block_lt_of_cell? w _ hcq0)).trans hcq0
        have yb := within_at HQ.out hkq
        have yc : co q k = q[k] := co_at hkq
        obtain ⟨y, hy⟩ : ∃ y, q[k] = y := ⟨_, rfl⟩
        rw [hy] at hcq yb yc
        clear hcq0 hy
        obtain ⟨y1, y2⟩ := yb
        have hkq' : (k : Int) < (q.length : Int) := by omega
        have wy1 : IntKind.i64.wrap (z + y) = z + y := IntWalk.i64_in _ (by omega)
        have wy2 : wrap64 (z + y) = z + y := by rw [← wrap_eq]; exact wy1
        have hval : co p k + co q k = (z + y) := by rw [zc, yc]
        have HVAL := Lib.hid hval
        clear hval zc yc
        have hf := HO.out.frozenAt k
        have hx : wr.cell? ⟨w.heap.size, k, none⟩ = some (.int .i64 0) := by have := (HO.out.cellAt k (by omega)).trans (tab_cell p.length _ k (by omega)); simpa using this
        have HB := Lib.hid hb
        clear hb
        have hcq2 : (wr.setCell ⟨w.heap.size, k, none⟩ (.int .i64 z)).cell? ⟨b2, off2 + k, none⟩ = some (.int .i64 y) := by rw [World.cell?_setCell_other _ _ _ _ (fun e => by injection e; omega)]; exact hcq
        have hx2 : (wr.setCell ⟨w.heap.size, k, none⟩ (.int .i64 z)).drew.cell? ⟨w.heap.size, k, none⟩ = some (.int .i64 z) := by have := (HO.out.stored k (.int .i64 z)).1.cellAt k (by omega); refine Eq.trans this ?_; rw [tab_set, tab_cell p.length _ k (by omega)]; simp
        go_wp2
        go_region
        go_wp2
        go_region
        go_wp2
        go_roundw
        case rel =>
          refine ⟨k + 1, by omega, by go_num, ?_, ?_⟩
          · exact ((HB.out.setCell (p := ⟨w.heap.size, k, none⟩) (Nat.le_refl _) _).drew.setCell (p := ⟨w.heap.size, k, none⟩) (Nat.le_refl _) _).drew
          · have e1 := (HO.out.stored k (.int .i64 z)).1
            rw [tab_set] at e1
            have e2 := (World.ownsRow.stored (w := (wr.setCell ⟨w.heap.size, k, none⟩ (.int .i64 z)).drew) e1 k (.int .i64 (z + y))).1
            rw [tab_set] at e2
            rw [tab_congr (g := fun i => if i < k + 1 then co p i + co q i else 0) ?_] at e2
            · exact e2
            · intro i _
              by_cases h1 : i = k
              · subst h1; simp [HVAL.out]
              · by_cases h2 : i < k
                · have h3 : i < k + 1 := by omega
                  simp [h1, h2, h3]
                · have h3 : ¬ i < k + 1 := by omega
                  simp [h1, h2, h3]
        case measure => simp [intOf]; omega
      · have hT : True := trivial
        obtain ⟨b1, off1, rfl, hcp0⟩ := HC.out k hkp
        have hcp := (hb.cell (p := ⟨b1, off1 + k, none⟩) (World.block_lt_of_cell? w _ hcp0)).trans hcp0
        have zb := within_at HP.out hkp
        have zc : co p k = p[k] := co_at hkp
        obtain ⟨z, hz⟩ : ∃ z, p[k] = z := ⟨_, rfl⟩
        rw [hz] at hcp zb zc
        clear hcp0 hz
        obtain ⟨z1, z2⟩ := zb
        have wz1 : IntKind.i64.wrap (0 + z) = z := by rw [Int.zero_add]; exact IntWalk.i64_in _ (by omega)
        have wz2 : wrap64 (0 + z) = z := by rw [← wrap_eq]; exact wz1
        have wz3 : IntKind.i64.wrap z = z := IntWalk.i64_in _ (by omega)
        have wz4 : wrap64 z = z := by rw [← wrap_eq]; exact wz3
        have hkp' : (k : Int) < (p.length : Int) := by omega
        have yc : co q k = 0 := co_out (by omega)
        have hkq' : ¬ (k : Int) < (q.length : Int) := by omega
        have hval : co p k + co q k = z := by rw [zc, yc]; omega
        have HVAL := Lib.hid hval
        clear hval zc yc
        have hf := HO.out.frozenAt k
        have hx : wr.cell? ⟨w.heap.size, k, none⟩ = some (.int .i64 0) := by have := (HO.out.cellAt k (by omega)).trans (tab_cell p.length _ k (by omega)); simpa using this
        have HB := Lib.hid hb
        clear hb
        go_wp2
        go_region
        go_wp2
        go_roundw
        case rel =>
          refine ⟨k + 1, by omega, by go_num, ?_, ?_⟩
          · exact (HB.out.setCell (p := ⟨w.heap.size, k, none⟩) (Nat.le_refl _) _).drew
          · have e2 := (HO.out.stored k (.int .i64 z)).1
            rw [tab_set] at e2
            rw [tab_congr (g := fun i => if i < k + 1 then co p i + co q i else 0) ?_] at e2
            · exact e2
            · intro i _
              by_cases h1 : i = k
              · subst h1; simp [HVAL.out]
              · by_cases h2 : i < k
                · have h3 : i < k + 1 := by omega
                  simp [h1, h2, h3]
                · have h3 : ¬ i < k + 1 := by omega
                  simp [h1, h2, h3]
        case measure => simp [intOf]; omega
    · obtain rfl : k = p.length := by omega
      go_wp2
      go_ret
      refine ⟨w.heap.size, p.length, ?_, hb, ?_⟩
      · rw [HADD.out, tab_len]; rfl
      · rw [HADD.out, tab_len]
        show World.ownsRow _ _ _ _ _ (tab p.length _).length _
        rw [tab_len, tab_congr (g := fun i => if i < p.length then co p i + co q i else 0) (fun i hi => by simp [hi])]
        exact HO.out

set_option maxHeartbeats 4000000 in
theorem l2Add_lt (w : World) (v u : Value) (p q : List Int) (hv : Ints w v p) (hu : Ints w u q) (lq : q.length ≤ 50) (lp : p.length < q.length) (hp : within 1000000000000 p = true) (hq : within 1000000000000 q = true) :
    Calls Tryd.prog 18 #[v, u] w (GivesAt w (addL p q)) := by
  obtain ⟨A, cap, rfl, hm, hc⟩ := hv
  obtain ⟨B, cap2, rfl, hm2, hd⟩ := hu
  unfold maxLen at hm hm2
  have HC := Lib.hid hc
  have HD := Lib.hid hd
  have HP := Lib.hid hp
  have HQ := Lib.hid hq
  clear hc hd hp hq
  have hlt0 : (p.length : Int) < (q.length : Int) := by omega
  have hmk := fun W => run_make_row' (P := Tryd.prog) 22 3 (.int .i64 0) 8 Tryd.underlying22 infoInt rfl .i64 .i64 q.length (by omega) (by omega) W
  have hadd : addL p q = tab q.length (fun i => co p i + co q i) := by
    unfold addL
    have e : max p.length q.length = q.length := by omega
    rw [e]
  have HADD := Lib.hid hadd
  clear hadd
  go_enter Tryd.func18, Tryd.ntmps18
  go_wp2
  go_loopw [6] (fun i wr => ∃ k : Nat, k ≤ q.length ∧ i = .int .i64 k ∧ Below w.heap.size w wr ∧
      wr.ownsRow w.heap.size 3 1 (.slice (some ⟨w.heap.size, 0, none⟩) q.length q.length) q.length (vals (tab q.length (fun i => if i < k then co p i + co q i else 0))))
    (fun i _ => q.length - (intOf i).toNat)
  case atStart =>
    refine ⟨0, by omega, rfl, (Below.refl _ _).alloc (Nat.le_refl _) _, ?_⟩
    have := World.ownsRow_lit (base := w.heap.size) (e := 3) (size := 1) w (madeCells #[Value.int .i64 0] q.length) q.length (Nat.le_refl _) (by unfold maxLen; omega) (by simp [madeCells])
    rw [toList_madeCells_one, ← tab_const] at this
    simpa using this
  case round =>
    obtain ⟨k, hk, rfl, hb, ho⟩ := hrel
    have HO := Lib.hid ho
    clear ho hlt0
    by_cases hlt : k < q.length
    · have hkq : k < q.length := hlt
      by_cases hkp : k < p.length
      · have hT : True := trivial
        obtain ⟨b1, off1, rfl, hcp0⟩ := HC.out k hkp
        have hcp := (hb.cell (p := ⟨b1, off1 + k, none⟩) (World.block_lt_of_cell? w _ hcp0)).trans hcp0
        have zb := within_at HP.out hkp
        have zc : co p k = p[k] := co_at hkp
        obtain ⟨z, hz⟩ : ∃ z, p[k] = z := ⟨_, rfl⟩
        rw [hz] at hcp zb zc
        clear hcp0 hz
        obtain ⟨z1, z2⟩ := zb
        have wz1 : IntKind.i64.wrap (0 + z) = z := by rw [Int.zero_add]; exact IntWalk.i64_in _ (by omega)
        have wz2 : wrap64 (0 + z) = z := by rw [← wrap_eq]; exact wz1
        have wz3 : IntKind.i64.wrap z = z := IntWalk.i64_in _ (by omega)
        have wz4 : wrap64 z = z := by rw [← wrap_eq]; exact wz3
        have hkp' : (k : Int) < (p.length : Int) := by omega
        obtain ⟨b2, off2, rfl, hcq0⟩ := HD.out k hkq
        have hbq := World.block_lt_of_cell? w _ hcq0
        simp only at hbq
        have hcq := (hb.cell (p := ⟨b2, off2 + k, none⟩) (World.block_lt_of_cell? w _ hcq0)).trans hcq0
        have yb := within_at HQ.out hkq
        have yc : co q k = q[k] := co_at hkq
        obtain ⟨y, hy⟩ : ∃ y, q[k] = y := ⟨_, rfl⟩
        rw [hy] at hcq yb yc
        clear hcq0 hy
        obtain ⟨y1, y2⟩ := yb
        have hkq' : (k : Int) < (q.length : Int) := by omega
        have wy1 : IntKind.i64.wrap (z + y) = z + y := IntWalk.i64_in _ (by omega)
        have wy2 : wrap64 (z + y) = z + y := by rw [← wrap_eq]; exact wy1
        have hval : co p k + co q k = (z + y) := by rw [zc, yc]
        have HVAL := Lib.hid hval
        clear hval zc yc
        have hf := HO.out.frozenAt k
        have hx : wr.cell? ⟨w.heap.size, k, none⟩ = some (.int .i64 0) := by have := (HO.out.cellAt k (by omega)).trans (tab_cell q.length _ k (by omega)); simpa using this
        have HB := Lib.hid hb
        clear hb
        have hcq2 : (wr.setCell ⟨w.heap.size, k, none⟩ (.int .i64 z)).cell? ⟨b2, off2 + k, none⟩ = some (.int .i64 y) := by rw [World.cell?_setCell_other _ _ _ _ (fun e => by injection e; omega)]; exact hcq
        have hx2 : (wr.setCell ⟨w.heap.size, k, none⟩ (.int .i64 z)).drew.cell? ⟨w.heap.size, k, none⟩ = some (.int .i64 z) := by have := (HO.out.stored k (.int .i64 z)).1.cellAt k (by omega); refine Eq.trans this ?_; rw [tab_set, tab_cell q.length _ k (by omega)]; simp
        go_wp2
        go_region
        go_wp2
        go_region
        go_wp2
        go_roundw
        case rel =>
          refine ⟨k + 1, by omega, by go_num, ?_, ?_⟩
          · exact ((HB.out.setCell (p := ⟨w.heap.size, k, none⟩) (Nat.le_refl _) _).drew.setCell (p := ⟨w.heap.size, k, none⟩) (Nat.le_refl _) _).drew
          · have e1 := (HO.out.stored k (.int .i64 z)).1
            rw [tab_set] at e1
            have e2 := (World.ownsRow.stored (w := (wr.setCell ⟨w.heap.size, k, none⟩ (.int .i64 z)).drew) e1 k (.int .i64 (z + y))).1
            rw [tab_set] at e2
            rw [tab_congr (g := fun i => if i < k + 1 then co p i + co q i else 0) ?_] at e2
            · exact e2
            · intro i _
              by_cases h1 : i = k
              · subst h1; simp [HVAL.out]
              · by_cases h2 : i < k
                · have h3 : i < k + 1 := by omega
                  simp [h1, h2, h3]
                · have h3 : ¬ i < k + 1 := by omega
                  simp [h1, h2, h3]
        case measure => simp [intOf]; omega
      · have hT : True := trivial
        have zc : co p k = 0 := co_out (by omega)
        have hkp' : ¬ (k : Int) < (p.length : Int) := by omega
        obtain ⟨b2, off2, rfl, hcq0⟩ := HD.out k hkq
        have hbq := World.block_lt_of_cell? w _ hcq0
        simp only at hbq
        have hcq := (hb.cell (p := ⟨b2, off2 + k, none⟩) (World.block_lt_of_cell? w _ hcq0)).trans hcq0
        have yb := within_at HQ.out hkq
        have yc : co q k = q[k] := co_at hkq
        obtain ⟨y, hy⟩ : ∃ y, q[k] = y := ⟨_, rfl⟩
        rw [hy] at hcq yb yc
        clear hcq0 hy
        obtain ⟨y1, y2⟩ := yb
        have hkq' : (k : Int) < (q.length : Int) := by omega
        have wy1 : IntKind.i64.wrap (0 + y) = y := by rw [Int.zero_add]; exact IntWalk.i64_in _ (by omega)
        have wy2 : wrap64 (0 + y) = y := by rw [← wrap_eq]; exact wy1
        have wy3 : IntKind.i64.wrap y = y := IntWalk.i64_in _ (by omega)
        have wy4 : wrap64 y = y := by rw [← wrap_eq]; exact wy3
        have hval : co p k + co q k = y := by rw [zc, yc]; omega
        have HVAL := Lib.hid hval
        clear hval zc yc
        have hf := HO.out.frozenAt k
        have hx : wr.cell? ⟨w.heap.size, k, none⟩ = some (.int .i64 0) := by have := (HO.out.cellAt k (by omega)).trans (tab_cell q.length _ k (by omega)); simpa using this
        have HB := Lib.hid hb
        clear hb
        go_wp2
        go_region
        go_wp2
        go_roundw
        case rel =>
          refine ⟨k + 1, by omega, by go_num, ?_, ?_⟩
          · exact (HB.out.setCell (p := ⟨w.heap.size, k, none⟩) (Nat.le_refl _) _).drew
          · have e2 := (HO.out.stored k (.int .i64 y)).1
            rw [tab_set] at e2
            rw [tab_congr (g := fun i => if i < k + 1 then co p i + co q i else 0) ?_] at e2
            · exact e2
            · intro i _
              by_cases h1 : i = k
              · subst h1; simp [HVAL.out]
              · by_cases h2 : i < k
                · have h3 : i < k + 1 := by omega
                  simp [h1, h2, h3]
                · have h3 : ¬ i < k + 1 := by omega
                  simp [h1, h2, h3]
        case measure => simp [intOf]; omega
    · obtain rfl : k = q.length := by omega
      go_wp2
      go_ret
      refine ⟨w.heap.size, q.length, ?_, hb, ?_⟩
      · rw [HADD.out, tab_len]; rfl
      · rw [HADD.out, tab_len]
        show World.ownsRow _ _ _ _ _ (tab q.length _).length _
        rw [tab_len, tab_congr (g := fun i => if i < q.length then co p i + co q i else 0) (fun i hi => by simp [hi])]
        exact HO.out

theorem l2Add_any (w : World) (v u : Value) (p q : List Int) (hv : Ints w v p) (hu : Ints w u q) (lp : p.length ≤ 50) (lq : q.length ≤ 50) (hp : within 1000000000000 p = true) (hq : within 1000000000000 q = true) :
    Calls Tryd.prog 18 #[v, u] w (GivesAt w (addL p q)) := by
  by_cases h : q.length ≤ p.length
  · exact l2Add_ge w v u p q hv hu lp h hp hq
  · exact l2Add_lt w v u p q hv hu lq (by omega) hp hq

end Go.Proofs.YtbbnagkbbhbbgaaDoor
