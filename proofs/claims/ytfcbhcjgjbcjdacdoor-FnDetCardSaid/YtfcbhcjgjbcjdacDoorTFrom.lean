/-
  impl.tableFrom reads a table from a list of rows; it fails if the list is none.
-/
import Derived.Test.YtfcbhcjgjbcjdacDoorTables
import Derived.Test.YtfcbhcjgjbcjdacDoorFlat
import Derived.Test.YtfcbhcjgjbcjdacDoorTIn
namespace Go.Proofs.YtfcbhcjgjbcjdacDoor
set_option linter.unusedVariables false
set_option linter.unusedSimpArgs false
open Go.RowKit

def tFromOf (xss : List (List Int)) : Array Value := if tIn xss = true then tcells xss.length (flat xss) else tcells 0 (fun _ => 0)
/-- What stands when the numbers so far were read. -/
def ReadT (w wr : World) (xss : List (List Int)) (k j : Nat) : Prop :=
  Below w.heap.size w wr ∧ wr.heap[w.heap.size]? = some (.cells (tcells 0 fun _ => 0) 74 (0, 0)) ∧ wr.heap[w.heap.size + 1]? = some (.cells (tcells xss.length (partT xss k j)) 74 (0, 0))

set_option maxRecDepth 100000 in
set_option maxHeartbeats 2000000 in
theorem tFrom_any (w : World) (v : Value) (xss : List (List Int)) (h : IntRows w v xss) :
    Calls Tryd.prog 53 #[v] w fun e w' => e = .returned (.tuple #[.agg (tFromOf xss), .bool (tIn xss)]) ∧ Below w.heap.size w w' := by
  obtain ⟨A, cap, rfl, hm, hc⟩ := h.at
  have HC := Lib.hid hc
  clear hc h
  unfold maxLen at hm
  by_cases hs : xss.length < 1 ∨ 6 < xss.length
  · have hno : tIn xss = false := by
      unfold tIn
      rw [Bool.and_eq_false_iff]
      right
      rw [decide_eq_false_iff_not]; omega
    have HNO := Lib.hid hno
    clear hno
    have fin : ∀ u : Array Value, u.getD 2 undef = .pointer (some ⟨w.heap.size, 0, none⟩) → u.getD 3 undef = .bool false → bodyPost Tryd.prog Tryd.f53 (fun e w' => e = .returned (.tuple #[.agg (tFromOf xss), .bool (tIn xss)]) ∧ Below w.heap.size w w') .ret { tmps := u, defers := [] } ((w.alloc (.cells (tcells 0 fun _ => 0) 74)).setRow w.heap.size (tcells 0 fun _ => 0)) := by
      intro u hu2 hu3
      refine bodyPost_ret (v := .tuple #[.agg (tcells 0 (fun _ => 0)), .bool false]) (ret_table2 rfl _ _ w.heap.size 0 (fun _ => 0) (.bool false) hu2 hu3 (heap_setRowT (World.alloc_heap_new _ _))) rfl ?_
      unfold tFromOf
      rw [HNO.out]
      exact ⟨rfl, below_setRowT ((Below.refl _ _).alloc (Nat.le_refl _) _) (Nat.le_refl _) _⟩
    rcases hs with hs | hs
    · have a1 : (xss.length : Int) < 1 := by omega
      clear hs
      go_enter Tryd.func53, Tryd.ntmps53
      go_wp2_with (first
        | (refine alloc_table rfl rfl ?_)
        | (refine build_table0 rfl rfl ?_)
        | (refine store_table rfl _ _ rfl w.heap.size 0 (fun _ => 0) rfl rfl 0 (fun _ => 0) (World.alloc_heap_new _ _) ?_))
      all_goals exact fin _ rfl rfl
    · have a1 : ¬ (xss.length : Int) < 1 := by omega
      have a2 : (6 : Int) < (xss.length : Int) := by omega
      clear hs
      go_enter Tryd.func53, Tryd.ntmps53
      go_wp2_with (first
        | (refine alloc_table rfl rfl ?_)
        | (refine build_table0 rfl rfl ?_)
        | (refine store_table rfl _ _ rfl w.heap.size 0 (fun _ => 0) rfl rfl 0 (fun _ => 0) (World.alloc_heap_new _ _) ?_))
      all_goals exact fin _ rfl rfl
  · have h1 : 1 ≤ xss.length := by omega
    have h6 : xss.length ≤ 6 := by omega
    have a1 : ¬ (xss.length : Int) < 1 := by omega
    have a2 : ¬ (6 : Int) < (xss.length : Int) := by omega
    clear hs
    go_enter Tryd.func53, Tryd.ntmps53
    go_wp2_with (first
      | (refine alloc_table rfl rfl ?_)
      | (refine build_table rfl _ rfl xss.length rfl ?_)
      | (refine store_table_last rfl _ _ rfl xss.length (fun _ => 0) _ (by simp) rfl rfl ?_))
    obtain ⟨W, hW⟩ : ∃ W, (w.alloc (.cells (tcells 0 fun _ => 0) 74)).alloc (.cells (tcells xss.length fun _ => 0) 74) = W := ⟨_, rfl⟩
    have hRd : ReadT w W xss 0 0 := by
      rw [← hW]
      exact ⟨((Below.refl _ _).alloc (Nat.le_refl _) _).alloc (by simp) _, heap_alloc2_old _ _ _, by rw [partT_zero]; exact heap_alloc2_new _ _ _⟩
    rw [hW]
    clear hW
    go_loopw [5, 6, 7, 8, 23] (fun _ _ _ _ i wr => ∃ k : Nat, k ≤ xss.length ∧ i = .int .i64 k ∧ ReadT w wr xss k 0 ∧ (∀ c (hc : c < xss.length), c < k → rowT xss.length xss[c] = true)) (fun _ _ _ _ i _ => xss.length - (intOf i).toNat)
    case atStart => exact ⟨0, by omega, rfl, hRd, fun c hc h => by omega⟩
    case round =>
      clear hRd
      obtain ⟨k, hk, rfl, ⟨hb, hr, hg⟩, hrows⟩ := hrel
      have HR := Lib.hid hr
      have HG := Lib.hid hg
      have HB := Lib.hid hb
      have HO := Lib.hid hrows
      obtain ⟨c0, _, _, _⟩ := table_cells hg
      clear hr hg hrows
      by_cases hlt : k < xss.length
      · obtain ⟨b, off, u, rfl, hcell, hints⟩ := HC.out k hlt
        have hcell' := (hb.cell (p := ⟨b, off + k, none⟩) (World.block_lt_of_cell? w _ hcell)).trans hcell
        obtain ⟨A2, cap2, rfl, hm2, hc2⟩ := hints
        have HC2 := Lib.hid hc2
        have hki : (k : Int) < (xss.length : Int) := by omega
        have hk0 : (0 : Int) ≤ (k : Int) := by omega
        clear hcell hc2 hb
        unfold maxLen at hm2
        by_cases hrl : xss[k].length = xss.length
        · have e1 : ((xss[k].length : Int) != (xss.length : Int)) = false := by simp [hrl]
          go_wp2
          go_loopw [7, 8, 36] (fun _ _ i wr => ∃ j : Nat, j ≤ xss.length ∧ i = .int .i64 j ∧ ReadT w wr xss k j ∧ (∀ c (hc : c < xss[k].length), c < j → numT xss[k][c] = true)) (fun _ _ i _ => xss.length - (intOf i).toNat)
          case atStart => exact ⟨0, by omega, rfl, ⟨HB.out, HR.out, HG.out⟩, fun c hc h => by omega⟩
          case round =>
            rename_i wx
            obtain ⟨j, hj, rfl, ⟨hb2, hr2, hg2⟩, hn⟩ := hrel
            have HR2 := Lib.hid hr2
            have HG2 := Lib.hid hg2
            have HB2 := Lib.hid hb2
            have HN := Lib.hid hn
            obtain ⟨d0, ds, df, dl⟩ := table_cells hg2
            clear hr2 hg2 hn c0
            by_cases hjl : j < xss.length
            · obtain ⟨b2, off2, rfl, hcell2⟩ := HC2.out j (by omega)
              have hcell3 := (hb2.cell (p := ⟨b2, off2 + j, none⟩) (World.block_lt_of_cell? w _ hcell2)).trans hcell2
              have hji : (j : Int) < (xss.length : Int) := by omega
              have hj0 : (0 : Int) ≤ (j : Int) := by omega
              have hjm : j < xss[k].length := by omega
              have hk6 : (k : Int) < 6 := by omega
              have hj6 : (j : Int) < 6 := by omega
              have ck := ds (6 * k + j) (by omega)
              have cf := df (1 + (6 * k + j))
              have hst := partT_step xss (k := k) (j := j) (by omega)
              rw [flat_at xss hlt hjm (by omega)] at hst
              obtain ⟨x, hx⟩ : ∃ x, xss[k][j] = x := ⟨_, rfl⟩
              rw [hx] at hcell3 hst
              have HX := Lib.hid hx
              have HST := Lib.hid hst
              clear hx hst hcell2 hb2 ds df
              cases hnb : numT x with
              | true =>
                obtain ⟨n1, n2⟩ := numT_yes hnb
                have n1' : ¬ x < -30 := by omega
                have n2' : ¬ 30 < x := by omega
                have HNB := Lib.hid hnb
                clear hnb
                have ead : 1 + (6 * k + j) = 1 + k * 6 + j := by omega
                rw [ead] at ck cf
                go_wp2
                go_roundw
                all_goals first
                  | (refine ⟨j + 1, by omega, by go_num, ⟨HB2.out.setCell (p := ⟨w.heap.size + 1, 1 + k * 6 + j, none⟩) (by simp) _, (Below.heap_setCell _ _ _ _ (by simp)).trans HR2.out, ?_⟩, fun c hc h => ?_⟩
                     · rw [← ead, ← HST.out]; exact table_stored (6 * k + j) x (by omega) HG2.out
                     · by_cases hcj : c = j
                       · subst hcj; rw [HX.out]; exact HNB.out
                       · exact HN.out c hc (by omega))
                  | (simp [intOf]; omega)
              | false =>
                have hno : tIn xss = false := tIn_row hlt (rowT_num hjm (by rw [HX.out]; exact hnb))
                have HNO := Lib.hid hno
                clear hno
                rcases numT_no hnb with hn1 | hn1
                · clear hnb
                  go_wp2_with (first
                    | (refine build_table0 rfl rfl ?_)
                    | (refine store_table rfl _ _ rfl w.heap.size 0 (fun _ => 0) rfl rfl 0 (fun _ => 0) HR2.out ?_))
                  refine bodyPost_ret (v := .tuple #[.agg (tcells 0 (fun _ => 0)), .bool false]) (ret_table2 rfl _ _ w.heap.size 0 (fun _ => 0) (.bool false) rfl rfl (heap_setRowT HR2.out)) rfl ?_
                  unfold tFromOf
                  rw [HNO.out]
                  exact ⟨rfl, below_setRowT HB2.out (Nat.le_refl _) _⟩
                · have hn2 : ¬ x < -30 := by omega
                  clear hnb
                  go_wp2_with (first
                    | (refine build_table0 rfl rfl ?_)
                    | (refine store_table rfl _ _ rfl w.heap.size 0 (fun _ => 0) rfl rfl 0 (fun _ => 0) HR2.out ?_))
                  refine bodyPost_ret (v := .tuple #[.agg (tcells 0 (fun _ => 0)), .bool false]) (ret_table2 rfl _ _ w.heap.size 0 (fun _ => 0) (.bool false) rfl rfl (heap_setRowT HR2.out)) rfl ?_
                  unfold tFromOf
                  rw [HNO.out]
                  exact ⟨rfl, below_setRowT HB2.out (Nat.le_refl _) _⟩
            · obtain rfl : j = xss.length := by omega
              have hrow : rowT xss.length xss[k] = true := rowT_yes hrl (fun c hc => HN.out c hc (by omega))
              have hpr := partT_row xss (k := k) (j := xss.length) (by rw [List.getD_eq_getElem?_getD, List.getElem?_eq_getElem hlt, Option.getD_some]; omega)
              rw [hpr] at HG2
              have HROW := Lib.hid hrow
              clear hrow hpr
              go_wp2
              go_roundw
              all_goals first
                | (refine ⟨k + 1, by omega, by go_num, ⟨HB2.out, HR2.out, HG2.out⟩, fun c hc h => ?_⟩; by_cases hcm : c = k; (· subst hcm; exact HROW.out); exact HO.out c hc (by omega))
                | (simp [intOf]; omega)
        · have e1 : ((xss[k].length : Int) != (xss.length : Int)) = true := by simp; omega
          have hno : tIn xss = false := tIn_row hlt (rowT_len hrl)
          have HNO := Lib.hid hno
          clear hno
          go_wp2_with (first
            | (refine build_table0 rfl rfl ?_)
            | (refine store_table rfl _ _ rfl w.heap.size 0 (fun _ => 0) rfl rfl 0 (fun _ => 0) HR.out ?_))
          refine bodyPost_ret (v := .tuple #[.agg (tcells 0 (fun _ => 0)), .bool false]) (ret_table2 rfl _ _ w.heap.size 0 (fun _ => 0) (.bool false) rfl rfl (heap_setRowT HR.out)) rfl ?_
          unfold tFromOf
          rw [HNO.out]
          exact ⟨rfl, below_setRowT HB.out (Nat.le_refl _) _⟩
      · obtain rfl : k = xss.length := by omega
        have hyes : tIn xss = true := by rw [tIn_yes (fun c hc => HO.out c hc hc), decide_eq_true_iff]; omega
        rw [partT_full] at HG
        have HY := Lib.hid hyes
        clear hyes c0
        go_wp2_with (first
          | (refine load_table rfl _ rfl _ xss.length (flat xss) rfl HG.out ?_)
          | (refine store_table rfl _ _ rfl w.heap.size xss.length (flat xss) rfl rfl 0 (fun _ => 0) HR.out ?_))
        refine bodyPost_ret (v := .tuple #[.agg (tcells xss.length (flat xss)), .bool true]) (ret_table2 rfl _ _ w.heap.size xss.length (flat xss) (.bool true) rfl rfl (heap_setRowT HR.out)) rfl ?_
        unfold tFromOf
        rw [HY.out]
        exact ⟨rfl, below_setRowT HB.out (Nat.le_refl _) _⟩

end Go.Proofs.YtfcbhcjgjbcjdacDoor
