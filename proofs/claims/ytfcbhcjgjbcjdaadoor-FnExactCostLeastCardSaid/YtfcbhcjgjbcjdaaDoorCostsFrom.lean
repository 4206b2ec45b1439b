/-
  impl.costsFrom reads costs from a list of rows; it fails if the list has none.
-/
import Derived.Test.YtfcbhcjgjbcjdaaDoorWholes
import Derived.Test.YtfcbhcjgjbcjdaaDoorFlat
import Derived.Test.YtfcbhcjgjbcjdaaDoorCostIn
import Derived.Test.YtfcbhcjgjbcjdaaDoorAreWithin
import Derived.Test.YtfcbhcjgjbcjdaaDoorKeptObj
import Derived.Laws.CopyOwn
namespace Go.Proofs.YtfcbhcjgjbcjdaaDoor
set_option linter.unusedVariables false
set_option linter.unusedSimpArgs false
open Go.RowKit

def cFromOf (xss : List (List Int)) : Array Value := if cIn xss = true then tcells xss.length (flat xss) else tcells 0 (fun _ => 0)
theorem inL_numC : inL 1000 = numC := by funext x; rfl
theorem rowC_all {n : Nat} {xs : List Int} (h : xs.length = n) : rowC n xs = xs.all numC := by unfold rowC; rw [decide_eq_true h]; rfl

/-- A row copied into the cells of a table. -/
theorem copy_row (n : Nat) (Fs Gs : Nat → Int) (k : Nat) (xs : List Int) (hk : k < 6) (hl : xs.length ≤ 6) (h1 : ∀ j (hj : j < xs.length), Gs (6 * k + j) = xs[j]) (h2 : ∀ i, i < 6 * k ∨ 6 * k + xs.length ≤ i → Gs i = Fs i) :
    ((tcells n Fs).toList.take (1 + k * 6) ++ (vals xs ++ (tcells n Fs).toList.drop (1 + k * 6 + (vals xs).length))).toArray = tcells n Gs := by
  apply Array.ext'
  apply List.ext_getElem?
  intro i
  have hvl : (vals xs).length = xs.length := by simp [vals]
  have hsz : (tcells n Fs).toList.length = 37 := by rw [Array.length_toList]; exact tcells_size n Fs
  have hszg : (tcells n Gs).toList.length = 37 := by rw [Array.length_toList]; exact tcells_size n Gs
  have get : ∀ (H : Nat → Int) (j : Nat), (tcells n H).toList[j]? = (tcells n H)[j]? := fun H j => by rw [Array.getElem?_toList]
  rw [hvl]
  show (List.take (1 + k * 6) (tcells n Fs).toList ++ (vals xs ++ List.drop (1 + k * 6 + xs.length) (tcells n Fs).toList))[i]? = _
  by_cases hi0 : i = 0
  · subst hi0
    rw [List.getElem?_append_left (by rw [List.length_take]; omega), List.getElem?_take_of_lt (by omega), get, get, tcells_zero, tcells_zero]
  · obtain ⟨m, rfl⟩ : ∃ m, i = 1 + m := ⟨i - 1, by omega⟩
    by_cases hm : m < 36
    · by_cases ha : m < k * 6
      · rw [List.getElem?_append_left (by rw [List.length_take]; omega), List.getElem?_take_of_lt (by omega), get, get, tcells_at _ _ _ hm, tcells_at _ _ _ hm, h2 m (.inl (by omega))]
      · rw [List.getElem?_append_right (by rw [List.length_take]; omega)]
        have e1 : 1 + m - (List.take (1 + k * 6) (tcells n Fs).toList).length = m - k * 6 := by rw [List.length_take]; omega
        rw [e1]
        by_cases hb : m < k * 6 + xs.length
        · rw [List.getElem?_append_left (by rw [hvl]; omega), get, tcells_at _ _ _ hm]
          have hj : m - k * 6 < xs.length := by omega
          have e2 : m = 6 * k + (m - k * 6) := by omega
          have e3 := h1 (m - k * 6) hj
          rw [← e2] at e3
          rw [e3]
          simp [vals, hj]
        · rw [List.getElem?_append_right (by rw [hvl]; omega), hvl, List.getElem?_drop]
          have e2 : 1 + k * 6 + xs.length + (m - k * 6 - xs.length) = 1 + m := by omega
          rw [e2, get, get, tcells_at _ _ _ hm, tcells_at _ _ _ hm, h2 m (.inr (by omega))]
    · rw [get, Array.getElem?_eq_none (by rw [tcells_size]; omega)]
      rw [List.getElem?_eq_none]
      simp only [List.length_append, List.length_take, List.length_drop, hvl]
      omega
theorem part_in (xss : List (List Int)) {k : Nat} (hk : k < xss.length) (h6 : xss[k].length ≤ 6) : (∀ j (hj : j < xss[k].length), partT xss (k + 1) 0 (6 * k + j) = xss[k][j]) ∧ (∀ i, i < 6 * k ∨ 6 * k + xss[k].length ≤ i → partT xss (k + 1) 0 i = partT xss k 0 i) := by
  refine ⟨fun j hj => ?_, fun i hi => ?_⟩
  · have := flat_at xss hk hj (by omega)
    unfold partT
    rw [if_pos (by left; omega), this]
  · have hp := partT_row xss (k := k) (j := xss[k].length) (by rw [List.getD_eq_getElem?_getD, List.getElem?_eq_getElem hk, Option.getD_some]; exact Nat.le_refl _)
    rw [← hp]
    unfold partT
    by_cases h : i / 6 < k
    · rw [if_pos (.inl h), if_pos (.inl h)]
    · rw [if_neg (by omega), if_neg (by omega)]

/-- What stands when the rows so far were read. -/
def ReadC (w wr : World) (xss : List (List Int)) (k : Nat) : Prop :=
  Below w.heap.size w wr ∧ wr.heap[w.heap.size]? = some (.cells (tcells 0 fun _ => 0) 77 (0, 0)) ∧ wr.heap[w.heap.size + 1]? = some (.cells (tcells xss.length (partT xss k 0)) 75 (0, 0))

set_option maxRecDepth 100000 in
set_option maxHeartbeats 2000000 in
theorem cFrom_any (w : World) (v : Value) (xss : List (List Int)) (h : IntRows w v xss) :
    Calls Tryd.prog 61 #[v] w fun e w' => e = .returned (.tuple #[.agg (cFromOf xss), .bool (cIn xss)]) ∧ Below w.heap.size w w' := by
  obtain ⟨A, cap, rfl, hm, hc⟩ := h.at
  have HC := Lib.hid hc
  clear hc h
  unfold maxLen at hm
  by_cases hs : xss.length < 1 ∨ 6 < xss.length
  · have hno : cIn xss = false := by
      unfold cIn
      rw [Bool.and_eq_false_iff]
      right
      rw [decide_eq_false_iff_not]; omega
    have HNO := Lib.hid hno
    clear hno
    have fin : ∀ u : Array Value, u.getD 2 undef = .pointer (some ⟨w.heap.size, 0, none⟩) → u.getD 3 undef = .bool false → bodyPost Tryd.prog Tryd.f61 (fun e w' => e = .returned (.tuple #[.agg (cFromOf xss), .bool (cIn xss)]) ∧ Below w.heap.size w w') .ret { tmps := u, defers := [] } ((w.alloc (.cells (tcells 0 fun _ => 0) 77)).setRow w.heap.size (tcells 0 fun _ => 0)) := by
      intro u hu2 hu3
      refine bodyPost_ret (v := .tuple #[.agg (tcells 0 (fun _ => 0)), .bool false]) (ret_whole2 rfl _ _ w.heap.size 0 (fun _ => 0) (.bool false) hu2 hu3 (heap_setRowT (World.alloc_heap_new _ _))) rfl ?_
      unfold cFromOf
      rw [HNO.out]
      exact ⟨rfl, below_setRowT ((Below.refl _ _).alloc (Nat.le_refl _) _) (Nat.le_refl _) _⟩
    rcases hs with hs | hs
    · have a1 : (xss.length : Int) < 1 := by omega
      clear hs
      go_enter Tryd.func61, Tryd.ntmps61
      go_wp2_with (first
        | (refine alloc_whole rfl rfl ?_)
        | (refine build_whole0 rfl rfl ?_)
        | (refine store_whole rfl _ _ rfl w.heap.size 0 (fun _ => 0) rfl rfl 0 (fun _ => 0) (World.alloc_heap_new _ _) ?_))
      all_goals exact fin _ rfl rfl
    · have a1 : ¬ (xss.length : Int) < 1 := by omega
      have a2 : (6 : Int) < (xss.length : Int) := by omega
      clear hs
      go_enter Tryd.func61, Tryd.ntmps61
      go_wp2_with (first
        | (refine alloc_whole rfl rfl ?_)
        | (refine build_whole0 rfl rfl ?_)
        | (refine store_whole rfl _ _ rfl w.heap.size 0 (fun _ => 0) rfl rfl 0 (fun _ => 0) (World.alloc_heap_new _ _) ?_))
      all_goals exact fin _ rfl rfl
  · have h1 : 1 ≤ xss.length := by omega
    have h6 : xss.length ≤ 6 := by omega
    have a1 : ¬ (xss.length : Int) < 1 := by omega
    have a2 : ¬ (6 : Int) < (xss.length : Int) := by omega
    clear hs
    go_enter Tryd.func61, Tryd.ntmps61
    go_wp2_with (first
      | (refine alloc_whole rfl rfl ?_)
      | (refine build_table rfl _ rfl xss.length rfl ?_)
      | (refine alloc_table rfl rfl ?_)
      | (refine store_table_last rfl _ _ rfl xss.length (fun _ => 0) _ (by simp) rfl rfl ?_))
    obtain ⟨W, hW⟩ : ∃ W, (w.alloc (.cells (tcells 0 fun _ => 0) 77)).alloc (.cells (tcells xss.length fun _ => 0) 75) = W := ⟨_, rfl⟩
    have hRd : ReadC w W xss 0 := by
      rw [← hW]
      exact ⟨((Below.refl _ _).alloc (Nat.le_refl _) _).alloc (by simp) _, heap_alloc2_old _ _ _, by rw [partT_zero]; exact heap_alloc2_new _ _ _⟩
    rw [hW]
    clear hW
    go_loopw [5, 6, 21] (fun _ _ i wr => ∃ k : Nat, k ≤ xss.length ∧ i = .int .i64 k ∧ ReadC w wr xss k ∧ (∀ c (hc : c < xss.length), c < k → rowC xss.length xss[c] = true)) (fun _ _ i _ => xss.length - (intOf i).toNat)
    case atStart => exact ⟨0, by omega, rfl, hRd, fun c hc h => by omega⟩
    case round =>
      clear hRd
      obtain ⟨k, hk, rfl, ⟨hb, hr, hg⟩, hrows⟩ := hrel
      have HR := Lib.hid hr
      have HG := Lib.hid hg
      have HB := Lib.hid hb
      have HO := Lib.hid hrows
      obtain ⟨c0, _, _, _⟩ := table_cells hg
      clear hr hg hrows
      by_cases hlt : k < xss.length
      · obtain ⟨b, off, u, rfl, hcell, hints⟩ := HC.out k hlt
        have hcell' := (hb.cell (p := ⟨b, off + k, none⟩) (World.block_lt_of_cell? w _ hcell)).trans hcell
        have hin2 := hints.below hb
        obtain ⟨A2, cap2, rfl, hm2, hc2⟩ := hints
        have hki : (k : Int) < (xss.length : Int) := by omega
        have hk0 : (0 : Int) ≤ (k : Int) := by omega
        have hk6 : (k : Int) < 6 := by omega
        have HC2 := Lib.hid hc2
        clear hcell hb hc2
        unfold maxLen at hm2
        by_cases hrl : xss[k].length = xss.length
        · have HAW := Lib.hid (areWithin_any wr (.slice A2 xss[k].length cap2) xss[k] hin2 1000 (by omega) (by omega))
          rw [inL_numC] at HAW
          have e1 : ((xss[k].length : Int) != (xss.length : Int)) = false := by simp [hrl]
          have HRL := Lib.hid hrl
          clear hin2 hrl
          cases hall : xss[k].all numC with
          | true =>
            rw [hall] at HAW
            have HROW : Hid (rowC xss.length xss[k] = true) := Lib.hid (by rw [rowC_all HRL.out]; exact hall)
            clear hall
            obtain ⟨b2, off2, rfl, -⟩ := HC2.out 0 (by have := HRL.out; omega)
            obtain ⟨hp1, hp2⟩ := part_in xss hlt (by have := HRL.out; omega)
            have HEQ := Lib.hid (copy_row xss.length (partT xss k 0) (partT xss (k + 1) 0) k xss[k] (by omega) (by have := HRL.out; omega) hp1 hp2)
            have hvl : (vals xss[k]).length = Nat.min xss[k].length 6 := by have := HRL.out; simp only [vals, List.length_map]; exact (Nat.min_eq_left (by omega)).symm
            have hv6 : 1 + k * 6 + (vals xss[k]).length ≤ 37 := by have := HRL.out; simp only [vals, List.length_map]; omega
            have HVL := Lib.hid (And.intro hvl hv6)
            have HSRC : Hid (∀ (W : World), Below w.heap.size w W → ∀ j v, (vals xss[k])[j]? = some v → W.cell? ((⟨b2, off2, none⟩ : Addr).add j) = some v) := Lib.hid (fun W hW j v hv => by
              have hj : j < xss[k].length := by
                have := (List.getElem?_eq_some_iff.1 hv).1
                simpa [vals] using this
              obtain ⟨b3, off3, e3, hc3⟩ := HC2.out j hj
              obtain ⟨rfl, rfl⟩ : b2 = b3 ∧ off2 = off3 := by simpa using e3
              have hx : v = .int .i64 xss[k][j] := by simpa [vals, hj] using hv.symm
              rw [hx, Go.WideShapes.add_plain]
              exact (hW.cell (p := ⟨b2, off2 + j, none⟩) (World.block_lt_of_cell? w _ hc3)).trans hc3)
            clear hp1 hp2 hvl hv6
            go_wp2_with (first
              | (go_at_call 106; refine HAW.out.mono ?_; rintro e w1 ⟨rfl, hb1⟩; have hg1 := kept_obj hb1 HG.out)
              | (refine wpList_copy_own rfl _ _ 35 35 rfl 3 Tryd.underlying35 (by kernel_rfl) (w.heap.size + 1) (1 + k * 6) 6 6 ⟨b2, off2, none⟩ xss[k].length cap2 rfl rfl (tcells xss.length (partT xss k 0)) 75 hg1 (vals xss[k]) HVL.out.1 (HSRC.out w1 (step_below HB.out hb1)) (by rw [tcells_size]; exact HVL.out.2) (by simp [vals, Value.oneCell']) ?_; rw [HEQ.out]))
            have hr1 := kept_obj hb1 HR.out
            have hb2 := step_below HB.out hb1
            have HX : Hid (ReadC w (w1.setRow (w.heap.size + 1) (tcells xss.length (partT xss (k + 1) 0))) xss (k + 1)) := Lib.hid ⟨below_setRowT hb2 (by simp) _, (heap_setRowT_other _ _ _ _ (by omega)).trans hr1, heap_setRowT hg1⟩
            clear hr1 hb2 hg1
            go_wp2
            go_roundw
            all_goals first
              | (refine ⟨k + 1, by omega, by go_num, HX.out, fun c hc h => ?_⟩; by_cases hcm : c = k; (· subst hcm; exact HROW.out); exact HO.out c hc (by omega))
              | (simp [intOf]; omega)
          | false =>
            rw [hall] at HAW
            have hno : cIn xss = false := cIn_row hlt (by rw [rowC_all HRL.out]; exact hall)
            have HNO := Lib.hid hno
            clear hno hall
            go_wp2_with (first
              | (go_at_call 106; refine HAW.out.mono ?_; rintro e w1 ⟨rfl, hb1⟩; have hr1 := kept_obj hb1 HR.out)
              | (refine build_whole0 rfl rfl ?_)
              | (refine store_whole rfl _ _ rfl w.heap.size 0 (fun _ => 0) rfl rfl 0 (fun _ => 0) hr1 ?_))
            refine bodyPost_ret (v := .tuple #[.agg (tcells 0 (fun _ => 0)), .bool false]) (ret_whole2 rfl _ _ w.heap.size 0 (fun _ => 0) (.bool false) rfl rfl (heap_setRowT hr1)) rfl ?_
            unfold cFromOf
            rw [HNO.out]
            exact ⟨rfl, below_setRowT (step_below HB.out hb1) (Nat.le_refl _) _⟩
        · have e1 : ((xss[k].length : Int) != (xss.length : Int)) = true := by simp; omega
          have hno : cIn xss = false := cIn_row hlt (rowC_len hrl)
          have HNO := Lib.hid hno
          clear hno hin2
          go_wp2_with (first
            | (refine build_whole0 rfl rfl ?_)
            | (refine store_whole rfl _ _ rfl w.heap.size 0 (fun _ => 0) rfl rfl 0 (fun _ => 0) HR.out ?_))
          refine bodyPost_ret (v := .tuple #[.agg (tcells 0 (fun _ => 0)), .bool false]) (ret_whole2 rfl _ _ w.heap.size 0 (fun _ => 0) (.bool false) rfl rfl (heap_setRowT HR.out)) rfl ?_
          unfold cFromOf
          rw [HNO.out]
          exact ⟨rfl, below_setRowT HB.out (Nat.le_refl _) _⟩
      · obtain rfl : k = xss.length := by omega
        have hyes : cIn xss = true := by rw [cIn_yes (fun c hc => HO.out c hc hc), decide_eq_true_iff]; omega
        rw [partT_full] at HG
        have HY := Lib.hid hyes
        clear hyes c0
        go_wp2_with (first
          | (refine load_table rfl _ rfl _ xss.length (flat xss) rfl HG.out ?_)
          | (refine build_whole rfl _ rfl xss.length (flat xss) rfl ?_)
          | (refine store_whole rfl _ _ rfl w.heap.size xss.length (flat xss) rfl rfl 0 (fun _ => 0) HR.out ?_))
        refine bodyPost_ret (v := .tuple #[.agg (tcells xss.length (flat xss)), .bool true]) (ret_whole2 rfl _ _ w.heap.size xss.length (flat xss) (.bool true) rfl rfl (heap_setRowT HR.out)) rfl ?_
        unfold cFromOf
        rw [HY.out]
        exact ⟨rfl, below_setRowT HB.out (Nat.le_refl _) _⟩

end Go.Proofs.YtfcbhcjgjbcjdaaDoor
