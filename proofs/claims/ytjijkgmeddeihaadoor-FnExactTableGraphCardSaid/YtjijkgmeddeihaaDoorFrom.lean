/-
  impl.graphFrom reads a graph from a list; it fails if the list is none.
-/
import Derived.Test.YtjijkgmeddeihaaDoorMutual
import Derived.Test.YtjijkgmeddeihaaDoorBare
namespace Go.Proofs.YtjijkgmeddeihaaDoor
set_option linter.unusedVariables false
set_option linter.unusedSimpArgs false
open Go.RowKit

/-- What graphFrom hands back. -/
def fromOf (xs : List Int) : Array Value := if gIn xs = true then gcells xs.length (gfun xs) else gcells 0 (fun _ => 0)

set_option maxRecDepth 100000 in
set_option maxHeartbeats 1000000 in
theorem from_size (w : World) (v : Value) (xs : List Int) (h : Ints w v xs) (hs : xs.length < 1 ∨ 8 < xs.length) :
    Calls Tryd.prog 36 #[v] w fun e w' => e = .returned (.tuple #[.agg (gcells 0 (fun _ => 0)), .bool false]) ∧ Below w.heap.size w w' := by
  obtain ⟨A, cap, rfl, hm, _⟩ := h
  have hs' : (xs.length : Int) < 1 ∨ 8 < (xs.length : Int) := by omega
  have HS := Lib.hid hs'
  clear hs hs'
  go_enter Tryd.func36, Tryd.ntmps36
  go_wp2_with (first
    | (go_at_call 50; refine (bare_no xs.length HS.out _).mono ?_; rintro e w1 ⟨rfl, hb⟩; replace hb := below_new hb; obtain ⟨hb0, hr0, hz0⟩ := hb)
    | (refine store_graph_new rfl _ _ rfl 0 (fun _ => 0) rfl rfl ?_)
    | (refine store_graph rfl _ _ rfl _ 0 (fun _ => 0) rfl rfl 0 (fun _ => 0) ((Below.heap_alloc _ _ _ hz0).trans hr0) ?_))
  refine bodyPost_ret (v := .tuple #[.agg (gcells 0 (fun _ => 0)), .bool false]) (ret_graph2 rfl _ _ w.heap.size 0 (fun _ => 0) (.bool false) rfl rfl (heap_setRow_same ((Below.heap_alloc _ _ _ hz0).trans hr0))) rfl ⟨rfl, ?_⟩
  exact below_setRow (hb0.alloc hb0.size _) (Nat.le_refl _) _

/-- What stands when the sets so far were read. -/
def Reads (w w1 wr : World) (xs : List Int) (k : Nat) : Prop :=
  Below w.heap.size w wr ∧ wr.heap[w.heap.size]? = some (.cells (gcells 0 (fun _ => 0)) 39 (0, 0)) ∧ wr.heap[w1.heap.size]? = some (.cells (gcells xs.length (part xs k)) 39 (0, 0)) ∧ okTo xs k = true

theorem part_succ (xs : List Int) (k : Nat) : upd (part xs k) k (gfun xs k) = part xs (k + 1) := by
  apply upd_step
  · simp [part]
  · intro i hi
    unfold part
    by_cases h : i < k
    · have : i < k + 1 := by omega
      simp [h, this]
    · have : ¬ i < k + 1 := by omega
      simp [h, this]

theorem part_full (xs : List Int) : part xs xs.length = gfun xs := by
  funext i
  unfold part
  split
  · rfl
  · rw [gfun_far (by omega)]

set_option maxRecDepth 100000 in
set_option maxHeartbeats 1000000 in
theorem from_any (w : World) (v : Value) (xs : List Int) (h : Ints w v xs) (hr : ∀ x ∈ xs, I64 x) (hT : Tab w) :
    Calls Tryd.prog 36 #[v] w fun e w' => e = .returned (.tuple #[.agg (fromOf xs), .bool (gIn xs)]) ∧ Below w.heap.size w w' := by
  by_cases hs : xs.length < 1 ∨ 8 < xs.length
  · have := from_size w v xs h hs
    unfold fromOf
    rw [gIn_size hs]
    exact this
  have h1 : 1 ≤ xs.length := by omega
  have h8 : xs.length ≤ 8 := by omega
  obtain ⟨A, cap, rfl, hm, hc⟩ := h
  have HC := Lib.hid hc
  have HI := Lib.hid hr
  clear hs hc hr
  go_enter Tryd.func36, Tryd.ntmps36
  go_wp2_with (first
    | (go_at_call 50; refine (bare_yes xs.length h1 h8 _).mono ?_; rintro e w1 ⟨rfl, hb⟩; replace hb := below_new hb; obtain ⟨hb0, hr0, hz0⟩ := hb)
    | (refine store_graph_new rfl _ _ rfl xs.length (fun _ => 0) rfl rfl ?_))
  obtain ⟨W, hW⟩ : ∃ W, w1.alloc (.cells (gcells xs.length (fun _ => 0)) 39) = W := ⟨_, rfl⟩
  have hRd : Reads w w1 W xs 0 := by
    rw [← hW]
    exact ⟨hb0.alloc hb0.size _, (Below.heap_alloc _ _ _ hz0).trans hr0, by rw [part_zero]; exact World.alloc_heap_new _ _, okTo_zero xs⟩
  rw [hW]
  clear hW hr0 hb0
  go_loopw [6, 7, 8, 20] (fun _ _ _ i wr => ∃ k : Nat, k ≤ xs.length ∧ i = .int .i64 k ∧ Reads w w1 wr xs k) (fun _ _ _ i _ => xs.length - (intOf i).toNat)
  case atStart => exact ⟨0, by omega, rfl, hRd⟩
  case round =>
    clear hRd
    obtain ⟨k, hk, rfl, hb, hr, hg, hok⟩ := hrel
    have HR := Lib.hid hr
    have HG := Lib.hid hg
    have HO := Lib.hid hok
    have hlt0 := (Array.getElem?_eq_some_iff.1 hr).1
    have hlt1 := (Array.getElem?_eq_some_iff.1 hg).1
    clear hr hg hok
    by_cases hlt : k < xs.length
    · obtain ⟨b, off, rfl, hcell⟩ := HC.out k hlt
      have hcell' := (hb.cell (p := ⟨b, off + k, none⟩) (World.block_lt_of_cell? w _ hcell)).trans hcell
      clear hcell
      have hx64 := HI.out xs[k] (List.getElem_mem hlt)
      have hout := outside_zero xs[k] xs.length (by omega) hx64.1 hx64.2
      clear hx64
      by_cases hin : 0 ≤ xs[k] ∧ xs[k] < ((2 ^ xs.length : Nat) : Int)
      · rw [decide_eq_true hin] at hout
        have hp := pow8_le (v := xs.length) (by omega)
        obtain ⟨m, hm⟩ : ∃ m : Nat, xs[k] = (m : Int) := ⟨xs[k].toNat, by omega⟩
        have hm256 : m < 256 := by omega
        rw [hm] at hout hcell'
        have hgm : gfun xs k = m := by rw [gfun_at hlt, hm]; simp
        have hk8 : (k : Int) < 8 := by omega
        simp only [Bool.not_true] at hout
        cases ht : m.testBit k with
        | true =>
          have hno : gIn xs = false := by
            refine gIn_row (i := k) ?_ hlt
            unfold rowOk; rw [hgm, ht]; simp
          have hh := fun W => has_any m k hm256 (by omega) W
          rw [ht] at hh
          have HH := Lib.hid hh
          have HN := Lib.hid hno
          clear hh hno ht hm hgm hin HC
          go_wp2_with (first
            | (refine load_graph rfl _ rfl _ xs.length (part xs k) rfl HG.out ?_)
            | (go_at_call 51; refine (nodes_any xs.length (part xs k) h8 _).mono ?_; rintro e w' ⟨rfl, rfl⟩)
            | (go_at_call 52; refine (HH.out _).mono ?_; rintro e w' ⟨rfl, rfl⟩)
            | (refine store_graph rfl _ _ rfl _ 0 (fun _ => 0) rfl rfl 0 (fun _ => 0) ((Below.heap_alloc _ _ _ hlt0).trans HR.out) ?_))
          refine bodyPost_ret (v := .tuple #[.agg (gcells 0 (fun _ => 0)), .bool false]) (ret_graph2 rfl _ _ w.heap.size 0 (fun _ => 0) (.bool false) rfl rfl (heap_setRow_same ((Below.heap_alloc _ _ _ hlt0).trans HR.out))) rfl ?_
          unfold fromOf
          rw [HN.out]
          exact ⟨rfl, below_setRow (hb.alloc hb.size _) (Nat.le_refl _) _⟩
        | false =>
          have hyes : okTo xs (k + 1) = true := by
            rw [okTo_succ, HO.out]
            unfold rowOk; rw [hgm, ht, List.getElem?_eq_getElem hlt, Option.getD_some, decide_eq_true hin]; rfl
          have hh := fun W => has_any m k hm256 (by omega) W
          rw [ht] at hh
          obtain ⟨_, cs, fz, _⟩ := graph_cells HG.out
          have ck := cs k (by omega)
          have fk := fz (1 + k)
          have HH := Lib.hid hh
          have HY := Lib.hid hyes
          have HM := Lib.hid hgm
          clear hh hyes ht hm hgm hin cs fz HC
          go_wp2_with (first
            | (refine load_graph rfl _ rfl _ xs.length (part xs k) rfl HG.out ?_)
            | (go_at_call 51; refine (nodes_any xs.length (part xs k) h8 _).mono ?_; rintro e w' ⟨rfl, rfl⟩)
            | (go_at_call 52; refine (HH.out _).mono ?_; rintro e w' ⟨rfl, rfl⟩))
          go_roundw
          case rel =>
            have hsz := hb.size
            refine ⟨k + 1, by omega, by go_num, (hb.setCell (p := ⟨w1.heap.size, 1 + k, none⟩) (by simp; omega) _).alloc (by simp; omega) _, ?_, ?_, HY.out⟩
            · rw [Below.heap_alloc _ _ _ (by simp; omega), heap_setCell_other _ _ _ _ (by simp; omega)]; exact HR.out
            · rw [Below.heap_alloc _ _ _ (by simp; omega), ← HM.out, graph_stored k _ (by omega) HG.out, part_succ]
          case measure => simp [intOf]; omega
      · rw [decide_eq_false hin] at hout
        simp only [Bool.not_false] at hout
        have hno : gIn xs = false := by
          refine gIn_row (i := k) ?_ hlt
          unfold rowOk; rw [List.getElem?_eq_getElem hlt, Option.getD_some, decide_eq_false hin]; rfl
        have HN := Lib.hid hno
        clear hno hin HC
        go_wp2_with (first
          | (refine load_graph rfl _ rfl _ xs.length (part xs k) rfl HG.out ?_)
          | (go_at_call 51; refine (nodes_any xs.length (part xs k) h8 _).mono ?_; rintro e w' ⟨rfl, rfl⟩)
          | (refine store_graph rfl _ _ rfl _ 0 (fun _ => 0) rfl rfl 0 (fun _ => 0) ((Below.heap_alloc _ _ _ hlt0).trans HR.out) ?_))
        refine bodyPost_ret (v := .tuple #[.agg (gcells 0 (fun _ => 0)), .bool false]) (ret_graph2 rfl _ _ w.heap.size 0 (fun _ => 0) (.bool false) rfl rfl (heap_setRow_same ((Below.heap_alloc _ _ _ hlt0).trans HR.out))) rfl ?_
        unfold fromOf
        rw [HN.out]
        exact ⟨rfl, below_setRow (hb.alloc hb.size _) (Nat.le_refl _) _⟩
    · obtain rfl : k = xs.length := by omega
      have hgi := gIn_mut h1 h8 HO.out
      have hfl := gfun_lt h8 HO.out
      have hTr := hT.later hb
      have hmu := mutual_any xs.length (gfun xs) h8 hfl wr hTr
      have HG2 : Hid (wr.heap[w1.heap.size]? = some (.cells (gcells xs.length (gfun xs)) 39 (0, 0))) := by
        show _ = _
        rw [← part_full xs]; exact HG.out
      have HGI := Lib.hid hgi
      have HTR := Lib.hid hTr
      cases hmb : mutB xs.length (gfun xs) with
      | true =>
        rw [hmb] at hmu
        have HMU := Lib.hid hmu
        have HMB := Lib.hid hmb
        clear hmu hmb hfl hgi hTr HC hT
        go_wp2_with (refine load_graph rfl _ rfl _ xs.length (gfun xs) rfl HG2.out ?_)
        refine HMU.out.mono ?_
        rintro e w3 ⟨rfl, hb3⟩
        have HG3 : Hid (w3.heap[w1.heap.size]? = some (.cells (gcells xs.length (gfun xs)) 39 (0, 0))) := (hb3.block _ hlt1).trans HG2.out
        have HR3 : Hid (w3.heap[w.heap.size]? = some (.cells (gcells 0 (fun _ => 0)) 39 (0, 0))) := (hb3.block _ hlt0).trans HR.out
        have HB3 := Lib.hid (step_below hb hb3)
        clear hb3
        go_wp2_with (first
          | (refine load_graph rfl _ rfl _ xs.length (gfun xs) rfl HG3.out ?_)
          | (refine store_graph rfl _ _ rfl _ xs.length (gfun xs) rfl rfl 0 (fun _ => 0) HR3.out ?_))
        refine bodyPost_ret (v := .tuple #[.agg (gcells xs.length (gfun xs)), .bool true]) (ret_graph2 rfl _ _ w.heap.size xs.length (gfun xs) (.bool true) rfl rfl (heap_setRow_same HR3.out)) rfl ?_
        unfold fromOf
        rw [HGI.out, HMB.out]
        exact ⟨rfl, below_setRow HB3.out (Nat.le_refl _) _⟩
      | false =>
        rw [hmb] at hmu
        have HMU := Lib.hid hmu
        have HMB := Lib.hid hmb
        clear hmu hmb hfl hgi hTr HC hT
        go_wp2_with (refine load_graph rfl _ rfl _ xs.length (gfun xs) rfl HG2.out ?_)
        refine HMU.out.mono ?_
        rintro e w3 ⟨rfl, hb3⟩
        have HR3 : Hid (w3.heap[w.heap.size]? = some (.cells (gcells 0 (fun _ => 0)) 39 (0, 0))) := (hb3.block _ hlt0).trans HR.out
        have HB3 := Lib.hid (step_below hb hb3)
        clear hb3
        go_wp2_with (refine store_graph rfl _ _ rfl _ 0 (fun _ => 0) rfl rfl 0 (fun _ => 0) HR3.out ?_)
        refine bodyPost_ret (v := .tuple #[.agg (gcells 0 (fun _ => 0)), .bool false]) (ret_graph2 rfl _ _ w.heap.size 0 (fun _ => 0) (.bool false) rfl rfl (heap_setRow_same HR3.out)) rfl ?_
        unfold fromOf
        rw [HGI.out, HMB.out]
        exact ⟨rfl, below_setRow HB3.out (Nat.le_refl _) _⟩

end Go.Proofs.YtjijkgmeddeihaaDoor
