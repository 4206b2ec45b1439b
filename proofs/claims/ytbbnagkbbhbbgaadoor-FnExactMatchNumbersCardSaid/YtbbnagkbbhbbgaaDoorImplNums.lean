/-
  impl.MatchNumbers, MatchGreatest, MatchAll: what they hand back.
-/
import Derived.Test.YtbbnagkbbhbbgaaDoorWhole
import Derived.Test.YtbbnagkbbhbbgaaDoorReadC
import Derived.Test.YtbbnagkbbhbbgaaDoorNum1
import Derived.Test.YtbbnagkbbhbbgaaDoorNum
import Derived.Test.YtbbnagkbbhbbgaaDoorCore1
import Derived.Test.YtbbnagkbbhbbgaaDoorSpecPoly
import Derived.Lib.SliceRun
import Derived.OwnWalk
namespace Go.Proofs.YtbbnagkbbhbbgaaDoor
set_option linter.unusedVariables false
set_option linter.unusedSimpArgs false
open Go.RowKit Go.Shelf

set_option maxRecDepth 100000 in
set_option maxHeartbeats 1000000 in
theorem greatest_any (g : Nat → Nat) (e : Nat) (h4 : e ≤ 4) (he : g e ≠ 0) (ht : ∀ k, e < k → k < 5 → g k = 0) (w : World) :
    Calls Tryd.prog 15 #[.agg (ncells g)] w fun en w' => en = .returned (.int .i64 (e : Int)) ∧ Below w.heap.size w w' := by
  have hb : Below w.heap.size w (w.alloc (.cells (ncells g) 40)) := (Below.refl _ _).alloc (Nat.le_refl _) _
  have hg := World.alloc_heap_new w (.cells (ncells g) 40)
  obtain ⟨W0, hW0⟩ : ∃ W0, w.alloc (.cells (ncells g) 40) = W0 := ⟨_, rfl⟩
  rw [hW0] at hb hg
  have HT := Lib.hid ht
  clear ht
  go_enter Tryd.func15, Tryd.ntmps15
  go_wp2
  go_loop [3] (fun i => ∃ k : Nat, e ≤ k ∧ k ≤ 4 ∧ i = .int .i64 k) (fun i => (intOf i).toNat)
  case atStart => exact ⟨4, h4, by omega, rfl⟩
  case round =>
    obtain ⟨k, hk, hk4, rfl⟩ := hrel
    have hc : W0.cell? ⟨w.heap.size, k, none⟩ = some (.int .i64 (g k : Nat)) := by rw [cell_of_row _ _ _ _ _ _ hg]; exact ncells_at g k (by omega)
    have hk5 : (k : Int) < 5 := by omega
    by_cases hlt : e < k
    · have h0 : ((g k : Nat) : Int) == 0 := by rw [HT.out k hlt (by omega)]; rfl
      have h00 : (((g k : Nat) : Int) == 0) = true := h0
      obtain ⟨j, rfl⟩ : ∃ j, k = j + 1 := ⟨k - 1, by omega⟩
      go_wp2
      go_round
      all_goals first | exact ⟨j, by omega, by omega, by go_num⟩ | (simp [intOf]; done) | (simp [intOf]; omega)
    · obtain rfl : k = e := by omega
      have h0 : (((g k : Nat) : Int) == 0) = false := by rw [beq_eq_false_iff_ne]; omega
      go_wp2
      go_ret
      exact ⟨rfl, hb⟩


set_option maxRecDepth 100000 in
set_option maxHeartbeats 2000000 in
theorem clone_any (w : World) (b n c : Nat) (xs : List Int) (h : Ints w (.slice (some ⟨b, 0, none⟩) n c) xs) (hn : xs.length ≤ 1000) :
    Calls Tryd.prog 14 #[.slice (some ⟨b, 0, none⟩) n c] w fun e w' => ∃ v, e = .returned v ∧ Below w.heap.size w w' ∧ Owns w' w.heap.size v xs := by
  obtain ⟨i0, hi, hz0, hz1, hz2⟩ := info_parts infoInt
  obtain ⟨A, cap, e, hm, hc⟩ := h
  obtain ⟨rfl, rfl, rfl⟩ : some ⟨b, 0, none⟩ = A ∧ n = xs.length ∧ c = cap := by simpa using e
  have HC := Lib.hid hc
  clear hc e
  have q22 : ∀ (w : World) (a : Option Addr) (n c n' c' : Nat), (binOp .eql 22 (.slice a n c) (.slice none n' c')).run Tryd.prog w = .ok (.bool a.isNone) w := fun w a n c n' c' => Lib.run_eql_slice_nil w _ _ a n c n' c' Tryd.underlying22
  go_enter Tryd.func14, Tryd.ntmps14
  go_wp2_with (at_builtin; refine wpList_append_own _ rfl _ _ 22 rfl w.heap.size 3 i0 (.int .i64 0) 1 8 Tryd.underlying22 hi hz0 hz1 hz2 rfl (by decide) _ _ _ rfl (World.ownsRow_made w #[] 0 (Nat.le_refl _) (Nat.zero_le _) rfl) ⟨b, 0, none⟩ xs.length c (vals xs) rfl ?qc1 ?qc2 ?qc3 ?qc4 ?qc5 ?qc6 ?_)
  case qc1 => simp
  case qc2 =>
    intro j u hj
    obtain ⟨hjl, rfl⟩ := List.getElem?_eq_some_iff.1 hj
    have hjx : j < xs.length := by simpa using hjl
    obtain ⟨b', off, e1, hcell⟩ := HC.out j hjx
    obtain ⟨rfl, rfl⟩ : b = b' ∧ 0 = off := by simpa using e1
    rw [addr_add]
    refine Lib.cell?_alloc_some _ ?_
    simpa using hcell
  case qc3 => intro u hu; obtain ⟨x, _, rfl⟩ := List.mem_map.1 hu; rfl
  case qc4 => unfold maxLen; omega
  case qc5 => omega
  case qc6 => simp
  intro v' w1 hown hgrow hnil
  go_wp2
  have hw1 : Below w.heap.size w w1 := ((Below.refl _ w).alloc (Nat.le_refl _) _).grown hgrow (by simp) (by intro k hk; simp [Value.ownBlock] at hk; omega)
  go_ret
  exact ⟨v', rfl, hw1, hown⟩


theorem load_nums {ops : Array Oper} {rest : List Oper} {o : Oper} {a : Act} {w : World} {Q : Exit → Act → World → Prop} (hgd : o.guard = none) (x : Operand) (ho : o.op = .load 40 x)
    (b : Nat) (g : Nat → Nat) (hx : a.eval x = .pointer (some ⟨b, 0, none⟩)) (hg : w.heap[b]? = some (.cells (ncells g) 40 (0, 0)))
    (h : wpList Tryd.prog ops Q rest (a.put o.dst (.agg (ncells g))) w) : wpList Tryd.prog ops Q (o :: rest) a w :=
  wpList_load_row hgd 40 x ho b hx 40 (ncells g) (0, 0) _ hg Tryd.underlying40 rfl (size_ncells g) h
theorem store_nums_new {ops : Array Oper} {rest : List Oper} {o : Oper} {a : Act} {w : World} {Q : Exit → Act → World → Prop} (hgd : o.guard = none) (x y : Operand) (ho : o.op = .store 40 x y)
    (g : Nat → Nat) (hx : a.eval x = .pointer (some ⟨w.heap.size, 0, none⟩)) (hy : a.eval y = .agg (ncells g))
    (h : wpList Tryd.prog ops Q rest (a.put o.dst undef) (w.alloc (.cells (ncells g) 40))) :
    wpList Tryd.prog ops Q (o :: rest) a (w.alloc (.cells #[.int .i64 0, .int .i64 0, .int .i64 0, .int .i64 0, .int .i64 0] 40)) := by
  rw [ncells_zeros]
  refine wpList_store_row hgd 40 x y ho w.heap.size (ncells g) hx hy 40 (ncells fun _ => 0) (World.alloc_heap_new w _) (size_ncells g) rfl (ncells_one g) ?_
  rw [World.setRow_alloc_new]
  exact h

theorem cnt_le (s : Nat) : cnt s ≤ 100000000 := by
  unfold cnt
  exact Nat.le_trans (Nat.pow_le_pow_right (by decide) (bitsOf_len s)) (by decide)

/-- What is counted. -/
def numsOf (xs : List Int) : List Int := if gIn xs = true then numL (gfun xs) (2 ^ xs.length - 1) else []

/-- Whole counts, behind the reading. -/
theorem whole_read {n : Nat} {f : Nat → Nat} (h8 : n ≤ 8) (hf : ∀ i, f i < 256) {w w1 : World} {B m : Nat} (hB : w.heap.size ≤ B) (hb : Below w.heap.size w w1) (hM : Memo w1 B f m) (hm : m ≤ 1000000000) (hT : Tab w) :
    Calls Tryd.prog 13 #[.agg (ccells n f B)] w1 fun e w2 => e = .returned (.agg (ncells (nums f (2 ^ n - 1)))) ∧ Memo w2 B f (m + 100000000) ∧ Below w.heap.size w w2 ∧ Within B (B + 1) w1 w2 := by
  refine (whole_any n f h8 hf B m (Nat.lt_of_lt_of_le hT.lt hB) w1 hM (hT.later hb) (by have := cnt_le (2 ^ n - 1); omega)).mono ?_
  rintro e w2 ⟨rfl, h2, h3⟩
  exact ⟨rfl, h2.mono (by have := cnt_le (2 ^ n - 1); omega), Below.within hb h3 hB, h3⟩



theorem from_no {xs : List Int} (hg : gIn xs = false) : fromOf xs = gcells 0 (fun _ => 0) := by simp [fromOf, hg]
theorem from_yes {xs : List Int} (hg : gIn xs = true) : fromOf xs = gcells xs.length (gfun xs) := by simp [fromOf, hg]


theorem cells_numL {f : Nat → Nat} {s : Nat} (hs : s < 256) {W : World} {b : Nat} (hg : W.heap[b]? = some (.cells (ncells (nums f s)) 40 (0, 0))) (n : Nat) (hn : n = (numL f s).length) (c : Nat) : Ints W (.slice (some ⟨b, 0, none⟩) n c) (numL f s) := by
  subst hn
  have h5 := numL_len f s
  refine ⟨some ⟨b, 0, none⟩, c, rfl, by unfold maxLen; omega, fun i hi => ⟨b, 0, rfl, ?_⟩⟩
  rw [cell_of_row _ _ _ _ _ _ hg, Nat.zero_add, ncells_at _ _ (by omega)]
  have := co_numL (f := f) hs i
  rw [co_at hi] at this
  rw [this]

theorem run_slice_nums (b E : Nat) (hE : E ≤ 4) (W : World) : (Instr.sliceAt 40 (.pointer (some ⟨b, 0, none⟩)) none (some (.int .i64 ((E : Int) + 1))) none).run Tryd.prog W = .ok (.slice (some ⟨b, 0, none⟩) (E + 1) 5) W := by
  have hL : Tryd.prog.arrayLen 40 = 5 := by kernel_rfl
  have hs : ∀ W, (sizeOf (Tryd.prog.elem 40)).run Tryd.prog W = .ok 1 W := fun _ => by kernel_rfl
  rw [run_sliceAt_array_h (P := Tryd.prog) W 40 ⟨b, 0, none⟩ (by kernel_rfl) .i64 _ (by omega) (by rw [hL]; omega), hs]
  have e : ((E : Int) + 1).toNat = E + 1 := by omega
  have e2 : (⟨b, 0, none⟩ : Addr).add 0 = ⟨b, 0, none⟩ := rfl
  simp [slicedAt, hL, e, Result.andThen, e2]

set_option maxRecDepth 100000 in
set_option maxHeartbeats 2000000 in
theorem implNumbers_any (w : World) (u : Value) (xs : List Int) (h : Ints w u xs) (hr : ∀ x ∈ xs, I64 x) (hT : Tab w) :
    Calls Tryd.prog 6 #[u] w (GivesInts w (gIn xs) (numsOf xs)) := by
  cases hg : gIn xs with
  | false =>
    have HR := Lib.hid (readC_any w u xs h hr hT 0 _ (from_no hg))
    have ho : numsOf xs = [] := by simp [numsOf, hg]
    rw [hg] at HR
    rw [ho]
    clear h hr hT
    go_enter Tryd.func6, Tryd.ntmps6
    go_wp2_with (first
      | (go_at_call 12; refine HR.out.mono ?_; rintro e w1 ⟨B, rfl, hB, hb1, hM⟩)
      | (refine store_counter_new rfl _ _ rfl 0 (fun _ => 0) B rfl rfl ?_))
    go_ret2
    exact ⟨_, rfl, hb1.alloc hb1.size _, World.ownsRow_nil _ _ _ _⟩
  | true =>
    obtain ⟨h1, h8, hok⟩ := gIn_parts hg
    have hlt := gfun_lt h8 hok
    have HR := Lib.hid (readC_any w u xs h hr hT _ _ (from_yes hg))
    have ho : numsOf xs = numL (gfun xs) (2 ^ xs.length - 1) := by simp [numsOf, hg]
    rw [hg] at HR
    rw [ho]
    have HT := Lib.hid hT
    have hs := all256 h8
    have HL := Lib.hid hlt
    have hg4 := gr_le4 (f := gfun xs) (s := 2 ^ xs.length - 1)
    have HLEN := Lib.hid (gr_len (f := gfun xs) hs)
    have HGR := Lib.hid (greatest_any (nums (gfun xs) (2 ^ xs.length - 1)) (gr (gfun xs) (2 ^ xs.length - 1)) gr_le4 (Nat.ne_of_gt (gr_pos hs)) (fun k hk _ => gr_top hs hk))
    obtain ⟨E, hE⟩ : ∃ E, gr (gfun xs) (2 ^ xs.length - 1) = E := ⟨_, rfl⟩
    rw [hE] at HGR hg4 HLEN
    clear h hr hT hok hlt ho hE
    have hsl := fun b W => run_slice_nums b E hg4 W
    have h5 := numL_len (gfun xs) (2 ^ xs.length - 1)
    go_enter Tryd.func6, Tryd.ntmps6
    go_wp2_with (first
      | (go_at_call 12; refine HR.out.mono ?_; rintro e w1 ⟨B, rfl, hB, hb1, hM⟩)
      | (refine store_counter_new rfl _ _ rfl xs.length (gfun xs) B rfl rfl ?_)
      | (refine load_counter rfl _ rfl _ xs.length (gfun xs) B rfl (World.alloc_heap_new _ _) ?_)
      | (go_at_call 13; refine (whole_read h8 HL.out hB (hb1.alloc hb1.size _) (hM.below (Below.alloc (Below.refl _ _) (Nat.le_refl _) _)) (by omega) HT.out).mono ?_; rintro e w2 ⟨rfl, hM2, hb2, -⟩)
      | (refine store_nums_new rfl _ _ rfl _ rfl rfl ?_)
      | (refine load_nums rfl _ rfl _ _ rfl (World.alloc_heap_new _ _) ?_)
      | (go_at_call 15; refine (HGR.out _).mono ?_; rintro e w3 ⟨rfl, hb3⟩)
      | (go_at_call 14; refine (clone_any _ _ _ _ _ (cells_numL hs ((hb3.block _ (by simp)).trans (World.alloc_heap_new _ _)) _ HLEN.out.symm 5) (by omega)).mono ?_; rintro e w4 ⟨v, rfl, hb4, ho4⟩))
    go_ret2
    have hb3' : Below w.heap.size w w3 := step_below (hb2.alloc hb2.size _) hb3
    exact ⟨v, rfl, step_below hb3' hb4, owns_mono ho4 hb3'.size⟩


end Go.Proofs.YtbbnagkbbhbbgaaDoor
