/-
  (graph).isCover, impl.CoverIn, spec.CoverIn.
-/
import Derived.Test.YtcklinoiaiilgabDoorReadSet
import Derived.Test.YtcklinoiaiilgabDoorPow
import Derived.Deep.RegionWith
namespace Go.Proofs.YtcklinoiaiilgabDoor
set_option linter.unusedVariables false
set_option linter.unusedSimpArgs false
open Go.RowKit

theorem free_cov {f : Nat → Nat} {n s : Nat} (h8 : n ≤ 8) (hf : ∀ i, f i < 2 ^ n) (hs : s < 256) :
    decide (arnd f ((2 ^ n - 1) &&& (255 - s)) &&& ((2 ^ n - 1) &&& (255 - s)) = 0) = covB f n s := by
  have ht : (2 ^ n - 1) &&& (255 - s) < 256 := restOf_lt n
  have hbit : ∀ i, ((2 ^ n - 1) &&& (255 - s)).testBit i = true ↔ i < n ∧ s.testBit i = false := fun i => restOf_bit h8 hs
  rw [Bool.eq_iff_iff, decide_eq_true_eq, free_iff ht]
  constructor
  · intro hfree
    refine covB_yes fun i hi => ?_
    unfold covAt
    cases hsi : s.testBit i with
    | true => rfl
    | false =>
      rw [Bool.false_or, decide_eq_true_eq]
      apply Nat.eq_of_testBit_eq
      intro j
      rw [Nat.zero_testBit, Nat.testBit_and, not_bit hs]
      cases hij : (f i).testBit j with
      | false => rfl
      | true =>
        have hj : j < n := bit_lt_of_lt_pow (hf i) hij
        cases hsj : s.testBit j with
        | true => simp
        | false => exact (hfree i j ((hbit i).2 ⟨hi, hsi⟩) ((hbit j).2 ⟨hj, hsj⟩) hij).elim
  · intro hc i j hi hj hij
    obtain ⟨hi1, hi2⟩ := (hbit i).1 hi
    obtain ⟨hj1, hj2⟩ := (hbit j).1 hj
    unfold covB at hc
    have h1 := List.all_eq_true.1 hc i (List.mem_range.2 hi1)
    unfold covAt at h1
    rw [hi2, Bool.false_or, decide_eq_true_eq] at h1
    have h2 : (f i &&& (255 - s)).testBit j = true := by
      rw [Nat.testBit_and, hij, not_bit hs, hj2]; simp; omega
    rw [h1] at h2
    simp at h2

set_option maxRecDepth 100000 in
set_option maxHeartbeats 2000000 in
theorem isCover_any (n : Nat) (f : Nat → Nat) (h8 : n ≤ 8) (hf : ∀ i, f i < 2 ^ n) (s : Nat) (hs : s < 256) (w : World) (hT : Tab w) :
    Calls Tryd.prog 96 #[.agg (gcells n f), .int .i64 (s : Int)] w fun e w' => e = .returned (.bool (covB f n s)) ∧ Below w.heap.size w w' := by
  have hp8 := pow8_le (v := n) (by omega)
  have hno := nodes_any n f h8
  have hpos := Nat.two_pow_pos n
  have hand := andNot64 (2 ^ n - 1) s (by omega) hs
  obtain ⟨t, ht⟩ : ∃ t, (2 ^ n - 1) &&& (255 - s) = t := ⟨_, rfl⟩
  have ht2 : t < 256 := by rw [← ht]; exact restOf_lt n
  have hcv := free_cov h8 hf hs
  rw [ht] at hand hcv
  have hb1 : Below w.heap.size w (w.alloc (.cells (gcells n f) 55)) := (Below.refl _ _).alloc (Nat.le_refl _) _
  have hg1 := World.alloc_heap_new w (.cells (gcells n f) 55)
  obtain ⟨W1, hW1⟩ : ∃ W1, w.alloc (.cells (gcells n f) 55) = W1 := ⟨_, rfl⟩
  have hsz : W1.heap.size = w.heap.size + 1 := by rw [← hW1]; simp
  rw [hW1] at hb1 hg1
  have hbd : Below w.heap.size w (W1.drew.alloc (.cells (gcells n f) 55)) := (hb1.drew).alloc (by show w.heap.size ≤ W1.heap.size; omega) _
  have hcall := isFree_any n f (fun i => Nat.lt_of_lt_of_le (hf i) hp8) t ht2 (covB f n s) hcv _ (hT.later hbd)
  have HNO := Lib.hid hno
  have HCALL := Lib.hid hcall
  have HB := Lib.hid hbd
  obtain ⟨c0, cs, _, _⟩ := graph_cells hg1
  have c1 : W1.cell? ⟨w.heap.size, 1, none⟩ = _ := cs 0 (by decide)
  have c2 : W1.cell? ⟨w.heap.size, 2, none⟩ = _ := cs 1 (by decide)
  have c3 : W1.cell? ⟨w.heap.size, 3, none⟩ = _ := cs 2 (by decide)
  have c4 : W1.cell? ⟨w.heap.size, 4, none⟩ = _ := cs 3 (by decide)
  have c5 : W1.cell? ⟨w.heap.size, 5, none⟩ = _ := cs 4 (by decide)
  have c6 : W1.cell? ⟨w.heap.size, 6, none⟩ = _ := cs 5 (by decide)
  have c7 : W1.cell? ⟨w.heap.size, 7, none⟩ = _ := cs 6 (by decide)
  have c8 : W1.cell? ⟨w.heap.size, 8, none⟩ = _ := cs 7 (by decide)
  clear hno hcall hbd hT hf ht ht2 hcv hp8 hpos cs hg1 hb1 hsz
  go_enter Tryd.func96, Tryd.ntmps96
  go_wp2
  go_region_with (first
    | (go_at_call 106; refine (HNO.out _).mono ?_; rintro e w' ⟨rfl, rfl⟩)
    | (go_at_call 130; refine HCALL.out.mono ?_; rintro e w3 ⟨rfl, hb3⟩))
  all_goals (go_wp2; go_ret; exact ⟨rfl, step_below HB.out hb3⟩)

theorem toNat_lt {a : Int} {n : Nat} (h : 0 ≤ a ∧ a < ((n : Nat) : Int)) : a.toNat < n := by omega

set_option maxRecDepth 100000 in
set_option maxHeartbeats 2000000 in
theorem implCoverIn_any (w : World) (v : Value) (xs : List Int) (a : Int) (ha : I64 a) (h : Ints w v xs) (hr : ∀ x ∈ xs, I64 x) (hT : Tab w) :
    Calls Tryd.prog 44 #[v, .int .i64 a] w (GivesBool w (coverOf xs a)) := by
  cases hk : gIn xs && decide (0 ≤ a ∧ a < ((2 ^ xs.length : Nat) : Int)) with
  | false =>
    have ho : coverOf xs a = false := by unfold coverOf; rw [hk]; rfl
    have HR := Lib.hid (readSet_no w v xs h hr hT a ha hk)
    rw [ho]
    clear h hr hT hk ho
    go_enter Tryd.func44, Tryd.ntmps44
    go_wp2_with (first
      | (go_at_call 95; refine HR.out.mono ?_; rintro e w1 ⟨rfl, hb1⟩)
      | (refine store_graph_new rfl _ _ rfl 0 (fun _ => 0) rfl rfl ?_))
    go_ret
    exact ⟨rfl, hb1.alloc hb1.size _⟩
  | true =>
    rw [Bool.and_eq_true, decide_eq_true_eq] at hk
    obtain ⟨hg, hin⟩ := hk
    obtain ⟨h1, h8, hok⟩ := gIn_parts hg
    obtain ⟨s, rfl⟩ : ∃ s : Nat, a = (s : Int) := ⟨a.toNat, by omega⟩
    have hs : s < 2 ^ xs.length := by have := hin.2; exact_mod_cast this
    have hp8 := pow8_le (v := xs.length) (by omega)
    have ho : coverOf xs (s : Int) = covB (gfun xs) xs.length s := by
      unfold coverOf; rw [hg, decide_eq_true hin]; rfl
    have HR := Lib.hid (readSet_yes w v xs h hr hT hg s hs)
    have HC := Lib.hid (isCover_any xs.length (gfun xs) h8 (gfun_pow hok) s (by omega))
    have HT := Lib.hid hT
    rw [ho]
    clear h hr hT ho hok hg
    go_enter Tryd.func44, Tryd.ntmps44
    go_wp2_with (first
      | (go_at_call 95; refine HR.out.mono ?_; rintro e w1 ⟨rfl, hb1⟩)
      | (refine store_graph_new rfl _ _ rfl xs.length (gfun xs) rfl rfl ?_; obtain ⟨c0, cs, _, _⟩ := graph_cells (World.alloc_heap_new w1 (.cells (gcells xs.length (gfun xs)) 55)); have c1 := cs 0 (by decide); have c2 := cs 1 (by decide); have c3 := cs 2 (by decide); have c4 := cs 3 (by decide); have c5 := cs 4 (by decide); have c6 := cs 5 (by decide); have c7 := cs 6 (by decide); have c8 := cs 7 (by decide); clear cs)
      | (go_at_call 96; refine (HC.out _ (HT.out.later (hb1.alloc hb1.size _))).mono ?_; rintro e w2 ⟨rfl, hb2⟩))
    go_ret
    exact ⟨rfl, step_below (hb1.alloc hb1.size _) hb2⟩

set_option maxRecDepth 100000 in
set_option maxHeartbeats 2000000 in
theorem specCoverIn_any (w : World) (v : Value) (xs : List Int) (a : Int) (h : Ints w v xs) :
    Calls Tryd.prog 45 #[v, .int .i64 a] w (GivesBool w (coverOf xs a)) := by
  have hs := specIn_any w v xs h
  have hv := h
  obtain ⟨A, cap, rfl, hm, _⟩ := h
  cases hg : gIn xs with
  | false =>
    have ho : coverOf xs a = false := by unfold coverOf; rw [hg]; rfl
    rw [hg] at hs
    have HS := Lib.hid hs
    rw [ho]
    clear hs hg ho hv
    go_enter Tryd.func45, Tryd.ntmps45
    go_wp2_with (go_at_call 86; refine HS.out.mono ?_; rintro e w1 ⟨rfl, q, rfl⟩)
    go_ret
    exact ⟨rfl, below_drewN (Below.refl _ _) q⟩
  | true =>
    obtain ⟨h1, h8, hok⟩ := gIn_parts hg
    have hlw := low_wrap' (n := xs.length) (by omega)
    have hlw2 := low_wrap (v := xs.length) (by omega)
    have hl8 : (xs.length : Int) ≤ 8 := by omega
    have hpos := Nat.two_pow_pos xs.length
    have hp8 := pow8_le (v := xs.length) (by omega)
    rw [hg] at hs
    have HS := Lib.hid hs
    have HV := Lib.hid hv
    have e6 : decide (0 ≤ a ∧ a ≤ ((2 ^ xs.length - 1 : Nat) : Int)) = decide (0 ≤ a ∧ a < ((2 ^ xs.length : Nat) : Int)) := by
      rw [Bool.eq_iff_iff, decide_eq_true_eq, decide_eq_true_eq]; omega
    by_cases hin : 0 ≤ a ∧ a < ((2 ^ xs.length : Nat) : Int)
    · have hq := fun W => l6In_q a 0 ((2 ^ xs.length - 1 : Nat) : Int) true (e6.trans (decide_eq_true hin)) W
      obtain ⟨s, rfl⟩ : ∃ s : Nat, a = (s : Int) := ⟨a.toNat, by omega⟩
      have hs2 : s < 2 ^ xs.length := by have := hin.2; exact_mod_cast this
      have ho : coverOf xs (s : Int) = covB (gfun xs) xs.length s := by
        unfold coverOf; rw [hg, decide_eq_true hin]; rfl
      have hc := fun W (hW : Ints W (.slice A xs.length cap) xs) => l4Cover_any W _ xs hW h8 (fun k hk => row_value h8 hok hk) s (by omega)
      have HQ := Lib.hid hq
      have HC := Lib.hid hc
      rw [ho]
      clear hs hg ho hv hq hc hok e6 hpos
      go_enter Tryd.func45, Tryd.ntmps45
      go_wp2_with (first
        | (go_at_call 86; refine HS.out.mono ?_; rintro e w1 ⟨rfl, q, rfl⟩)
        | (go_at_call 65; refine (HQ.out _).mono ?_; rintro e w2 ⟨rfl, rfl⟩)
        | (go_at_call 97; refine (HC.out _ (HV.out.drewN q)).mono ?_; rintro e w3 ⟨rfl, rfl⟩))
      go_ret
      exact ⟨rfl, below_drewN (Below.refl _ _) q⟩
    · have hq := fun W => l6In_q a 0 ((2 ^ xs.length - 1 : Nat) : Int) false (e6.trans (decide_eq_false hin)) W
      have ho : coverOf xs a = false := by unfold coverOf; rw [decide_eq_false hin, Bool.and_false]; rfl
      have HQ := Lib.hid hq
      rw [ho]
      clear hs hg ho hv hq hok e6 hpos
      go_enter Tryd.func45, Tryd.ntmps45
      go_wp2_with (first
        | (go_at_call 86; refine HS.out.mono ?_; rintro e w1 ⟨rfl, q, rfl⟩)
        | (go_at_call 65; refine (HQ.out _).mono ?_; rintro e w2 ⟨rfl, rfl⟩))
      go_ret
      exact ⟨rfl, below_drewN (Below.refl _ _) q⟩

end Go.Proofs.YtcklinoiaiilgabDoor
