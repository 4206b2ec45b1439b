/-
  spec.l6mStable, spec.MarketAbove.
-/
import Derived.Test.YtjbgjebbfkhidaaBlocks
namespace Go.Proofs.Ytjbgjebbfkhidaa
set_option linter.unusedVariables false
set_option linter.unusedSimpArgs false
open Go.RowKit

def stableB (ls rs : List (List Int)) (xs : List Int) : Bool := pairOk ls rs xs && (blocksOf ls rs xs).isEmpty
theorem stable_parts {ls rs : List (List Int)} {xs : List Int} (h : stableB ls rs xs = true) : pairOk ls rs xs = true ∧ blocksOf ls rs xs = [] := by
  unfold stableB at h
  rw [Bool.and_eq_true] at h
  exact ⟨h.1, by simpa using h.2⟩
theorem len_isEmpty {α : Type} (l : List α) : (((l.length : Nat) : Int) == 0) = l.isEmpty := by
  cases l with
  | nil => rfl
  | cons x t => simp; omega

set_option maxRecDepth 100000 in
set_option maxHeartbeats 4000000 in
theorem l6mStable_any (w : World) (L R v : Value) (ls rs : List (List Int)) (xs : List Int) (hL : IntRows w L ls) (hR : IntRows w R rs) (hx : Ints w v xs) :
    Calls Try.prog 39 #[.agg (two L R), v] w fun e w' => e = .returned (.bool (stableB ls rs xs)) ∧ Below w.heap.size w w' := by
  obtain ⟨W0, hW0⟩ : ∃ W0, w.alloc (.cells (two L R) 25) = W0 := ⟨_, rfl⟩
  have hb0 : Below w.heap.size w W0 := by rw [← hW0]; exact (Below.refl _ _).alloc (Nat.le_refl _) _
  have hbox : W0.heap[w.heap.size]? = some (.cells (two L R) 25 (0, 0)) := by rw [← hW0]; exact World.alloc_heap_new _ _
  have HSM := Lib.hid (specMPair_any W0 L R v ls rs xs (hL.below hb0) (hR.below hb0) (hx.below hb0))
  have HB0 := Lib.hid hb0
  have HLR := Lib.hid (And.intro hL (And.intro hR hx))
  clear hL hR hx hb0
  cases hok : pairOk ls rs xs with
  | false =>
    have HNO : Hid (stableB ls rs xs = false) := Lib.hid (by unfold stableB; rw [hok]; rfl)
    rw [hok] at HSM
    clear hok
    go_enter Try.func39, Try.ntmps39
    go_wp2_with (refine load_mi rfl _ rfl w.heap.size L R rfl hbox ?_)
    clear hW0
    refine HSM.out.mono ?_
    rintro e w1 ⟨rfl, hb1⟩
    have HB1 := Lib.hid (step_below HB0.out hb1)
    clear hb1
    go_wp2
    go_ret
    exact ⟨ret_bool HNO.out.symm, HB1.out⟩
  | true =>
    have HEQ : Hid (stableB ls rs xs = (blocksOf ls rs xs).isEmpty) := Lib.hid (by unfold stableB; rw [hok]; rfl)
    have HBL := Lib.hid (fun (W : World) (hW : Below w.heap.size w W) => l6mBlocks_any W L R v ls rs xs (HLR.out.1.below hW) (HLR.out.2.1.below hW) (HLR.out.2.2.below hW) hok)
    have hlz := len_isEmpty ((blocksOf ls rs xs).map prL)
    have hie : ((blocksOf ls rs xs).map prL).isEmpty = (blocksOf ls rs xs).isEmpty := by cases blocksOf ls rs xs <;> rfl
    rw [hie] at hlz
    obtain ⟨bs, hbs⟩ : ∃ bs, (blocksOf ls rs xs).map prL = bs := ⟨_, rfl⟩
    rw [hbs] at HBL hlz
    rw [hok] at HSM
    clear hok hbs hie
    go_enter Try.func39, Try.ntmps39
    go_wp2_with (refine load_mi rfl _ rfl w.heap.size L R rfl hbox ?_)
    clear hW0
    refine HSM.out.mono ?_
    rintro e w1 ⟨rfl, hb1⟩
    have HB1 := Lib.hid (step_below HB0.out hb1)
    have hbox1 := kept_obj hb1 hbox
    obtain ⟨x0, x1, _, _⟩ := two_cells hbox1
    clear hb1
    go_wp2_with (first
      | (refine load_mi rfl _ rfl w.heap.size L R rfl hbox1 ?_)
      | (go_at_call 32; refine (HBL.out _ HB1.out).mono ?_; rintro e w2 ⟨Ab, cb, ub, rfl, hb2, -⟩))
    go_ret
    exact ⟨ret_bool HEQ.out.symm, step_below HB1.out hb2⟩

def aboveTo (ls : List (List Int)) (ps qs : List Int) (i : Nat) : Bool := decide (place (ls.getD i []) (ps.getD i 0) ≤ place (ls.getD i []) (qs.getD i 0))
def aboveB (ls : List (List Int)) (ps qs : List Int) : Bool := (List.range ls.length).all (aboveTo ls ps qs)
def aboveOk (ls rs : List (List Int)) (ps qs : List Int) : Bool := stableB ls rs ps && (stableB ls rs qs && aboveB ls ps qs)
theorem aboveB_no {ls : List (List Int)} {ps qs : List Int} {i : Nat} (hi : i < ls.length) (h : aboveTo ls ps qs i = false) : aboveB ls ps qs = false := by
  unfold aboveB
  rw [Bool.eq_false_iff]
  intro hall
  rw [List.all_eq_true.1 hall i (List.mem_range.2 hi)] at h
  cases h
theorem aboveB_yes {ls : List (List Int)} {ps qs : List Int} (h : ∀ i, i < ls.length → aboveTo ls ps qs i = true) : aboveB ls ps qs = true :=
  List.all_eq_true.2 fun i hi => h i (List.mem_range.1 hi)

set_option maxRecDepth 100000 in
set_option maxHeartbeats 4000000 in
theorem specAbove_any (w : World) (L R v u : Value) (ls rs : List (List Int)) (ps qs : List Int) (hL : IntRows w L ls) (hR : IntRows w R rs) (hp : Ints w v ps) (hq : Ints w u qs) :
    Calls Try.prog 16 #[.agg (two L R), v, u] w fun e w' => e = .returned (.bool (aboveOk ls rs ps qs)) ∧ Below w.heap.size w w' := by
  obtain ⟨W0, hW0⟩ : ∃ W0, w.alloc (.cells (two L R) 25) = W0 := ⟨_, rfl⟩
  have hb0 : Below w.heap.size w W0 := by rw [← hW0]; exact (Below.refl _ _).alloc (Nat.le_refl _) _
  have hbox : W0.heap[w.heap.size]? = some (.cells (two L R) 25 (0, 0)) := by rw [← hW0]; exact World.alloc_heap_new _ _
  have HS1 := Lib.hid (l6mStable_any W0 L R v ls rs ps (hL.below hb0) (hR.below hb0) (hp.below hb0))
  have HS2 := Lib.hid (fun (W : World) (hW : Below w.heap.size w W) => l6mStable_any W L R u ls rs qs (hL.below hW) (hR.below hW) (hq.below hW))
  have HB0 := Lib.hid hb0
  have HLR := Lib.hid (And.intro hL (And.intro hp hq))
  clear hL hR hp hq hb0
  cases hok1 : stableB ls rs ps with
  | false =>
    have HNO : Hid (aboveOk ls rs ps qs = false) := Lib.hid (by unfold aboveOk; rw [hok1]; rfl)
    rw [hok1] at HS1
    clear hok1
    go_enter Try.func16, Try.ntmps16
    go_wp2_with (refine load_mi rfl _ rfl w.heap.size L R rfl hbox ?_)
    clear hW0
    refine HS1.out.mono ?_
    rintro e w1 ⟨rfl, hb1⟩
    have HB1 := Lib.hid (step_below HB0.out hb1)
    clear hb1
    go_wp2
    go_ret
    exact ⟨ret_bool HNO.out.symm, HB1.out⟩
  | true =>
    cases hok2 : stableB ls rs qs with
    | false =>
      have HNO : Hid (aboveOk ls rs ps qs = false) := Lib.hid (by unfold aboveOk; rw [hok1, hok2]; rfl)
      rw [hok1] at HS1
      rw [hok2] at HS2
      clear hok1 hok2
      go_enter Try.func16, Try.ntmps16
      go_wp2_with (refine load_mi rfl _ rfl w.heap.size L R rfl hbox ?_)
      clear hW0
      refine HS1.out.mono ?_
      rintro e w1 ⟨rfl, hb1⟩
      have HB1 := Lib.hid (step_below HB0.out hb1)
      have hbox1 := kept_obj hb1 hbox
      obtain ⟨x0', x1', _, _⟩ := two_cells hbox1
      clear hb1
      go_wp2_with (first
        | (refine load_mi rfl _ rfl w.heap.size L R rfl hbox1 ?_)
        | (go_at_call 39; refine (HS2.out _ HB1.out).mono ?_; rintro e w2 ⟨rfl, hb2⟩))
      go_ret
      exact ⟨ret_bool HNO.out.symm, step_below HB1.out hb2⟩
    | true =>
      obtain ⟨h1, h5, hrl, hpl, hls, hrs, hpr⟩ := pair_parts (stable_parts hok1).1
      obtain ⟨_, _, _, hql, _, _, hqr⟩ := pair_parts (stable_parts hok2).1
      have HEQ : Hid (aboveOk ls rs ps qs = aboveB ls ps qs) := Lib.hid (by unfold aboveOk; rw [hok1, hok2]; rfl)
      have HFACT := Lib.hid (And.intro hpl hql)
      rw [hok1] at HS1
      rw [hok2] at HS2
      obtain ⟨hL, hp, hq⟩ := HLR.out
      obtain ⟨A, cap, rfl, hm, hc⟩ := hp
      obtain ⟨B, capb, rfl, hmb, hcb⟩ := hq
      obtain ⟨A1, cap1, hLe, hm1, hc1⟩ := hL.at
      have HLE := Lib.hid hLe
      have HC := Lib.hid hc
      have HCB := Lib.hid hcb
      have HC1 := Lib.hid hc1
      clear hok1 hok2 hrl hpl hls hrs hpr hql hqr hL hc hcb hc1 hLe
      unfold maxLen at hm hmb hm1
      go_enter Try.func16, Try.ntmps16
      go_wp2_with (refine load_mi rfl _ rfl w.heap.size L R rfl hbox ?_)
      clear hW0
      refine HS1.out.mono ?_
      rintro e w1 ⟨rfl, hb1⟩
      have HB1 := Lib.hid (step_below HB0.out hb1)
      have hbox1 := kept_obj hb1 hbox
      obtain ⟨x0', x1', _, _⟩ := two_cells hbox1
      clear hb1
      go_wp2_with (first
        | (refine load_mi rfl _ rfl w.heap.size L R rfl hbox1 ?_)
        | (go_at_call 39; refine (HS2.out _ HB1.out).mono ?_; rintro e w2 ⟨rfl, hb2⟩))
      have HB2 := Lib.hid (step_below HB1.out hb2)
      obtain ⟨x0, x1, _, _⟩ := two_cells (kept_obj hb2 hbox1)
      rw [HLE.out] at x0
      clear hb2 hbox hbox1 x1
      go_loopw [7] (fun i wr => ∃ k q : Nat, k ≤ ps.length ∧ i = .int .i64 k ∧ (∀ j, j < k → aboveTo ls ps qs j = true) ∧ wr = w2.drewN q) (fun i _ => ps.length - (intOf i).toNat)
      case atStart => exact ⟨0, 0, by omega, rfl, fun j hj => by omega, rfl⟩
      case round =>
        obtain ⟨k, q, hk, rfl, hall, hwr⟩ := hrel
        have HA := Lib.hid hall
        have HW := Lib.hid hwr
        clear hall
        obtain ⟨hpl, hql⟩ := HFACT.out
        by_cases hlt : k < ps.length
        · have hkl : k < ls.length := by omega
          have hkq : k < qs.length := by omega
          obtain ⟨b1, o1, rfl, hcell0⟩ := HC.out k hlt
          obtain ⟨b2, o2, rfl, hcell20⟩ := HCB.out k hkq
          obtain ⟨b3, o3, u3, rfl, hcell30, hu3⟩ := HC1.out k hkl
          have hbR : Below w.heap.size w wr := by rw [hwr]; exact below_drewN HB2.out q
          have hcell := (hbR.cell (p := ⟨b1, o1 + k, none⟩) (World.block_lt_of_cell? w _ hcell0)).trans hcell0
          have hcell2 := (hbR.cell (p := ⟨b2, o2 + k, none⟩) (World.block_lt_of_cell? w _ hcell20)).trans hcell20
          have hcell3 := (hbR.cell (p := ⟨b3, o3 + k, none⟩) (World.block_lt_of_cell? w _ hcell30)).trans hcell30
          have y0 : wr.cell? ⟨w.heap.size, 0, none⟩ = some (.slice (some ⟨b3, o3, none⟩) ls.length cap1) := by rw [hwr]; exact x0
          obtain ⟨pi, hpi⟩ : ∃ x, ps[k] = x := ⟨_, rfl⟩
          obtain ⟨qi, hqi⟩ : ∃ x, qs[k] = x := ⟨_, rfl⟩
          rw [hpi] at hcell
          rw [hqi] at hcell2
          obtain ⟨z1, hz1'⟩ : ∃ z : Int, (place ls[k] pi : Int) = z := ⟨_, rfl⟩
          obtain ⟨z2, hz2'⟩ : ∃ z : Int, (place ls[k] qi : Int) = z := ⟨_, rfl⟩
          have HP1 := Lib.hid (fun (W : World) (hW : Below w.heap.size w W) => l6mPlace_q u3 ls[k] pi z1 hz1' W (hu3.below hW))
          have HP2 := Lib.hid (fun (W : World) (hW : Below w.heap.size w W) => l6mPlace_q u3 ls[k] qi z2 hz2' W (hu3.below hW))
          have hat : aboveTo ls ps qs k = decide (z1 ≤ z2) := by
            unfold aboveTo
            have e1 : ls.getD k [] = ls[k] := by simp [List.getD, hkl]
            have e2 : ps.getD k 0 = ps[k] := by simp [List.getD, hlt]
            have e3 : qs.getD k 0 = qs[k] := by simp [List.getD, hkq]
            rw [e1, e2, e3, hpi, hqi, ← hz1', ← hz2']
            simp only [Int.ofNat_le]
          have HAT := Lib.hid hat
          have HBR := Lib.hid hbR
          have hki : (k : Int) < (ps.length : Int) := by omega
          have hki2 : (k : Int) < (qs.length : Int) := by omega
          have hki3 : (k : Int) < (ls.length : Int) := by omega
          have hk0 : (0 : Int) ≤ (k : Int) := by omega
          clear hcell0 hcell20 hcell30 hu3 hpi hqi hz1' hz2' hat hbR hwr hpl hql
          by_cases hgt : z2 < z1
          · have HNO : Hid (aboveOk ls rs ps qs = false) := Lib.hid (by rw [HEQ.out]; exact aboveB_no hkl (by rw [HAT.out]; exact decide_eq_false (by omega)))
            go_wp2
            go_quiet ((go_at_call 40; first | (with_reducible exact Calls.quiet_of_same (HP1.out _ (below_drewN HBR.out _))) | (with_reducible exact Calls.quiet_of_same (HP2.out _ (below_drewN HBR.out _)))))
            go_wp2
            go_ret
            exact ⟨ret_bool HNO.out.symm, below_drewN HBR.out _⟩
          · have HY : Hid (aboveTo ls ps qs k = true) := Lib.hid (by rw [HAT.out]; exact decide_eq_true (by omega))
            go_wp2
            go_quiet ((go_at_call 40; first | (with_reducible exact Calls.quiet_of_same (HP1.out _ (below_drewN HBR.out _))) | (with_reducible exact Calls.quiet_of_same (HP2.out _ (below_drewN HBR.out _)))))
            obtain ⟨wq, hwq⟩ : ∃ wq, wr.drewN nq = wq := ⟨_, rfl⟩
            have HWQ : Hid (∃ p, wq = w2.drewN p) := Lib.hid ⟨q + nq, by rw [← hwq, HW.out]; simp⟩
            rw [hwq]
            clear hwq
            go_wp2
            go_roundw
            case rel =>
              obtain ⟨p, hp⟩ := HWQ.out
              refine ⟨k + 1, p, by omega, by go_num, fun j hj => ?_, hp⟩
              by_cases e : j = k
              · subst e; exact HY.out
              · exact HA.out j (by omega)
            case measure => simp [intOf]; omega
        · obtain rfl : k = ps.length := by omega
          have HY : Hid (aboveOk ls rs ps qs = true) := Lib.hid (by rw [HEQ.out]; exact aboveB_yes (fun i hi => HA.out i (by omega)))
          clear hpl hql hwr
          go_wp2
          go_ret
          exact ⟨ret_bool HY.out.symm, by rw [HW.out]; exact below_drewN HB2.out q⟩

end Go.Proofs.Ytjbgjebbfkhidaa
