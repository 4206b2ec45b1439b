/-
  spec.CostOf; (impl.wholeCosts).of, impl.CostOf; the law's walk with both contracts.
-/
import Derived.Test.YtjbgjebbfkhidabDoorQOf
import Derived.Test.YtjbgjebbfkhidabDoorLawQOf
namespace Go.Proofs.YtjbgjebbfkhidabDoor
set_option linter.unusedVariables false
set_option linter.unusedSimpArgs false
open Go.RowKit

theorem iface_whole (n : Nat) (F : Nat → Int) (W : World) : (Instr.makeInterface 59 (.agg (tcells n F))).run Tryd.prog W = .ok (.iface 59 (.agg (tcells n F))) W := run_makeInterface _ _ _ (by kernel_rfl)

set_option maxRecDepth 100000 in
set_option maxHeartbeats 2000000 in
theorem of_any (w : World) (u : Value) (xss : List (List Int)) (ps : List Int) (hu : Ints w u ps) (h : Choice xss ps) :
    Calls Tryd.prog 72 #[.agg (tcells xss.length (flat xss)), u] w fun e w' => e = .returned (.int .i64 (cost8 xss ps)) ∧ Below w.heap.size w w' := by
  obtain ⟨W0, hW0⟩ : ∃ W0, w.alloc (.cells (tcells xss.length (flat xss)) 59) = W0 := ⟨_, rfl⟩
  have hb0 : Below w.heap.size w W0 := by rw [← hW0]; exact (Below.refl _ _).alloc (Nat.le_refl _) _
  have hg : W0.heap[w.heap.size]? = some (.cells (tcells xss.length (flat xss)) 59 (0, 0)) := by rw [← hW0]; exact World.alloc_heap_new _ _
  have HI := Lib.hid (hu.below hb0)
  obtain ⟨A2, cap2, rfl, hm2, -⟩ := hu
  have HCH := Lib.hid h
  unfold maxLen at hm2
  have HB0 := Lib.hid (And.intro hb0 hg)
  have hmi := fun W => iface_whole xss.length (flat xss) W
  clear h hb0 hg
  go_enter Tryd.func72, Tryd.ntmps72
  go_wp2
  clear hW0
  go_loopw [5, 6, 7, 10] (fun s _ _ i wr => ∃ k : Nat, k ≤ ps.length ∧ i = .int .i64 k ∧ s = .int .i64 (costTo xss ps k) ∧ Below W0.heap.size W0 wr) (fun _ _ _ i _ => ps.length - (intOf i).toNat)
  case atStart => exact ⟨0, by omega, rfl, rfl, Below.refl _ _⟩
  case round =>
    obtain ⟨k, hk, rfl, rfl, hb⟩ := hrel
    by_cases hlt : k < ps.length
    · obtain ⟨m, hk2, hmm, hpm, hmn, he, hb1, hb2⟩ := HCH.out.at hlt
      have hbd := HCH.out.bound k (by omega)
      obtain ⟨A2', cap2', e2, hm2', hc2⟩ := HI.out
      obtain ⟨b2, off2, rfl, hcell2⟩ := hc2 k hlt
      obtain ⟨rfl, rfl⟩ : A2 = some ⟨b2, off2, none⟩ ∧ cap2 = cap2' := by simpa using e2
      rw [hpm] at hcell2
      have hcell := (hb.cell (p := ⟨b2, off2 + k, none⟩) (World.block_lt_of_cell? W0 _ hcell2)).trans hcell2
      have hl6 := HCH.out.h6
      have hln := HCH.out.len
      have hst : costTo xss ps (k + 1) = costTo xss ps k + xss[k][m] := by rw [← he]; rfl
      have hfl := flat_at xss hk2 hmm (by omega)
      obtain ⟨z, hz⟩ : ∃ z, xss[k][m] = z := ⟨_, rfl⟩
      rw [hz] at hb1 hb2 hst hfl
      have hg1 := kept_obj hb HB0.out.2
      have HCA := Lib.hid (costAt_any wr xss.length (flat xss) k m (by omega) (by omega) z hfl)
      obtain ⟨s, hs⟩ : ∃ s, costTo xss ps k = s := ⟨_, rfl⟩
      rw [hs] at hbd hst ⊢
      obtain ⟨t, ht⟩ : ∃ t, s + z = t := ⟨_, rfl⟩
      rw [ht] at hst
      have hw1 : IntKind.i64.wrap t = t := by rw [IntKind.wrap_i64]; omega
      have HST := Lib.hid hst
      have hki : (k : Int) < (ps.length : Int) := by omega
      have hk0 : (0 : Int) ≤ (k : Int) := by omega
      have hw2 : wrap64 t = t := by rw [← wrap_eq]; exact hw1
      have HB := Lib.hid hb
      clear hpm hmm he hz hs hst hbd hb1 hb2 hl6 hln hfl hc2 e2 hm2' hcell2 hb
      go_wp2_with (first
        | (refine load_whole rfl _ rfl w.heap.size xss.length (flat xss) rfl hg1 ?_)
        | (go_at_call 93; refine HCA.out.mono ?_; rintro e w1 ⟨rfl, hb1⟩))
      go_roundw
      case rel => exact ⟨k + 1, by omega, by go_num, by rw [HST.out], step_below HB.out hb1⟩
      case measure => simp [intOf]; omega
    · obtain rfl : k = ps.length := by omega
      go_wp2
      go_ret
      exact ⟨rfl, step_below HB0.out.1 hb⟩

/-- What CostOf says. -/
def ofB (xss : List (List Int)) (ps : List Int) : Bool := cIn xss && rankB xss.length ps
def ofC (xss : List (List Int)) (ps : List Int) : Int := if ofB xss ps = true then cost8 xss ps else 0
set_option maxRecDepth 100000 in
set_option maxHeartbeats 2000000 in
theorem specQOf_any (w : World) (v u : Value) (xss : List (List Int)) (ps : List Int) (hv : IntRows w v xss) (hu : Ints w u ps) :
    Calls Tryd.prog 35 #[v, u] w (GivesNum w (ofB xss ps) (ofC xss ps)) := by
  have HSI := Lib.hid (specCostIn_any w v xss hv)
  have hv' := hv
  obtain ⟨A, cap, rfl, hm, -⟩ := hv.at
  unfold maxLen at hm
  have HV := Lib.hid hv'
  clear hv hv'
  cases hci : cIn xss with
  | false =>
    have hno : ofB xss ps = false := by unfold ofB; rw [hci]; rfl
    have HNO : Hid (ofB xss ps = false ∧ ofC xss ps = 0) := Lib.hid ⟨hno, by unfold ofC; rw [hno]; rfl⟩
    rw [hci] at HSI
    clear hci hno
    go_enter Tryd.func35, Tryd.ntmps35
    go_wp2_with (go_at_call 31; refine HSI.out.mono ?_; rintro e w1 ⟨rfl, q1, rfl⟩)
    go_ret2
    rw [HNO.out.1, HNO.out.2]
    exact ⟨rfl, below_drewN (Below.refl _ _) q1⟩
  | true =>
    obtain ⟨h1, h6⟩ := cIn_size hci
    have HRK := Lib.hid (fun q => l6mRank6_any (w.drewN q) u ps (hu.drewN q) xss.length h1 h6)
    rw [hci] at HSI
    cases hr : rankB xss.length ps with
    | false =>
      have hno : ofB xss ps = false := by unfold ofB; rw [hci, hr]; rfl
      have HNO : Hid (ofB xss ps = false ∧ ofC xss ps = 0) := Lib.hid ⟨hno, by unfold ofC; rw [hno]; rfl⟩
      rw [hr] at HRK
      clear hci hno hr
      go_enter Tryd.func35, Tryd.ntmps35
      go_wp2_with (first
        | (go_at_call 31; refine HSI.out.mono ?_; rintro e w1 ⟨rfl, q1, rfl⟩)
        | (go_at_call 75; refine (HRK.out q1).mono ?_; rintro e w2 ⟨rfl, rfl⟩))
      go_ret2
      rw [HNO.out.1, HNO.out.2]
      exact ⟨rfl, below_drewN (Below.refl _ _) q1⟩
    | true =>
      have hyes : ofB xss ps = true := by unfold ofB; rw [hci, hr]; rfl
      have HYES : Hid (ofB xss ps = true ∧ ofC xss ps = cost8 xss ps) := Lib.hid ⟨hyes, if_pos hyes⟩
      have HC8 := Lib.hid (fun q => l8Cost_any (w.drewN q) _ u xss ps (HV.out.drewN q) (hu.drewN q) (choice_of hci hr))
      rw [hr] at HRK
      clear hci hyes hr
      go_enter Tryd.func35, Tryd.ntmps35
      go_wp2_with (first
        | (go_at_call 31; refine HSI.out.mono ?_; rintro e w1 ⟨rfl, q1, rfl⟩)
        | (go_at_call 75; refine (HRK.out q1).mono ?_; rintro e w2 ⟨rfl, rfl⟩)
        | (go_at_call 76; refine (HC8.out q1).mono ?_; rintro e w3 ⟨rfl, q3, rfl⟩))
      go_ret2
      rw [HYES.out.1, HYES.out.2]
      exact ⟨rfl, below_drewN (Below.refl _ _) _⟩

set_option maxRecDepth 100000 in
set_option maxHeartbeats 2000000 in
theorem implQOf_any (w : World) (v u : Value) (xss : List (List Int)) (ps : List Int) (hv : IntRows w v xss) (hu : Ints w u ps) :
    Calls Tryd.prog 33 #[v, u] w (GivesNum w (ofB xss ps) (ofC xss ps)) := by
  have hf := cFrom_any w v xss hv
  have hv' := hv
  obtain ⟨A, cap, rfl, hm, -⟩ := hv.at
  unfold maxLen at hm
  clear hv hv'
  cases hci : cIn xss with
  | false =>
    have hno : ofB xss ps = false := by unfold ofB; rw [hci]; rfl
    have HNO : Hid (ofB xss ps = false ∧ ofC xss ps = 0) := Lib.hid ⟨hno, by unfold ofC; rw [hno]; rfl⟩
    have hfr : cFromOf xss = tcells 0 (fun _ => 0) := by unfold cFromOf; rw [hci]; rfl
    rw [hci, hfr] at hf
    have HF := Lib.hid hf
    clear hci hno hf hfr
    go_enter Tryd.func33, Tryd.ntmps33
    go_wp2_with (first
      | (go_at_call 56; refine HF.out.mono ?_; rintro e w1 ⟨rfl, hb1⟩)
      | (refine alloc_whole rfl rfl ?_)
      | (refine store_whole_last rfl _ _ rfl 0 (fun _ => 0) _ rfl rfl rfl ?_))
    go_ret2
    rw [HNO.out.1, HNO.out.2]
    exact ⟨rfl, hb1.alloc hb1.size _⟩
  | true =>
    obtain ⟨h1, h6⟩ := cIn_size hci
    have hfr : cFromOf xss = tcells xss.length (flat xss) := by unfold cFromOf; rw [hci]; rfl
    rw [hci, hfr] at hf
    have HF := Lib.hid hf
    have HRF := Lib.hid (fun (W : World) (hW : Below w.heap.size w W) => orderFrom6_any W u ps (hu.below hW) xss.length h1 h6)
    clear hf hfr
    cases hr : rankB xss.length ps with
    | false =>
      have hno : ofB xss ps = false := by unfold ofB; rw [hci, hr]; rfl
      have HNO : Hid (ofB xss ps = false ∧ ofC xss ps = 0) := Lib.hid ⟨hno, by unfold ofC; rw [hno]; rfl⟩
      rw [hr] at HRF
      clear hci hno hr
      go_enter Tryd.func33, Tryd.ntmps33
      go_wp2_with (first
        | (go_at_call 56; refine HF.out.mono ?_; rintro e w1 ⟨rfl, hb1⟩; have hb2 := hb1.alloc hb1.size (.cells (tcells xss.length (flat xss)) 59); obtain ⟨d0, -, -, -⟩ := whole_cells (World.alloc_heap_new w1 (.cells (tcells xss.length (flat xss)) 59)))
        | (refine alloc_whole rfl rfl ?_)
        | (refine store_whole_last rfl _ _ rfl xss.length (flat xss) _ rfl rfl rfl ?_)
        | (go_at_call 71; refine (HRF.out _ hb2).mono ?_; rintro e w3 ⟨p, rfl, hb3, ho3⟩))
      go_ret2
      rw [HNO.out.1, HNO.out.2]
      exact ⟨rfl, step_below hb2 hb3⟩
    | true =>
      have hyes : ofB xss ps = true := by unfold ofB; rw [hci, hr]; rfl
      have HYES : Hid (ofB xss ps = true ∧ ofC xss ps = cost8 xss ps) := Lib.hid ⟨hyes, if_pos hyes⟩
      have HOF := Lib.hid (fun (W : World) (p : Value) (hp : Ints W p ps) => of_any W p xss ps hp (choice_of hci hr))
      have HRR := Lib.hid (ordOf_yes hr)
      rw [hr] at HRF
      clear hci hyes hr
      go_enter Tryd.func33, Tryd.ntmps33
      go_wp2_with (first
        | (go_at_call 56; refine HF.out.mono ?_; rintro e w1 ⟨rfl, hb1⟩; have hb2 := hb1.alloc hb1.size (.cells (tcells xss.length (flat xss)) 59); have hg2 := World.alloc_heap_new w1 (.cells (tcells xss.length (flat xss)) 59); obtain ⟨d0, -, -, -⟩ := whole_cells hg2)
        | (refine alloc_whole rfl rfl ?_)
        | (refine store_whole_last rfl _ _ rfl xss.length (flat xss) _ rfl rfl rfl ?_)
        | (go_at_call 71; refine (HRF.out _ hb2).mono ?_; rintro e w3 ⟨p, rfl, hb3, ho3⟩; have hg3 := kept_obj hb3 hg2)
        | (refine load_whole rfl _ rfl w1.heap.size xss.length (flat xss) rfl hg3 ?_)
        | (go_at_call 72; refine (HOF.out w3 p (by rw [HRR.out] at ho3; exact ints_of_owns ho3)).mono ?_; rintro e w4 ⟨rfl, hb4⟩))
      go_ret2
      rw [HYES.out.1, HYES.out.2]
      exact ⟨rfl, step_below (step_below hb2 hb3) hb4⟩


end Go.Proofs.YtjbgjebbfkhidabDoor
