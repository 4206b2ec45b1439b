/-
  Prices that fit: plain functions; spec.CostFit; (impl.wholeCosts).allow.
-/
import Derived.Test.YtjbgjebbfkhidabDoorCostAt
import Derived.Test.YtjbgjebbfkhidabDoorFinQIn
import Derived.Test.YtjbgjebbfkhidabDoorCore1
import Derived.Deep.RegionHeld3
namespace Go.Proofs.YtjbgjebbfkhidabDoor
set_option linter.unusedVariables false
set_option linter.unusedSimpArgs false
open Go.RowKit

theorem wrap_near (x : Int) (h1 : -4000000 ≤ x) (h2 : x ≤ 4000000) : IntKind.i64.wrap x = x ∧ wrap64 x = x := by
  have h : IntKind.i64.wrap x = x := by rw [IntKind.wrap_i64]; omega
  exact ⟨h, by rw [← wrap_eq]; exact h⟩

def fitAt (xss : List (List Int)) (f g : Nat → Int) (r c : Nat) : Bool := decide (f r + g c ≤ (xss.getD r []).getD c 0)
def fitB (xss : List (List Int)) (f g : Nat → Int) : Bool := (List.range xss.length).all fun r => (List.range xss.length).all fun c => fitAt xss f g r c
theorem fitB_no {xss : List (List Int)} {f g : Nat → Int} {r c : Nat} (hr : r < xss.length) (hc : c < xss.length) (h : fitAt xss f g r c = false) : fitB xss f g = false := by
  unfold fitB
  rw [Bool.eq_false_iff]
  intro hall
  have := List.all_eq_true.1 (List.all_eq_true.1 hall r (List.mem_range.2 hr)) c (List.mem_range.2 hc)
  rw [h] at this
  cases this
theorem fitB_yes {xss : List (List Int)} {f g : Nat → Int} (h : ∀ r c, r < xss.length → c < xss.length → fitAt xss f g r c = true) : fitB xss f g = true := by
  unfold fitB
  exact List.all_eq_true.2 fun r hr => List.all_eq_true.2 fun c hc => h r c (List.mem_range.1 hr) (List.mem_range.1 hc)
def fitOk (xss : List (List Int)) (ps : List Int) : Bool := cIn xss && (decide (ps.length = 2 * xss.length) && (ps.all (inL 100000) && fitB xss (fun r => ps.getD r 0) (fun c => ps.getD (xss.length + c) 0)))
theorem cIn_at {xss : List (List Int)} (h : cIn xss = true) {r c : Nat} (hr : r < xss.length) (hc : c < xss.length) : ∃ hc2 : c < xss[r].length, (xss.getD r []).getD c 0 = xss[r][c] ∧ -1000 ≤ xss[r][c] ∧ xss[r][c] ≤ 1000 := by
  unfold cIn at h
  rw [Bool.and_eq_true, List.all_eq_true] at h
  have := h.1 _ (List.getElem_mem hr)
  unfold rowC at this
  rw [Bool.and_eq_true, decide_eq_true_iff, List.all_eq_true] at this
  have hc2 : c < xss[r].length := by omega
  refine ⟨hc2, ?_, numC_yes (this.2 _ (List.getElem_mem _))⟩
  have e2 : xss.getD r [] = xss[r] := by simp [List.getD, hr]
  rw [e2, List.getD_eq_getElem?_getD, List.getElem?_eq_getElem hc2, Option.getD_some]
theorem l6In_f (n low high : Int) (r : Bool) (h : decide (low ≤ n ∧ n ≤ high) = r) (w : World) :
    Calls Tryd.prog 70 #[.int .i64 n, .int .i64 low, .int .i64 high] w fun e w' => e = .returned (.bool r) ∧ w = w' := l6In_c n low high r h w

set_option maxRecDepth 100000 in
set_option maxHeartbeats 4000000 in
theorem specQFit_any (w : World) (v u : Value) (xss : List (List Int)) (ps : List Int) (hv : IntRows w v xss) (hu : Ints w u ps) :
    Calls Tryd.prog 38 #[v, u] w (GivesBool w (fitOk xss ps)) := by
  have HSI := Lib.hid (specCostIn_any w v xss hv)
  obtain ⟨A, cap, rfl, hm, hc⟩ := hv.at
  obtain ⟨A2, cap2, rfl, hm2, hc2⟩ := hu
  have HC := Lib.hid hc
  have HC2 := Lib.hid hc2
  unfold maxLen at hm hm2
  clear hc hc2 hv
  cases hci : cIn xss with
  | false =>
    have HNO : Hid (fitOk xss ps = false) := Lib.hid (by unfold fitOk; rw [hci]; rfl)
    rw [hci] at HSI
    clear hci
    go_enter Tryd.func38, Tryd.ntmps38
    go_wp2_with (go_at_call 31; refine HSI.out.mono ?_; rintro e w1 ⟨rfl, q1, rfl⟩)
    go_ret
    exact ⟨ret_bool HNO.out.symm, below_drewN (Below.refl _ _) q1⟩
  | true =>
    obtain ⟨h1, h6⟩ := cIn_size hci
    rw [hci] at HSI
    by_cases hl : ps.length = 2 * xss.length
    · have hwr : IntKind.i64.wrap (2 * (xss.length : Int)) = (ps.length : Int) := by rw [IntKind.wrap_i64]; omega
      have hwr2 : wrap64 (2 * (xss.length : Int)) = (ps.length : Int) := by rw [← wrap_eq]; exact hwr
      have e1 : ((ps.length : Int) != (ps.length : Int)) = false := by simp
      have hfo : fitOk xss ps = (ps.all (inL 100000) && fitB xss (fun r => ps.getD r 0) (fun c => ps.getD (xss.length + c) 0)) := by unfold fitOk; rw [hci, decide_eq_true hl]; rfl
      have HFO := Lib.hid hfo
      have HCI := Lib.hid hci
      have HL := Lib.hid hl
      clear hci hl hfo
      go_enter Tryd.func38, Tryd.ntmps38
      go_wp2_with (go_at_call 31; refine HSI.out.mono ?_; rintro e w1 ⟨rfl, q1, rfl⟩)
      go_loopw [6] (fun i wr => ∃ k q : Nat, k ≤ ps.length ∧ i = .int .i64 k ∧ (∀ j (hj : j < ps.length), j < k → inL 100000 ps[j] = true) ∧ wr = w.drewN q) (fun i _ => ps.length - (intOf i).toNat)
      case atStart => exact ⟨0, q1, by omega, rfl, fun j hj h => by omega, rfl⟩
      case round =>
        obtain ⟨k, q, hk, rfl, hn, rfl⟩ := hrel
        have HN := Lib.hid hn
        clear hn
        by_cases hlt : k < ps.length
        · obtain ⟨b, off, rfl, hcell⟩ := HC2.out k hlt
          obtain ⟨x, hx⟩ : ∃ x, ps[k] = x := ⟨_, rfl⟩
          rw [hx] at hcell
          have HX := Lib.hid hx
          have hki : (k : Int) < (ps.length : Int) := by omega
          have hk0 : (0 : Int) ≤ (k : Int) := by omega
          clear hx
          cases hb : inL 100000 x with
          | true =>
            have HLI := Lib.hid (fun W => l6In_f x (-100000) 100000 true (by unfold inL at hb; exact hb) W)
            have HB := Lib.hid hb
            clear hb
            go_wp2_with (go_at_call 70; refine (HLI.out _).mono ?_; rintro e w' ⟨rfl, rfl⟩)
            go_roundw
            all_goals first
              | (refine ⟨k + 1, q, by omega, by go_num, fun c hc h => ?_, rfl⟩; by_cases hcj : c = k; (· subst hcj; rw [HX.out]; exact HB.out); exact HN.out c hc (by omega))
              | (simp [intOf]; omega)
          | false =>
            have HLI := Lib.hid (fun W => l6In_f x (-100000) 100000 false (by unfold inL at hb; exact hb) W)
            have HNO : Hid (fitOk xss ps = false) := Lib.hid (by
              rw [HFO.out]
              have : ps.all (inL 100000) = false := by
                rw [Bool.eq_false_iff]
                intro hall
                have := List.all_eq_true.1 hall _ (List.getElem_mem hlt)
                rw [HX.out, hb] at this
                cases this
              rw [this]; rfl)
            clear hb
            go_wp2_with (go_at_call 70; refine (HLI.out _).mono ?_; rintro e w' ⟨rfl, rfl⟩)
            go_ret
            exact ⟨ret_bool HNO.out.symm, below_drewN (Below.refl _ _) q⟩
        · obtain rfl : k = ps.length := by omega
          have hall : ps.all (inL 100000) = true := List.all_eq_true.2 fun x hx => by
            obtain ⟨j, hj, rfl⟩ := List.getElem_of_mem hx
            exact HN.out j hj hj
          have HPB : Hid (∀ j (hj : j < ps.length), -100000 ≤ ps[j] ∧ ps[j] ≤ 100000) := Lib.hid fun j hj => by
            have := HN.out j hj hj
            unfold inL at this
            exact of_decide_eq_true this
          have HFO2 : Hid (fitOk xss ps = fitB xss (fun r => ps.getD r 0) (fun c => ps.getD (xss.length + c) 0)) := Lib.hid (by rw [HFO.out, hall]; rfl)
          clear hall
          go_wp2
          go_loopw [7, 8] (fun i _ wr => ∃ r q : Nat, r ≤ xss.length ∧ i = .int .i64 r ∧ (∀ r' c', r' < r → c' < xss.length → fitAt xss (fun r => ps.getD r 0) (fun c => ps.getD (xss.length + c) 0) r' c' = true) ∧ wr = w.drewN q) (fun i _ _ => xss.length - (intOf i).toNat)
          case atStart => exact ⟨0, q, by omega, rfl, fun r' c' h => by omega, rfl⟩
          case round =>
            clear hwr hwr2 e1
            obtain ⟨r, q2, hr, rfl, hfit, rfl⟩ := hrel
            have HFIT := Lib.hid hfit
            clear hfit
            by_cases hlr : r < xss.length
            · have hri : (r : Int) < (xss.length : Int) := by omega
              have hr0 : (0 : Int) ≤ (r : Int) := by omega
              go_wp2
              go_loopw [8] (fun i wr => ∃ c q : Nat, c ≤ xss.length ∧ i = .int .i64 c ∧ (∀ c', c' < c → fitAt xss (fun r => ps.getD r 0) (fun c => ps.getD (xss.length + c) 0) r c' = true) ∧ wr = w.drewN q) (fun i _ => xss.length - (intOf i).toNat)
              case atStart => exact ⟨0, q2, by omega, rfl, fun c' h => by omega, rfl⟩
              case round =>
                obtain ⟨c, q3, hcc, rfl, hfc, rfl⟩ := hrel
                have HFC := Lib.hid hfc
                clear hfc
                by_cases hlc : c < xss.length
                · have hL := HL.out
                  have hlr2 : r < ps.length := by omega
                  have hlc2 : xss.length + c < ps.length := by omega
                  obtain ⟨b, off, rfl, hcell⟩ := HC2.out r hlr2
                  obtain ⟨b', off', e', hcell'⟩ := HC2.out (xss.length + c) hlc2
                  obtain ⟨rfl, rfl⟩ : b = b' ∧ off = off' := by simpa using e'
                  obtain ⟨bx, offx, ux, rfl, hcellx, hints⟩ := HC.out r hlr
                  obtain ⟨A3, cap3, rfl, hm3, hc3⟩ := hints
                  obtain ⟨hc2, hget, hz1, hz2⟩ := cIn_at HCI.out hlr hlc
                  obtain ⟨b3, off3, rfl, hcell3⟩ := hc3 c hc2
                  have hp1 := HPB.out r hlr2
                  have hp2 := HPB.out (xss.length + c) hlc2
                  have hat : fitAt xss (fun r => ps.getD r 0) (fun c => ps.getD (xss.length + c) 0) r c = decide (ps[r] + ps[xss.length + c] ≤ xss[r][c]) := by
                    unfold fitAt
                    have g1 : ps.getD r 0 = ps[r] := by simp [List.getD, hlr2]
                    have g2 : ps.getD (xss.length + c) 0 = ps[xss.length + c] := by rw [List.getD_eq_getElem?_getD, List.getElem?_eq_getElem hlc2]; rfl
                    simp only [g1, g2, hget]
                  obtain ⟨x, hx⟩ : ∃ x, ps[r] = x := ⟨_, rfl⟩
                  obtain ⟨y, hy⟩ : ∃ y, ps[xss.length + c] = y := ⟨_, rfl⟩
                  obtain ⟨z, hz⟩ : ∃ z, xss[r][c] = z := ⟨_, rfl⟩
                  rw [hx] at hcell hp1 hat
                  rw [hy] at hcell' hp2 hat
                  rw [hz] at hcell3 hz1 hz2 hat
                  obtain ⟨s, hs⟩ : ∃ s, x + y = s := ⟨_, rfl⟩
                  rw [hs] at hat
                  obtain ⟨nc, hnc⟩ : ∃ nc : Nat, xss.length + c = nc := ⟨_, rfl⟩
                  rw [hnc] at hcell' hlc2
                  have hsi : (xss.length : Int) + (c : Int) = (nc : Int) := by omega
                  have hci2 : (c : Int) < (xss.length : Int) := by omega
                  have hc0 : (0 : Int) ≤ (c : Int) := by omega
                  have hri2 : (r : Int) < (ps.length : Int) := by omega
                  have hnci : (nc : Int) < (ps.length : Int) := by omega
                  have hnc0 : (0 : Int) ≤ (nc : Int) := by omega
                  have hcl : (c : Int) < (xss[r].length : Int) := by omega
                  have hsb : -4000000 ≤ s ∧ s ≤ 4000000 := by omega
                  have hnb : -4000000 ≤ (nc : Int) ∧ (nc : Int) ≤ 4000000 := by omega
                  have HW := Lib.hid (And.intro (wrap_near s hsb.1 hsb.2) (wrap_near (nc : Int) hnb.1 hnb.2))
                  have HAT := Lib.hid hat
                  unfold maxLen at hm3
                  clear hc3 hget hp1 hp2 hx hy hz hat hz1 hz2 hnc hL e' hlr2 hlc2 hsb hnb
                  by_cases hgt : z < s
                  · have HNO : Hid (fitOk xss ps = false) := Lib.hid (by rw [HFO2.out]; exact fitB_no hlr hlc (by rw [HAT.out, decide_eq_false (by omega)]))
                    clear hc2
                    obtain ⟨⟨hw1, hw2⟩, hw3, hw4⟩ := HW.out
                    go_wp2
                    go_quiet (fail)
                    go_wp2
                    clear hw1 hw2 hw3 hw4 hs
                    go_ret
                    exact ⟨ret_bool HNO.out.symm, by simpa using below_drewN (Below.refl w.heap.size w) (q3 + nq)⟩
                  · have HYES : Hid (fitAt xss (fun r => ps.getD r 0) (fun c => ps.getD (xss.length + c) 0) r c = true) := Lib.hid (by rw [HAT.out, decide_eq_true (by omega)])
                    clear hc2
                    obtain ⟨⟨hw1, hw2⟩, hw3, hw4⟩ := HW.out
                    go_wp2
                    go_quiet (fail)
                    go_wp2
                    clear hw1 hw2 hw3 hw4 hs
                    go_roundw
                    all_goals first
                      | (refine ⟨c + 1, q3 + nq, by omega, by go_num, fun c' h => ?_, by simp⟩; by_cases e : c' = c; (· subst e; exact HYES.out); exact HFC.out c' (by omega))
                      | (simp [intOf]; omega)
                · obtain rfl : c = xss.length := by omega
                  go_wp2
                  go_roundw
                  all_goals first
                    | (refine ⟨r + 1, q3, by omega, by go_num, fun r' c' h h' => ?_, rfl⟩; by_cases e : r' = r; (· subst e; exact HFC.out c' h'); exact HFIT.out r' c' (by omega) h')
                    | (simp [intOf]; omega)
            · obtain rfl : r = xss.length := by omega
              have HYES : Hid (fitOk xss ps = true) := Lib.hid (by rw [HFO2.out]; exact fitB_yes fun r c hr hc => HFIT.out r c hr hc)
              go_wp2
              go_ret
              exact ⟨ret_bool HYES.out.symm, below_drewN (Below.refl _ _) q2⟩
    · have hwr : IntKind.i64.wrap (2 * (xss.length : Int)) = 2 * (xss.length : Int) := by rw [IntKind.wrap_i64]; omega
      have hwr2 : wrap64 (2 * (xss.length : Int)) = 2 * (xss.length : Int) := by rw [← wrap_eq]; exact hwr
      have e1 : ((ps.length : Int) != 2 * (xss.length : Int)) = true := by simp; omega
      have HNO : Hid (fitOk xss ps = false) := Lib.hid (by unfold fitOk; rw [decide_eq_false hl, Bool.false_and, Bool.and_false])
      clear hci hl
      go_enter Tryd.func38, Tryd.ntmps38
      go_wp2_with (go_at_call 31; refine HSI.out.mono ?_; rintro e w1 ⟨rfl, q1, rfl⟩)
      go_ret
      exact ⟨ret_bool HNO.out.symm, below_drewN (Below.refl _ _) q1⟩

end Go.Proofs.YtjbgjebbfkhidabDoor
