/-
  spec.CoverCritical.
-/
import Derived.Test.YthafhcocgohjaaaDoorSpecGreat
import Derived.Test.YthafhcocgohjaaaDoorCritB
import Derived.Deep.RegionWith
namespace Go.Proofs.YthafhcocgohjaaaDoor
set_option linter.unusedVariables false
set_option linter.unusedSimpArgs false
open Go.RowKit

theorem wrap_nat {a : Nat} (h : a < 4294967296) : IntKind.i64.wrap (a : Int) = (a : Int) ∧ wrap64 (a : Int) = (a : Int) := by
  have h1 : IntKind.i64.wrap (a : Int) = (a : Int) := wraps_i64 _ (by omega) (by omega)
  exact ⟨h1, by rw [← wrap_eq]; exact h1⟩
theorem wo_val {n k : Nat} (h8 : n ≤ 8) (hk : k < 8) : bits .andNot .i64 ((2 ^ n - 1 : Nat) : Int) (wrap64 (2 ^ k)) = ((wo (2 ^ n - 1) k : Nat) : Int) := by
  have e := pow_wrap_all ⟨k, hk⟩
  simp only at e
  rw [e, andNot64 _ _ (all256 h8) (pow7_lt hk)]; rfl
theorem wo_val' {n k : Nat} (h8 : n ≤ 8) (hk : k < 8) : bits .andNot .i64 ((2 ^ n - 1 : Nat) : Int) (IntKind.i64.wrap (2 ^ k)) = ((wo (2 ^ n - 1) k : Nat) : Int) := by
  rw [wrap_eq]; exact wo_val h8 hk

set_option maxRecDepth 100000 in
set_option maxHeartbeats 4000000 in
theorem specCrit_any (w : World) (v : Value) (xs : List Int) (h : Ints w v xs) :
    Calls Tryd.prog 12 #[v] w (GivesBool w (critOf xs)) := by
  have hs := specIn_any w v xs h
  cases hg : gIn xs with
  | false =>
    have ho : critOf xs = false := by unfold critOf; rw [hg]; rfl
    rw [hg] at hs
    rw [ho]
    have HS := Lib.hid hs
    obtain ⟨A, cap, rfl, hm, _⟩ := h
    clear hs hg ho
    go_enter Tryd.func12, Tryd.ntmps12
    go_wp2_with (go_at_call 39; refine HS.out.mono ?_; rintro e w1 ⟨rfl, q, rfl⟩)
    go_ret
    exact ⟨rfl, below_drewN (Below.refl _ _) q⟩
  | true =>
    obtain ⟨h1, h8, hok⟩ := gIn_parts hg
    have ho : critOf xs = critB (gfun xs) xs.length := by unfold critOf; rw [hg]; rfl
    have HC := Lib.hid (l2Greatest_any xs hg)
    rw [hg] at hs
    rw [ho]
    have HS := Lib.hid hs
    have HV := Lib.hid h
    obtain ⟨A, cap, rfl, hm, _⟩ := h
    have hpos := Nat.two_pow_pos xs.length
    have HP := Lib.hid hpos
    have hl8 : (xs.length : Int) ≤ 8 := by omega
    clear hs hg ho hok hpos
    go_enter Tryd.func12, Tryd.ntmps12
    go_wp2_with (go_at_call 39; refine HS.out.mono ?_; rintro e w1 ⟨rfl, q, rfl⟩)
    go_loopw [3] (fun i wr => ∃ k : Nat, k ≤ xs.length ∧ i = .int .i64 k ∧ Below w.heap.size w wr ∧ ∀ j, j < k → critAt (gfun xs) xs.length j = true) (fun i _ => xs.length - (intOf i).toNat)
    case atStart => exact ⟨0, by omega, rfl, below_drewN (Below.refl _ _) q, fun j hj => by omega⟩
    case round =>
      obtain ⟨k, hk, rfl, hb, hall⟩ := hrel
      have HA := Lib.hid hall
      have HB := Lib.hid hb
      clear hall hb
      by_cases hlt : k < xs.length
      · have hpos := HP.out
        have ht : wo (2 ^ xs.length - 1) k < 2 ^ xs.length := by have := wo_le (2 ^ xs.length - 1) k; omega
        have hk8n : k < 8 := by omega
        have HWV := Lib.hid (And.intro (wo_val (n := xs.length) h8 hk8n) (wo_val' (n := xs.length) h8 hk8n))
        have hc := fun W (hW : Ints W (.slice A xs.length cap) xs) => HC.out _ ht W _ hW
        have h4 := gr_le4 (f := gfun xs) (s := wo (2 ^ xs.length - 1) k)
        have hcr : critAt (gfun xs) xs.length k = decide (2 * gr (gfun xs) (wo (2 ^ xs.length - 1) k) = xs.length - 1) := rfl
        obtain ⟨t, htt⟩ : ∃ t, wo (2 ^ xs.length - 1) k = t := ⟨_, rfl⟩
        rw [htt] at HWV hc h4 hcr
        obtain ⟨E, hE⟩ : ∃ E, gr (gfun xs) t = E := ⟨_, rfl⟩
        rw [hE] at hc h4 hcr
        obtain ⟨D, hD⟩ : ∃ D, 2 * E = D := ⟨_, rfl⟩
        obtain ⟨m, hm1⟩ : ∃ m, xs.length - 1 = m := ⟨_, rfl⟩
        have hDi : 2 * (E : Int) = (D : Int) := by omega
        have hmi : (xs.length : Int) - 1 = (m : Int) := by omega
        rw [hD, hm1] at hcr
        have hD8 : D ≤ 8 := by omega
        have hm8 : m ≤ 8 := by omega
        have HW : Hid ((IntKind.i64.wrap (2 * (E : Int)) = (D : Int) ∧ wrap64 (2 * (E : Int)) = (D : Int)) ∧ (IntKind.i64.wrap ((xs.length : Int) - 1) = (m : Int) ∧ wrap64 ((xs.length : Int) - 1) = (m : Int))) := by
          rw [hDi, hmi]; exact Lib.hid ⟨wrap_nat (by omega), wrap_nat (by omega)⟩
        have hki : (k : Int) < (xs.length : Int) := by omega
        have hk8 : (k : Int) < 8 := by omega
        have hk64 : (k : Int) < 64 := by omega
        have HCC := Lib.hid hc
        have HLW := Lib.hid (And.intro (low_wrap' (n := xs.length) (by omega)) (low_wrap (v := xs.length) (by omega)))
        obtain ⟨F, hF⟩ : ∃ F, 2 ^ xs.length - 1 = F := ⟨_, rfl⟩
        rw [hF] at HLW HWV
        by_cases he : D = m
        · have hne : ((D : Int) != (m : Int)) = false := by simp; omega
          have hct : critAt (gfun xs) xs.length k = true := by rw [hcr, decide_eq_true_eq]; exact he
          have HCT := Lib.hid hct
          clear hcr hct he hc ht htt hE hD hm1 hpos hD8 hm8 hDi hmi hF
          obtain ⟨hlw, hlw2⟩ := HLW.out
          obtain ⟨hwv, hwv'⟩ := HWV.out
          obtain ⟨⟨hwD, hwD2⟩, hwm, hwm2⟩ := HW.out
          go_wp2
          go_region_with (go_at_call 40; refine (HCC.out _ (HV.out.below HB.out.drew)).mono ?_; rintro e w2 ⟨rfl, hb2⟩)
          all_goals
            clear hlw hlw2 hwv hwv' hwD hwD2 hwm hwm2
            go_wp2
            go_roundw
            case rel => exact ⟨k + 1, by omega, by go_num, step_below HB.out.drew hb2, fun j hj => if e : j = k then e ▸ HCT.out else HA.out j (by omega)⟩
            case measure => simp [intOf]; omega
        · have hne : ((D : Int) != (m : Int)) = true := by simp; omega
          have hct : critAt (gfun xs) xs.length k = false := by rw [hcr, decide_eq_false_iff_not]; exact he
          have HCT := Lib.hid (critB_no hlt hct)
          clear hcr hct he hc ht htt hE hD hm1 hpos hD8 hm8 hDi hmi hF
          obtain ⟨hlw, hlw2⟩ := HLW.out
          obtain ⟨hwv, hwv'⟩ := HWV.out
          obtain ⟨⟨hwD, hwD2⟩, hwm, hwm2⟩ := HW.out
          go_wp2
          go_region_with (go_at_call 40; refine (HCC.out _ (HV.out.below HB.out.drew)).mono ?_; rintro e w2 ⟨rfl, hb2⟩)
          all_goals
            clear hlw hlw2 hwv hwv' hwD hwD2 hwm hwm2
            go_wp2
            go_ret
            exact ⟨ret_bool HCT.out.symm, step_below HB.out.drew hb2⟩
      · obtain rfl : k = xs.length := by omega
        have HV := Lib.hid (critB_yes HA.out)
        go_wp2
        go_ret
        exact ⟨ret_bool HV.out.symm, HB.out⟩

end Go.Proofs.YthafhcocgohjaaaDoor
