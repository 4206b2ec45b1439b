/-
  spec.l8Double, spec.CostHalf: the greatest number of nodes that are matched with nodes.
-/
import Derived.Test.YtellghhilcjbnaaDoorHalfMath
import Derived.Test.YtellghhilcjbnaaDoorSpecIn
import Derived.Test.YtellghhilcjbnaaDoorNear
import Derived.Test.YtellghhilcjbnaaDoorShr
import Derived.Test.YtellghhilcjbnaaDoorCore1
namespace Go.Proofs.YtellghhilcjbnaaDoor
set_option linter.unusedVariables false
set_option linter.unusedSimpArgs false
open Go.RowKit

/-- Are two nodes of a graph an edge? -/
def eX (xs : List Int) (r c : Nat) : Bool := nearB xs.length (gfun xs) (r : Int) (c : Int)
theorem eX_in {xs : List Int} {a b : Nat} (ha : a < xs.length) (hb : b < xs.length) : eX xs a b = (gfun xs a).testBit b := by
  unfold eX nearB
  rw [decide_eq_true (show 0 ≤ (a : Int) ∧ (a : Int) < (xs.length : Int) by omega), decide_eq_true (show 0 ≤ (b : Int) ∧ (b : Int) < (xs.length : Int) by omega)]
  simp
/-- The most that is found so far. -/
def mst (xs : List Int) (d row used k : Nat) : Int := (List.range k).foldl (sdStep (eX xs) (fun b => sd (eX xs) xs.length d (row + 1) (used ||| 2 ^ b)) row used) (sd (eX xs) xs.length d (row + 1) used)
theorem mst_succ (xs : List Int) (d row used k : Nat) : mst xs d row used (k + 1) = sdStep (eX xs) (fun b => sd (eX xs) xs.length d (row + 1) (used ||| 2 ^ b)) row used (mst xs d row used k) k := by
  unfold mst
  rw [List.range_succ, List.foldl_append]; rfl
theorem mst_bounds (xs : List Int) (d row used : Nat) : ∀ k, 0 ≤ mst xs d row used k ∧ mst xs d row used k ≤ (d : Int) + 1
  | 0 => by
    have := sd_bounds (eX xs) xs.length d (row + 1) used
    show 0 ≤ sd (eX xs) xs.length d (row + 1) used ∧ sd (eX xs) xs.length d (row + 1) used ≤ (d : Int) + 1
    omega
  | k + 1 => by
    have h := mst_bounds xs d row used k
    have := sd_bounds (eX xs) xs.length d (row + 1) (used ||| 2 ^ k)
    rw [mst_succ]
    unfold sdStep
    split
    · show 0 ≤ max (mst xs d row used k) (1 + sd (eX xs) xs.length d (row + 1) (used ||| 2 ^ k)) ∧ max (mst xs d row used k) (1 + sd (eX xs) xs.length d (row + 1) (used ||| 2 ^ k)) ≤ (d : Int) + 1
      omega
    · omega
theorem or_small {n used b : Nat} (h : used < 2 ^ n) (hb : b < n) : used ||| 2 ^ b < 2 ^ n := Nat.or_lt_two_pow h (Nat.pow_lt_pow_right (by decide) hb)

set_option maxRecDepth 100000 in
set_option maxHeartbeats 2000000 in
theorem l8Double_any (xs : List Int) (hg : gIn xs = true) (h8 : xs.length ≤ 8) (hok : okTo xs xs.length = true) : ∀ (d : Nat) (w : World) (v : Value) (row used : Nat), Ints w v xs → row + d = xs.length → used < 2 ^ xs.length →
    Calls Tryd.prog 39 #[v, .int .i64 (row : Int), .int .i64 (used : Int)] w fun e w' => e = .returned (.int .i64 (sd (eX xs) xs.length d row used)) ∧ w = w' := by
  intro d
  induction d with
  | zero =>
    intro w v row used h hrd _
    obtain ⟨A, cap, rfl, hm, hc⟩ := h
    have hrn : row = xs.length := by omega
    have e1 : ((row : Int) == (xs.length : Int)) = true := by simp [hrn]
    clear hc hrn hrd
    go_enter Tryd.func39, Tryd.ntmps39
    go_wp2
    go_ret
    exact ⟨rfl, rfl⟩
  | succ d ih =>
    intro w v row used h hrd hus
    have hv := h
    obtain ⟨A, cap, rfl, hm, hc⟩ := h
    have hrow : row < xs.length := by omega
    have hu256 : used < 256 := Nat.lt_of_lt_of_le hus (Nat.le_trans (Nat.pow_le_pow_right (by decide) h8) (by decide))
    have e1 : ((row : Int) == (xs.length : Int)) = false := by rw [beq_eq_false_iff_ne]; omega
    obtain ⟨r1, hr1⟩ : ∃ r1, row + 1 = r1 := ⟨_, rfl⟩
    have hr1w : IntKind.i64.wrap ((row : Int) + 1) = (r1 : Int) := by rw [IntKind.wrap_i64]; omega
    have hr1w2 : wrap64 ((row : Int) + 1) = (r1 : Int) := by rw [← wrap_eq]; exact hr1w
    obtain ⟨s0, hs0⟩ : ∃ s0, sd (eX xs) xs.length d r1 used = s0 := ⟨_, rfl⟩
    have hfirst := fun W (hW : Ints W (.slice A xs.length cap) xs) => ih W _ r1 used hW (by omega) hus
    simp only [hs0] at hfirst
    have hst : mst xs d row used 0 = s0 := by rw [← hs0, ← hr1]; rfl
    have hd8 : (d : Int) ≤ 8 := by omega
    have HIH := Lib.hid ih
    have HV := Lib.hid hv
    have HF := Lib.hid hfirst
    have HST := Lib.hid hst
    have HS := Lib.hid (And.intro hus (And.intro hu256 (And.intro h8 (And.intro hok (And.intro hr1 (And.intro hrd (And.intro hd8 hrow)))))))
    unfold maxLen at hm
    clear ih hv hc hfirst hst hus hu256 hr1 hs0 h8 hok hrd hg hd8 hrow
    go_enter Tryd.func39, Tryd.ntmps39
    go_wp2_with (go_at_call 39; refine (HF.out _ HV.out).mono ?_; rintro e w' ⟨rfl, rfl⟩)
    clear e1
    go_loop [7, 8] (fun m i => ∃ k : Nat, k ≤ xs.length ∧ i = .int .i64 k ∧ m = .int .i64 (mst xs d row used k)) (fun _ i => xs.length - (intOf i).toNat)
    case atStart => exact ⟨0, by omega, rfl, by rw [HST.out]⟩
    case round =>
      obtain ⟨k, hk, rfl, rfl⟩ := hrel
      obtain ⟨cur, hcur⟩ : ∃ cur, mst xs d row used k = cur := ⟨_, rfl⟩
      have hsn := mst_succ xs d row used k
      have hcb := mst_bounds xs d row used k
      rw [hcur] at hsn hcb ⊢
      by_cases hlt : k < xs.length
      · obtain ⟨hus, hu256, h8, hok, hr1, hrd, hd8, hrow⟩ := HS.out
        have hki : (k : Int) < (xs.length : Int) := by omega
        have hk8 : k < 8 := by omega
        have hmin : min k 64 = k := by omega
        obtain ⟨hxa, hma⟩ := row_value h8 hok hrow
        have hc1 := fun r hr => l1Has_q w _ xs row k (gfun xs row) HV.out hrow hxa hma (by omega) r hr
        have hE := eX_in hrow hlt
        cases ht1 : (gfun xs row).testBit k with
        | false =>
          have H1 := Lib.hid (hc1 _ ht1)
          have hn : mst xs d row used (k + 1) = cur := by
            rw [hsn]
            unfold sdStep
            rw [if_neg (by rw [hE, ht1]; simp)]
          have HN := Lib.hid hn
          clear hc1 ht1 hn hxa hma hE hsn hcb hus hu256 h8 hok hr1 hrd hd8 hrow
          go_wp2_with (go_at_call 54; refine H1.out.mono ?_; rintro e w' ⟨rfl, rfl⟩)
          go_round
          case rel => exact ⟨k + 1, by omega, by go_num, by rw [HN.out]⟩
          case measure => simp [intOf]; omega
        | true =>
          have H1 := Lib.hid (hc1 _ ht1)
          cases ht2 : used.testBit k with
          | true =>
            obtain ⟨t1, t0⟩ := shr_is used k hu256 true ht2
            have hn : mst xs d row used (k + 1) = cur := by
              rw [hsn]
              unfold sdStep
              rw [if_neg (by rw [ht2]; simp)]
            have HN := Lib.hid hn
            clear hc1 ht1 ht2 hn hxa hma hE hsn hcb hus hu256 h8 hok hr1 hrd hd8 hrow
            go_wp2_with (go_at_call 54; refine H1.out.mono ?_; rintro e w' ⟨rfl, rfl⟩)
            go_round
            case rel => exact ⟨k + 1, by omega, by go_num, by rw [HN.out]⟩
            case measure => simp [intOf]; omega
          | false =>
            obtain ⟨t1, t0⟩ := shr_is used k hu256 false ht2
            obtain ⟨u2, hu2⟩ : ∃ u2, used ||| 2 ^ k = u2 := ⟨_, rfl⟩
            have hor : bits .or .i64 (used : Int) (wrap64 (2 ^ k)) = (u2 : Int) := by rw [← hu2]; exact or_pow hu256 (by omega)
            have hor2 := hor
            rw [← wrap_eq] at hor2
            obtain ⟨s1, hs1⟩ : ∃ s1, sd (eX xs) xs.length d r1 u2 = s1 := ⟨_, rfl⟩
            have hcall := HIH.out w _ r1 u2 HV.out (by omega) (by rw [← hu2]; exact or_small hus hlt)
            rw [hs1] at hcall
            have hsb := sd_bounds (eX xs) xs.length d r1 u2
            rw [hs1] at hsb
            obtain ⟨y, hy⟩ : ∃ y, 1 + s1 = y := ⟨_, rfl⟩
            obtain ⟨new, hnew⟩ : ∃ new, max cur y = new := ⟨_, rfl⟩
            have hn : mst xs d row used (k + 1) = new := by
              rw [hsn]
              unfold sdStep
              rw [if_pos ⟨by rw [hE]; exact ht1, ht2⟩]
              show max cur (1 + sd (eX xs) xs.length d (row + 1) (used ||| 2 ^ k)) = new
              rw [hu2, hr1, hs1, hy, hnew]
            have hyw : IntKind.i64.wrap (1 + s1) = y := by rw [IntKind.wrap_i64]; omega
            have hyw2 : wrap64 (1 + s1) = y := by rw [← wrap_eq]; exact hyw
            have hmm : (if cur < y then y else cur) = new := by rw [← hnew]; omega
            have HN := Lib.hid hn
            have HCALL := Lib.hid hcall
            clear hc1 ht1 ht2 hn hxa hma hE hsn hcb hus hu256 h8 hok hr1 hrd hd8 hrow hcall hu2 hs1 hsb hy hnew
            go_wp2_with (first
              | (go_at_call 54; refine H1.out.mono ?_; rintro e w' ⟨rfl, rfl⟩)
              | (go_at_call 39; refine HCALL.out.mono ?_; rintro e w' ⟨rfl, rfl⟩))
            clear hyw hyw2 hr1w hr1w2 hor hor2
            go_round
            case rel => exact ⟨k + 1, by omega, by go_num, by first | rw [HN.out] | rw [HN.out, hmm]⟩
            case measure => simp [intOf]; omega
      · obtain rfl : k = xs.length := by omega
        have hfin : sd (eX xs) xs.length (d + 1) row used = cur := by rw [← hcur]; rfl
        have HFIN := Lib.hid hfin
        clear hfin hsn hcb
        go_wp2
        go_ret
        exact ⟨show Ending.returned (.int .i64 cur) = .returned (.int .i64 (sd (eX xs) xs.length (d + 1) row used)) by rw [HFIN.out], rfl⟩

/-- What the specification hands back. -/
def halfOf (xs : List Int) : Int := if gIn xs = true then sd (eX xs) xs.length xs.length 0 0 else 0

set_option maxRecDepth 100000 in
set_option maxHeartbeats 1000000 in
theorem specHalf_any (w : World) (v : Value) (xs : List Int) (h : Ints w v xs) : Calls Tryd.prog 22 #[v] w (GivesNum w (gIn xs) (halfOf xs)) := by
  have hv := h
  obtain ⟨A, cap, rfl, hm, hc⟩ := h
  have HV := Lib.hid hv
  have HSI := Lib.hid (specIn_any w _ xs hv)
  clear hc hv
  cases hg : gIn xs with
  | false =>
    have hz : halfOf xs = 0 := by unfold halfOf; rw [hg]; rfl
    rw [hz]
    rw [hg] at HSI
    clear hz hg
    go_enter Tryd.func22, Tryd.ntmps22
    go_wp2_with (go_at_call 38; refine HSI.out.mono ?_; rintro e w' ⟨rfl, q, rfl⟩)
    go_ret2
    exact ⟨rfl, below_drewN (Below.refl _ _) q⟩
  | true =>
    obtain ⟨h1, h8, hok⟩ := gIn_parts hg
    have hz : halfOf xs = sd (eX xs) xs.length xs.length 0 0 := by unfold halfOf; rw [hg]; rfl
    have HD := Lib.hid (fun W (hW : Ints W (.slice A xs.length cap) xs) => l8Double_any xs hg h8 hok xs.length W _ 0 0 hW (by omega) (Nat.two_pow_pos _))
    rw [hz]
    rw [hg] at HSI
    obtain ⟨z, hzz⟩ : ∃ z, sd (eX xs) xs.length xs.length 0 0 = z := ⟨_, rfl⟩
    simp only [hzz] at HD ⊢
    clear hz hg hok hzz
    go_enter Tryd.func22, Tryd.ntmps22
    go_wp2_with (first
      | (go_at_call 38; refine HSI.out.mono ?_; rintro e w' ⟨rfl, q, rfl⟩)
      | (go_at_call 39; refine (HD.out _ (HV.out.drewN q)).mono ?_; rintro e w' ⟨rfl, rfl⟩))
    go_ret2
    exact ⟨rfl, below_drewN (Below.refl _ _) q⟩

end Go.Proofs.YtellghhilcjbnaaDoor
