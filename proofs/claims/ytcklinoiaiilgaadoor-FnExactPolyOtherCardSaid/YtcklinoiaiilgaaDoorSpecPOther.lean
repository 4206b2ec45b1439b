/-
  spec.PolyOther.
-/
import Derived.Test.YtcklinoiaiilgaaDoorSpecPMatch
import Derived.Test.YtcklinoiaiilgaaDoorOddMath
import Derived.Test.YtcklinoiaiilgaaDoorNum
import Derived.Deep.QuietTactic
import Derived.BigQuiet
namespace Go.Proofs.YtcklinoiaiilgaaDoor
set_option linter.unusedVariables false
set_option linter.unusedSimpArgs false
open Go.RowKit
set_option maxRecDepth 100000

theorem othTerms_bound {n k : Nat} {g : Nat → Nat} (hn : n ≤ 8) (hk : k ≤ 9) (hg : ∀ k, g k ≤ 43046721) : -50000000000 ≤ sumTo k (othTerm n g) ∧ sumTo k (othTerm n g) ≤ 50000000000 := by
  have := sumTo_bound (n := k) (f := othTerm n g) (b := 4519905705) (fun i _ => othTerm_small hn hg)
  have h2 : (k : Int) ≤ 9 := by omega
  have h3 : (k : Int) * 4519905705 ≤ 9 * 4519905705 := Int.mul_le_mul_of_nonneg_right h2 (by decide)
  omega

theorem sign_flip (k : Nat) (hk : k ≤ 1000) (w : World) : Calls Tryd.prog 56 #[.int .i64 (k : Int)] w fun e w' => e = .returned (.int .i64 (sgn k)) ∧ w' = w := (sign_any k hk w).mono fun _ _ h => ⟨h.1, h.2.symm⟩

set_option maxHeartbeats 4000000 in
theorem specPOther_any (w : World) (v : Value) (xs : List Int) (h : Ints w v xs) :
    Calls Tryd.prog 27 #[v] w (GivesNum w (gIn xs) (othOk xs)) := by
  have hs := specIn_any w v xs h
  cases hg : gIn xs with
  | false =>
    have ho : othOk xs = 0 := by unfold othOk; rw [if_neg]; rw [hg]; simp
    rw [hg] at hs
    rw [ho]
    have HS := Lib.hid hs
    obtain ⟨A, cap, rfl, hm, _⟩ := h
    clear hs hg ho
    go_enter Tryd.func27, Tryd.ntmps27
    go_wp2_with (go_at_call 46; refine HS.out.mono ?_; rintro e w1 ⟨rfl, q, rfl⟩)
    go_ret2
    exact ⟨rfl, below_drewN (Below.refl _ _) q⟩
  | true =>
    obtain ⟨h1, h8, hok⟩ := gIn_parts hg
    rw [hg] at hs
    have HS := Lib.hid hs
    by_cases he : xs.length % 2 = 0
    · have ho : othOk xs = othVal xs.length (nums (gfun xs) (2 ^ xs.length - 1)) := by unfold othOk; rw [if_pos ⟨hg, he⟩]
      rw [ho]
      have hpos := Nat.two_pow_pos xs.length
      have HC := Lib.hid (l2N_any xs hg (2 ^ xs.length - 1) (2 ^ xs.length - 1) (Nat.le_refl _) (by omega))
      have hgl := gr_all h8 (gfun xs)
      have hs8 := all256 h8
      have hlen := gr_len (f := gfun xs) hs8
      have hsm : ∀ k, nums (gfun xs) (2 ^ xs.length - 1) k ≤ 43046721 := fun k => nums_small hs8 k
      have hco := fun i => co_numL (f := gfun xs) hs8 i
      have htop : ∀ i, gr (gfun xs) (2 ^ xs.length - 1) + 1 ≤ i → nums (gfun xs) (2 ^ xs.length - 1) i = 0 := fun i hi => gr_top hs8 hi
      obtain ⟨E, hE⟩ : ∃ E, gr (gfun xs) (2 ^ xs.length - 1) = E := ⟨_, rfl⟩
      rw [hE] at hgl hlen htop
      obtain ⟨g, hgd⟩ : ∃ g, nums (gfun xs) (2 ^ xs.length - 1) = g := ⟨_, rfl⟩
      obtain ⟨q, hq⟩ : ∃ q, numL (gfun xs) (2 ^ xs.length - 1) = q := ⟨_, rfl⟩
      rw [hgd] at hsm hco htop ⊢
      rw [hq] at hlen hco
      have HV := Lib.hid h
      have HQ := Lib.hid hq
      have HSM := Lib.hid hsm
      have HCO := Lib.hid hco
      have HEND := Lib.hid (oth_more (n := xs.length) (k := E + 1) (g := g) (by omega) htop)
      have HLEN := Lib.hid hlen
      have hn0 : ((xs.length : Int) % 2) = 0 := by omega
      have hn1 : (xs.length : Int).tmod 2 = 0 := by rw [Int.tmod_eq_emod_of_nonneg (by omega)]; omega
      obtain ⟨A, cap, rfl, hm, _⟩ := h
      have hl8 : (xs.length : Int) ≤ 8 := by omega
      have HLW := Lib.hid (And.intro (low_wrap' (n := xs.length) (by omega)) (low_wrap (v := xs.length) (by omega)))
      clear hs hg hok hpos hE hgd hq hsm hco htop hlen hs8 ho he
      obtain ⟨hlw, hlw2⟩ := HLW.out
      go_enter Tryd.func27, Tryd.ntmps27
      go_wp2_with (first
        | (go_at_call 46; refine HS.out.mono ?_; rintro e w0 ⟨rfl, q0, rfl⟩)
        | (go_at_call 47; refine (HC.out _ _ (HV.out.drewN q0)).mono ?_; rintro e w1 ⟨g1, c1, rfl, hb1, ho1⟩; rw [HQ.out] at ho1 ⊢))
      clear hlw hlw2
      obtain ⟨L, hL⟩ : ∃ L, q.length = L := ⟨_, rfl⟩
      have HL := Lib.hid hL
      have hLE : L = E + 1 := by rw [← hL]; exact HLEN.out
      have hL5 : L ≤ 5 := by omega
      have HLE := Lib.hid hLE
      have hi1 : Ints w1 (.slice (some ⟨g1, 0, none⟩) q.length c1) q := ints_of_owns ho1
      obtain ⟨A1, cap1, he1, hm1, hc1⟩ := hi1
      obtain ⟨rfl, rfl⟩ : A1 = some ⟨g1, 0, none⟩ ∧ cap1 = c1 := by simpa using he1.symm
      have HC1 := Lib.hid hc1
      have hB1 : Below w.heap.size w w1 := step_below (below_drewN (Below.refl _ _) q0) hb1
      have h2L : ∀ k, k < L → 2 * k ≤ xs.length := fun k hk => by omega
      have H2L := Lib.hid h2L
      rw [hL]
      clear hc1 ho1 he1 hm1 hL hLE h2L hb1
      go_loopw [5, 6, 7, 8] (fun s i _ _ wr => ∃ k : Nat, k ≤ L ∧ i = .int .i64 k ∧ s = .int .i64 (sumTo k (othTerm xs.length g)) ∧ Below w1.heap.size w1 wr) (fun _ i _ _ _ => L - (intOf i).toNat)
      case atStart => exact ⟨0, by omega, rfl, rfl, Below.refl _ _⟩
      case round =>
        obtain ⟨k, hk, rfl, rfl, hbw⟩ := hrel
        have HBW := Lib.hid hbw
        clear hbw
        by_cases hlt : k < L
        · have hk2 := H2L.out k hlt
          obtain ⟨m, hm0⟩ : ∃ m, xs.length - 2 * k = m := ⟨_, rfl⟩
          obtain ⟨h, hh⟩ : ∃ h, m / 2 = h := ⟨_, rfl⟩
          have hmi : (xs.length : Int) - 2 * (k : Int) = (m : Int) := by omega
          have h4 : h ≤ 4 := by omega
          have h1m : 2 * h ≤ m := by omega
          have h2m : m ≤ 2 * h + 1 := by omega
          have hki : (k : Int) < (L : Int) := by omega
          have hk8 : (k : Int) ≤ 8 := by omega
          have HHT : Hid ((xs.length - 2 * k) / 2 = h) := Lib.hid (by rw [hm0]; exact hh)
          clear hm0 hh hk2
          go_wp2
          go_loopw [7, 8] (fun p i wr => ∃ j : Nat, j ≤ h ∧ p = .int .i64 (oddF j : Nat) ∧ i = .int .i64 ((2 * j + 1 : Nat) : Int) ∧ Below w1.heap.size w1 wr) (fun _ i _ => m + 1 - (intOf i).toNat)
          case atStart => exact ⟨0, by omega, rfl, rfl, HBW.out⟩
          case round =>
            obtain ⟨j, hj, rfl, rfl, hbv⟩ := hrel
            have HBV := Lib.hid hbv
            clear hbv
            by_cases hlj : j < h
            · have ho := oddF_le (j := j) (by omega)
              have ho2 := oddF_le (j := j + 1) (by omega)
              have hnx : oddF (j + 1) = oddF j * (2 * j + 1) := rfl
              obtain ⟨i, hi⟩ : ∃ i, 2 * j + 1 = i := ⟨_, rfl⟩
              obtain ⟨p, hp⟩ : ∃ p, oddF j = p := ⟨_, rfl⟩
              obtain ⟨r, hr⟩ : ∃ r, oddF (j + 1) = r := ⟨_, rfl⟩
              rw [hi, hp, hr] at hnx
              rw [hr] at ho2
              rw [hp] at ho ⊢
              rw [hi]
              have him : (i : Int) < (m : Int) := by omega
              have hi8 : (i : Int) ≤ 8 := by omega
              have hprod : (p : Int) * (i : Int) = (r : Int) := by rw [hnx]; push_cast; rfl
              have b1 : -4000000000000000000 ≤ (r : Int) := by omega
              have b2 : (r : Int) ≤ 4000000000000000000 := by omega
              obtain ⟨a1, a2⟩ := wrap_in (r : Int) b1 b2
              have w1' : IntKind.i64.wrap ((p : Int) * (i : Int)) = (r : Int) := by rw [hprod]; exact a1
              have w2' : wrap64 ((p : Int) * (i : Int)) = (r : Int) := by rw [hprod]; exact a2
              have HR := Lib.hid hr
              have HJ : Hid (j + 1 ≤ h ∧ (i : Int) + 2 = ((2 * (j + 1) + 1 : Nat) : Int) ∧ m + 1 - (i + 2) < m + 1 - i) := Lib.hid ⟨by omega, by omega, by omega⟩
              clear hnx hp hr hi ho ho2 a1 a2 b1 b2 hprod
              go_wp2
              clear w1' w2'
              go_roundw
              all_goals first | exact ⟨j + 1, HJ.out.1, by rw [HR.out], by rw [← HJ.out.2.1], HBV.out⟩ | (have := HJ.out.2.2; simp [intOf]; omega)
            · obtain rfl : j = h := by omega
              have hge : ¬ ((2 * j + 1 : Nat) : Int) < (m : Int) := by omega
              obtain ⟨i, hi⟩ : ∃ i, 2 * j + 1 = i := ⟨_, rfl⟩
              rw [hi] at hge ⊢
              obtain ⟨b, off, hba, hcl⟩ := HC1.out k (by rw [HL.out]; exact hlt)
              obtain ⟨rfl, rfl⟩ : g1 = b ∧ 0 = off := by simpa using hba
              have hval : q[k]'(by rw [HL.out]; exact hlt) = ((g k : Nat) : Int) := by
                have := HCO.out k
                rw [co_at (by rw [HL.out]; exact hlt)] at this
                exact this
              replace hcl := (HBV.out.cell (p := ⟨g1, 0 + k, none⟩) (World.block_lt_of_cell? w1 _ hcl)).trans hcl
              rw [hval, Nat.zero_add] at hcl
              have hsb := othTerms_bound (n := xs.length) (k := k) h8 (by omega) HSM.out
              have hsb2 := othTerms_bound (n := xs.length) (k := k + 1) h8 (by omega) HSM.out
              have hyb := othTerm_small (n := xs.length) (k := k) h8 HSM.out
              have hsg := sgn_small k (g k : Int) (by have := HSM.out k; omega)
              have hsucc := sumTo_succ k (othTerm xs.length g)
              have hpt : othTerm xs.length g k = sgn k * (g k : Int) * ((oddF j : Nat) : Int) := by unfold othTerm; rw [HHT.out]
              obtain ⟨x, hx⟩ : ∃ x, sgn k * (g k : Int) = x := ⟨_, rfl⟩
              obtain ⟨o, ho⟩ : ∃ o, ((oddF j : Nat) : Int) = o := ⟨_, rfl⟩
              obtain ⟨y, hy⟩ : ∃ y, othTerm xs.length g k = y := ⟨_, rfl⟩
              obtain ⟨s, hs⟩ : ∃ s, sumTo k (othTerm xs.length g) = s := ⟨_, rfl⟩
              obtain ⟨s2, hs2⟩ : ∃ s2, sumTo (k + 1) (othTerm xs.length g) = s2 := ⟨_, rfl⟩
              rw [hx, ho, hy] at hpt
              rw [hs, hy, hs2] at hsucc
              rw [hs] at hsb ⊢
              rw [hs2] at hsb2
              rw [hy] at hyb
              rw [hx] at hsg
              rw [ho]
              have b1 : -4000000000000000000 ≤ y := by omega
              have b2 : y ≤ 4000000000000000000 := by omega
              have b3 : -4000000000000000000 ≤ s2 := by omega
              have b4 : s2 ≤ 4000000000000000000 := by omega
              have b5 : -4000000000000000000 ≤ x := by omega
              have b6 : x ≤ 4000000000000000000 := by omega
              have HW : Hid (((IntKind.i64.wrap (sgn k * (g k : Int)) = x ∧ wrap64 (sgn k * (g k : Int)) = x) ∧ (IntKind.i64.wrap (x * o) = y ∧ wrap64 (x * o) = y)) ∧ (IntKind.i64.wrap (s + y) = s2 ∧ wrap64 (s + y) = s2)) := Lib.hid ⟨⟨by rw [hx]; exact wrap_in x b5 b6, by rw [← hpt]; exact wrap_in y b1 b2⟩, by rw [← hsucc]; exact wrap_in s2 b3 b4⟩
              have HSG := Lib.hid (fun W => sign_flip k (by omega) W)
              have HS2 := Lib.hid hs2
              clear hsb hsb2 hyb hsucc hpt hx ho hy hs hs2 b1 b2 b3 b4 b5 b6 hsg hval hi hlj
              obtain ⟨⟨⟨v1, v2⟩, p1, p2⟩, s1, s3⟩ := HW.out
              go_wp2
              go_quiet ((go_at_call 56; exact Calls.quiet_of_same (HSG.out _)))
              clear v1 v2 p1 p2 s1 s3
              go_wp2
              go_roundw
              all_goals first | exact ⟨k + 1, by omega, by go_num, by rw [HS2.out], below_drewN HBV.out _⟩ | (simp [intOf]; omega)
        · obtain rfl : k = L := by omega
          have hend : sumTo k (othTerm xs.length g) = othVal xs.length g := by rw [HLE.out]; exact HEND.out
          rw [hend]
          clear hend
          go_wp2
          go_ret2
          exact ⟨rfl, step_below hB1 HBW.out⟩
    · have ho : othOk xs = 0 := by unfold othOk; rw [if_neg]; exact fun hh => he hh.2
      rw [ho]
      have hn0 : ((xs.length : Int) % 2) = 1 := by omega
      have hn1 : (xs.length : Int).tmod 2 = 1 := by rw [Int.tmod_eq_emod_of_nonneg (by omega)]; omega
      obtain ⟨A, cap, rfl, hm, _⟩ := h
      clear hs hg ho he hok
      go_enter Tryd.func27, Tryd.ntmps27
      go_wp2_with (go_at_call 46; refine HS.out.mono ?_; rintro e w1 ⟨rfl, q, rfl⟩)
      go_ret2
      exact ⟨rfl, below_drewN (Below.refl _ _) q⟩

end Go.Proofs.YtcklinoiaiilgaaDoor
