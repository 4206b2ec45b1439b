/-
  impl.oddProduct, impl.PolyOther.
-/
import Derived.Test.YtcklinoiaiilgaaDoorPMatch
import Derived.Test.YtcklinoiaiilgaaDoorOddMath
namespace Go.Proofs.YtcklinoiaiilgaaDoor
set_option linter.unusedVariables false
set_option linter.unusedSimpArgs false
open Go.RowKit Go.Shelf
set_option maxRecDepth 100000

set_option maxHeartbeats 1000000 in
theorem odd_any (m : Nat) (hm : m ≤ 8) (w : World) : Calls Tryd.prog 57 #[.int .i64 (m : Int)] w fun e w' => e = .returned (.int .i64 ((oddF (m / 2) : Nat) : Int)) ∧ w = w' := by
  obtain ⟨h, hh⟩ : ∃ h, m / 2 = h := ⟨_, rfl⟩
  rw [hh]
  have h4 : h ≤ 4 := by omega
  have h1 : 2 * h ≤ m := by omega
  have h2 : m ≤ 2 * h + 1 := by omega
  clear hh
  go_enter Tryd.func57, Tryd.ntmps57
  go_wp2
  go_loop [3, 4] (fun p i => ∃ j : Nat, j ≤ h ∧ p = .int .i64 (oddF j : Nat) ∧ i = .int .i64 ((2 * j + 1 : Nat) : Int)) (fun _ i => m + 1 - (intOf i).toNat)
  case atStart => exact ⟨0, by omega, rfl, rfl⟩
  case round =>
    obtain ⟨j, hj, rfl, rfl⟩ := hrel
    by_cases hlt : j < h
    · have ho := oddF_le (j := j) (by omega)
      have ho2 := oddF_le (j := j + 1) (by omega)
      have hnx : oddF (j + 1) = oddF j * (2 * j + 1) := rfl
      obtain ⟨i, hi⟩ : ∃ i, 2 * j + 1 = i := ⟨_, rfl⟩
      obtain ⟨p, hp⟩ : ∃ p, oddF j = p := ⟨_, rfl⟩
      obtain ⟨q, hq⟩ : ∃ q, oddF (j + 1) = q := ⟨_, rfl⟩
      rw [hi, hp, hq] at hnx
      rw [hq] at ho2
      rw [hp] at ho ⊢
      rw [hi]
      have him : (i : Int) < (m : Int) := by omega
      have hi8 : (i : Int) ≤ 8 := by omega
      have hprod : (p : Int) * (i : Int) = (q : Int) := by rw [hnx]; push_cast; rfl
      have b1 : -4000000000000000000 ≤ (q : Int) := by omega
      have b2 : (q : Int) ≤ 4000000000000000000 := by omega
      obtain ⟨a1, a2⟩ := wrap_in (q : Int) b1 b2
      have w1 : IntKind.i64.wrap ((p : Int) * (i : Int)) = (q : Int) := by rw [hprod]; exact a1
      have w2 : wrap64 ((p : Int) * (i : Int)) = (q : Int) := by rw [hprod]; exact a2
      have HQ := Lib.hid hq
      have HJ : Hid (j + 1 ≤ h ∧ (i : Int) + 2 = ((2 * (j + 1) + 1 : Nat) : Int) ∧ m + 1 - (i + 2) < m + 1 - i) := Lib.hid ⟨by omega, by omega, by omega⟩
      clear hnx hp hq hi ho ho2 a1 a2 b1 b2 hprod
      go_wp2
      clear w1 w2
      go_round
      all_goals first | exact ⟨j + 1, HJ.out.1, by rw [HQ.out], by rw [← HJ.out.2.1]⟩ | (have := HJ.out.2.2; simp [intOf]; omega)
    · obtain rfl : j = h := by omega
      have hge : ¬ ((2 * j + 1 : Nat) : Int) < (m : Int) := by omega
      obtain ⟨i, hi⟩ : ∃ i, 2 * j + 1 = i := ⟨_, rfl⟩
      rw [hi] at hge ⊢
      clear hi hlt
      go_wp2
      go_ret
      exact ⟨rfl, rfl⟩

theorem sum_bound {n : Nat} {f : Nat → Int} (hn : n ≤ 9) (h : ∀ i, i < n → -4519905705 ≤ f i ∧ f i ≤ 4519905705) : -50000000000 ≤ sumTo n f ∧ sumTo n f ≤ 50000000000 := by
  have := sumTo_bound (b := 4519905705) h
  have h2 : (n : Int) ≤ 9 := by omega
  have h3 : (n : Int) * 4519905705 ≤ 9 * 4519905705 := Int.mul_le_mul_of_nonneg_right h2 (by decide)
  omega

set_option maxHeartbeats 4000000 in
theorem implPOther_any (w : World) (u : Value) (xs : List Int) (h : Ints w u xs) (hr : ∀ x ∈ xs, I64 x) (hT : Tab w) :
    Calls Tryd.prog 28 #[u] w (GivesNum w (gIn xs) (othOk xs)) := by
  cases hg : gIn xs with
  | false =>
    have HR := Lib.hid (readC_any w u xs h hr hT 0 _ (from_no hg))
    have ho : othOk xs = 0 := by unfold othOk; rw [if_neg]; rw [hg]; simp
    rw [hg] at HR
    rw [ho]
    clear h hr hT ho
    go_enter Tryd.func28, Tryd.ntmps28
    go_wp2_with (first
      | (go_at_call 48; refine HR.out.mono ?_; rintro e w1 ⟨B, rfl, hB, hb1, hM⟩)
      | (refine store_counter_new rfl _ _ rfl 0 (fun _ => 0) B rfl rfl ?_))
    go_ret2
    exact ⟨rfl, hb1.alloc hb1.size _⟩
  | true =>
    obtain ⟨h1, h8, hok2⟩ := gIn_parts hg
    have hlt := gfun_lt h8 hok2
    have HR := Lib.hid (readC_any w u xs h hr hT _ _ (from_yes hg))
    rw [hg] at HR
    have HT := Lib.hid hT
    have HL := Lib.hid hlt
    by_cases he : xs.length % 2 = 0
    · have ho : othOk xs = othVal xs.length (nums (gfun xs) (2 ^ xs.length - 1)) := by unfold othOk; rw [if_pos ⟨hg, he⟩]
      rw [ho]
      have hsum := oth_sums h8 he (nums (gfun xs) (2 ^ xs.length - 1))
      obtain ⟨hok, hp⟩ := mpL_ok (g := nums (gfun xs) (2 ^ xs.length - 1)) h8 (fun k => nums_small (all256 h8) k) (nums_none' (all256 h8))
      have hg' : ∀ k, nums (gfun xs) (2 ^ xs.length - 1) k ≤ 43046721 := fun k => nums_small (all256 h8) k
      obtain ⟨g, hge⟩ : ∃ g, nums (gfun xs) (2 ^ xs.length - 1) = g := ⟨_, rfl⟩
      rw [hge] at hsum hg' ⊢
      have HGE := Lib.hid hge
      have HP := Lib.hid hp
      have HS := Lib.hid hsum
      have HG := Lib.hid hg'
      have hn0 : ((xs.length : Int) % 2) = 0 := by omega
      have hn1 : (xs.length : Int).tmod 2 = 0 := by rw [Int.tmod_eq_emod_of_nonneg (by omega)]; omega
      have hn8 : (xs.length : Int) ≤ 8 := by omega
      obtain ⟨n1, hn1e⟩ : ∃ n1, xs.length + 1 = n1 := ⟨_, rfl⟩
      have HLEN : Hid ((mpL xs.length g).length = n1) := Lib.hid (by unfold mpL; rw [tab_len]; exact hn1e)
      have HN1 := Lib.hid hn1e
      have hn19 : n1 ≤ 9 := by omega
      clear h hr hT hok2 hlt ho hsum hok hp hge hg' he hn1e
      go_enter Tryd.func28, Tryd.ntmps28
      go_wp2_with (first
        | (go_at_call 48; refine HR.out.mono ?_; rintro e w1 ⟨B, rfl, hB, hb1, hM⟩)
        | (refine store_counter_new rfl _ _ rfl xs.length (gfun xs) B rfl rfl ?_; obtain ⟨c0, cs, _, _, _⟩ := counter_cells (World.alloc_heap_new w1 (.cells (ccells xs.length (gfun xs) B) 47)); clear cs)
        | (refine load_counter rfl _ rfl _ xs.length (gfun xs) B rfl (World.alloc_heap_new _ _) ?_)
        | (go_at_call 55; refine (matchPoly_any xs.length (gfun xs) h8 HL.out hB (hb1.alloc hb1.size _) (hM.below (Below.alloc (Below.refl _ _) (Nat.le_refl _) _)) (by omega) HT.out).mono ?_; rintro e w2 ⟨v, rfl, hb2, ho2⟩; rw [HP.out, HGE.out] at ho2; obtain ⟨A, cap, rfl, hm, hcell⟩ := ints_of_owns ho2; rw [HLEN.out]; clear ho2; unfold maxLen at hm))
      have HC : Hid (∀ i, i < n1 → ∃ b off, A = some ⟨b, off, none⟩ ∧ w2.cell? ⟨b, off + i, none⟩ = some (.int .i64 (polyAt xs.length g i))) := Lib.hid (fun i hi => by
        obtain ⟨b, off, hA, hc⟩ := hcell i (by rw [HLEN.out]; omega)
        refine ⟨b, off, hA, hc.trans ?_⟩
        unfold mpL
        rw [tab_at])
      clear hcell hm c0
      go_loop [6, 24] (fun s i => ∃ k : Nat, k ≤ n1 ∧ i = .int .i64 k ∧ s = .int .i64 (sumTo k (powTerm xs.length g))) (fun _ i => n1 - (intOf i).toNat)
      case atStart => exact ⟨0, by omega, rfl, rfl⟩
      case round =>
        obtain ⟨k, hk, rfl, rfl⟩ := hrel
        by_cases hlt : k < n1
        · obtain ⟨b, off, rfl, hcl⟩ := HC.out k hlt
          have hO := fun W => odd_any k (by omega) W
          have hsb := sum_bound (n := k) (f := powTerm xs.length g) (by omega) (fun i hi => powTerm_small (by omega) HG.out)
          have hsb2 := sum_bound (n := k + 1) (f := powTerm xs.length g) (by omega) (fun i hi => powTerm_small (by omega) HG.out)
          have hyb := powTerm_small (n := xs.length) (p := k) (by omega) HG.out
          have hsucc := sumTo_succ k (powTerm xs.length g)
          have hpt : powTerm xs.length g k = polyAt xs.length g k * ((oddF (k / 2) : Nat) : Int) := rfl
          obtain ⟨z, hz⟩ : ∃ z, polyAt xs.length g k = z := ⟨_, rfl⟩
          obtain ⟨o, ho⟩ : ∃ o, ((oddF (k / 2) : Nat) : Int) = o := ⟨_, rfl⟩
          obtain ⟨y, hy⟩ : ∃ y, powTerm xs.length g k = y := ⟨_, rfl⟩
          obtain ⟨s, hs⟩ : ∃ s, sumTo k (powTerm xs.length g) = s := ⟨_, rfl⟩
          obtain ⟨s2, hs2⟩ : ∃ s2, sumTo (k + 1) (powTerm xs.length g) = s2 := ⟨_, rfl⟩
          rw [hz] at hcl
          rw [hz, ho, hy] at hpt
          rw [hs, hy, hs2] at hsucc
          rw [ho] at hO
          rw [hs] at hsb
          rw [hs2] at hsb2
          rw [hy] at hyb
          rw [hs]
          have hki : (k : Int) < (n1 : Int) := by omega
          have hk9 : (k : Int) ≤ 9 := by omega
          have b1 : -4000000000000000000 ≤ y := by omega
          have b2 : y ≤ 4000000000000000000 := by omega
          have b3 : -4000000000000000000 ≤ s2 := by omega
          have b4 : s2 ≤ 4000000000000000000 := by omega
          have HW : Hid ((IntKind.i64.wrap (z * o) = y ∧ wrap64 (z * o) = y) ∧ (IntKind.i64.wrap (s + y) = s2 ∧ wrap64 (s + y) = s2)) := Lib.hid ⟨by rw [← hpt]; exact wrap_in y b1 b2, by rw [← hsucc]; exact wrap_in s2 b3 b4⟩
          have HO := Lib.hid hO
          have HS2 := Lib.hid hs2
          clear hsb hsb2 hyb hsucc hpt hz ho hy hs hs2 b1 b2 b3 b4 hO
          obtain ⟨⟨p1, p2⟩, s1, s3⟩ := HW.out
          go_wp2_with (go_at_call 57; refine (HO.out _).mono ?_; rintro e w' ⟨rfl, rfl⟩)
          clear p1 p2 s1 s3
          go_round
          all_goals first | exact ⟨k + 1, by omega, by go_num, by rw [HS2.out]⟩ | (simp [intOf]; omega)
        · obtain rfl : k = n1 := by omega
          have hend : sumTo k (powTerm xs.length g) = othVal xs.length g := by rw [← HN1.out]; exact HS.out
          rw [hend]
          clear hend
          go_wp2
          go_ret2
          exact ⟨rfl, hb2⟩
    · have ho : othOk xs = 0 := by unfold othOk; rw [if_neg]; exact fun hh => he hh.2
      rw [ho]
      have hn0 : ((xs.length : Int) % 2) = 1 := by omega
      have hn1 : (xs.length : Int).tmod 2 = 1 := by rw [Int.tmod_eq_emod_of_nonneg (by omega)]; omega
      clear h hr hT hok2 hlt ho he
      go_enter Tryd.func28, Tryd.ntmps28
      go_wp2_with (first
        | (go_at_call 48; refine HR.out.mono ?_; rintro e w1 ⟨B, rfl, hB, hb1, hM⟩)
        | (refine store_counter_new rfl _ _ rfl xs.length (gfun xs) B rfl rfl ?_; obtain ⟨c0, cs, _, _, _⟩ := counter_cells (World.alloc_heap_new w1 (.cells (ccells xs.length (gfun xs) B) 47)); clear cs))
      go_ret2
      exact ⟨rfl, hb1.alloc hb1.size _⟩

end Go.Proofs.YtcklinoiaiilgaaDoor
