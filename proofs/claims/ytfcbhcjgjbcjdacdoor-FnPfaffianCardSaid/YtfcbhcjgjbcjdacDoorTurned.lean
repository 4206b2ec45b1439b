/-
  spec.l5Turned; which tables are skew, and which even.
-/
import Derived.Test.YtfcbhcjgjbcjdacDoorTFrom
import Derived.Test.YtfcbhcjgjbcjdacDoorEven
import Derived.Test.YtfcbhcjgjbcjdacDoorTFacts
import Derived.Deep.QuietTactic
import Derived.BigQuiet
namespace Go.Proofs.YtfcbhcjgjbcjdacDoor
set_option linter.unusedVariables false
set_option linter.unusedSimpArgs false
open Go.RowKit

/-- What is asked of two places that are turned to each other. -/
def okAt (sg : Int) (F : Nat → Int) (i k : Nat) : Bool := F (6 * i + k) == sg * F (6 * k + i) && !(i == k && !(F (6 * i + k) == 0))
def turnB (sg : Int) (F : Nat → Int) (n : Nat) : Bool := (List.range n).all fun i => (List.range (i + 1)).all fun k => okAt sg F i k
theorem okAt_iff (sg : Int) (F : Nat → Int) (i k : Nat) : okAt sg F i k = true ↔ F (6 * i + k) = sg * F (6 * k + i) ∧ (i = k → F (6 * i + k) = 0) := by
  unfold okAt
  rw [Bool.and_eq_true, beq_iff_eq]
  constructor
  · rintro ⟨h1, h2⟩
    refine ⟨h1, fun e => ?_⟩
    subst e
    simpa using h2
  · rintro ⟨h1, h2⟩
    refine ⟨h1, ?_⟩
    by_cases e : i = k
    · rw [h2 e]; simp
    · have : (i == k) = false := by rw [beq_eq_false_iff_ne]; exact e
      rw [this]; rfl
theorem turnB_iff (sg : Int) (F : Nat → Int) (n : Nat) : turnB sg F n = true ↔ ∀ i, i < n → ∀ k, k ≤ i → okAt sg F i k = true := by
  unfold turnB
  rw [List.all_eq_true]
  constructor
  · intro h i hi k hk
    exact List.all_eq_true.1 (h i (List.mem_range.2 hi)) k (List.mem_range.2 (by omega))
  · intro h i hi
    rw [List.all_eq_true]
    intro k hk
    exact h i (List.mem_range.1 hi) k (by have := List.mem_range.1 hk; omega)
theorem turnB_no {sg : Int} {F : Nat → Int} {n i k : Nat} (hi : i < n) (hk : k ≤ i) (h : okAt sg F i k = false) : turnB sg F n = false := by
  rw [Bool.eq_false_iff]
  intro ht
  rw [(turnB_iff sg F n).1 ht i hi k hk] at h
  cases h

theorem skew_is {xss : List (List Int)} (h : tIn xss = true) : skewB (flat xss) = turnB (-1) (flat xss) xss.length := by
  obtain ⟨_, h6, _⟩ := tIn_facts h
  rw [Bool.eq_iff_iff, turnB_iff]
  unfold skewB
  rw [sameB_iff]
  constructor
  · intro hs i hi k hk
    have h1 := hs (6 * k + i) (by omega)
    unfold trF at h1
    rw [show 6 * ((6 * k + i) % 6) + (6 * k + i) / 6 = 6 * i + k by omega] at h1
    rw [okAt_iff]
    refine ⟨by omega, fun e => ?_⟩
    subst e
    omega
  · intro ht p hp
    unfold trF
    by_cases hf : xss.length ≤ p / 6 ∨ xss.length ≤ p % 6
    · rw [flat_far h hf, flat_far h (by omega)]; rfl
    · by_cases hle : p / 6 ≤ p % 6
      · have := ((okAt_iff _ _ _ _).1 (ht (p % 6) (by omega) (p / 6) hle)).1
        rw [show 6 * (p / 6) + p % 6 = p by omega] at this
        omega
      · have := ((okAt_iff _ _ _ _).1 (ht (p / 6) (by omega) (p % 6) (by omega))).1
        rw [show 6 * (p / 6) + p % 6 = p by omega] at this
        omega
theorem even_is {xss : List (List Int)} (h : tIn xss = true) : evenB (flat xss) = turnB 1 (flat xss) xss.length := by
  obtain ⟨_, h6, _⟩ := tIn_facts h
  rw [Bool.eq_iff_iff, turnB_iff]
  unfold evenB
  rw [Bool.and_eq_true, sameB_iff, allOf_iff]
  constructor
  · rintro ⟨hs, hd⟩ i hi k hk
    have h1 := hs (6 * k + i) (by omega)
    unfold trF at h1
    rw [show 6 * ((6 * k + i) % 6) + (6 * k + i) / 6 = 6 * i + k by omega] at h1
    rw [okAt_iff]
    refine ⟨by omega, fun e => ?_⟩
    subst e
    have := hd i (List.mem_range.2 (by omega))
    rwa [beq_iff_eq] at this
  · intro ht
    refine ⟨fun p hp => ?_, fun j hj => ?_⟩
    · unfold trF
      by_cases hf : xss.length ≤ p / 6 ∨ xss.length ≤ p % 6
      · rw [flat_far h hf, flat_far h (by omega)]
      · by_cases hle : p / 6 ≤ p % 6
        · have := ((okAt_iff _ _ _ _).1 (ht (p % 6) (by omega) (p / 6) hle)).1
          rw [show 6 * (p / 6) + p % 6 = p by omega] at this
          omega
        · have := ((okAt_iff _ _ _ _).1 (ht (p / 6) (by omega) (p % 6) (by omega))).1
          rw [show 6 * (p / 6) + p % 6 = p by omega] at this
          omega
    · rw [beq_iff_eq]
      have hj6 := List.mem_range.1 hj
      by_cases hjn : j < xss.length
      · exact ((okAt_iff _ _ _ _).1 (ht j hjn j (Nat.le_refl _))).2 rfl
      · exact flat_far h (by omega)

set_option maxRecDepth 100000 in
set_option maxHeartbeats 4000000 in
theorem turned_any (w : World) (v : Value) (xss : List (List Int)) (h : IntRows w v xss) (ht : tIn xss = true) (sg : Int) (hsg : sg = 1 ∨ sg = -1) :
    Calls Tryd.prog 89 #[v, .int .i64 sg] w fun e w' => e = .returned (.bool (turnB sg (flat xss) xss.length)) ∧ ∃ q, w' = w.drewN q := by
  obtain ⟨h1, h6, hr⟩ := tIn_facts ht
  obtain ⟨A, cap, rfl, hm, hc⟩ := h.at
  have HC := Lib.hid hc
  have HR := Lib.hid hr
  clear hc h hr ht
  unfold maxLen at hm
  go_enter Tryd.func89, Tryd.ntmps89
  go_wp2
  go_loopw [5, 6] (fun i _ wr => ∃ m q : Nat, m ≤ xss.length ∧ i = .int .i64 m ∧ (∀ i, i < m → ∀ k, k ≤ i → okAt sg (flat xss) i k = true) ∧ wr = w.drewN q) (fun i _ _ => xss.length - (intOf i).toNat)
  case atStart => exact ⟨0, 0, by omega, rfl, fun i hi => by omega, rfl⟩
  case round =>
    obtain ⟨m, q, hm1, rfl, hok, rfl⟩ := hrel
    have HOK := Lib.hid hok
    clear hok
    by_cases hlt : m < xss.length
    · have hmi : (m : Int) < (xss.length : Int) := by omega
      go_wp2
      go_loopw [6] (fun k wr => ∃ j q : Nat, j ≤ m + 1 ∧ k = .int .i64 j ∧ (∀ k, k < j → okAt sg (flat xss) m k = true) ∧ wr = w.drewN q) (fun k _ => m + 1 - (intOf k).toNat)
      case atStart => exact ⟨0, q, by omega, rfl, fun k hk => by omega, rfl⟩
      case round =>
        obtain ⟨j, q2, hj, rfl, hok2, rfl⟩ := hrel
        have HOK2 := Lib.hid hok2
        clear hok2
        by_cases hjm : j ≤ m
        · have hji : (j : Int) ≤ (m : Int) := by omega
          have hjn : j < xss.length := by omega
          obtain ⟨b, off, u, hA, hcell, hints⟩ := HC.out m hlt
          obtain ⟨b', off', u', hA', hcell', hints'⟩ := HC.out j hjn
          obtain ⟨rfl, rfl⟩ : b = b' ∧ off = off' := by rw [hA] at hA'; simpa using hA'
          subst hA
          clear hA'
          obtain ⟨A2, cap2, rfl, hm2, hc2⟩ := hints
          obtain ⟨A3, cap3, rfl, hm3, hc3⟩ := hints'
          obtain ⟨b2, off2, rfl, hcell2⟩ := hc2 j (by rw [(HR.out m hlt).1]; omega)
          obtain ⟨b3, off3, rfl, hcell3⟩ := hc3 m (by rw [(HR.out j hjn).1]; omega)
          have hx := (flat_at xss hlt (show j < xss[m].length by rw [(HR.out m hlt).1]; omega) (by omega)).symm
          have hy := (flat_at xss hjn (show m < xss[j].length by rw [(HR.out j hjn).1]; omega) (by omega)).symm
          have bx := (HR.out m hlt).2 j (by rw [(HR.out m hlt).1]; omega)
          have byy := (HR.out j hjn).2 m (by rw [(HR.out j hjn).1]; omega)
          have l2 := (HR.out m hlt).1
          have l3 := (HR.out j hjn).1
          have hj2 : (j : Int) < (xss[m].length : Int) := by omega
          have hm3' : (m : Int) < (xss[j].length : Int) := by omega
          have hm0 : (0 : Int) ≤ (m : Int) := by omega
          have hj0 : (0 : Int) ≤ (j : Int) := by omega
          have hjx : (j : Int) < (xss.length : Int) := by omega
          obtain ⟨n2, hn2⟩ : ∃ n2, xss[m].length = n2 := ⟨_, rfl⟩
          obtain ⟨n3, hn3⟩ : ∃ n3, xss[j].length = n3 := ⟨_, rfl⟩
          obtain ⟨x, hxe⟩ : ∃ x, xss[m][j] = x := ⟨_, rfl⟩
          obtain ⟨y, hye⟩ : ∃ y, xss[j][m] = y := ⟨_, rfl⟩
          obtain ⟨z, hz⟩ : ∃ z, sg * y = z := ⟨_, rfl⟩
          rw [hn2] at hcell hj2
          rw [hn3] at hcell' hm3'
          rw [hxe] at hcell2 hx bx
          rw [hye] at hcell3 hy byy
          have hzb : -30 ≤ z ∧ z ≤ 30 := by rcases hsg with e | e <;> rw [e] at hz <;> omega
          have hz1 : IntKind.i64.wrap z = z := by rw [IntKind.wrap_i64]; omega
          have hz2 := (wrap_eq _).symm.trans hz1
          obtain ⟨r, hr⟩ : ∃ r, okAt sg (flat xss) m j = r := ⟨_, rfl⟩
          have hval : r = (x == z && !(m == j && !(x == 0))) := by rw [← hr]; unfold okAt; rw [← hx, ← hy, hz]
          have hmj : ((m : Int) == (j : Int)) = (m == j) := by
            rw [Bool.eq_iff_iff, beq_iff_eq, beq_iff_eq]; omega
          have HRR := Lib.hid hr
          have HVAL := Lib.hid hval
          have HZ := Lib.hid hz
          clear hx hy bx byy hxe hye hc2 hc3 l2 l3 hn2 hn3 hm2 hm3 hzb hr hval
          cases c1 : (x == z) with
          | false =>
            have e1 : (x != z) = true := by rw [bne, c1]; rfl
            have hrf : okAt sg (flat xss) m j = false := by rw [HRR.out, HVAL.out, c1]; rfl
            have HN := Lib.hid (turnB_no hlt hjm hrf)
            clear c1 hrf
            go_wp2
            go_quiet (fail)
            go_wp2
            go_ret
            exact ⟨ret_bool HN.out.symm, drews⟩
          | true =>
            have e1 : (x != z) = false := by rw [bne, c1]; rfl
            cases c2 : (m == j) with
            | false =>
              rw [c2] at hmj
              have hrt : okAt sg (flat xss) m j = true := by rw [HRR.out, HVAL.out, c1, c2]; rfl
              have HN := Lib.hid hrt
              clear c1 c2 hrt
              go_wp2
              go_quiet (fail)
              go_wp2
              go_roundw
              all_goals first
                | (refine ⟨j + 1, _, by omega, by go_num, fun k hk => ?_, rfl⟩; by_cases e : k = j; (· subst e; exact HN.out); exact HOK2.out k (by omega))
                | (simp [intOf]; omega)
            | true =>
              rw [c2] at hmj
              cases c3 : (x == 0) with
              | true =>
                have e3 : (x != 0) = false := by rw [bne, c3]; rfl
                have hrt : okAt sg (flat xss) m j = true := by rw [HRR.out, HVAL.out, c1, c2, c3]; rfl
                have HN := Lib.hid hrt
                clear c1 c2 c3 hrt
                go_wp2
                go_quiet (fail)
                go_wp2
                go_roundw
                all_goals first
                  | (refine ⟨j + 1, _, by omega, by go_num, fun k hk => ?_, rfl⟩; by_cases e : k = j; (· subst e; exact HN.out); exact HOK2.out k (by omega))
                  | (simp [intOf]; omega)
              | false =>
                have e3 : (x != 0) = true := by rw [bne, c3]; rfl
                have hrf : okAt sg (flat xss) m j = false := by rw [HRR.out, HVAL.out, c1, c2, c3]; rfl
                have HN := Lib.hid (turnB_no hlt hjm hrf)
                clear c1 c2 c3 hrf
                go_wp2
                go_quiet (fail)
                go_wp2
                go_ret
                exact ⟨ret_bool HN.out.symm, drews⟩
        · obtain rfl : j = m + 1 := by omega
          have hjn : ¬ ((m + 1 : Nat) : Int) ≤ (m : Int) := by omega
          go_wp2
          go_roundw
          all_goals first
            | (refine ⟨m + 1, q2, by omega, by go_num, fun i hi k hk => ?_, rfl⟩; by_cases e : i = m; (· subst e; exact HOK2.out k (by omega)); exact HOK.out i (by omega) k hk)
            | (simp [intOf]; omega)
    · obtain rfl : m = xss.length := by omega
      have hyes : turnB sg (flat xss) xss.length = true := (turnB_iff _ _ _).2 HOK.out
      have HY := Lib.hid hyes
      clear hyes
      go_wp2
      go_ret
      exact ⟨ret_bool HY.out.symm, q, rfl⟩

end Go.Proofs.YtfcbhcjgjbcjdacDoor
