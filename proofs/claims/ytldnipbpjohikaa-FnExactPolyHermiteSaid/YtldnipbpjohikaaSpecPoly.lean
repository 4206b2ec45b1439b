/-
  spec.PolyIn, l3Done, l2Add, l3Small, l3Times: the specification's polynomials.
-/
import Derived.Test.YtldnipbpjohikaaPoly
import Derived.Test.YtldnipbpjohikaaGives
import Derived.Test.YtldnipbpjohikaaNum
import Derived.Test.YtldnipbpjohikaaSets
import Derived.Deep.QuietTactic
import Derived.BigQuiet
import Derived.IntWalk
import Derived.Outline
import Derived.Deep.RegionLaw
namespace Go.Proofs.Ytldnipbpjohikaa
open Go.RowKit

/-- A new list of integers with an address. -/
def GivesAt (w : World) (xs : List Int) (e : Ending) (w' : World) : Prop :=
  ∃ g cap, e = .returned (.slice (some ⟨g, 0, none⟩) xs.length cap) ∧ Below w.heap.size w w' ∧ Owns w' w.heap.size (.slice (some ⟨g, 0, none⟩) xs.length cap) xs

/-- The last number, where there is one. -/
theorem ends_last {xs : List Int} (h : 1 ≤ xs.length) : ends xs = decide (xs[xs.length - 1] ≠ 0) := by
  unfold ends
  have hne : xs ≠ [] := by intro e; rw [e] at h; simp at h
  have e2 : xs.getD (xs.length - 1) 0 = xs[xs.length - 1] := by
    rw [List.getD_eq_getElem?_getD, List.getElem?_eq_getElem (by omega)]; rfl
  rw [e2]
  simp [hne]

set_option maxHeartbeats 2000000 in
theorem specPIn_any (w : World) (v : Value) (xs : List Int) (h : Ints w v xs) :
    Calls Try.prog 11 #[v] w fun e w' => e = .returned (.bool (okPoly xs)) ∧ w = w' := by
  obtain ⟨A, cap, rfl, hm, hc⟩ := h
  unfold maxLen at hm
  have HC := Lib.hid hc
  clear hc
  go_enter Try.func11, Try.ntmps11
  go_wp2
  go_loop [3] (fun i => ∃ k : Nat, k ≤ xs.length ∧ i = .int .i64 k ∧ within 1000000000 (xs.take k) = true) (fun i => xs.length - (intOf i).toNat)
  case atStart => exact ⟨0, by omega, rfl, rfl⟩
  case round =>
    obtain ⟨k, hk, rfl, hw⟩ := hrel
    have HW := Lib.hid hw
    clear hw
    by_cases hlt : k < xs.length
    · obtain ⟨b, off, rfl, hcell⟩ := HC.out k hlt
      by_cases hin : -1000000000 ≤ xs[k] ∧ xs[k] ≤ 1000000000
      · have hyes : within 1000000000 (xs.take (k + 1)) = true := by rw [within_take_succ hlt, HW.out, decide_eq_true hin]; rfl
        have HY := Lib.hid hyes
        have HL := Lib.hid (fun W => l6In_yes xs[k] (-1000000000) 1000000000 hin.1 hin.2 W)
        clear hyes hin
        go_wp2_with (go_at_call 31; refine (HL.out _).mono ?_; rintro e w' ⟨rfl, rfl⟩)
        go_round
        case rel => exact ⟨k + 1, by omega, by go_num, HY.out⟩
        case measure => simp [intOf]; omega
      · have hno : okPoly xs = false := by unfold okPoly; rw [within_no hlt hin]; simp
        have HN := Lib.hid hno
        have HL := Lib.hid (fun W => l6In_no xs[k] (-1000000000) 1000000000 (by omega) W)
        clear hno hin
        go_wp2_with (go_at_call 31; refine (HL.out _).mono ?_; rintro e w' ⟨rfl, rfl⟩)
        go_ret
        exact ⟨ret_bool HN.out.symm, rfl⟩
    · obtain rfl : k = xs.length := by omega
      have hyes : within 1000000000 xs = true := by have := HW.out; rwa [List.take_of_length_le (Nat.le_refl _)] at this
      by_cases hl : xs.length ≤ 21
      · have hok : okPoly xs = ends xs := by unfold okPoly; rw [hyes, decide_eq_true hl]; rfl
        by_cases h0 : xs.length = 0
        · obtain rfl : xs = [] := by simpa using h0
          have HR := Lib.hid (show okPoly [] = true from by decide)
          clear hyes h0 hok HW hl
          go_wp2
          go_ret
          exact ⟨ret_bool HR.out.symm, rfl⟩
        · have h1 : 1 ≤ xs.length := by omega
          rw [ends_last h1] at hok
          obtain ⟨b, off, rfl, hcell⟩ := HC.out (xs.length - 1) (by omega)
          obtain ⟨z, hz⟩ : ∃ z, xs[xs.length - 1] = z := ⟨_, rfl⟩
          rw [hz] at hcell hok
          have HR := Lib.hid hok
          have he0 : ((xs.length : Int) == 0) = false := by rw [beq_eq_false_iff_ne]; omega
          clear hyes hok hz HW h0
          by_cases hz : z = 0
          · subst hz
            go_wp2
            go_ret
            exact ⟨ret_bool (by rw [HR.out]; rfl), rfl⟩
          · have hne : (z != 0) = true := by simpa using hz
            have HZ := Lib.hid hz
            clear hz
            go_wp2
            go_ret
            exact ⟨ret_bool (by rw [HR.out]; exact (decide_eq_true HZ.out).symm), rfl⟩
      · have hno : okPoly xs = false := by unfold okPoly; rw [decide_eq_false hl]; rfl
        have HN := Lib.hid hno
        have hl' : ¬ (xs.length : Int) ≤ 21 := by omega
        clear hno hyes hl HW
        go_wp2
        go_ret
        exact ⟨ret_bool HN.out.symm, rfl⟩

set_option maxHeartbeats 2000000 in
theorem l3Done_any (w : World) (b off cap : Nat) (xs : List Int) (h : Ints w (.slice (some ⟨b, off, none⟩) xs.length cap) xs) (hl : xs.length ≤ 100) (hcap : xs.length ≤ cap) (hcm : cap ≤ maxLen) :
    Calls Try.prog 33 #[.slice (some ⟨b, off, none⟩) xs.length cap] w (GivesInts w (okPoly (trim xs)) (toldList (trim xs))) := by
  obtain ⟨i0, hi, hz0, hz1, hz2⟩ := info_parts infoInt
  obtain ⟨A', cap', he, hm, hc⟩ := h
  cases he
  unfold maxLen at hcm
  have hcells : ∀ j (hj : j < xs.length), w.cell? ⟨b, off + j, none⟩ = some (.int .i64 xs[j]) := by
    intro j hj
    obtain ⟨b', off', he, hcell⟩ := hc j hj
    cases he
    exact hcell
  have HC := Lib.hid hcells
  clear hc hm hcells
  go_enter Try.func33, Try.ntmps33
  go_wp2
  go_loop [4] (fun i => ∃ k : Nat, k ≤ xs.length ∧ i = .int .i64 k ∧ trim (xs.take k) = trim xs) (fun i => (intOf i).toNat)
  case atStart => exact ⟨xs.length, Nat.le_refl _, rfl, by rw [List.take_of_length_le (Nat.le_refl _)]⟩
  case round =>
    obtain ⟨k, hk, rfl, ht⟩ := hrel
    have HT := Lib.hid ht
    clear ht
    by_cases hz : 1 ≤ k ∧ co xs (k - 1) = 0
    · obtain ⟨h1, hz⟩ := hz
      have hcell := HC.out (k - 1) (by omega)
      rw [← co_at (by omega), hz] at hcell
      have hnext : trim (xs.take (k - 1)) = trim xs := by
        rw [← HT.out]
        have e : k = k - 1 + 1 := by omega
        conv => rhs; rw [e]
        exact (trim_take0 (by omega) (by rw [← co_at (by omega)]; exact hz)).symm
      have HN := Lib.hid hnext
      clear hnext hz
      go_wp2
      go_round
      case rel => exact ⟨k - 1, by omega, by go_num, HN.out⟩
      case measure => simp [intOf]; omega
    · have hstay : trim xs = xs.take k := by
        rw [← HT.out]
        by_cases h1 : 1 ≤ k
        · have hz' : co xs (k - 1) ≠ 0 := fun e => hz ⟨h1, e⟩
          have e : k = k - 1 + 1 := by omega
          rw [e]
          exact trim_take (by omega) (by rw [← co_at (by omega)]; exact hz')
        · have : k = 0 := by omega
          rw [this]; rfl
      have hlk : (xs.take k).length = k := by rw [List.length_take]; omega
      have hnews : ∀ (j : Nat) (u : Value), (vals (xs.take k))[j]? = some u → (w.alloc (.cells #[] 3)).cell? ((⟨b, off, none⟩ : Addr).add j) = some u := by
        intro j u hu
        have hj : j < k := by have := (List.getElem?_eq_some_iff.1 hu).1; simp at this; omega
        have hu' : u = .int .i64 xs[j] := by
          have : (vals (xs.take k))[j]? = some (.int .i64 xs[j]) := by simp [hj]
          rw [this] at hu; exact (Option.some.inj hu).symm
        have hcell := HC.out j (by omega)
        have hadd : (⟨b, off, none⟩ : Addr).add j = ⟨b, off + j, none⟩ := by unfold Addr.add; split <;> simp_all
        rw [hadd, World.cell?_alloc_past _ _ _ (World.block_lt_of_cell? w _ hcell), hcell, hu']
      have hn1 : (vals (xs.take k)).length = k * 1 := by simp; omega
      have h11 : ∀ u ∈ vals (xs.take k), u.oneCell' = true := by intro u hu; simp only [vals, List.mem_map] at hu; obtain ⟨x, _, rfl⟩ := hu; rfl
      have hown0 := owns_empty w w.heap.size (Nat.le_refl _)
      have HS := Lib.hid hstay
      have HNW := Lib.hid hnews
      have HN1 := Lib.hid hn1
      have H11 := Lib.hid h11
      have HLK := Lib.hid hlk
      clear hstay hnews hn1 h11 hlk
      have hk63 : 0 + k ≤ maxLen := by unfold maxLen; omega
      by_cases h1 : 1 ≤ k
      · have hcell := HC.out (k - 1) (by omega)
        have hne : (xs[k - 1] == 0) = false := by
          rw [beq_eq_false_iff_ne]; intro e; exact hz ⟨h1, by rw [co_at (by omega)]; exact e⟩
        clear hz
        go_wp2_with (at_builtin; refine wpList_append_own _ rfl _ _ 22 rfl w.heap.size 3 i0 (.int .i64 0) 1 8 Try.underlying22 hi hz0 hz1 hz2 rfl (by decide) (.slice (some ⟨w.heap.size, 0, none⟩) 0 0) 0 [] rfl hown0 ⟨b, off, none⟩ k cap (vals (xs.take k)) rfl HN1.out HNW.out H11.out hk63 (by omega) (by simp) ?_; intro v' w1 hown hgrow _)
        have hb1 : Below w.heap.size w w1 := ((Below.refl _ _).alloc (Nat.le_refl _) _).grown hgrow (by simp) (fun k hk => by cases hk; exact Nat.le_refl _)
        have ho1 : Owns w1 w.heap.size v' (xs.take k) := by
          show World.ownsRow _ _ _ _ _ (xs.take k).length _
          rw [HLK.out]
          simpa using hown
        have HO1 := Lib.hid ho1
        clear hown hgrow ho1
        have hp := specPIn_any w1 v' _ (ints_of_owns HO1.out)
        cases hq : okPoly (xs.take k) with
        | true =>
          rw [hq] at hp
          have HQ := Lib.hid hq
          clear hq
          refine hp.mono ?_
          clear hp
          rintro e w' ⟨rfl, rfl⟩
          go_wp2
          go_ret2
          unfold GivesInts toldList
          rw [HS.out, HQ.out]
          exact ⟨_, rfl, hb1, by rw [if_pos rfl]; exact HO1.out⟩
        | false =>
          rw [hq] at hp
          have HQ := Lib.hid hq
          clear hq
          refine hp.mono ?_
          clear hp
          rintro e w' ⟨rfl, rfl⟩
          go_wp2
          go_ret2
          unfold GivesInts toldList
          rw [HS.out, HQ.out]
          exact ⟨_, rfl, hb1.alloc hb1.size _, by rw [if_neg (by simp)]; exact owns_empty w1 _ hb1.size⟩
      · have hk0 : ¬ 0 < (k : Int) := by omega
        clear hz
        go_wp2_with (at_builtin; refine wpList_append_own _ rfl _ _ 22 rfl w.heap.size 3 i0 (.int .i64 0) 1 8 Try.underlying22 hi hz0 hz1 hz2 rfl (by decide) (.slice (some ⟨w.heap.size, 0, none⟩) 0 0) 0 [] rfl hown0 ⟨b, off, none⟩ k cap (vals (xs.take k)) rfl HN1.out HNW.out H11.out hk63 (by omega) (by simp) ?_; intro v' w1 hown hgrow _)
        have hb1 : Below w.heap.size w w1 := ((Below.refl _ _).alloc (Nat.le_refl _) _).grown hgrow (by simp) (fun k hk => by cases hk; exact Nat.le_refl _)
        have ho1 : Owns w1 w.heap.size v' (xs.take k) := by
          show World.ownsRow _ _ _ _ _ (xs.take k).length _
          rw [HLK.out]
          simpa using hown
        have HO1 := Lib.hid ho1
        clear hown hgrow ho1
        have hp := specPIn_any w1 v' _ (ints_of_owns HO1.out)
        cases hq : okPoly (xs.take k) with
        | true =>
          rw [hq] at hp
          have HQ := Lib.hid hq
          clear hq
          refine hp.mono ?_
          clear hp
          rintro e w' ⟨rfl, rfl⟩
          go_wp2
          go_ret2
          unfold GivesInts toldList
          rw [HS.out, HQ.out]
          exact ⟨_, rfl, hb1, by rw [if_pos rfl]; exact HO1.out⟩
        | false =>
          rw [hq] at hp
          have HQ := Lib.hid hq
          clear hq
          refine hp.mono ?_
          clear hp
          rintro e w' ⟨rfl, rfl⟩
          go_wp2
          go_ret2
          unfold GivesInts toldList
          rw [HS.out, HQ.out]
          exact ⟨_, rfl, hb1.alloc hb1.size _, by rw [if_neg (by simp)]; exact owns_empty w1 _ hb1.size⟩

set_option maxHeartbeats 2000000 in
theorem l3Small_any (w : World) (v : Value) (xs : List Int) (h : Ints w v xs) :
    Calls Try.prog 37 #[v] w fun e w' => e = .returned (.bool (okPoly xs && within 100000 xs)) ∧ w = w' := by
  have HP := Lib.hid (specPIn_any w v xs h)
  obtain ⟨A, cap, rfl, hm, hc⟩ := h
  unfold maxLen at hm
  have HC := Lib.hid hc
  clear hc
  go_enter Try.func37, Try.ntmps37
  go_wp2
  go_loop [3] (fun i => ∃ k : Nat, k ≤ xs.length ∧ i = .int .i64 k ∧ within 100000 (xs.take k) = true) (fun i => xs.length - (intOf i).toNat)
  case atStart => exact ⟨0, by omega, rfl, rfl⟩
  case round =>
    obtain ⟨k, hk, rfl, hw⟩ := hrel
    have HW := Lib.hid hw
    clear hw
    by_cases hlt : k < xs.length
    · obtain ⟨b, off, rfl, hcell⟩ := HC.out k hlt
      by_cases hin : -100000 ≤ xs[k] ∧ xs[k] ≤ 100000
      · have hyes : within 100000 (xs.take (k + 1)) = true := by rw [within_take_succ hlt, HW.out, decide_eq_true hin]; rfl
        have HY := Lib.hid hyes
        have HL := Lib.hid (fun W => l6In_yes xs[k] (-100000) 100000 hin.1 hin.2 W)
        clear hyes hin
        go_wp2_with (go_at_call 31; refine (HL.out _).mono ?_; rintro e w' ⟨rfl, rfl⟩)
        go_round
        case rel => exact ⟨k + 1, by omega, by go_num, HY.out⟩
        case measure => simp [intOf]; omega
      · have hno : (okPoly xs && within 100000 xs) = false := by rw [within_no hlt hin]; simp
        have HN := Lib.hid hno
        have HL := Lib.hid (fun W => l6In_no xs[k] (-100000) 100000 (by omega) W)
        clear hno hin
        go_wp2_with (go_at_call 31; refine (HL.out _).mono ?_; rintro e w' ⟨rfl, rfl⟩)
        go_ret
        exact ⟨ret_bool HN.out.symm, rfl⟩
    · obtain rfl : k = xs.length := by omega
      have hyes : within 100000 xs = true := by have := HW.out; rwa [List.take_of_length_le (Nat.le_refl _)] at this
      have hr : (okPoly xs && within 100000 xs) = okPoly xs := by rw [hyes]; simp
      have HR := Lib.hid hr
      clear hyes hr HW
      go_wp2_with (go_at_call 11; refine HP.out.mono ?_; rintro e w' ⟨rfl, rfl⟩)
      go_ret
      exact ⟨ret_bool HR.out.symm, rfl⟩

end Go.Proofs.Ytldnipbpjohikaa
