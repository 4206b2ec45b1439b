/-
  The specification's l1Reach and l1Parts: what is reached from a node within a set; the parts.
-/
import Derived.Test.YthafhcocgohjaabDoorCore2
import Derived.Test.YthafhcocgohjaabDoorPart1
import Derived.Deep.AppendLies
import Derived.Outline
namespace Go.Proofs.YthafhcocgohjaabDoor
set_option linter.unusedVariables false
set_option linter.unusedSimpArgs false
open Go.RowKit

theorem pass_lt {f : Nat → Nat} (hf : ∀ i, f i < 256) {s : Nat} (hs : s < 256) : ∀ k, pass f k s < 256
  | 0 => hs
  | k + 1 => by
    have ih := pass_lt hf hs k
    rw [pass.eq_2]; split
    · exact or_lt ih (hf k)
    · exact ih
theorem passes_lt {f : Nat → Nat} (hf : ∀ i, f i < 256) {n s : Nat} (hs : s < 256) : ∀ r, passes f n r s < 256
  | 0 => hs
  | r + 1 => pass_lt hf (passes_lt hf hs r) n
theorem pass_yes {f : Nat → Nat} {k s : Nat} (h : (pass f k s).testBit k = true) : pass f (k + 1) s = pass f k s ||| f k := by rw [pass.eq_2, if_pos h]
theorem pass_no {f : Nat → Nat} {k s : Nat} (h : (pass f k s).testBit k = false) : pass f (k + 1) s = pass f k s := by rw [pass.eq_2, h]; simp

set_option maxRecDepth 100000 in
set_option maxHeartbeats 1000000 in
theorem l1Reach_any (w : World) (u : Value) (xs : List Int) (h : Ints w u xs) (v W : Nat) (h8 : xs.length ≤ 8) (hv : v < 8) (hW : W < 256) (hrow : ∀ i (hi : i < xs.length), xs[i] = (gfun xs i : Int) ∧ gfun xs i < 256) :
    Calls Tryd.prog 124 #[u, .int .i64 (v : Int), .int .i64 (W : Int)] w fun e w' => e = .returned (.int .i64 (passes (fun i => gfun xs i &&& W) xs.length xs.length (2 ^ v) : Int)) ∧ w = w' := by
  obtain ⟨fw, hfw⟩ : ∃ fw : Nat → Nat, (fun i => gfun xs i &&& W) = fw := ⟨_, rfl⟩
  have hfl : ∀ i, fw i < 256 := fun i => by rw [← hfw]; exact Nat.lt_of_le_of_lt Nat.and_le_right hW
  have hfi : ∀ i, fw i = gfun xs i &&& W := fun i => by rw [← hfw]
  rw [hfw]
  have hpv : 2 ^ v < 256 := pow7_lt hv
  obtain ⟨A, cap, rfl, hm, hc⟩ := h
  have HC := Lib.hid hc
  have HROW := Lib.hid hrow
  have HFL := Lib.hid hfl
  have HFI := Lib.hid hfi
  have hv' : (v : Int) < 8 := by omega
  have hpw := pow_wrap (v := v) (by omega)
  clear hc hrow hfl hfi hfw
  unfold maxLen at hm
  go_enter Tryd.func124, Tryd.ntmps124
  go_wp2
  simp only [hpw]
  go_loop [7, 8, 9] (fun s i _ => ∃ k : Nat, k ≤ xs.length ∧ i = .int .i64 k ∧ s = .int .i64 (passes fw xs.length k (2 ^ v) : Int)) (fun _ i _ => xs.length - (intOf i).toNat)
  case atStart => exact ⟨0, by omega, rfl, rfl⟩
  case round =>
    clear hpw
    obtain ⟨k, hk, rfl, rfl⟩ := hrel
    have hP := passes_lt HFL.out (n := xs.length) hpv k
    obtain ⟨P, hPe⟩ : ∃ P, passes fw xs.length k (2 ^ v) = P := ⟨_, rfl⟩
    rw [hPe] at hP ⊢
    have hnx : passes fw xs.length (k + 1) (2 ^ v) = pass fw xs.length P := by rw [← hPe]; rfl
    have HNX := Lib.hid hnx
    have HPE := Lib.hid hPe
    clear hnx hPe
    by_cases hlt : k < xs.length
    · go_wp2
      go_loop [7, 9] (fun s a => ∃ j : Nat, j ≤ xs.length ∧ a = .int .i64 j ∧ s = .int .i64 (pass fw j P : Int)) (fun _ a => xs.length - (intOf a).toNat)
      case atStart => exact ⟨0, by omega, rfl, rfl⟩
      case round =>
        obtain ⟨j, hj, rfl, rfl⟩ := hrel
        have hQ := pass_lt HFL.out hP j
        by_cases hltj : j < xs.length
        · obtain ⟨b, off, rfl, hcell⟩ := HC.out j hltj
          obtain ⟨hx, hx256⟩ := HROW.out j hltj
          rw [hx] at hcell
          have hbit := shr_bit (pass fw j P) j hQ
          have hjj := HFI.out j
          cases ht : (pass fw j P).testBit j with
          | true =>
            have hyes := pass_yes ht
            obtain ⟨Q, hQe⟩ : ∃ Q, pass fw j P = Q := ⟨_, rfl⟩
            rw [hQe] at hQ hbit hyes ht ⊢
            rw [ht] at hbit
            have hand := and64 (gfun xs j) W (by omega) (by omega)
            rw [← hjj] at hand
            have hfj := HFL.out j
            have hor := or64 Q (fw j) (by omega) (by omega)
            rw [← hyes] at hor
            have hj8 : (j : Int) < 8 := by omega
            clear hx hjj hyes ht hQe
            go_wp2
            go_round
            case rel => exact ⟨j + 1, by omega, by go_num, rfl⟩
            case measure => simp [intOf]; omega
          | false =>
            have hno := pass_no ht
            obtain ⟨Q, hQe⟩ : ∃ Q, pass fw j P = Q := ⟨_, rfl⟩
            rw [hQe] at hQ hbit hno ht ⊢
            rw [ht] at hbit
            have hj8 : (j : Int) < 8 := by omega
            have HNO := Lib.hid hno
            clear hx hjj hno ht hQe
            go_wp2
            go_round
            case rel => exact ⟨j + 1, by omega, by go_num, by rw [HNO.out]⟩
            case measure => simp [intOf]; omega
        · obtain rfl : j = xs.length := by omega
          go_wp2
          go_round
          case rel => exact ⟨k + 1, by omega, by go_num, by rw [HNX.out]⟩
          case measure => simp [intOf]; omega
    · obtain rfl : k = xs.length := by omega
      go_wp2
      go_ret
      exact ⟨by rw [HPE.out]; rfl, rfl⟩


theorem symF_of {xs : List Int} (h8 : xs.length ≤ 8) (hok : okTo xs xs.length = true) (hm : mutB xs.length (gfun xs) = true) : SymF (gfun xs) := by
  intro i j hij
  have hi : i < xs.length := by
    rcases Nat.lt_or_ge i xs.length with h | h
    · exact h
    · rw [gfun_far h] at hij; simp at hij
  have hj : j < xs.length := bit_lt_of_lt_pow (gfun_pow hok i) hij
  unfold mutB at hm
  have h1 := List.all_eq_true.1 hm i (List.mem_range.2 hi)
  unfold mutRow at h1
  exact List.all_eq_true.1 h1 ⟨j, by omega⟩ (mem_bitsOf.2 hij)

set_option maxRecDepth 100000 in
set_option maxHeartbeats 1000000 in
theorem l1Parts_any (w : World) (u : Value) (xs : List Int) (h : Ints w u xs) (h8 : xs.length ≤ 8) (hsy : SymF (gfun xs)) (hpw : ∀ i, gfun xs i < 2 ^ xs.length) (hrow : ∀ i (hi : i < xs.length), xs[i] = (gfun xs i : Int) ∧ gfun xs i < 256) :
    Calls Tryd.prog 118 #[u, .int .i64 ((2 ^ xs.length - 1 : Nat) : Int)] w fun e w' => ∃ r, e = .returned r ∧ Below w.heap.size w w' ∧
      w'.ownsRow w.heap.size 3 1 r (partsTo (gfun xs) xs.length xs.length).1.length (vals ((partsTo (gfun xs) xs.length xs.length).1.map fun (r : Nat) => (r : Int))) := by
  obtain ⟨i0, hi, hz0, hz1, hz2⟩ := info_parts infoInt
  have hv := h
  have hpc := pow8_le (v := xs.length) (by omega)
  obtain ⟨A, cap, rfl, hm, _⟩ := h
  have HV := Lib.hid hv
  have HROW := Lib.hid hrow
  have HPW := Lib.hid hpw
  have HSY := Lib.hid hsy
  have h0 := restOf_zero h8
  have H0 := Lib.hid h0
  clear hv hrow hpw hsy h0
  unfold maxLen at hm
  go_enter Tryd.func118, Tryd.ntmps118
  go_wp2
  go_loopw [1, 5, 6] (fun wi r i wr => ∃ k : Nat, k ≤ xs.length ∧ i = .int .i64 k ∧ wi = .int .i64 (restOf xs.length (partsTo (gfun xs) xs.length k).2 : Int) ∧ Below w.heap.size w wr ∧
      wr.ownsRow w.heap.size 3 1 r (partsTo (gfun xs) xs.length k).1.length (vals ((partsTo (gfun xs) xs.length k).1.map fun (r : Nat) => (r : Int))))
    (fun _ _ i _ => xs.length - (intOf i).toNat)
  case atStart => exact ⟨0, by omega, rfl, by rw [← H0.out]; rfl, (Below.refl _ _).alloc (Nat.le_refl _) _, owns_empty w _ (Nat.le_refl _)⟩
  case round =>
    obtain ⟨k, hk, rfl, rfl, hb, ho⟩ := hrel
    by_cases hlt : k < xs.length
    · obtain ⟨hs1, hs2, _, hlen, _⟩ := parts_facts HPW.out h8 k hk
      have hs256 : (partsTo (gfun xs) xs.length k).2 < 256 := by omega
      have hr256 := restOf_lt xs.length (seen := (partsTo (gfun xs) xs.length k).2)
      have hbit := shr_bit (restOf xs.length (partsTo (gfun xs) xs.length k).2) k hr256
      have hki : (k : Int) < (xs.length : Int) := by omega
      have hk8 : (k : Int) < 8 := by omega
      cases ht : (partsTo (gfun xs) xs.length k).2.testBit k with
      | true =>
        have hno : (restOf xs.length (partsTo (gfun xs) xs.length k).2).testBit k = false := by
          rw [Bool.eq_false_iff]; intro hh
          have := (restOf_bit h8 hs256).1 hh
          rw [ht] at this; cases this.2
        rw [hno] at hbit
        have hold := partsTo_old ht
        have HOLD := Lib.hid hold
        have HO := Lib.hid ho
        obtain ⟨R, hRe⟩ : ∃ R, restOf xs.length (partsTo (gfun xs) xs.length k).2 = R := ⟨_, rfl⟩
        rw [hRe] at hbit ⊢
        have HRE := Lib.hid hRe
        clear hs1 hs2 hno ht hold ho hRe hs256 hr256
        go_wp2
        go_roundw
        case rel => exact ⟨k + 1, by omega, by go_num, by rw [HOLD.out, HRE.out], hb, by rw [HOLD.out]; exact HO.out⟩
        case measure => simp [intOf]; omega
      | false =>
        have hyes : (restOf xs.length (partsTo (gfun xs) xs.length k).2).testBit k = true := (restOf_bit h8 hs256).2 ⟨hlt, ht⟩
        rw [hyes] at hbit
        have hnew := partsTo_new ht
        have hreach := reach_is HPW.out h8 hlt
        have hwith := reach_within HPW.out h8 HSY.out hlt hs1 hs2 ht
        have hcall := l1Reach_any wr _ xs (HV.out.below hb) k (restOf xs.length (partsTo (gfun xs) xs.length k).2) h8 (by omega) hr256 HROW.out
        rw [hwith] at hcall
        have hmore := restOf_more h8 hs256 hreach.1
        have hnv := andNot64 (restOf xs.length (partsTo (gfun xs) xs.length k).2) (reach (gfun xs) xs.length k) hr256 hreach.1
        rw [hmore] at hnv
        have hn2 : (partsTo (gfun xs) xs.length (k + 1)).2 = (partsTo (gfun xs) xs.length k).2 ||| reach (gfun xs) xs.length k := by rw [hnew]
        have hn1 : (partsTo (gfun xs) xs.length (k + 1)).1 = (partsTo (gfun xs) xs.length k).1 ++ [reach (gfun xs) xs.length k] := by rw [hnew]
        rw [← hn2] at hnv
        obtain ⟨R, hRe⟩ : ∃ R, restOf xs.length (partsTo (gfun xs) xs.length k).2 = R := ⟨_, rfl⟩
        obtain ⟨Q, hQe⟩ : ∃ Q, reach (gfun xs) xs.length k = Q := ⟨_, rfl⟩
        rw [hRe] at hbit hcall hnv ⊢
        rw [hQe] at hcall hnv hn1
        have HC := Lib.hid hcall
        have HN1 := Lib.hid hn1
        have hpl : ((partsTo (gfun xs) xs.length k).1.map fun (r : Nat) => (r : Int)).length = (partsTo (gfun xs) xs.length k).1.length := by simp
        clear hs1 hs2 hyes ht hnew hreach hwith hcall hmore hn2 hn1 hRe hQe hs256 hr256
        go_wp2_with (first
          | (go_at_call 124; refine HC.out.mono ?_; rintro e w' ⟨rfl, rfl⟩)
          | (refine wpList_append_lies _ rfl (.tmp 24) (.tmp 26) 23 rfl w.heap.size 3 i0 (.int .i64 0) 1 8 Tryd.underlying23 hi hz0 hz1 hz2 rfl (by decide) _ _ _ rfl (ho.alloc _) ⟨wr.heap.size, 0, none⟩ 1 1 [.int .i64 (Q : Int)] rfl rfl (cell_one_new _ _ _) (by simp [Value.oneCell']) (by decide) (by unfold maxLen; omega) (by omega) (by have := hb.size; simp; omega) _ rfl ?_; intro g cap w1 hown hgrow _ _))
        go_wp2
        go_roundw
        case rel =>
          refine ⟨k + 1, by omega, by go_num, rfl, ?_, ?_⟩
          · exact (hb.alloc hb.size _).grown hgrow (by have := hb.size; simp; omega) (fun j hj => (ho.lt j hj).1)
          · rw [HN1.out]; simpa using hown
        case measure => simp [intOf]; omega
    · obtain rfl : k = xs.length := by omega
      have HO := Lib.hid ho
      clear ho
      go_wp2
      go_ret
      exact ⟨_, rfl, hb, HO.out⟩

end Go.Proofs.YthafhcocgohjaabDoor
