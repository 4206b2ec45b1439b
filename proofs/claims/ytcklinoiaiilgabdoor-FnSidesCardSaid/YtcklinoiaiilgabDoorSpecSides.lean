/-
  The specification's l1Sides.
-/
import Derived.Test.YtcklinoiaiilgabDoorSpecParts
import Derived.Test.YtcklinoiaiilgabDoorNum
namespace Go.Proofs.YtcklinoiaiilgabDoor
set_option linter.unusedVariables false
set_option linter.unusedSimpArgs false
open Go.RowKit

theorem spass_lt {f : Nat → Nat} (hf : ∀ i, f i < 256) {s : Nat × Nat} (h1 : s.1 < 256) (h2 : s.2 < 256) : ∀ k, (spass f k s).1 < 256 ∧ (spass f k s).2 < 256
  | 0 => ⟨h1, h2⟩
  | k + 1 => by
    obtain ⟨i1, i2⟩ := spass_lt hf h1 h2 k
    simp only [spass]
    generalize hr : (if (spass f k s).1.testBit k then (spass f k s).2 ||| f k else (spass f k s).2) = r
    have hr2 : r < 256 := by
      rw [← hr]; split
      · exact or_lt i2 (hf k)
      · exact i2
    refine ⟨?_, hr2⟩
    show (if _ then _ else _) < 256
    split
    · exact or_lt i1 (hf k)
    · exact i1
theorem spasses_lt {f : Nat → Nat} (hf : ∀ i, f i < 256) {n : Nat} {s : Nat × Nat} (h1 : s.1 < 256) (h2 : s.2 < 256) : ∀ r, (spasses f n r s).1 < 256 ∧ (spasses f n r s).2 < 256
  | 0 => ⟨h1, h2⟩
  | r + 1 => spass_lt hf (spasses_lt hf h1 h2 r).1 (spasses_lt hf h1 h2 r).2 n
theorem sidesTo_lt {f : Nat → Nat} (hf : ∀ i, f i < 256) {n : Nat} : ∀ k, k ≤ 8 → (sidesTo f n k).1 < 256 ∧ (sidesTo f n k).2 < 256
  | 0, _ => by simp [sidesTo]
  | k + 1, hk => by
    obtain ⟨i1, i2⟩ := sidesTo_lt hf (n := n) k (by omega)
    rw [sidesTo.eq_2]
    split
    · exact ⟨i1, i2⟩
    · exact spasses_lt (s := ((sidesTo f n k).1 ||| 2 ^ k, (sidesTo f n k).2)) hf (with_lt (v := k) i1 (by omega)) i2 n

/-- What a round does to the right side, then to the left one. -/
theorem spass_right {f : Nat → Nat} {k : Nat} {s : Nat × Nat} : (spass f (k + 1) s).2 = if (spass f k s).1.testBit k = true then (spass f k s).2 ||| f k else (spass f k s).2 := rfl
theorem spass_left {f : Nat → Nat} {k : Nat} {s : Nat × Nat} : (spass f (k + 1) s).1 = if (spass f (k + 1) s).2.testBit k = true then (spass f k s).1 ||| f k else (spass f k s).1 := rfl

set_option maxHeartbeats 2000000 in
theorem l1Sides_any (w : World) (u : Value) (xs : List Int) (h : Ints w u xs) (h8 : xs.length ≤ 8) (hrow : ∀ i (hi : i < xs.length), xs[i] = (gfun xs i : Int) ∧ gfun xs i < 256) (hfl : ∀ i, gfun xs i < 256) (b : Bool)
    (hb : decide ((sidesTo (gfun xs) xs.length xs.length).1 &&& (sidesTo (gfun xs) xs.length xs.length).2 = 0) = b) :
    Calls Tryd.prog 87 #[u] w fun e w' => e = .returned (.tuple #[.int .i64 ((sidesTo (gfun xs) xs.length xs.length).1 : Int), .bool b]) ∧ w = w' := by
  obtain ⟨A, cap, rfl, hm, hc⟩ := h
  obtain ⟨f, hf⟩ : ∃ f, gfun xs = f := ⟨_, rfl⟩
  rw [hf] at hrow hfl hb ⊢
  have HC := Lib.hid hc
  have HROW := Lib.hid hrow
  have HFL := Lib.hid hfl
  have HB := Lib.hid hb
  clear hc hrow hfl hb hf
  unfold maxLen at hm
  go_enter Tryd.func87, Tryd.ntmps87
  go_wp2
  go_loop [4, 5, 6, 7, 8] (fun le ri i _ _ => ∃ k : Nat, k ≤ xs.length ∧ i = .int .i64 k ∧ le = .int .i64 ((sidesTo f xs.length k).1 : Int) ∧ ri = .int .i64 ((sidesTo f xs.length k).2 : Int)) (fun _ _ i _ _ => xs.length - (intOf i).toNat)
  case atStart => exact ⟨0, by omega, rfl, rfl, rfl⟩
  case round =>
    obtain ⟨k, hk, rfl, rfl, rfl⟩ := hrel
    obtain ⟨i1, i2⟩ := sidesTo_lt HFL.out (n := xs.length) k (by omega)
    obtain ⟨L, hL⟩ : ∃ L, (sidesTo f xs.length k).1 = L := ⟨_, rfl⟩
    obtain ⟨R, hR⟩ : ∃ R, (sidesTo f xs.length k).2 = R := ⟨_, rfl⟩
    rw [hL] at i1 ⊢
    rw [hR] at i2 ⊢
    have hor := or64 L R (by omega) (by omega)
    by_cases hlt : k < xs.length
    · have hLR := or_lt i1 i2
      have hbit := shr_bit (L ||| R) k hLR
      have hk8 : (k : Int) < 8 := by omega
      cases ht : (L ||| R).testBit k with
      | true =>
        have hnx : sidesTo f xs.length (k + 1) = sidesTo f xs.length k := by rw [sidesTo.eq_2, hL, hR, if_pos ht]
        rw [ht] at hbit
        have H1 : Hid ((sidesTo f xs.length (k + 1)).1 = L) := Lib.hid (by rw [hnx, hL])
        have H2 : Hid ((sidesTo f xs.length (k + 1)).2 = R) := Lib.hid (by rw [hnx, hR])
        obtain ⟨T, hT⟩ : ∃ T, L ||| R = T := ⟨_, rfl⟩
        rw [hT] at hor hbit
        clear hnx hL hR ht hT hLR
        go_wp2
        go_round
        case rel => exact ⟨k + 1, by omega, by go_num, by rw [H1.out], by rw [H2.out]⟩
        case measure => simp [intOf]; omega
      | false =>
        have hnx : sidesTo f xs.length (k + 1) = spasses f xs.length xs.length (L ||| 2 ^ k, R) := by rw [sidesTo.eq_2, hL, hR, ht]; simp
        rw [ht] at hbit
        have HNX := Lib.hid hnx
        have how := or_pow i1 (v := k) (by omega)
        have hw1 := with_lt i1 (v := k) (by omega)
        obtain ⟨T, hT⟩ : ∃ T, L ||| R = T := ⟨_, rfl⟩
        rw [hT] at hor hbit
        obtain ⟨L0, hL0⟩ : ∃ L0, L ||| 2 ^ k = L0 := ⟨_, rfl⟩
        rw [hL0] at how hw1 hnx HNX
        clear hnx hL hR ht hT hLR hL0
        go_wp2
        go_loop [4, 5, 7, 8] (fun le ri i _ => ∃ r : Nat, r ≤ xs.length ∧ i = .int .i64 r ∧ le = .int .i64 ((spasses f xs.length r (L0, R)).1 : Int) ∧ ri = .int .i64 ((spasses f xs.length r (L0, R)).2 : Int)) (fun _ _ i _ => xs.length - (intOf i).toNat)
        case atStart => exact ⟨0, by omega, rfl, rfl, rfl⟩
        case round =>
          clear hbit hor how
          obtain ⟨r, hr, rfl, rfl, rfl⟩ := hrel
          obtain ⟨P, hP⟩ : ∃ P, spasses f xs.length r (L0, R) = P := ⟨_, rfl⟩
          have hp := spasses_lt HFL.out (n := xs.length) (s := (L0, R)) hw1 i2 r
          have hpn : spasses f xs.length (r + 1) (L0, R) = spass f xs.length P := by rw [← hP]; rfl
          rw [hP] at hp ⊢
          have HP := Lib.hid hP
          have HPN := Lib.hid hpn
          clear hP hpn
          by_cases hltr : r < xs.length
          · go_wp2
            go_loop [4, 5, 8] (fun le ri i => ∃ j : Nat, j ≤ xs.length ∧ i = .int .i64 j ∧ le = .int .i64 ((spass f j P).1 : Int) ∧ ri = .int .i64 ((spass f j P).2 : Int)) (fun _ _ i => xs.length - (intOf i).toNat)
            case atStart => exact ⟨0, by omega, rfl, rfl, rfl⟩
            case round =>
              obtain ⟨j, hj, rfl, rfl, rfl⟩ := hrel
              obtain ⟨j1, j2⟩ := spass_lt HFL.out hp.1 hp.2 j
              by_cases hltj : j < xs.length
              · obtain ⟨b, off, rfl, hcell⟩ := HC.out j hltj
                have hx := (HROW.out j hltj).1
                rw [hx] at hcell
                have hfj := HFL.out j
                have hj8 : (j : Int) < 8 := by omega
                have hb1 := shr_bit (spass f j P).1 j j1
                have hr2 := spass_right (f := f) (k := j) (s := P)
                have hl2 := spass_left (f := f) (k := j) (s := P)
                obtain ⟨U, hU⟩ : ∃ U, (spass f j P).1 = U := ⟨_, rfl⟩
                obtain ⟨V, hV⟩ : ∃ V, (spass f j P).2 = V := ⟨_, rfl⟩
                rw [hU] at j1 hb1 hr2 hl2 ⊢
                rw [hV] at j2 hr2 ⊢
                have ho1 := or64 V (f j) (by omega) (by omega)
                have ho2 := or64 U (f j) (by omega) (by omega)
                have hVf := or_lt j2 hfj
                cases ht : U.testBit j with
                | true =>
                  rw [ht] at hb1 hr2
                  rw [if_pos rfl] at hr2
                  rw [hr2] at hl2
                  have hb2 := shr_bit (V ||| f j) j hVf
                  obtain ⟨V2, hV2⟩ : ∃ V2, V ||| f j = V2 := ⟨_, rfl⟩
                  rw [hV2] at ho1 hr2 hl2 hVf hb2
                  cases ht2 : V2.testBit j with
                  | true =>
                    rw [ht2] at hl2 hb2
                    rw [if_pos rfl] at hl2
                    have HR2 := Lib.hid hr2
                    have HL2 := Lib.hid hl2
                    clear hx hr2 hl2 hU hV ht ht2 hV2
                    go_wp2
                    go_round
                    case rel => exact ⟨j + 1, by omega, by go_num, by rw [HL2.out], by rw [HR2.out]⟩
                    case measure => simp [intOf]; omega
                  | false =>
                    rw [ht2] at hl2 hb2
                    rw [if_neg (by decide)] at hl2
                    have HR2 := Lib.hid hr2
                    have HL2 := Lib.hid hl2
                    clear hx hr2 hl2 hU hV ht ht2 hV2
                    go_wp2
                    go_round
                    case rel => exact ⟨j + 1, by omega, by go_num, by rw [HL2.out], by rw [HR2.out]⟩
                    case measure => simp [intOf]; omega
                | false =>
                  rw [ht] at hb1 hr2
                  rw [if_neg (by decide)] at hr2
                  rw [hr2] at hl2
                  have hb2 := shr_bit V j j2
                  cases ht2 : V.testBit j with
                  | true =>
                    rw [ht2] at hl2 hb2
                    rw [if_pos rfl] at hl2
                    have HR2 := Lib.hid hr2
                    have HL2 := Lib.hid hl2
                    clear hx hr2 hl2 hU hV ht ht2
                    go_wp2
                    go_round
                    case rel => exact ⟨j + 1, by omega, by go_num, by rw [HL2.out], by rw [HR2.out]⟩
                    case measure => simp [intOf]; omega
                  | false =>
                    rw [ht2] at hl2 hb2
                    rw [if_neg (by decide)] at hl2
                    have HR2 := Lib.hid hr2
                    have HL2 := Lib.hid hl2
                    clear hx hr2 hl2 hU hV ht ht2
                    go_wp2
                    go_round
                    case rel => exact ⟨j + 1, by omega, by go_num, by rw [HL2.out], by rw [HR2.out]⟩
                    case measure => simp [intOf]; omega
              · obtain rfl : j = xs.length := by omega
                go_wp2
                go_round
                case rel => exact ⟨r + 1, by omega, by go_num, by rw [HPN.out], by rw [HPN.out]⟩
                case measure => simp [intOf]; omega
          · obtain rfl : r = xs.length := by omega
            go_wp2
            go_round
            case rel => exact ⟨k + 1, by omega, by go_num, by rw [HNX.out, HP.out], by rw [HNX.out, HP.out]⟩
            case measure => simp [intOf]; omega
    · obtain rfl : k = xs.length := by omega
      have hand := and64 L R (by omega) (by omega)
      have hbb := HB.out
      rw [hL, hR] at hbb
      have HL := Lib.hid hL
      clear hL hR hor
      cases b with
      | true =>
        have hz : L &&& R = 0 := of_decide_eq_true hbb
        rw [hz] at hand
        clear hz hbb HB
        go_wp2
        go_ret2
        exact ⟨by rw [HL.out]; rfl, rfl⟩
      | false =>
        have hz : ¬ L &&& R = 0 := of_decide_eq_false hbb
        obtain ⟨M, hM⟩ : ∃ M, L &&& R = M := ⟨_, rfl⟩
        rw [hM] at hz hand
        have hne : ((M : Int) == 0) = false := by simp; exact hz
        clear hz hbb HB hM
        go_wp2
        go_ret2
        exact ⟨by rw [HL.out]; rfl, rfl⟩

end Go.Proofs.YtcklinoiaiilgabDoor
