/-
  spec.l4Least, spec.CoverLeast: they hand back some set of nodes. (Enough for what is drawn.)
-/
import Derived.Test.YtcklinoiaiilgabDoorSpecCover
import Derived.Test.YtcklinoiaiilgabDoorSize
namespace Go.Proofs.YtcklinoiaiilgabDoor
set_option linter.unusedVariables false
set_option linter.unusedSimpArgs false
open Go.RowKit
set_option maxRecDepth 100000

theorem powN : ∀ n : Fin 9, wrap64 (2 ^ n.val) = ((2 ^ n.val : Nat) : Int) ∧ IntKind.i64.wrap (2 ^ n.val) = ((2 ^ n.val : Nat) : Int) := by decide +kernel

set_option maxHeartbeats 1000000 in
theorem l4Least_some (w : World) (v : Value) (xs : List Int) (h : Ints w v xs) (h8 : xs.length ≤ 8) (hrow : ∀ i (hi : i < xs.length), xs[i] = (gfun xs i : Int) ∧ gfun xs i < 256) :
    Calls Tryd.prog 147 #[v] w fun e w' => ∃ b : Nat, b < 2 ^ xs.length ∧ e = .returned (.int .i64 (b : Int)) ∧ w = w' := by
  have hC := fun s (hs : s < 256) => l4Cover_any w v xs h h8 hrow s hs
  have HC := Lib.hid hC
  obtain ⟨A, cap, rfl, hm, _⟩ := h
  obtain ⟨N, hN⟩ : ∃ N, 2 ^ xs.length = N := ⟨_, rfl⟩
  have hp9 := powN ⟨xs.length, by omega⟩
  simp only at hp9
  rw [hN] at hp9 ⊢
  obtain ⟨hp1, hp2⟩ := hp9
  have hN256 : N ≤ 256 := by rw [← hN]; exact pow8_le (by omega)
  have hN1 : 1 ≤ N := by rw [← hN]; exact Nat.two_pow_pos _
  have hl8 : (xs.length : Int) ≤ 8 := by omega
  have hNi : (1 : Int) ≤ (N : Int) := by omega
  have hNi2 : (N : Int) ≤ 256 := by omega
  obtain ⟨M, hM⟩ : ∃ M, N - 1 = M := ⟨_, rfl⟩
  have hMi : (N : Int) - 1 = (M : Int) := by omega
  have hMN : M < N := by omega
  clear hC hN hM
  go_enter Tryd.func147, Tryd.ntmps147
  go_wp2
  go_loop [3, 4] (fun bst i => ∃ s b : Nat, s ≤ N ∧ b < N ∧ i = .int .i64 s ∧ bst = .int .i64 b) (fun _ i => N - (intOf i).toNat)
  case atStart => exact ⟨0, M, by omega, hMN, rfl, rfl⟩
  case round =>
    obtain ⟨s, b, hs, hb, rfl, rfl⟩ := hrel
    by_cases hlt : s < N
    · have hsi : (s : Int) < (N : Int) := by omega
      have hc := HC.out s (by omega)
      have hLS := fun (t : Nat) (ht : t < N) => l1Size_any t (by omega) w
      have HLS := Lib.hid hLS
      cases hcv : covB (gfun xs) xs.length s with
      | false =>
        rw [hcv] at hc
        have HCC := Lib.hid hc
        clear hc hcv hLS
        go_wp2_with (go_at_call 97; refine HCC.out.mono ?_; rintro e w' ⟨rfl, rfl⟩)
        go_round
        all_goals first | exact ⟨s + 1, b, by omega, by omega, by go_num, rfl⟩ | (simp [intOf]; omega)
      | true =>
        rw [hcv] at hc
        have HCC := Lib.hid hc
        clear hc hcv hLS
        go_wp2_with (first
          | (go_at_call 97; refine HCC.out.mono ?_; rintro e w' ⟨rfl, rfl⟩)
          | (go_at_call 138; ((with_reducible refine (HLS.out s hlt).mono ?_); rintro e w' ⟨rfl, rfl⟩))
          | (go_at_call 138; ((with_reducible refine (HLS.out b hb).mono ?_); rintro e w' ⟨rfl, rfl⟩)))
        all_goals
          go_round
          all_goals first | exact ⟨s + 1, b, by omega, by omega, by go_num, rfl⟩ | exact ⟨s + 1, s, by omega, by omega, by go_num, rfl⟩ | (simp [intOf]; omega)
    · obtain rfl : s = N := by omega
      go_wp2
      go_ret
      exact ⟨b, hb, rfl, rfl⟩

set_option maxHeartbeats 1000000 in
theorem least_some (w : World) (v : Value) (xs : List Int) (h : Ints w v xs) :
    Calls Tryd.prog 135 #[v] w fun e w' => ∃ (b : Nat) (ok : Bool), b < 256 ∧ e = .returned (.tuple #[.int .i64 (b : Int), .bool ok]) ∧ ∃ q, w' = w.drewN q := by
  have hs := specIn_any w v xs h
  cases hg : gIn xs with
  | false =>
    rw [hg] at hs
    have HS := Lib.hid hs
    obtain ⟨A, cap, rfl, hm, _⟩ := h
    clear hs hg
    go_enter Tryd.func135, Tryd.ntmps135
    go_wp2_with (go_at_call 86; refine HS.out.mono ?_; rintro e w1 ⟨rfl, q, rfl⟩)
    go_ret2
    exact ⟨0, false, by omega, rfl, q, rfl⟩
  | true =>
    obtain ⟨h1, h8, hok⟩ := gIn_parts hg
    have hL := fun W (hW : Ints W v xs) => l4Least_some W v xs hW h8 (fun k hk => row_value h8 hok hk)
    have hp := pow8_le (v := xs.length) (by omega)
    rw [hg] at hs
    have HS := Lib.hid hs
    have HL := Lib.hid hL
    have HV := Lib.hid h
    obtain ⟨A, cap, rfl, hm, _⟩ := h
    clear hs hg hL hok
    go_enter Tryd.func135, Tryd.ntmps135
    go_wp2_with (first
      | (go_at_call 86; refine HS.out.mono ?_; rintro e w1 ⟨rfl, q, rfl⟩)
      | (go_at_call 147; refine (HL.out _ (HV.out.drewN q)).mono ?_; rintro e w2 ⟨b, hb, rfl, rfl⟩))
    go_ret2
    exact ⟨b, true, by omega, rfl, q, rfl⟩

end Go.Proofs.YtcklinoiaiilgabDoor
