/-
  impl.MatchAll: the sum of the matching numbers.
-/
import Derived.Test.YtejbeglchholhaaDoorAllSum
namespace Go.Proofs.YtejbeglchholhaaDoor
set_option linter.unusedVariables false
set_option linter.unusedSimpArgs false
open Go.RowKit Go.Shelf

set_option maxRecDepth 100000 in
set_option maxHeartbeats 2000000 in
theorem implAll_any (w : World) (u : Value) (xs : List Int) (h : Ints w u xs) (hr : ∀ x ∈ xs, I64 x) (hT : Tab w) :
    Calls Tryd.prog 9 #[u] w (GivesNum w (gIn xs) (sumOf xs)) := by
  cases hg : gIn xs with
  | false =>
    have HR := Lib.hid (readC_any w u xs h hr hT 0 _ (from_no hg))
    rw [hg] at HR
    rw [sumOf_no hg]
    clear h hr hT
    go_enter Tryd.func9, Tryd.ntmps9
    go_wp2_with (first
      | (go_at_call 22; refine HR.out.mono ?_; rintro e w1 ⟨B, rfl, hB, hb1, hM⟩)
      | (refine store_counter_new rfl _ _ rfl 0 (fun _ => 0) B rfl rfl ?_))
    go_ret2
    exact ⟨rfl, hb1.alloc hb1.size _⟩
  | true =>
    obtain ⟨h1, h8, hok⟩ := gIn_parts hg
    have hlt := gfun_lt h8 hok
    have HR := Lib.hid (readC_any w u xs h hr hT _ _ (from_yes hg))
    rw [hg] at HR
    rw [sumOf_yes hg]
    have HT := Lib.hid hT
    have hs := all256 h8
    have HL := Lib.hid hlt
    have hle := sum5_le (g := nums (gfun xs) (2 ^ xs.length - 1)) (fun k => nums_small hs k)
    have HSM := Lib.hid hle
    have HK := Lib.hid (fun k : Nat => nums_small (f := gfun xs) hs k)
    clear h hr hT hok hlt hle
    go_enter Tryd.func9, Tryd.ntmps9
    go_wp2_with (first
      | (go_at_call 22; refine HR.out.mono ?_; rintro e w1 ⟨B, rfl, hB, hb1, hM⟩)
      | (refine store_counter_new rfl _ _ rfl xs.length (gfun xs) B rfl rfl ?_)
      | (refine load_counter rfl _ rfl _ xs.length (gfun xs) B rfl (World.alloc_heap_new _ _) ?_)
      | (go_at_call 23; refine (whole_read h8 HL.out hB (hb1.alloc hb1.size _) (hM.below (Below.alloc (Below.refl _ _) (Nat.le_refl _) _)) (by omega) HT.out).mono ?_; rintro e w2 ⟨rfl, hM2, hb2, -⟩))
    obtain ⟨g, hgg⟩ : ∃ g, nums (gfun xs) (2 ^ xs.length - 1) = g := ⟨_, rfl⟩
    rw [hgg] at HSM HK ⊢
    go_loop [6, 18] (fun s i => ∃ k : Nat, k ≤ 5 ∧ i = .int .i64 k ∧ s = .int .i64 (sum5 g k : Nat)) (fun _ i => 5 - (intOf i).toNat)
    case atStart => exact ⟨0, by omega, rfl, rfl⟩
    case round =>
      obtain ⟨k, hk, rfl, rfl⟩ := hrel
      by_cases hlt : k < 5
      · have hki : (k : Int) < 5 := by omega
        have hx := fun W => index_nums g k hlt W
        have h1 := HSM.out k
        have h2 := HK.out k
        have hw : IntKind.i64.wrap ((sum5 g k : Nat) + (g k : Nat) : Int) = ((sum5 g (k + 1) : Nat) : Int) := by rw [wraps_i64 _ (by omega) (by omega)]; simp [sum5]
        have hw2 := (wrap_eq _).symm.trans hw
        obtain ⟨t, ht⟩ : ∃ t, sum5 g (k + 1) = t := ⟨_, rfl⟩
        rw [ht] at hw hw2
        have HTT := Lib.hid ht
        clear ht h1 h2
        go_wp2
        go_round
        all_goals first | exact ⟨k + 1, by omega, by go_num, by rw [HTT.out]⟩ | (simp [intOf]; omega)
      · obtain rfl : k = 5 := by omega
        go_wp2
        go_ret2
        exact ⟨rfl, hb2⟩

end Go.Proofs.YtejbeglchholhaaDoor
