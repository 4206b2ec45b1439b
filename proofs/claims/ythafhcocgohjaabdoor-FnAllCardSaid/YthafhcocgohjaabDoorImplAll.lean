/-
  impl.MatchAll: the sum of the matching numbers.
-/
import Derived.Test.YthafhcocgohjaabDoorSpecGreat
namespace Go.Proofs.YthafhcocgohjaabDoor
set_option linter.unusedVariables false
set_option linter.unusedSimpArgs false
open Go.RowKit Go.Shelf

/-- The sum of the first few of five numbers. -/
def sum5 (g : Nat → Nat) : Nat → Nat
  | 0 => 0
  | k + 1 => sum5 g k + g k
theorem sum5_le {g : Nat → Nat} (h : ∀ k, g k ≤ 43046721) : ∀ k, sum5 g k ≤ k * 43046721
  | 0 => by simp [sum5]
  | k + 1 => by have := sum5_le h k; have := h k; simp only [sum5]; omega
theorem tab_sum (g : Nat → Nat) : ∀ k, (tab k fun i => (g i : Int)).sum = (sum5 g k : Nat)
  | 0 => rfl
  | k + 1 => by rw [tab_succ, List.sum_append, tab_sum g k]; simp [sum5]
theorem trim_sum (p : List Int) : (trim p).sum = p.sum := by
  induction p with
  | nil => rfl
  | cons x p ih =>
    unfold trim
    split
    · rename_i h
      rw [h.1] at ih
      rw [List.sum_cons, h.2, ← ih]; rfl
    · rw [List.sum_cons, List.sum_cons, ih]
theorem sumOf_yes {xs : List Int} (hg : gIn xs = true) : sumOf xs = (sum5 (nums (gfun xs) (2 ^ xs.length - 1)) 5 : Nat) := by
  unfold sumOf numsOf
  rw [if_pos hg]
  unfold numL
  rw [trim_sum, tab_sum]
theorem sumOf_no {xs : List Int} (hg : gIn xs = false) : sumOf xs = 0 := by
  unfold sumOf numsOf
  rw [hg]; rfl

set_option maxRecDepth 100000 in
set_option maxHeartbeats 2000000 in
theorem implAll_any (w : World) (u : Value) (xs : List Int) (h : Ints w u xs) (hr : ∀ x ∈ xs, I64 x) (hT : Tab w) :
    Calls Tryd.prog 36 #[u] w (GivesNum w (gIn xs) (sumOf xs)) := by
  cases hg : gIn xs with
  | false =>
    have HR := Lib.hid (readC_any w u xs h hr hT 0 _ (from_no hg))
    rw [hg] at HR
    rw [sumOf_no hg]
    clear h hr hT
    go_enter Tryd.func36, Tryd.ntmps36
    go_wp2_with (first
      | (go_at_call 79; refine HR.out.mono ?_; rintro e w1 ⟨B, rfl, hB, hb1, hM⟩)
      | (refine store_counter_new rfl _ _ rfl 0 (fun _ => 0) B rfl rfl ?_))
    go_ret2
    exact ⟨rfl, hb1.alloc hb1.size _⟩
  | true =>
    obtain ⟨h1, h8, hok⟩ := gIn_parts hg
    have hlt := gfun_lt h8 hok
    have HR := Lib.hid (readC_any w u xs h hr hT _ _ (from_yes hg))
    rw [hg] at HR
    rw [sumOf_yes hg]
    have HT := Lib.hid hT
    have hs := all256 h8
    have HL := Lib.hid hlt
    have hle := sum5_le (g := nums (gfun xs) (2 ^ xs.length - 1)) (fun k => nums_small hs k)
    have HSM := Lib.hid hle
    have HK := Lib.hid (fun k : Nat => nums_small (f := gfun xs) hs k)
    clear h hr hT hok hlt hle
    go_enter Tryd.func36, Tryd.ntmps36
    go_wp2_with (first
      | (go_at_call 79; refine HR.out.mono ?_; rintro e w1 ⟨B, rfl, hB, hb1, hM⟩)
      | (refine store_counter_new rfl _ _ rfl xs.length (gfun xs) B rfl rfl ?_)
      | (refine load_counter rfl _ rfl _ xs.length (gfun xs) B rfl (World.alloc_heap_new _ _) ?_)
      | (go_at_call 80; refine (whole_read h8 HL.out hB (hb1.alloc hb1.size _) (hM.below (Below.alloc (Below.refl _ _) (Nat.le_refl _) _)) (by omega) HT.out).mono ?_; rintro e w2 ⟨rfl, hM2, hb2, -⟩))
    obtain ⟨g, hgg⟩ : ∃ g, nums (gfun xs) (2 ^ xs.length - 1) = g := ⟨_, rfl⟩
    rw [hgg] at HSM HK ⊢
    go_loop [6, 18] (fun s i => ∃ k : Nat, k ≤ 5 ∧ i = .int .i64 k ∧ s = .int .i64 (sum5 g k : Nat)) (fun _ i => 5 - (intOf i).toNat)
    case atStart => exact ⟨0, by omega, rfl, rfl⟩
    case round =>
      obtain ⟨k, hk, rfl, rfl⟩ := hrel
      by_cases hlt : k < 5
      · have hki : (k : Int) < 5 := by omega
        have hx := fun W => index_nums g k hlt W
        have h1 := HSM.out k
        have h2 := HK.out k
        have hw : IntKind.i64.wrap ((sum5 g k : Nat) + (g k : Nat) : Int) = ((sum5 g (k + 1) : Nat) : Int) := by rw [wraps_i64 _ (by omega) (by omega)]; simp [sum5]
        have hw2 := (wrap_eq _).symm.trans hw
        obtain ⟨t, ht⟩ : ∃ t, sum5 g (k + 1) = t := ⟨_, rfl⟩
        rw [ht] at hw hw2
        have HTT := Lib.hid ht
        clear ht h1 h2
        go_wp2
        go_round
        all_goals first | exact ⟨k + 1, by omega, by go_num, by rw [HTT.out]⟩ | (simp [intOf]; omega)
      · obtain rfl : k = 5 := by omega
        go_wp2
        go_ret2
        exact ⟨rfl, hb2⟩

end Go.Proofs.YthafhcocgohjaabDoor
