/-
  spec.l6mPlace: where a member stands.
-/
import Derived.Test.YtellghhilcjbnaaDoorRnk
namespace Go.Proofs.YtellghhilcjbnaaDoor
set_option linter.unusedVariables false
set_option linter.unusedSimpArgs false
open Go.RowKit
set_option maxRecDepth 100000 in
set_option maxHeartbeats 1000000 in
theorem l6mPlace_any (w : World) (v : Value) (xs : List Int) (c : Int) (h : Ints w v xs) :
    Calls Tryd.prog 60 #[v, .int .i64 c] w fun e w' => e = .returned (.int .i64 (place xs c : Nat)) ∧ w = w' := by
  obtain ⟨A, cap, rfl, hm, hc⟩ := h
  have HC := Lib.hid hc
  clear hc
  unfold maxLen at hm
  go_enter Tryd.func60, Tryd.ntmps60
  go_wp2
  go_loopw [5] (fun i wr => ∃ k : Nat, k ≤ xs.length ∧ i = .int .i64 k ∧ place xs c = k + place (xs.drop k) c ∧ wr = w) (fun i _ => xs.length - (intOf i).toNat)
  case atStart => exact ⟨0, by omega, rfl, by simp, rfl⟩
  case round =>
    obtain ⟨k, hk, rfl, hp, hwr⟩ := hrel
    have hwr2 := hwr.symm
    clear hwr
    subst hwr2
    have HP := Lib.hid hp
    clear hp
    by_cases hlt : k < xs.length
    · obtain ⟨b, off, rfl, hcell⟩ := HC.out k hlt
      obtain ⟨x, hx⟩ : ∃ x, xs[k] = x := ⟨_, rfl⟩
      have hdr : xs.drop k = x :: xs.drop (k + 1) := by rw [List.drop_eq_getElem_cons hlt, hx]
      rw [hx] at hcell
      rw [hdr] at HP
      have hki : (k : Int) < (xs.length : Int) := by omega
      have hk0 : (0 : Int) ≤ (k : Int) := by omega
      clear hx hdr
      by_cases he : x = c
      · have e1 : (x == c) = true := by simp [he]
        have hr : place xs c = k := by rw [HP.out]; unfold place; rw [if_pos he]; omega
        have HR := Lib.hid hr
        clear hr he
        go_wp2
        go_ret
        exact ⟨by rw [HR.out]; rfl, rfl⟩
      · have e1 : (x == c) = false := by simp [he]
        have hr : place xs c = (k + 1) + place (xs.drop (k + 1)) c := by rw [HP.out]; conv => lhs; unfold place
                                                                         rw [if_neg he]; omega
        have HR := Lib.hid hr
        clear hr he
        go_wp2
        go_roundw
        case rel => exact ⟨k + 1, by omega, by go_num, HR.out, trivial⟩
        case measure => simp [intOf]; omega
    · obtain rfl : k = xs.length := by omega
      have hr : place xs c = xs.length := by rw [HP.out, List.drop_length]; rfl
      have HR := Lib.hid hr
      clear hr
      go_wp2
      go_ret
      exact ⟨by rw [HR.out]; rfl, rfl⟩

theorem l6mPlace_q (v : Value) (xs : List Int) (c : Int) (r : Int) (hr : (place xs c : Int) = r) (w : World) (h : Ints w v xs) :
    Calls Tryd.prog 60 #[v, .int .i64 c] w fun e w' => e = .returned (.int .i64 r) ∧ w' = w :=
  (l6mPlace_any w v xs c h).mono fun e w' h' => ⟨by rw [h'.1, hr], h'.2.symm⟩

end Go.Proofs.YtellghhilcjbnaaDoor
