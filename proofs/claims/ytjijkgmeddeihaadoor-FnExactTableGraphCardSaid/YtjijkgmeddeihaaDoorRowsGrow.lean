/-
  laws.heldIntSS.
-/
import Derived.Test.YtjijkgmeddeihaaDoorRows2
import Derived.Test.YtjijkgmeddeihaaDoorRowsPush
namespace Go.Proofs.YtjijkgmeddeihaaDoor
set_option linter.unusedVariables false
set_option linter.unusedSimpArgs false
open Go.RowKit

theorem markRows_at : ∀ (k : Int) (xss : List (List Int)) (i : Nat) (h : i < xss.length) (h' : i < (markRows k xss).length), (markRows k xss)[i] = marks (k + total (xss.take i)) xss[i].length
  | k, xs :: xss, 0, _, _ => by simp [markRows, marks, total]
  | k, xs :: xss, i + 1, h, h' => by
    have h2 : i < xss.length := by simpa using h
    have := markRows_at (k + xs.length) xss i h2 (by rw [markRows_len]; exact h2)
    simp only [markRows, List.getElem_cons_succ, List.take_succ_cons]
    rw [this]
    congr 1
    simp only [total, List.map_cons, List.sum_cons]
    push_cast
    omega

set_option maxRecDepth 100000 in
set_option maxHeartbeats 1000000 in
theorem heldIntSS_any (w : World) (v : Value) (k : Int) (xss : List (List Int)) (h : IntRows w v (markRows k xss)) (hk0 : 0 ≤ k) (hk : k + total xss ≤ 1000000000000) :
    Calls Tryd.prog 13 #[v, .int .i64 k] w fun e w' => e = .returned (.int .i64 (k + total xss)) ∧ w = w' := by
  obtain ⟨A, cap, rfl, hm, hc⟩ := h.at
  have HC := Lib.hid hc
  clear hc h
  rw [markRows_len] at hm ⊢
  unfold maxLen at hm
  go_enter Tryd.func13, Tryd.ntmps13
  go_wp2
  go_loopw [1, 5] (fun j i wr => ∃ m : Nat, m ≤ xss.length ∧ i = .int .i64 m ∧ j = .int .i64 (k + total (xss.take m)) ∧ wr = w) (fun _ i _ => xss.length - (intOf i).toNat)
  case atStart => exact ⟨0, Nat.zero_le _, rfl, by simp [total], rfl⟩
  case round =>
    obtain ⟨m, hm1, rfl, rfl, hwr⟩ := hrel
    have hwr2 := hwr.symm
    clear hwr
    subst hwr2
    by_cases hlt : m < xss.length
    · obtain ⟨b, off, u, rfl, hcell, hints⟩ := HC.out m (by rw [markRows_len]; exact hlt)
      rw [markRows_at k xss m hlt] at hints
      have h1 := total_take_succ xss m hlt
      have h2 := total_take_le xss (m + 1)
      have hmi : (m : Int) < (xss.length : Int) := by omega
      have hh := heldIntS_any _ u (k + total (xss.take m)) xss[m].length hints (by omega) (by omega)
      have e : k + (total (xss.take m) : Int) + (xss[m].length : Int) = k + (total (xss.take (m + 1)) : Int) := by rw [h1]; push_cast; omega
      rw [e] at hh
      obtain ⟨t, ht⟩ : ∃ t, k + (total (xss.take (m + 1)) : Int) = t := ⟨_, rfl⟩
      have ht0 : ¬ t < 0 := by omega
      rw [ht] at hh
      have HH := Lib.hid hh
      have HT := Lib.hid ht
      clear hh hints h1 h2 e ht
      go_wp2_with (go_at_call 25; refine HH.out.mono ?_; rintro e w' ⟨rfl, rfl⟩)
      go_roundw
      case rel => exact ⟨m + 1, by omega, by go_num, by rw [HT.out], trivial⟩
      case measure => simp [intOf]; omega
    · obtain rfl : m = xss.length := by omega
      rw [List.take_length]
      go_wp2
      go_ret
      exact ⟨rfl, rfl⟩

end Go.Proofs.YtjijkgmeddeihaaDoor
