/-
  spec.l5Whole: the sum over all pairings of all rows.
-/
import Derived.Test.YtfcbhcjgjbcjdacDoorSpecSum
import Derived.Test.YtfcbhcjgjbcjdacDoorOrders
namespace Go.Proofs.YtfcbhcjgjbcjdacDoor
set_option linter.unusedVariables false
set_option linter.unusedSimpArgs false
open Go.RowKit

set_option maxRecDepth 100000 in
set_option maxHeartbeats 1000000 in
theorem l5Whole_any (xss : List (List Int)) (ht : tIn xss = true) (b : Bool) (sg : Int) (hsg : sg = if b = true then -1 else 1) (w : World) (v : Value) (h : IntRows w v xss) :
    Calls Tryd.prog 57 #[v, .bool b] w fun e w' => e = .returned (.int .i64 (mates (flat xss) sg xss.length (2 ^ xss.length - 1))) ∧ ∃ q, w' = w.drewN q := by
  obtain ⟨h1, h6, _⟩ := tIn_facts ht
  have hrows := h
  obtain ⟨A, cap, rfl, hm, hc⟩ := h.at
  unfold maxLen at hm
  by_cases hodd : xss.length % 2 = 1
  · have ho := mates_odd (flat xss) sg xss.length (2 ^ xss.length - 1) hodd
    have e1 : ((xss.length : Int).tmod 2 == 1) = true := by rw [beq_iff_eq, Int.tmod_eq_emod_of_nonneg (by omega)]; omega
    have e2 : ((xss.length : Int) % 2 == 1) = true := by rw [beq_iff_eq]; omega
    have HO := Lib.hid ho
    clear ho hodd hrows h hc ht hsg
    go_enter Tryd.func57, Tryd.ntmps57
    go_wp2
    go_ret
    exact ⟨by rw [HO.out]; rfl, 0, rfl⟩
  · have e1 : ((xss.length : Int).tmod 2 == 1) = false := by rw [beq_eq_false_iff_ne, Int.tmod_eq_emod_of_nonneg (by omega)]; omega
    have e2 : ((xss.length : Int) % 2 == 1) = false := by rw [beq_eq_false_iff_ne]; omega
    have e3 := low_wrap (show xss.length < 9 by omega)
    have hl := l5Sum_any xss ht b sg hsg xss.length w _ (2 ^ xss.length - 1) h6 hrows (by have := Nat.two_pow_pos xss.length; omega) (full_len ⟨xss.length, by omega⟩)
    obtain ⟨r, hr⟩ : ∃ r, mates (flat xss) sg xss.length (2 ^ xss.length - 1) = r := ⟨_, rfl⟩
    rw [hr] at hl ⊢
    have HL := Lib.hid hl
    clear hl hr hodd hrows h hc ht hsg
    go_enter Tryd.func57, Tryd.ntmps57
    go_wp2_with (go_at_call 90; refine HL.out.mono ?_; rintro e w2 ⟨rfl, q2, rfl⟩)
    go_ret
    exact ⟨rfl, q2, rfl⟩

end Go.Proofs.YtfcbhcjgjbcjdacDoor
