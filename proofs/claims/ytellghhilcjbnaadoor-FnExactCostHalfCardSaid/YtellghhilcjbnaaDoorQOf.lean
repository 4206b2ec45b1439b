/-
  spec.l8Cost, spec.CostOf; (impl.wholeCosts).of, impl.CostOf.
-/
import Derived.Test.YtellghhilcjbnaaDoorCostAt
import Derived.Test.YtellghhilcjbnaaDoorQMath
import Derived.Test.YtellghhilcjbnaaDoorTabs
import Derived.Test.YtellghhilcjbnaaDoorRnk
import Derived.Test.YtellghhilcjbnaaDoorCore1
namespace Go.Proofs.YtellghhilcjbnaaDoor
set_option linter.unusedVariables false
set_option linter.unusedSimpArgs false
open Go.RowKit

set_option maxRecDepth 100000 in
set_option maxHeartbeats 2000000 in
theorem l8Cost_any (w : World) (v u : Value) (xss : List (List Int)) (ps : List Int) (hv : IntRows w v xss) (hu : Ints w u ps) (h : Choice xss ps) :
    Calls Tryd.prog 37 #[v, u] w fun e w' => e = .returned (.int .i64 (cost8 xss ps)) ∧ ∃ q, w' = w.drewN q := by
  obtain ⟨A, cap, rfl, hm, hc⟩ := hv.at
  obtain ⟨A2, cap2, rfl, hm2, hc2⟩ := hu
  have HC := Lib.hid hc
  have HC2 := Lib.hid hc2
  have HCH := Lib.hid h
  unfold maxLen at hm hm2
  have HLN := Lib.hid h.len
  clear hc hc2 hv h
  go_enter Tryd.func37, Tryd.ntmps37
  go_wp2
  go_loopw [5, 6] (fun s i wr => ∃ k q : Nat, k ≤ ps.length ∧ i = .int .i64 k ∧ s = .int .i64 (costTo xss ps k) ∧ wr = w.drewN q) (fun _ i _ => ps.length - (intOf i).toNat)
  case atStart => exact ⟨0, 0, by omega, rfl, rfl, rfl⟩
  case round =>
    obtain ⟨k, q, hk, rfl, rfl, rfl⟩ := hrel
    by_cases hlt : k < ps.length
    · obtain ⟨m, hk2, hmm, hpm, hmn, he, hb1, hb2⟩ := HCH.out.at hlt
      have hbd := HCH.out.bound k (by omega)
      obtain ⟨b, off, u, rfl, hcell, hints⟩ := HC.out k hk2
      obtain ⟨A3, cap3, rfl, hm3, hc3⟩ := hints
      obtain ⟨b3, off3, rfl, hcell3⟩ := hc3 m hmm
      obtain ⟨b2, off2, rfl, hcell2⟩ := HC2.out k hlt
      rw [hpm] at hcell2
      have hl6 := HCH.out.h6
      have hln := HCH.out.len
      have hst : costTo xss ps (k + 1) = costTo xss ps k + xss[k][m] := by rw [← he]; rfl
      obtain ⟨z, hz⟩ : ∃ z, xss[k][m] = z := ⟨_, rfl⟩
      rw [hz] at hcell3 hb1 hb2 hst
      obtain ⟨s, hs⟩ : ∃ s, costTo xss ps k = s := ⟨_, rfl⟩
      rw [hs] at hbd hst ⊢
      obtain ⟨t, ht⟩ : ∃ t, s + z = t := ⟨_, rfl⟩
      rw [ht] at hst
      have hw1 : IntKind.i64.wrap t = t := by rw [IntKind.wrap_i64]; omega
      have HST := Lib.hid hst
      have hki : (k : Int) < (ps.length : Int) := by omega
      have hki2 : (k : Int) < (xss.length : Int) := by omega
      have hk0 : (0 : Int) ≤ (k : Int) := by omega
      have hmi : (m : Int) < (xss[k].length : Int) := by omega
      have hm0 : (0 : Int) ≤ (m : Int) := by omega
      have hw2 : wrap64 t = t := by rw [← wrap_eq]; exact hw1
      unfold maxLen at hm3
      clear hc3 hpm hmm he hz hs hst hbd hb1 hb2 hl6 hln
      go_wp2
      go_quiet (fail)
      go_wp2
      go_roundw
      case rel => exact ⟨k + 1, q + nq, by omega, by go_num, by rw [HST.out], by simp⟩
      case measure => simp [intOf]; omega
    · obtain rfl : k = ps.length := by omega
      go_wp2
      go_ret
      exact ⟨rfl, q, rfl⟩

end Go.Proofs.YtellghhilcjbnaaDoor
