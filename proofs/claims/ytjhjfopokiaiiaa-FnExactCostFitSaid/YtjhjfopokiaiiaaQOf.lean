/-
  spec.l8Cost, spec.CostOf; (impl.wholeCosts).of, impl.CostOf.
-/
import Derived.Test.YtjhjfopokiaiiaaCostAt
import Derived.Test.YtjhjfopokiaiiaaFinQIn
import Derived.Test.YtjhjfopokiaiiaaSpecRank6
import Derived.Test.YtjhjfopokiaiiaaOrder6
import Derived.Test.YtjhjfopokiaiiaaNum
namespace Go.Proofs.Ytjhjfopokiaiiaa
set_option linter.unusedVariables false
set_option linter.unusedSimpArgs false
open Go.RowKit

/-- What a choice costs, as far as k rows. -/
def costTo (xss : List (List Int)) (ps : List Int) : Nat → Int
  | 0 => 0
  | k + 1 => costTo xss ps k + (xss.getD k []).getD (ps.getD k 0).toNat 0
def cost8 (xss : List (List Int)) (ps : List Int) : Int := costTo xss ps ps.length

structure Choice (xss : List (List Int)) (ps : List Int) : Prop where
  h1 : 1 ≤ xss.length
  h6 : xss.length ≤ 6
  len : ps.length = xss.length
  row : ∀ k (hk : k < xss.length), xss[k].length = xss.length ∧ ∀ x ∈ xss[k], -1000 ≤ x ∧ x ≤ 1000
  mem : ∀ k (hk : k < ps.length), 0 ≤ ps[k] ∧ ps[k] < xss.length
theorem Choice.at {xss : List (List Int)} {ps : List Int} (h : Choice xss ps) {k : Nat} (hk : k < ps.length) :
    ∃ (m : Nat) (hk2 : k < xss.length) (hm : m < xss[k].length), ps[k] = (m : Int) ∧ m < xss.length ∧ (xss.getD k []).getD (ps.getD k 0).toNat 0 = xss[k][m] ∧ -1000 ≤ xss[k][m] ∧ xss[k][m] ≤ 1000 := by
  have hk2 : k < xss.length := by rw [← h.len]; exact hk
  have hm := h.mem k hk
  obtain ⟨hl, hr⟩ := h.row k hk2
  refine ⟨ps[k].toNat, hk2, by omega, by omega, by omega, ?_, hr _ (List.getElem_mem _)⟩
  have e1 : ps.getD k 0 = ps[k] := by simp [List.getD, hk]
  have e2 : xss.getD k [] = xss[k] := by simp [List.getD, hk2]
  have h3 : ps[k].toNat < xss[k].length := by omega
  rw [e1, e2, List.getD_eq_getElem?_getD, List.getElem?_eq_getElem h3, Option.getD_some]
theorem Choice.bound {xss : List (List Int)} {ps : List Int} (h : Choice xss ps) : ∀ k, k ≤ ps.length → -1000 * (k : Int) ≤ costTo xss ps k ∧ costTo xss ps k ≤ 1000 * (k : Int)
  | 0, _ => by simp [costTo]
  | k + 1, hk => by
    have ih := h.bound k (by omega)
    obtain ⟨m, hk2, hm, -, -, he, hb1, hb2⟩ := h.at (show k < ps.length by omega)
    show -1000 * ((k + 1 : Nat) : Int) ≤ costTo xss ps k + _ ∧ costTo xss ps k + _ ≤ _
    rw [he]
    omega
theorem choice_of {xss : List (List Int)} {ps : List Int} (h : cIn xss = true) (hr : rankB xss.length ps = true) : Choice xss ps := by
  obtain ⟨hl, hin, -⟩ := rank_parts hr
  unfold cIn at h
  rw [Bool.and_eq_true, List.all_eq_true, decide_eq_true_iff] at h
  refine ⟨h.2.1, h.2.2, hl, fun k hk => ?_, fun k hk => ?_⟩
  · have := h.1 _ (List.getElem_mem hk)
    unfold rowC at this
    rw [Bool.and_eq_true, decide_eq_true_iff, List.all_eq_true] at this
    exact ⟨this.1, fun x hx => numC_yes (this.2 x hx)⟩
  · have := hin _ (List.getElem_mem hk)
    omega

set_option maxRecDepth 100000 in
set_option maxHeartbeats 2000000 in
theorem l8Cost_any (w : World) (v u : Value) (xss : List (List Int)) (ps : List Int) (hv : IntRows w v xss) (hu : Ints w u ps) (h : Choice xss ps) :
    Calls Try.prog 48 #[v, u] w fun e w' => e = .returned (.int .i64 (cost8 xss ps)) ∧ ∃ q, w' = w.drewN q := by
  obtain ⟨A, cap, rfl, hm, hc⟩ := hv.at
  obtain ⟨A2, cap2, rfl, hm2, hc2⟩ := hu
  have HC := Lib.hid hc
  have HC2 := Lib.hid hc2
  have HCH := Lib.hid h
  unfold maxLen at hm hm2
  have HLN := Lib.hid h.len
  clear hc hc2 hv h
  go_enter Try.func48, Try.ntmps48
  go_wp2
  go_loopw [5, 6] (fun s i wr => ∃ k q : Nat, k ≤ ps.length ∧ i = .int .i64 k ∧ s = .int .i64 (costTo xss ps k) ∧ wr = w.drewN q) (fun _ i _ => ps.length - (intOf i).toNat)
  case atStart => exact ⟨0, 0, by omega, rfl, rfl, rfl⟩
  case round =>
    obtain ⟨k, q, hk, rfl, rfl, rfl⟩ := hrel
    by_cases hlt : k < ps.length
    · obtain ⟨m, hk2, hmm, hpm, hmn, he, hb1, hb2⟩ := HCH.out.at hlt
      have hbd := HCH.out.bound k (by omega)
      obtain ⟨b, off, u, rfl, hcell, hints⟩ := HC.out k hk2
      obtain ⟨A3, cap3, rfl, hm3, hc3⟩ := hints
      obtain ⟨b3, off3, rfl, hcell3⟩ := hc3 m hmm
      obtain ⟨b2, off2, rfl, hcell2⟩ := HC2.out k hlt
      rw [hpm] at hcell2
      have hl6 := HCH.out.h6
      have hln := HCH.out.len
      have hst : costTo xss ps (k + 1) = costTo xss ps k + xss[k][m] := by rw [← he]; rfl
      obtain ⟨z, hz⟩ : ∃ z, xss[k][m] = z := ⟨_, rfl⟩
      rw [hz] at hcell3 hb1 hb2 hst
      obtain ⟨s, hs⟩ : ∃ s, costTo xss ps k = s := ⟨_, rfl⟩
      rw [hs] at hbd hst ⊢
      obtain ⟨t, ht⟩ : ∃ t, s + z = t := ⟨_, rfl⟩
      rw [ht] at hst
      have hw1 : IntKind.i64.wrap t = t := by rw [IntKind.wrap_i64]; omega
      have HST := Lib.hid hst
      have hki : (k : Int) < (ps.length : Int) := by omega
      have hki2 : (k : Int) < (xss.length : Int) := by omega
      have hk0 : (0 : Int) ≤ (k : Int) := by omega
      have hmi : (m : Int) < (xss[k].length : Int) := by omega
      have hm0 : (0 : Int) ≤ (m : Int) := by omega
      have hw2 : wrap64 t = t := by rw [← wrap_eq]; exact hw1
      unfold maxLen at hm3
      clear hc3 hpm hmm he hz hs hst hbd hb1 hb2 hl6 hln
      go_wp2
      go_quiet (fail)
      go_wp2
      go_roundw
      case rel => exact ⟨k + 1, q + nq, by omega, by go_num, by rw [HST.out], by simp⟩
      case measure => simp [intOf]; omega
    · obtain rfl : k = ps.length := by omega
      go_wp2
      go_ret
      exact ⟨rfl, q, rfl⟩

end Go.Proofs.Ytjhjfopokiaiiaa
