/-
  slices.IndexFunc, slices.ContainsFunc, impl.areWithin.
-/
import Derived.Test.YtfcbhcjgjbcjdaaDoorCore1
import Derived.Test.YtfcbhcjgjbcjdaaDoorGives
import Derived.Deep.QuietTactic
import Derived.BigQuiet
import Derived.Outline
namespace Go.Proofs.YtfcbhcjgjbcjdaaDoor
set_option linter.unusedVariables false
set_option linter.unusedSimpArgs false
open Go.RowKit

def inL (lim x : Int) : Bool := decide (-lim ≤ x ∧ x ≤ lim)

def GivesIf (w : World) (xs : List Int) (p : Int → Bool) (e : Ending) (w' : World) : Prop := ∃ r : Int, e = .returned (.int .i64 r) ∧ decide (0 ≤ r) = xs.any p ∧ w' = w

set_option maxRecDepth 100000 in
set_option maxHeartbeats 1000000 in
theorem indexFunc_any (w : World) (v : Value) (xs : List Int) (h : Ints w v xs) (K : FuncId) (caps : Array Value) (p : Int → Bool)
    (hE : ∀ args W, (callFunc K args).run Tryd.prog W = .ok (.enter K args) W)
    (hK : ∀ (j : Nat) (hj : j < xs.length), Calls Tryd.prog K (#[.int .i64 xs[j]] ++ caps) w fun e W' => e = .returned (.bool (p xs[j])) ∧ w = W') :
    Calls Tryd.prog 157 #[v, .func (.func K) #[] caps] w (GivesIf w xs p) := by
  obtain ⟨A, cap, rfl, hm, hc⟩ := h
  have HC := Lib.hid hc
  have HK := Lib.hid hK
  clear hc hK
  unfold maxLen at hm
  go_enter Tryd.func157, Tryd.ntmps157
  go_wp2
  go_loopw [5, 8] (fun _ i wr => ∃ k : Nat, k ≤ xs.length ∧ i = .int .i64 k ∧ (∀ j (hj : j < xs.length), j < k → p xs[j] = false) ∧ wr = w) (fun _ i _ => xs.length - (intOf i).toNat)
  case atStart => exact ⟨0, by omega, rfl, fun j hj h => by omega, rfl⟩
  case round =>
    obtain ⟨k, hk, rfl, hno, hwr⟩ := hrel
    have hwr2 := hwr.symm
    clear hwr
    subst hwr2
    have HNO := Lib.hid hno
    clear hno
    by_cases hlt : k < xs.length
    · obtain ⟨b, off, rfl, hcell⟩ := HC.out k hlt
      have HKK := HK.out k hlt
      obtain ⟨y, hy⟩ : ∃ y, xs[k] = y := ⟨_, rfl⟩
      rw [hy] at hcell HKK
      have HK2 := Lib.hid HKK
      have hki : (k : Int) < (xs.length : Int) := by omega
      have hk0 : (0 : Int) ≤ (k : Int) := by omega
      clear HKK
      cases hp : p y with
      | true =>
        rw [hp] at HK2
        have HCO : Hid (xs.any p = true) := Lib.hid (List.any_eq_true.2 ⟨y, hy ▸ List.getElem_mem _, hp⟩)
        clear hy hp
        go_wp2_with fail
        refine HK2.out.mono ?_
        rintro e w1 ⟨rfl, rfl⟩
        go_wp2
        go_ret
        exact ⟨_, rfl, by rw [HCO.out]; simp, rfl⟩
      | false =>
        rw [hp] at HK2
        have HY := Lib.hid (And.intro hy hp)
        clear hy hp
        go_wp2_with fail
        refine HK2.out.mono ?_
        rintro e w1 ⟨rfl, rfl⟩
        go_wp2
        go_roundw
        case rel =>
          refine ⟨k + 1, by omega, by go_num, fun j hj hjk => ?_, trivial⟩
          by_cases e : j = k
          · subst e; rw [HY.out.1]; exact HY.out.2
          · exact HNO.out j hj (by omega)
        case measure => simp [intOf]; omega
    · obtain rfl : k = xs.length := by omega
      have HCO : Hid (xs.any p = false) := Lib.hid (by
        rw [Bool.eq_false_iff]
        intro ht
        obtain ⟨x, hx, hpx⟩ := List.any_eq_true.1 ht
        obtain ⟨j, hj, rfl⟩ := List.getElem_of_mem hx
        rw [HNO.out j hj (by omega)] at hpx
        cases hpx)
      go_wp2
      go_ret
      exact ⟨-1, rfl, by rw [HCO.out]; rfl, rfl⟩

set_option maxRecDepth 100000 in
set_option maxHeartbeats 400000 in
theorem containsFunc_any (w : World) (v : Value) (xs : List Int) (h : Ints w v xs) (K : FuncId) (caps : Array Value) (p : Int → Bool)
    (hE : ∀ args W, (callFunc K args).run Tryd.prog W = .ok (.enter K args) W)
    (hK : ∀ (j : Nat) (hj : j < xs.length), Calls Tryd.prog K (#[.int .i64 xs[j]] ++ caps) w fun e W' => e = .returned (.bool (p xs[j])) ∧ w = W') :
    Calls Tryd.prog 142 #[v, .func (.func K) #[] caps] w fun e w' => e = .returned (.bool (xs.any p)) ∧ w = w' := by
  have HI := Lib.hid (indexFunc_any w v xs h K caps p hE hK)
  clear h hE hK
  go_enter Tryd.func142, Tryd.ntmps142
  go_wp2_with (go_at_call 157; refine HI.out.mono ?_; rintro e w1 ⟨r, rfl, hr, rfl⟩)
  go_ret
  exact ⟨ret_bool (by first | exact hr | simp), rfl⟩

set_option maxRecDepth 100000 in
set_option maxHeartbeats 400000 in
theorem within1_any (w : World) (g : Nat) (lim x : Int) (h0 : 0 ≤ lim) (hl : lim ≤ 1000000) (hc : w.cell? ⟨g, 0, none⟩ = some (.int .i64 lim)) :
    Calls Tryd.prog 143 #[.int .i64 x, .pointer (some ⟨g, 0, none⟩)] w fun e W' => e = .returned (.bool (!(inL lim x))) ∧ w = W' := by
  have hneg : IntKind.i64.wrap (-lim) = -lim := by rw [IntKind.wrap_i64]; omega
  by_cases h1 : x < -lim
  · have HR : Hid ((!(inL lim x)) = true) := Lib.hid (by unfold inL; rw [decide_eq_false (by omega)]; rfl)
    clear h0 hl
    go_enter Tryd.func143, Tryd.ntmps143
    go_wp2
    go_ret
    exact ⟨ret_bool HR.out.symm, rfl⟩
  · by_cases h2 : lim < x
    · have HR : Hid ((!(inL lim x)) = true) := Lib.hid (by unfold inL; rw [decide_eq_false (by omega)]; rfl)
      clear h0 hl
      go_enter Tryd.func143, Tryd.ntmps143
      go_wp2
      go_ret
      exact ⟨ret_bool HR.out.symm, rfl⟩
    · have HR : Hid ((!(inL lim x)) = false) := Lib.hid (by unfold inL; rw [decide_eq_true (by omega)]; rfl)
      clear h0 hl
      go_enter Tryd.func143, Tryd.ntmps143
      go_wp2
      go_ret
      exact ⟨ret_bool HR.out.symm, rfl⟩

set_option maxRecDepth 100000 in
set_option maxHeartbeats 400000 in
theorem areWithin_any (w : World) (v : Value) (xs : List Int) (h : Ints w v xs) (lim : Int) (h0 : 0 ≤ lim) (hl : lim ≤ 1000000) :
    Calls Tryd.prog 106 #[.int .i64 lim, v] w fun e w' => e = .returned (.bool (xs.all (inL lim))) ∧ Below w.heap.size w w' := by
  obtain ⟨W0, hW0⟩ : ∃ W0, w.alloc (.cells #[.int .i64 lim] 3) = W0 := ⟨_, rfl⟩
  have hb0 : Below w.heap.size w W0 := by rw [← hW0]; exact (Below.refl _ _).alloc (Nat.le_refl _) _
  have hc : W0.cell? ⟨w.heap.size, 0, none⟩ = some (.int .i64 lim) := by rw [← hW0]; simp
  have hall : xs.any (fun x => !(inL lim x)) = !(xs.all (inL lim)) := by rw [List.all_eq_not_any_not]; simp
  have HCF := Lib.hid (containsFunc_any W0 v xs (h.below hb0) 143 #[.pointer (some ⟨w.heap.size, 0, none⟩)] (fun x => !(inL lim x)) (by intro args W; go_simp) (fun j hj => within1_any W0 w.heap.size lim xs[j] h0 hl hc))
  rw [hall] at HCF
  have HB0 := Lib.hid hb0
  obtain ⟨r, hr⟩ : ∃ r, xs.all (inL lim) = r := ⟨_, rfl⟩
  rw [hr] at HCF ⊢
  clear h hb0 hc hall hr h0 hl
  go_enter Tryd.func106, Tryd.ntmps106
  go_wp2_with (go_at_call 142; refine HCF.out.mono ?_; rintro e w1 ⟨rfl, rfl⟩)
  go_ret
  exact ⟨ret_bool (by simp), HB0.out⟩

end Go.Proofs.YtfcbhcjgjbcjdaaDoor
