/-
  The drawn laws' reader: what one pick leaves.
-/
import Derived.Deep.WholeRow
import Derived.Deep.QuietTactic
import Derived.BigQuiet
import Derived.IntWalk
import Derived.Test.YtfcbhcjgjbcjdacDoorSpan
import Derived.Test.YtfcbhcjgjbcjdacDoorBits
import Derived.Deep.DeepCutAuto
import Derived.Sort.BigQuietIn
namespace Go.Proofs.YtfcbhcjgjbcjdacDoor
set_option linter.unusedVariables false
set_option linter.unusedSimpArgs false
open Go.RowKit

/-- The cells of a reader. -/
abbrev rcells (A : Option Addr) (L cap p : Nat) : Array Value := #[.slice A L cap, .int .i64 (p : Int)]

/-- The drawn bytes lie there, apart from the reader's block. -/
def Bytes (w : World) (r : Nat) (A : Option Addr) (L : Nat) : Prop :=
  ∀ i, i < L → ∃ b off x, A = some ⟨b, off, none⟩ ∧ b ≠ r ∧ w.cell? ⟨b, off + i, none⟩ = some (.int .u8 ((x : Nat) : Int)) ∧ x < 256

theorem xor64 (a b : Nat) (ha : a < 2 ^ 62) (hb : b < 2 ^ 62) : bits .xor .i64 (a : Int) (b : Int) = ((a ^^^ b : Nat) : Int) := by
  show IntKind.i64.wrap ((BitVec.ofInt 64 (a : Int) ^^^ BitVec.ofInt 64 (b : Int)).toNat : Int) = _
  rw [BitVec.toNat_xor, BitVec.ofInt_natCast, BitVec.ofInt_natCast, BitVec.toNat_ofNat, BitVec.toNat_ofNat]
  have h1 : a % 2 ^ 64 = a := Nat.mod_eq_of_lt (by omega)
  have h2 : b % 2 ^ 64 = b := Nat.mod_eq_of_lt (by omega)
  rw [h1, h2]
  have hx : a ^^^ b < 2 ^ 62 := Nat.xor_lt_two_pow ha hb
  exact wraps_i64 _ (by omega) (by omega)

theorem picked (w : World) (r : Nat) (v : Value) : Within r (r + 1) w (w.setCell ⟨r, 1, none⟩ v) :=
  Within.of_grown (grown_setCell w r 1 v) (fun k hk => by simp at hk; omega)

set_option maxHeartbeats 1000000 in
theorem pick_any (w : World) (r p n L cap : Nat) (A : Option Addr) (hr : w.heap[r]? = some (.cells (rcells A L cap p) 86 (0, 0))) (hx : Bytes w r A L) (hp : p < 1000000) (hL : L ≤ 2000) (hn : 1 ≤ n) (hn2 : n ≤ 1000) :
    Calls Tryd.prog 63 #[.pointer (some ⟨r, 0, none⟩), .int .i64 n] w fun e w' => ∃ v : Nat, v < n ∧ e = .returned (.int .i64 v) ∧ w'.heap[r]? = some (.cells (rcells A L cap (p + 1)) 86 (0, 0)) ∧ Within r (r + 1) w w' := by
  have HR := Lib.hid hr
  have HX := Lib.hid hx
  have c0 : w.cell? ⟨r, 0, none⟩ = some (.slice A L cap) := by rw [cell_of_row _ _ _ _ _ _ hr]; rfl
  have c1 : w.cell? ⟨r, 1, none⟩ = some (.int .i64 (p : Int)) := by rw [cell_of_row _ _ _ _ _ _ hr]; rfl
  have f0 := frozen_of_row w r 0 _ _ hr
  have f1 := frozen_of_row w r 1 _ _ hr
  have w1 : IntKind.i64.wrap ((p : Int) + 1) = ((p + 1 : Nat) : Int) := by rw [wraps_i64 _ (by omega) (by omega)]; omega
  have w2 : wrap64 ((p : Int) + 1) = ((p + 1 : Nat) : Int) := by rw [← wrap_eq, w1]
  have HN : ((n : Int) < 1) = False := by simp; omega
  clear hr hx
  by_cases h0 : L = 0
  · subst h0
    go_enter Tryd.func63, Tryd.ntmps63
    go_wp2
    go_ret
    exact ⟨0, by omega, rfl, heap_setCell_same w r 1 _ _ _ HR.out, picked w r _⟩
  · by_cases h1 : p < L
    · obtain ⟨b, off, x, rfl, hb, hcell, hx256⟩ := HX.out p h1
      have e1 : ((p : Int) < (L : Int)) = True := by simp; omega
      have e0 : (((L : Nat) : Int) == 0) = false := by rw [beq_eq_false_iff_ne]; omega
      have w3 : IntKind.i64.wrap (p : Int) = (p : Int) := wraps_i64 _ (by omega) (by omega)
      have w4 : wrap64 (p : Int) = (p : Int) := by rw [← wrap_eq, w3]
      have n0 : (((n : Nat) : Int) == 0) = false := by rw [beq_eq_false_iff_ne]; omega
      have w5 : IntKind.i64.wrap (x : Int) = (x : Int) := wraps_i64 _ (by omega) (by omega)
      have w6 : wrap64 (x : Int) = (x : Int) := by rw [← wrap_eq, w5]
      go_enter Tryd.func63, Tryd.ntmps63
      go_wp2
      go_ret
      exact ⟨x % n, Nat.mod_lt _ (by omega), by simp [Int.natCast_emod], heap_setCell_same w r 1 _ _ _ HR.out, picked w r _⟩
    · have e1 : ((p : Int) < (L : Int)) = False := by simp; omega
      have e0 : (((L : Nat) : Int) == 0) = false := by rw [beq_eq_false_iff_ne]; omega
      have w3 : IntKind.i64.wrap (p : Int) = (p : Int) := wraps_i64 _ (by omega) (by omega)
      have w4 : wrap64 (p : Int) = (p : Int) := by rw [← wrap_eq, w3]
      have n0 : (((n : Nat) : Int) == 0) = false := by rw [beq_eq_false_iff_ne]; omega
      obtain ⟨q1, hq1⟩ : ∃ q1, p % L = q1 := ⟨_, rfl⟩
      obtain ⟨q2, hq2⟩ : ∃ q2, (p * 7 + 3) % L = q2 := ⟨_, rfl⟩
      obtain ⟨q3, hq3⟩ : ∃ q3, p / L = q3 := ⟨_, rfl⟩
      have hq1L : q1 < L := by rw [← hq1]; exact Nat.mod_lt _ (by omega)
      have hq2L : q2 < L := by rw [← hq2]; exact Nat.mod_lt _ (by omega)
      have hq3p : q3 ≤ p := by rw [← hq3]; exact Nat.div_le_self _ _
      obtain ⟨b, off, x, rfl, hb, hcell, hx256⟩ := HX.out q1 hq1L
      obtain ⟨b', off', y, hA', _, hcell2, hy256⟩ := HX.out q2 hq2L
      cases hA'
      have m1 : (p : Int) % (L : Int) = (q1 : Int) := by rw [← hq1, Int.natCast_emod]
      have m2 : ((p : Int) * 7 + 3) % (L : Int) = (q2 : Int) := by rw [← hq2]; simp
      have m3 : (p : Int) / (L : Int) = (q3 : Int) := by rw [← hq3]; simp
      have t1 : (p : Int).tmod (L : Int) = (q1 : Int) := by rw [← m1, Int.tmod_eq_emod_of_nonneg (by omega)]
      have t2 : ((p : Int) * 7 + 3).tmod (L : Int) = (q2 : Int) := by rw [← m2, Int.tmod_eq_emod_of_nonneg (by omega)]
      have t3 : (p : Int).tdiv (L : Int) = (q3 : Int) := by rw [← m3, Int.tdiv_eq_ediv_of_nonneg (by omega)]
      have b1 : (0 : Int) ≤ (q1 : Int) ∧ (q1 : Int) < (L : Int) := by omega
      have b2 : (0 : Int) ≤ (q2 : Int) ∧ (q2 : Int) < (L : Int) := by omega
      have u1 : IntKind.i64.wrap ((p : Int) * 7) = (p : Int) * 7 := wraps_i64 _ (by omega) (by omega)
      have u2 : IntKind.i64.wrap ((p : Int) * 7 + 3) = (p : Int) * 7 + 3 := wraps_i64 _ (by omega) (by omega)
      have u3 : IntKind.i64.wrap (x : Int) = (x : Int) := wraps_i64 _ (by omega) (by omega)
      have u4 : IntKind.i64.wrap (y : Int) = (y : Int) := wraps_i64 _ (by omega) (by omega)
      have u5 : IntKind.i64.wrap ((x : Int) * 131) = (x : Int) * 131 := wraps_i64 _ (by omega) (by omega)
      have u6 : IntKind.i64.wrap ((y : Int) * 1117) = (y : Int) * 1117 := wraps_i64 _ (by omega) (by omega)
      have u7 : IntKind.i64.wrap ((x : Int) * 131 + (y : Int) * 1117) = (x : Int) * 131 + (y : Int) * 1117 := wraps_i64 _ (by omega) (by omega)
      have u8 : IntKind.i64.wrap ((p : Int) * 29) = (p : Int) * 29 := wraps_i64 _ (by omega) (by omega)
      have u9 : IntKind.i64.wrap ((x : Int) * 131 + (y : Int) * 1117 + (p : Int) * 29) = (x : Int) * 131 + (y : Int) * 1117 + (p : Int) * 29 := wraps_i64 _ (by omega) (by omega)
      have u10 : IntKind.i64.wrap ((q3 : Int) * 53) = (q3 : Int) * 53 := wraps_i64 _ (by omega) (by omega)
      have u11 : IntKind.i64.wrap ((x : Int) * 131 + (y : Int) * 1117 + (p : Int) * 29 + (q3 : Int) * 53) = (x : Int) * 131 + (y : Int) * 1117 + (p : Int) * 29 + (q3 : Int) * 53 := wraps_i64 _ (by omega) (by omega)
      have u12 : IntKind.i64.wrap (q3 : Int) = (q3 : Int) := wraps_i64 _ (by omega) (by omega)
      have v1 := (wrap_eq _).symm.trans u1
      have v2 := (wrap_eq _).symm.trans u2
      have v3 := (wrap_eq _).symm.trans u3
      have v4 := (wrap_eq _).symm.trans u4
      have v5 := (wrap_eq _).symm.trans u5
      have v6 := (wrap_eq _).symm.trans u6
      have v7 := (wrap_eq _).symm.trans u7
      have v8 := (wrap_eq _).symm.trans u8
      have v9 := (wrap_eq _).symm.trans u9
      have v10 := (wrap_eq _).symm.trans u10
      have v11 := (wrap_eq _).symm.trans u11
      have v12 := (wrap_eq _).symm.trans u12
      have HQ := Lib.hid (And.intro hq1 (And.intro hq2 hq3))
      have HQ3 := Lib.hid hq3p
      clear hq1 hq2 hq3 hq1L hq2L hq3p
      go_enter Tryd.func63, Tryd.ntmps63
      go_wp2
      go_quiet (fail)
      clear u1 u2 u3 u4 u5 u6 u7 u8 u9 u10 u11 u12 v1 v2 v3 v4 v5 v6 v7 v8 v9 v10 v11 v12 m1 m2 m3 t1 t2 t3 b1 b2
      obtain ⟨z, hz, hz40⟩ : ∃ z : Nat, (x : Int) * 131 + (y : Int) * 1117 + (p : Int) * 29 + (q3 : Int) * 53 = (z : Int) ∧ z < 2 ^ 40 :=
        ⟨x * 131 + y * 1117 + p * 29 + q3 * 53, by simp, by have := HQ3.out; omega⟩
      rw [hz]
      clear hz
      obtain ⟨s, hs⟩ : ∃ s : Nat, bits .xor .i64 (z : Int) ((z : Int) / 64) = (s : Int) :=
        ⟨z ^^^ (z / 64), by rw [← xor64 z (z / 64) (by omega) (by omega)]; simp⟩
      have d1 : (z : Int).tdiv 64 = (z : Int) / 64 := Int.tdiv_eq_ediv_of_nonneg (by omega)
      have d2 : IntKind.i64.wrap ((z : Int) / 64) = (z : Int) / 64 := wraps_i64 _ (by omega) (by omega)
      have d3 := (wrap_eq _).symm.trans d2
      have d4 : (0 : Int) ≤ (z : Int) := by omega
      go_wp2
      go_ret
      exact ⟨s % n, Nat.mod_lt _ (by omega), by simp [Int.natCast_emod], heap_setCell_same w r 1 _ _ _ HR.out, (picked w r _).drewN _⟩

end Go.Proofs.YtfcbhcjgjbcjdacDoor
