/-
  Draw1: Pick Draw DrawGraph DrawSome.
-/
import Derived.Deep.WholeRow
import Derived.Deep.QuietTactic
import Derived.BigQuiet
import Derived.IntWalk
import Derived.Test.YtbjpokjllkblaaaDoorCore1
import Derived.Deep.DeepCutAuto
import Derived.Sort.BigQuietIn
import Derived.Test.YtbjpokjllkblaaaDoorCore2
import Derived.Deep.RegionHeld3
import Derived.Deep.RegionLaw
import Derived.Deep.CutBlock
/-
  The drawn laws' reader: what one pick leaves.
-/
namespace Go.Proofs.YtbjpokjllkblaaaDoor
set_option linter.unusedVariables false
set_option linter.unusedSimpArgs false
open Go.RowKit

/-- The cells of a reader. -/
abbrev rcells (A : Option Addr) (L cap p : Nat) : Array Value := #[.slice A L cap, .int .i64 (p : Int)]

/-- The drawn bytes lie there, apart from the reader's block. -/
def Bytes (w : World) (r : Nat) (A : Option Addr) (L : Nat) : Prop :=
  ∀ i, i < L → ∃ b off x, A = some ⟨b, off, none⟩ ∧ b ≠ r ∧ w.cell? ⟨b, off + i, none⟩ = some (.int .u8 ((x : Nat) : Int)) ∧ x < 256

theorem xor64 (a b : Nat) (ha : a < 2 ^ 62) (hb : b < 2 ^ 62) : bits .xor .i64 (a : Int) (b : Int) = ((a ^^^ b : Nat) : Int) := by
  show IntKind.i64.wrap ((BitVec.ofInt 64 (a : Int) ^^^ BitVec.ofInt 64 (b : Int)).toNat : Int) = _
  rw [BitVec.toNat_xor, BitVec.ofInt_natCast, BitVec.ofInt_natCast, BitVec.toNat_ofNat, BitVec.toNat_ofNat]
  have h1 : a % 2 ^ 64 = a := Nat.mod_eq_of_lt (by omega)
  have h2 : b % 2 ^ 64 = b := Nat.mod_eq_of_lt (by omega)
  rw [h1, h2]
  have hx : a ^^^ b < 2 ^ 62 := Nat.xor_lt_two_pow ha hb
  exact wraps_i64 _ (by omega) (by omega)

theorem picked (w : World) (r : Nat) (v : Value) : Within r (r + 1) w (w.setCell ⟨r, 1, none⟩ v) :=
  Within.of_grown (grown_setCell w r 1 v) (fun k hk => by simp at hk; omega)

set_option maxHeartbeats 1000000 in
theorem pick_any (w : World) (r p n L cap : Nat) (A : Option Addr) (hr : w.heap[r]? = some (.cells (rcells A L cap p) 55 (0, 0))) (hx : Bytes w r A L) (hp : p < 1000000) (hL : L ≤ 2000) (hn : 1 ≤ n) (hn2 : n ≤ 1000) :
    Calls Tryd.prog 12 #[.pointer (some ⟨r, 0, none⟩), .int .i64 n] w fun e w' => ∃ v : Nat, v < n ∧ e = .returned (.int .i64 v) ∧ w'.heap[r]? = some (.cells (rcells A L cap (p + 1)) 55 (0, 0)) ∧ Within r (r + 1) w w' := by
  have HR := Lib.hid hr
  have HX := Lib.hid hx
  have c0 : w.cell? ⟨r, 0, none⟩ = some (.slice A L cap) := by rw [cell_of_row _ _ _ _ _ _ hr]; rfl
  have c1 : w.cell? ⟨r, 1, none⟩ = some (.int .i64 (p : Int)) := by rw [cell_of_row _ _ _ _ _ _ hr]; rfl
  have f0 := frozen_of_row w r 0 _ _ hr
  have f1 := frozen_of_row w r 1 _ _ hr
  have w1 : IntKind.i64.wrap ((p : Int) + 1) = ((p + 1 : Nat) : Int) := by rw [wraps_i64 _ (by omega) (by omega)]; omega
  have w2 : wrap64 ((p : Int) + 1) = ((p + 1 : Nat) : Int) := by rw [← wrap_eq, w1]
  have HN : ((n : Int) < 1) = False := by simp; omega
  clear hr hx
  by_cases h0 : L = 0
  · subst h0
    go_enter Tryd.func12, Tryd.ntmps12
    go_wp2
    go_ret
    exact ⟨0, by omega, rfl, heap_setCell_same w r 1 _ _ _ HR.out, picked w r _⟩
  · by_cases h1 : p < L
    · obtain ⟨b, off, x, rfl, hb, hcell, hx256⟩ := HX.out p h1
      have e1 : ((p : Int) < (L : Int)) = True := by simp; omega
      have e0 : (((L : Nat) : Int) == 0) = false := by rw [beq_eq_false_iff_ne]; omega
      have w3 : IntKind.i64.wrap (p : Int) = (p : Int) := wraps_i64 _ (by omega) (by omega)
      have w4 : wrap64 (p : Int) = (p : Int) := by rw [← wrap_eq, w3]
      have n0 : (((n : Nat) : Int) == 0) = false := by rw [beq_eq_false_iff_ne]; omega
      have w5 : IntKind.i64.wrap (x : Int) = (x : Int) := wraps_i64 _ (by omega) (by omega)
      have w6 : wrap64 (x : Int) = (x : Int) := by rw [← wrap_eq, w5]
      go_enter Tryd.func12, Tryd.ntmps12
      go_wp2
      go_ret
      exact ⟨x % n, Nat.mod_lt _ (by omega), by simp [Int.natCast_emod], heap_setCell_same w r 1 _ _ _ HR.out, picked w r _⟩
    · have e1 : ((p : Int) < (L : Int)) = False := by simp; omega
      have e0 : (((L : Nat) : Int) == 0) = false := by rw [beq_eq_false_iff_ne]; omega
      have w3 : IntKind.i64.wrap (p : Int) = (p : Int) := wraps_i64 _ (by omega) (by omega)
      have w4 : wrap64 (p : Int) = (p : Int) := by rw [← wrap_eq, w3]
      have n0 : (((n : Nat) : Int) == 0) = false := by rw [beq_eq_false_iff_ne]; omega
      obtain ⟨q1, hq1⟩ : ∃ q1, p % L = q1 := ⟨_, rfl⟩
      obtain ⟨q2, hq2⟩ : ∃ q2, (p * 7 + 3) % L = q2 := ⟨_, rfl⟩
      obtain ⟨q3, hq3⟩ : ∃ q3, p / L = q3 := ⟨_, rfl⟩
      have hq1L : q1 < L := by rw [← hq1]; exact Nat.mod_lt _ (by omega)
      have hq2L : q2 < L := by rw [← hq2]; exact Nat.mod_lt _ (by omega)
      have hq3p : q3 ≤ p := by rw [← hq3]; exact Nat.div_le_self _ _
      obtain ⟨b, off, x, rfl, hb, hcell, hx256⟩ := HX.out q1 hq1L
      obtain ⟨b', off', y, hA', _, hcell2, hy256⟩ := HX.out q2 hq2L
      cases hA'
      have m1 : (p : Int) % (L : Int) = (q1 : Int) := by rw [← hq1, Int.natCast_emod]
      have m2 : ((p : Int) * 7 + 3) % (L : Int) = (q2 : Int) := by rw [← hq2]; simp
      have m3 : (p : Int) / (L : Int) = (q3 : Int) := by rw [← hq3]; simp
      have t1 : (p : Int).tmod (L : Int) = (q1 : Int) := by rw [← m1, Int.tmod_eq_emod_of_nonneg (by omega)]
      have t2 : ((p : Int) * 7 + 3).tmod (L : Int) = (q2 : Int) := by rw [← m2, Int.tmod_eq_emod_of_nonneg (by omega)]
      have t3 : (p : Int).tdiv (L : Int) = (q3 : Int) := by rw [← m3, Int.tdiv_eq_ediv_of_nonneg (by omega)]
      have b1 : (0 : Int) ≤ (q1 : Int) ∧ (q1 : Int) < (L : Int) := by omega
      have b2 : (0 : Int) ≤ (q2 : Int) ∧ (q2 : Int) < (L : Int) := by omega
      have u1 : IntKind.i64.wrap ((p : Int) * 7) = (p : Int) * 7 := wraps_i64 _ (by omega) (by omega)
      have u2 : IntKind.i64.wrap ((p : Int) * 7 + 3) = (p : Int) * 7 + 3 := wraps_i64 _ (by omega) (by omega)
      have u3 : IntKind.i64.wrap (x : Int) = (x : Int) := wraps_i64 _ (by omega) (by omega)
      have u4 : IntKind.i64.wrap (y : Int) = (y : Int) := wraps_i64 _ (by omega) (by omega)
      have u5 : IntKind.i64.wrap ((x : Int) * 131) = (x : Int) * 131 := wraps_i64 _ (by omega) (by omega)
      have u6 : IntKind.i64.wrap ((y : Int) * 1117) = (y : Int) * 1117 := wraps_i64 _ (by omega) (by omega)
      have u7 : IntKind.i64.wrap ((x : Int) * 131 + (y : Int) * 1117) = (x : Int) * 131 + (y : Int) * 1117 := wraps_i64 _ (by omega) (by omega)
      have u8 : IntKind.i64.wrap ((p : Int) * 29) = (p : Int) * 29 := wraps_i64 _ (by omega) (by omega)
      have u9 : IntKind.i64.wrap ((x : Int) * 131 + (y : Int) * 1117 + (p : Int) * 29) = (x : Int) * 131 + (y : Int) * 1117 + (p : Int) * 29 := wraps_i64 _ (by omega) (by omega)
      have u10 : IntKind.i64.wrap ((q3 : Int) * 53) = (q3 : Int) * 53 := wraps_i64 _ (by omega) (by omega)
      have u11 : IntKind.i64.wrap ((x : Int) * 131 + (y : Int) * 1117 + (p : Int) * 29 + (q3 : Int) * 53) = (x : Int) * 131 + (y : Int) * 1117 + (p : Int) * 29 + (q3 : Int) * 53 := wraps_i64 _ (by omega) (by omega)
      have u12 : IntKind.i64.wrap (q3 : Int) = (q3 : Int) := wraps_i64 _ (by omega) (by omega)
      have v1 := (wrap_eq _).symm.trans u1
      have v2 := (wrap_eq _).symm.trans u2
      have v3 := (wrap_eq _).symm.trans u3
      have v4 := (wrap_eq _).symm.trans u4
      have v5 := (wrap_eq _).symm.trans u5
      have v6 := (wrap_eq _).symm.trans u6
      have v7 := (wrap_eq _).symm.trans u7
      have v8 := (wrap_eq _).symm.trans u8
      have v9 := (wrap_eq _).symm.trans u9
      have v10 := (wrap_eq _).symm.trans u10
      have v11 := (wrap_eq _).symm.trans u11
      have v12 := (wrap_eq _).symm.trans u12
      have HQ := Lib.hid (And.intro hq1 (And.intro hq2 hq3))
      have HQ3 := Lib.hid hq3p
      clear hq1 hq2 hq3 hq1L hq2L hq3p
      go_enter Tryd.func12, Tryd.ntmps12
      go_wp2
      go_quiet (fail)
      clear u1 u2 u3 u4 u5 u6 u7 u8 u9 u10 u11 u12 v1 v2 v3 v4 v5 v6 v7 v8 v9 v10 v11 v12 m1 m2 m3 t1 t2 t3 b1 b2
      obtain ⟨z, hz, hz40⟩ : ∃ z : Nat, (x : Int) * 131 + (y : Int) * 1117 + (p : Int) * 29 + (q3 : Int) * 53 = (z : Int) ∧ z < 2 ^ 40 :=
        ⟨x * 131 + y * 1117 + p * 29 + q3 * 53, by simp, by have := HQ3.out; omega⟩
      rw [hz]
      clear hz
      obtain ⟨s, hs⟩ : ∃ s : Nat, bits .xor .i64 (z : Int) ((z : Int) / 64) = (s : Int) :=
        ⟨z ^^^ (z / 64), by rw [← xor64 z (z / 64) (by omega) (by omega)]; simp⟩
      have d1 : (z : Int).tdiv 64 = (z : Int) / 64 := Int.tdiv_eq_ediv_of_nonneg (by omega)
      have d2 : IntKind.i64.wrap ((z : Int) / 64) = (z : Int) / 64 := wraps_i64 _ (by omega) (by omega)
      have d3 := (wrap_eq _).symm.trans d2
      have d4 : (0 : Int) ≤ (z : Int) := by omega
      go_wp2
      go_ret
      exact ⟨s % n, Nat.mod_lt _ (by omega), by simp [Int.natCast_emod], heap_setCell_same w r 1 _ _ _ HR.out, (picked w r _).drewN _⟩

end Go.Proofs.YtbjpokjllkblaaaDoor

/-
  A drawn number of nodes: the reader is opened, one pick.
-/
namespace Go.Proofs.YtbjpokjllkblaaaDoor
set_option linter.unusedVariables false
set_option linter.unusedSimpArgs false
open Go.RowKit

/-- The drawn bytes, as they come in. -/
def Code8 (w : World) (A : Option Addr) (L : Nat) : Prop :=
  ∀ i, i < L → ∃ b off x, A = some ⟨b, off, none⟩ ∧ w.cell? ⟨b, off + i, none⟩ = some (.int .u8 ((x : Nat) : Int)) ∧ x < 256

theorem Code8.bytes {w w' : World} {A : Option Addr} {L : Nat} (h : Code8 w A L) (hb : Below w.heap.size w w') (r : Nat) (hr : w.heap.size ≤ r) : Bytes w' r A L := fun i hi => by
  obtain ⟨b, off, x, hA, hc, hx⟩ := h i hi
  have hlt : b < w.heap.size := World.block_lt_of_cell? w _ hc
  exact ⟨b, off, x, hA, by omega, (hb.cell (p := ⟨b, off + i, none⟩) hlt).trans hc, hx⟩
theorem Code8.below {w w' : World} {A : Option Addr} {L : Nat} (h : Code8 w A L) (hb : Below w.heap.size w w') : Code8 w' A L := fun i hi => by
  obtain ⟨b, off, x, hA, hc, hx⟩ := h i hi
  exact ⟨b, off, x, hA, (hb.cell (p := ⟨b, off + i, none⟩) (World.block_lt_of_cell? w _ hc)).trans hc, hx⟩
theorem Code8.less {w : World} {A : Option Addr} {L M : Nat} (h : Code8 w A L) (hm : M ≤ L) : Code8 w A M := fun i hi => h i (Nat.lt_of_lt_of_le hi hm)

set_option maxHeartbeats 1000000 in
/-- A reader is opened. -/
theorem open_any (w : World) (A : Option Addr) (L cap : Nat) (hc : L ≤ cap) (hm : L ≤ maxLen) :
    Calls Tryd.prog 10 #[.slice A L cap] w fun e w' => ∃ r M cap', e = .returned (.pointer (some ⟨r, 0, none⟩)) ∧ M ≤ 2000 ∧ M ≤ L ∧ w.heap.size ≤ r ∧ w'.heap[r]? = some (.cells (rcells A M cap' 0) 55 (0, 0)) ∧ Below w.heap.size w w' := by
  unfold maxLen at hm
  by_cases h : L ≤ 2000
  · have e1 : ((2000 : Int) < (L : Int)) = False := by simp; omega
    go_enter Tryd.func10, Tryd.ntmps10
    go_wp2
    go_ret
    exact ⟨w.heap.size, L, cap, rfl, h, Nat.le_refl _, Nat.le_refl _, World.alloc_heap_new _ _, (Below.refl _ _).alloc (Nat.le_refl _) _⟩
  · have e1 : ((2000 : Int) < (L : Int)) = True := by simp; omega
    go_enter Tryd.func10, Tryd.ntmps10
    go_wp2
    go_ret
    exact ⟨w.heap.size, 2000, cap, rfl, Nat.le_refl _, by omega, Nat.le_refl _, World.alloc_heap_new _ _, (Below.refl _ _).alloc (Nat.le_refl _) _⟩


end Go.Proofs.YtbjpokjllkblaaaDoor

/-
  A drawn list: spec.l91Graph gives some list of numbers, which the call owns; the reader's block is written.
-/
namespace Go.Proofs.YtbjpokjllkblaaaDoor
set_option linter.unusedVariables false
set_option linter.unusedSimpArgs false
open Go.RowKit

theorem Bytes.within {w w' : World} {r M : Nat} {A : Option Addr} (h : Bytes w r A M) (hw : Within r (r + 1) w w') : Bytes w' r A M := fun i hi => by
  obtain ⟨b, off, x, hA, hb, hc, hx⟩ := h i hi
  have hlt : b < w.heap.size := World.block_lt_of_cell? w _ hc
  exact ⟨b, off, x, hA, hb, (World.cell?_of_block (a := ⟨b, off + i, none⟩) (hw.block b hlt (by omega))).trans hc, hx⟩

theorem within_alloc (w : World) (o : Obj) (r : Nat) : Within r (r + 1) w (w.alloc o) := by
  have b := (Below.refl w.heap.size w).alloc (Nat.le_refl _) o
  exact ⟨b.os, b.tape, b.output, b.size, fun k hk _ => b.block k hk⟩

theorem owns_within {w W W' : World} {r lo n : Nat} {v : Value} {cs : List Value} (h : W.ownsRow lo 3 1 v n cs) (hw : Within r (r + 1) W W') (hr : r < lo) : W'.ownsRow lo 3 1 v n cs :=
  ((OwnsAt.of h).kept hw (.inr hr)).1

/-- How the reader and the list stand in the loops. -/
def Drawn (w : World) (r M cap G n : Nat) (A : Option Addr) (q : Nat) (W : World) : Prop :=
  ∃ p xs, p ≤ q ∧ W.heap[r]? = some (.cells (rcells A M cap p) 55 (0, 0)) ∧ xs.length = n ∧ (∀ x ∈ xs, I64 x) ∧ W.ownsRow w.heap.size 3 1 (.slice (some ⟨G, 0, none⟩) n n) n (vals xs) ∧ Within r (r + 1) w W

theorem drawn_pick {w W : World} {r M cap G n q m : Nat} {A : Option Addr} (h : Drawn w r M cap G n A q W) (hxr : Bytes w r A M) (hM : M ≤ 2000) (hrw : r < w.heap.size) (hq : q ≤ 100000) (hm : 1 ≤ m) (hm2 : m ≤ 1000) :
    Calls Tryd.prog 12 #[.pointer (some ⟨r, 0, none⟩), .int .i64 m] W fun e W' => ∃ v : Nat, v < m ∧ e = .returned (.int .i64 v) ∧ Drawn w r M cap G n A (q + 1) W' := by
  obtain ⟨p, xs, hp, hr3, hl, hI, ho, hw⟩ := h
  refine (pick_any W r p m M cap A hr3 (hxr.within hw) (by omega) hM hm hm2).mono ?_
  rintro e W' ⟨v, hv, rfl, hr4, hw4⟩
  exact ⟨v, hv, rfl, p + 1, xs, by omega, hr4, hl, hI, owns_within (w := w) ho hw4 hrw, hw.trans hw4⟩

theorem Drawn.more {w W : World} {r M cap G n q q' : Nat} {A : Option Addr} (h : Drawn w r M cap G n A q W) (hq : q ≤ q') : Drawn w r M cap G n A q' W := by
  obtain ⟨p, xs, hp, rest⟩ := h
  exact ⟨p, xs, by omega, rest⟩
theorem Drawn.drew {w W : World} {r M cap G n q : Nat} {A : Option Addr} (h : Drawn w r M cap G n A q W) : Drawn w r M cap G n A q W.drew := by
  obtain ⟨p, xs, hp, h1, h2, h3, h4, h5⟩ := h
  exact ⟨p, xs, hp, h1, h2, h3, h4, h5.os, h5.tape, h5.output, h5.size, h5.block⟩

theorem vals_set (xs : List Int) (i : Nat) (y : Int) : (vals xs).set i (.int .i64 y) = vals (xs.set i y) := by
  unfold vals; rw [List.map_set]
theorem i64_wrap (x : Int) : I64 (IntKind.i64.wrap x) := by
  rw [IntKind.wrap_i64]; unfold I64; omega
theorem i64_bits (op : BinOp) (x y : Int) (h : op = .or ∨ op = .xor) : I64 (bits op .i64 x y) := by
  rcases h with rfl | rfl <;> exact i64_wrap _

theorem drawn_store {w W : World} {r M cap G n q : Nat} {A : Option Addr} (h : Drawn w r M cap G n A q W) (hG : w.heap.size ≤ G) (hrw : r < w.heap.size) (i : Nat) (y : Int) (hy : I64 y) :
    Drawn w r M cap G n A q (W.setCell ⟨G, i, none⟩ (.int .i64 y)) := by
  obtain ⟨p, xs, hp, hr3, hl, hI, ho, hw⟩ := h
  refine ⟨p, xs.set i y, hp, (Below.heap_setCell _ _ _ r (by show r ≠ G; omega)).trans hr3, by simp [hl], fun x hx => ?_, ?_, hw.os, hw.tape, hw.output, ?_, fun k hk hk2 => (Below.heap_setCell _ _ _ k (by show k ≠ G; omega)).trans (hw.block k hk hk2)⟩
  · rcases List.mem_or_eq_of_mem_set hx with h | rfl
    · exact hI x h
    · exact hy
  · have := (ho.stored i (.int .i64 y)).1
    rw [vals_set] at this
    exact this
  · have := hw.size
    simpa using this
theorem drawn_cell {w W : World} {r M cap G n q : Nat} {A : Option Addr} (h : Drawn w r M cap G n A q W) (i : Nat) (hi : i < n) : ∃ x, I64 x ∧ W.cell? ⟨G, i, none⟩ = some (.int .i64 x) ∧ W.frozen? ⟨G, i, none⟩ = false := by
  obtain ⟨p, xs, hp, hr3, hl, hI, ho, hw⟩ := h
  refine ⟨xs[i]'(by omega), hI _ (List.getElem_mem _), (ho.cellAt i (by omega)).trans ?_, ho.frozenAt i⟩
  unfold vals
  rw [List.getElem?_map, List.getElem?_eq_getElem (by omega)]
  rfl

theorem eqi {a b : Nat} (h : a = b) : (((a : Nat) : Int) == ((b : Nat) : Int)) = true := by rw [h, beq_self_eq_true]
theorem nei {a b : Nat} (h : a ≠ b) : (((a : Nat) : Int) == ((b : Nat) : Int)) = false := by rw [beq_eq_false_iff_ne]; omega

set_option maxRecDepth 100000 in
set_option maxHeartbeats 8000000 in
theorem graph_any (w : World) (r M cap p0 most : Nat) (A : Option Addr) (hr : w.heap[r]? = some (.cells (rcells A M cap p0) 55 (0, 0))) (hxr : Bytes w r A M) (hM : M ≤ 2000) (hrw : r < w.heap.size) (hp0 : p0 ≤ 10000) (hm1 : 1 ≤ most) (hm8 : most ≤ 8) :
    Calls Tryd.prog 11 #[.pointer (some ⟨r, 0, none⟩), .int .i64 (most : Int)] w fun e w' => ∃ G xs p, e = .returned (.slice (some ⟨G, 0, none⟩) xs.length xs.length) ∧ 1 ≤ xs.length ∧ xs.length ≤ most ∧ (∀ x ∈ xs, I64 x) ∧ Within r (r + 1) w w' ∧ w'.ownsRow w.heap.size 3 1 (.slice (some ⟨G, 0, none⟩) xs.length xs.length) xs.length (vals xs) ∧
      p ≤ p0 + 500 ∧ w'.heap[r]? = some (.cells (rcells A M cap p) 55 (0, 0)) := by
  have H1 := Lib.hid (pick_any w r p0 most M cap A hr hxr (by omega) hM (by omega) (by omega))
  clear hr
  go_enter Tryd.func11, Tryd.ntmps11
  go_wp2_with fail
  refine H1.out.mono ?_
  rintro e w1 ⟨n0, hn0, rfl, hr1, hb1⟩
  have hw1 : IntKind.i64.wrap (1 + (n0 : Int)) = ((n0 + 1 : Nat) : Int) := by rw [wraps_i64 _ (by omega) (by omega)]; omega
  have hw2 := (wrap_eq _).symm.trans hw1
  obtain ⟨n, hn⟩ : ∃ n, n0 + 1 = n := ⟨_, rfl⟩
  have hn1 : 1 ≤ n := by omega
  have hnm : n ≤ most := by omega
  have hn7 : n ≤ 8 := by omega
  rw [hn] at hw1 hw2
  clear hn hn0
  have hmk := fun W => run_make_row' (P := Tryd.prog) 23 3 (.int .i64 0) 8 Tryd.underlying23 infoInt rfl .i64 .i64 n (by omega) (by omega) W
  have HXR := Lib.hid hxr
  have hG : w1.heap.size ≠ r := by have := hb1.size; omega
  have hal : (w1.alloc (.cells (madeCells #[Value.int .i64 0] n) 3)).heap[r]? = some (.cells (rcells A M cap (p0 + 1)) 55 (0, 0)) := by
    exact (((Below.refl w1.heap.size w1).alloc (Nat.le_refl _) _).block r (by have := hb1.size; omega)).trans hr1
  have hw3 : Within r (r + 1) w (w1.alloc (.cells (madeCells #[Value.int .i64 0] n) 3)) := hb1.trans (within_alloc w1 _ r)
  have hGw : w.heap.size ≤ w1.heap.size := hb1.size
  go_wp2_with fail
  refine (pick_any _ r (p0 + 1) 4 M cap A hal (HXR.out.within hw3) (by omega) hM (by omega) (by omega)).mono ?_
  rintro e w2 ⟨kd, hkd, rfl, hr2, hb2⟩
  obtain ⟨G, hGe⟩ : ∃ G, w1.heap.size = G := ⟨_, rfl⟩
  have hD : Drawn w r M cap w1.heap.size n A (p0 + 2) w2 := by
    have ho := World.ownsRow_lit (base := w.heap.size) (e := 3) (size := 1) w1 (madeCells #[Value.int .i64 0] n) n hb1.size (by unfold maxLen; omega) (by simp [madeCells])
    rw [toList_madeCells_one] at ho
    refine ⟨p0 + 2, List.replicate n 0, Nat.le_refl _, hr2, by simp, fun x hx => ?_, ?_, hw3.trans hb2⟩
    · have := List.eq_of_mem_replicate hx
      subst this
      exact ⟨by decide, by decide⟩
    · rw [vals, List.map_replicate]
      exact owns_within (w := w) ho hb2 hrw
  rw [hGe] at hD hGw ⊢
  have HD := Lib.hid hD
  have hk4 : kd = 0 ∨ kd = 1 ∨ kd = 2 ∨ kd = 3 := by omega
  have HK4 := Lib.hid hk4
  clear hD hr1 hb1 hr2 hb2 hal hw3 hmk hxr hG hGe hw1 hw2 hkd hk4
  go_wp2_with fail
  go_loopw [8, 9, 10] (fun i _ _ wr => ∃ a : Nat, a ≤ n ∧ i = .int .i64 a ∧ Drawn w r M cap G n A (p0 + 2 + 40 * a) wr)
    (fun i _ _ _ => n - (intOf i).toNat)
  case atStart => exact ⟨0, by omega, rfl, HD.out⟩
  case round =>
    obtain ⟨a, ha, rfl, hD⟩ := hrel
    by_cases hlt : a < n
    · have HD1 := Lib.hid hD
      clear hD HD
      have ha8 : (a : Int) < 8 := by omega
      have ha64 : (a : Int) < 64 := by omega
      have hani : (a : Int) < (n : Int) := by omega
      have hn8i : (n : Int) ≤ 8 := by omega
      go_wp2_with fail
      go_loopw [9, 10] (fun j _ wr => ∃ b : Nat, b ≤ a ∧ j = .int .i64 b ∧ Drawn w r M cap G n A (p0 + 2 + 40 * a + 4 * b) wr)
        (fun j _ _ => a - (intOf j).toNat)
      case atStart => exact ⟨0, by omega, rfl, HD1.out⟩
      case round =>
        obtain ⟨b, hb, rfl, hD⟩ := hrel
        clear HD1
        by_cases hlb : b < a
        · have HD2 := Lib.hid hD
          clear hD
          have hbi : (b : Int) < (a : Int) := by omega
          go_wp2_with fail
          refine (drawn_pick (m := 2) HD2.out HXR.out hM hrw (by omega) (by decide) (by decide)).mono ?_
          rintro e w3 ⟨v, hv, rfl, hD3⟩
          have HD3 := Lib.hid hD3
          clear hD3
          go_upto_block 4 with fail
          go_cut [10] (fun s10 wx => ∃ lk : Bool, s10 = .bool lk ∧ Drawn w r M cap G n A (p0 + 2 + 40 * a + 4 * b + 4) wx)
          case first =>
            rcases HK4.out with rfl | rfl | rfl | rfl
            · go_wp2_with fail
              all_goals go_meet
              all_goals exact ⟨_, rfl, HD3.out.more (by omega)⟩
            · by_cases hv0 : v = 0
              · have e1 := eqi hv0
                clear hv0
                go_wp2_with fail
                all_goals go_meet
                all_goals exact ⟨_, rfl, HD3.out.more (by omega)⟩
              · have e1 := nei hv0
                clear hv0
                go_wp2_with fail
                all_goals go_meet
                all_goals exact ⟨_, rfl, HD3.out.more (by omega)⟩
            · by_cases h1 : a = b + 1
              · have e1 : ((a : Int) == (b : Int) + 1) = true := by rw [h1]; simp
                clear h1
                go_wp2_with fail
                all_goals go_meet
                all_goals exact ⟨_, rfl, HD3.out.more (by omega)⟩
              · have e1 : ((a : Int) == (b : Int) + 1) = false := by rw [beq_eq_false_iff_ne]; omega
                by_cases h2 : a = n - 1 ∧ b = 0
                · have e2 : ((a : Int) == (n : Int) - 1) = true := by rw [beq_iff_eq]; omega
                  have e3 : ((b : Int) == 0) = true := by rw [beq_iff_eq]; omega
                  clear h1 h2
                  go_wp2_with fail
                  refine (drawn_pick (m := 2) HD3.out HXR.out hM hrw (by omega) (by decide) (by decide)).mono ?_
                  rintro e w4 ⟨v4, hv4, rfl, hD4⟩
                  have HD4 := Lib.hid hD4
                  clear hD4
                  by_cases hv0 : v4 = 0
                  · have e4 : ((v4 : Int) == 0) = true := by rw [beq_iff_eq]; omega
                    clear hv0
                    go_wp2_with fail
                    all_goals go_meet
                    all_goals exact ⟨_, rfl, HD4.out.more (by omega)⟩
                  · have e4 : ((v4 : Int) == 0) = false := by rw [beq_eq_false_iff_ne]; omega
                    clear hv0
                    go_wp2_with fail
                    refine (drawn_pick (m := 6) HD4.out HXR.out hM hrw (by omega) (by decide) (by decide)).mono ?_
                    rintro e w5 ⟨v5, hv5, rfl, hD5⟩
                    have HD5 := Lib.hid hD5
                    clear hD5
                    go_wp2_with fail
                    all_goals go_meet
                    all_goals exact ⟨_, rfl, HD5.out.more (by omega)⟩
                · by_cases h3 : a = n - 1
                  · have e2 : ((a : Int) == (n : Int) - 1) = true := by rw [beq_iff_eq]; omega
                    have e3 : ((b : Int) == 0) = false := by rw [beq_eq_false_iff_ne]; omega
                    clear h1 h2 h3
                    go_wp2_with fail
                    refine (drawn_pick (m := 6) HD3.out HXR.out hM hrw (by omega) (by decide) (by decide)).mono ?_
                    rintro e w5 ⟨v5, hv5, rfl, hD5⟩
                    have HD5 := Lib.hid hD5
                    clear hD5
                    go_wp2_with fail
                    all_goals go_meet
                    all_goals exact ⟨_, rfl, HD5.out.more (by omega)⟩
                  · have e2 : ((a : Int) == (n : Int) - 1) = false := by rw [beq_eq_false_iff_ne]; omega
                    clear h1 h2 h3
                    go_wp2_with fail
                    refine (drawn_pick (m := 6) HD3.out HXR.out hM hrw (by omega) (by decide) (by decide)).mono ?_
                    rintro e w5 ⟨v5, hv5, rfl, hD5⟩
                    have HD5 := Lib.hid hD5
                    clear hD5
                    go_wp2_with fail
                    all_goals go_meet
                    all_goals exact ⟨_, rfl, HD5.out.more (by omega)⟩
            · go_wp2_with fail
              refine (drawn_pick (m := 4) HD3.out HXR.out hM hrw (by omega) (by decide) (by decide)).mono ?_
              rintro e w4 ⟨v4, hv4, rfl, hD4⟩
              have HD4 := Lib.hid hD4
              clear hD4
              go_wp2_with fail
              all_goals go_meet
              all_goals exact ⟨_, rfl, HD4.out.more (by omega)⟩
          case rest =>
            obtain ⟨lk, rfl, hD6⟩ := hcut
            have HD6 := Lib.hid hD6
            clear HD2 HD3
            cases lk with
            | false =>
              clear hD6
              go_wp2_with fail
              go_roundw
              all_goals first | exact ⟨b + 1, by omega, by go_num, HD6.out.more (by omega)⟩ | (simp [intOf]; omega)
            | true =>
              obtain ⟨x, hx, cx, fx⟩ := drawn_cell hD6 a hlt
              have hy := i64_bits .or x (wrap64 (2 ^ b)) (.inl rfl)
              obtain ⟨y, hye⟩ : ∃ y, bits .or .i64 x (wrap64 (2 ^ b)) = y := ⟨_, rfl⟩
              rw [hye] at hy
              have hD7 := (drawn_store hD6 hGw hrw a y hy).drew
              obtain ⟨x2, hx2, cx2, fx2⟩ := drawn_cell hD7 b (by omega)
              have hz := i64_bits .or x2 (wrap64 (2 ^ a)) (.inl rfl)
              obtain ⟨z, hze⟩ : ∃ z, bits .or .i64 x2 (wrap64 (2 ^ a)) = z := ⟨_, rfl⟩
              rw [hze] at hz
              have hD8 := ((drawn_store (drawn_store hD6 hGw hrw a y hy) hGw hrw b z hz).drew).drew
              have HD8 := Lib.hid hD8
              have hb64 : (b : Int) < 64 := by omega
              have hbni : (b : Int) < (n : Int) := by omega
              have HX2 := Lib.hid (And.intro cx2 (And.intro fx2 hze))
              clear hD6 hD7 hD8 hx hy hz hx2 cx2 fx2 hze
              go_wp2_with fail
              go_region
              clear cx fx hye
              obtain ⟨cx2, fx2, hze⟩ := HX2.out
              go_wp2_with fail
              go_region
              clear cx2 fx2 hze
              have hq : p0 + 2 + 40 * a + 4 * b + 4 ≤ p0 + 2 + 40 * a + 4 * (b + 1) := by omega
              have hms : a - (b + 1) < a - b := by omega
              have hb1 : b + 1 ≤ a := by omega
              go_wp2_with fail
              go_roundw
              all_goals first | exact ⟨b + 1, hb1, by go_num, HD8.out.more hq⟩ | (simp [intOf]; exact hms) | (simp [intOf]; omega)
        · obtain rfl : b = a := by omega
          have HD2 := Lib.hid hD
          clear hD
          go_wp2
          go_roundw
          all_goals first | exact ⟨b + 1, by omega, by go_num, HD2.out.more (by omega)⟩ | (simp [intOf]; omega)
    · obtain rfl : a = n := by omega
      have HD1 := Lib.hid (hD.more (q' := p0 + 400) (by omega))
      clear hD HD
      go_wp2_with fail
      refine (drawn_pick (m := 40) HD1.out HXR.out hM hrw (by omega) (by decide) (by decide)).mono ?_
      rintro e w3 ⟨v, hv, rfl, hD3⟩
      by_cases hv0 : v = 0
      · have e4 : ((v : Int) == 0) = true := by rw [beq_iff_eq]; omega
        obtain ⟨x, hx, cx, fx⟩ := drawn_cell hD3 0 (by omega)
        obtain ⟨d, hd⟩ : ∃ d, a - 1 = d := ⟨_, rfl⟩
        have hd64 : (d : Int) < 64 := by omega
        have hpos : (0 : Int) < (a : Int) := by omega
        have hwd : IntKind.i64.wrap ((a : Int) - 1) = (d : Int) := by rw [wraps_i64 _ (by omega) (by omega)]; omega
        have hwd2 := (wrap_eq _).symm.trans hwd
        have hy := i64_bits .xor x (wrap64 (2 ^ d)) (.inr rfl)
        obtain ⟨y, hye⟩ : ∃ y, bits .xor .i64 x (wrap64 (2 ^ d)) = y := ⟨_, rfl⟩
        rw [hye] at hy
        have hD8 := (drawn_store hD3 hGw hrw 0 y hy).drew
        have HD8 := Lib.hid hD8
        clear hv0 hD3 hD8 hx hy hd
        go_wp2_with fail
        go_region
        clear hwd hwd2 hye cx fx
        go_wp2_with fail
        go_ret
        obtain ⟨p, xs, hp, hr3, rfl, hI, ho, hw⟩ := HD8.out
        exact ⟨G, xs, p, rfl, by omega, by omega, hI, hw, ho, by omega, hr3⟩
      · have e4 : ((v : Int) == 0) = false := by rw [beq_eq_false_iff_ne]; omega
        have HD3 := Lib.hid hD3
        clear hv0 hD3
        go_wp2_with fail
        go_ret
        obtain ⟨p, xs, hp, hr3, rfl, hI, ho, hw⟩ := HD3.out
        exact ⟨G, xs, p, rfl, by omega, by omega, hI, hw, ho, by omega, hr3⟩

end Go.Proofs.YtbjpokjllkblaaaDoor

/-
  spec.l91Some: a list of numbers is drawn.
-/
namespace Go.Proofs.YtbjpokjllkblaaaDoor
set_option linter.unusedVariables false
set_option linter.unusedSimpArgs false
open Go.RowKit

/-- A list that was drawn, and that its call owns. -/
def GivesList (w : World) (most : Nat) (e : Ending) (w' : World) : Prop :=
  ∃ G xs, e = .returned (.slice (some ⟨G, 0, none⟩) xs.length xs.length) ∧ 1 ≤ xs.length ∧ xs.length ≤ most ∧ (∀ x ∈ xs, I64 x) ∧ Below w.heap.size w w' ∧ Ints w' (.slice (some ⟨G, 0, none⟩) xs.length xs.length) xs

theorem ints_vals {w : World} {base : Nat} {v : Value} {xs : List Int} (h : w.ownsRow base 3 1 v xs.length (vals xs)) : Ints w v xs := ints_of_owns h


end Go.Proofs.YtbjpokjllkblaaaDoor

