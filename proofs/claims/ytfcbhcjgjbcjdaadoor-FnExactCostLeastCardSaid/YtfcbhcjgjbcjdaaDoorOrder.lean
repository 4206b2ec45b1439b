/-
  impl.orderFrom reads an order; (impl.order).turned: at which index each member stands.
-/
import Derived.Test.YtfcbhcjgjbcjdaaDoorRank
import Derived.Test.YtfcbhcjgjbcjdaaDoorCore1
import Derived.Test.YtfcbhcjgjbcjdaaDoorClone
import Derived.Deep.QuietTactic
import Derived.BigQuiet
import Derived.Deep.RegionLaw
import Derived.Outline
namespace Go.Proofs.YtfcbhcjgjbcjdaaDoor
set_option linter.unusedVariables false
set_option linter.unusedSimpArgs false
open Go.RowKit

theorem pow_bv : ∀ m : Fin 64, BitVec.ofInt 64 (wrap64 (2 ^ m.val)) = BitVec.ofNat 64 (2 ^ m.val) := by decide +kernel
theorem has_bit64 (s m : Nat) (hs : s < 256) (hm : m < 64) : (bits .and .i64 (s : Int) (wrap64 (2 ^ m)) != 0) = s.testBit m := by
  by_cases h8 : m < 8
  · exact has_bit s m hs h8
  · have e : bits .and .i64 (s : Int) (wrap64 (2 ^ m)) = 0 := by
      show IntKind.i64.wrap ((BitVec.ofInt 64 (s : Int) &&& BitVec.ofInt 64 (wrap64 (2 ^ m))).toNat : Int) = 0
      have h := pow_bv ⟨m, hm⟩
      simp only at h
      rw [h, BitVec.toNat_and, BitVec.ofInt_natCast, BitVec.toNat_ofNat, BitVec.toNat_ofNat, Nat.mod_eq_of_lt (by omega : s < 2 ^ 64), Nat.mod_eq_of_lt (Nat.pow_lt_pow_right (by decide) hm)]
      have hz : s &&& 2 ^ m = 0 := by
        apply Nat.eq_of_testBit_eq
        intro i
        rw [Nat.testBit_and, Nat.testBit_two_pow, Nat.zero_testBit]
        by_cases e : m = i
        · subst e
          rw [Nat.testBit_lt_two_pow (Nat.lt_of_lt_of_le hs (by
            have : 2 ^ 8 ≤ 2 ^ m := Nat.pow_le_pow_right (by decide) (by omega)
            simpa using this)), Bool.false_and]
        · rw [decide_eq_false e, Bool.and_false]
      rw [hz]
      decide
    have h2 : s.testBit m = false := Nat.testBit_lt_two_pow (Nat.lt_of_lt_of_le hs (by
      have : 2 ^ 8 ≤ 2 ^ m := Nat.pow_le_pow_right (by decide) (by omega)
      simpa using this))
    rw [e, h2]; rfl
theorem bit_far {s m : Nat} (hs : s < 256) (hm : 8 ≤ m) : s.testBit m = false := Nat.testBit_lt_two_pow (Nat.lt_of_lt_of_le hs (by
      have : 2 ^ 8 ≤ 2 ^ m := Nat.pow_le_pow_right (by decide) hm
      simpa using this))

set_option maxRecDepth 100000 in
set_option maxHeartbeats 400000 in
theorem has_wide (s m : Nat) (hs : s < 256) (w : World) :
    Calls Tryd.prog 115 #[.int .i64 (s : Int), .int .i64 (m : Int)] w fun e w' => e = .returned (.bool (s.testBit m)) ∧ w = w' := by
  by_cases h64 : m < 64
  · have H := Lib.hid (has_bit64 s m hs h64)
    go_enter Tryd.func115, Tryd.ntmps115
    go_wp2
    go_ret
    exact ⟨ret_bool H.out, rfl⟩
  · have H := Lib.hid (bit_far (s := s) hs (show 8 ≤ m by omega))
    have hmin : min m 64 = 64 := by omega
    have HM := Lib.hid hmin
    clear hmin
    go_enter Tryd.func115, Tryd.ntmps115
    go_wp2
    go_ret
    exact ⟨ret_bool (by
      rw [H.out, HM.out]
      have e : bits .and .i64 (s : Int) (wrap64 (2 ^ 64)) = 0 := by
        show IntKind.i64.wrap ((BitVec.ofInt 64 (s : Int) &&& BitVec.ofInt 64 (wrap64 (2 ^ 64))).toNat : Int) = 0
        have e2 : BitVec.ofInt 64 (wrap64 (2 ^ 64)) = 0#64 := by decide +kernel
        rw [e2, BitVec.and_zero]
        decide
      rw [e]; rfl), rfl⟩

theorem scan_len {n : Nat} (h1 : 1 ≤ n) (h5 : n ≤ 5) {xs : List Int} (hl : xs.length ≠ n) : rankB n xs = false := by
  rw [rank_scan h1 h5, decide_eq_false hl, Bool.false_and]

/-- What is read. -/
def ordOf (n : Nat) (xs : List Int) : List Int := if rankB n xs = true then xs else []
theorem ordOf_yes {n : Nat} {xs : List Int} (h : rankB n xs = true) : ordOf n xs = xs := if_pos h
theorem ordOf_no {n : Nat} {xs : List Int} (h : rankB n xs = false) : ordOf n xs = [] := by unfold ordOf; rw [h]; rfl
theorem scanB_cons (L : Nat) (x : Int) (t : List Int) : scanB L (x :: t) = (decide (0 ≤ x) && (L.testBit x.toNat && scanB (L &&& (255 - 2 ^ x.toNat)) t)) := rfl
theorem scanB_nat {L m : Nat} (t : List Int) (h : L.testBit m = true) : scanB L ((m : Int) :: t) = scanB (L &&& (255 - 2 ^ m)) t := by
  rw [scanB_cons, Int.toNat_natCast, h, decide_eq_true (by omega), Bool.true_and, Bool.true_and]

set_option maxRecDepth 100000 in
set_option maxHeartbeats 2000000 in
theorem orderFrom_any (w : World) (v : Value) (xs : List Int) (h : Ints w v xs) (n : Nat) (h1 : 1 ≤ n) (h5 : n ≤ 5) :
    Calls Tryd.prog 137 #[.int .i64 (n : Int), v] w fun e w' => ∃ u, e = .returned (.tuple #[u, .bool (rankB n xs)]) ∧ Below w.heap.size w w' ∧ Owns w' w.heap.size u (ordOf n xs) := by
  have h' := h
  obtain ⟨A, cap, rfl, hm, hc⟩ := h
  have HC := Lib.hid hc
  have HI := Lib.hid h'
  clear hc h'
  unfold maxLen at hm
  have nil : ∀ W : World, Below w.heap.size w W → rankB n xs = false → ∀ e, e = Ending.returned (.tuple #[.slice none 0 0, .bool false]) → ∃ u, e = .returned (.tuple #[u, .bool (rankB n xs)]) ∧ Below w.heap.size w W ∧ Owns W w.heap.size u (ordOf n xs) := fun W hb hf e he =>
    ⟨.slice none 0 0, by rw [hf]; exact he, hb, by rw [ordOf_no hf]; exact World.ownsRow_nil _ _ _ _⟩
  have NIL := Lib.hid nil
  clear nil
  by_cases hl : n = xs.length
  · subst hl
    have e1 : ((xs.length : Int) != (xs.length : Int)) = false := by simp
    have hrs := rank_scan h1 h5 xs
    rw [decide_eq_true (rfl : xs.length = xs.length), Bool.true_and] at hrs
    have HRS := Lib.hid hrs
    have HNB := Lib.hid (nodesBelow_any xs.length (by omega))
    obtain ⟨b, off, hA, _⟩ := HC.out 0 (by omega)
    have HA0 := Lib.hid hA
    have hfull : 2 ^ xs.length - 1 < 256 := by have : 2 ^ xs.length ≤ 2 ^ 5 := Nat.pow_le_pow_right (by decide) h5; omega
    have HFULL := Lib.hid hfull
    clear hrs hA hfull
    go_enter Tryd.func137, Tryd.ntmps137
    go_wp2_with (go_at_call 103; refine (HNB.out _).mono ?_; rintro e w' ⟨rfl, rfl⟩)
    go_loopw [6, 8, 17] (fun s _ i wr => ∃ k L : Nat, k ≤ xs.length ∧ i = .int .i64 k ∧ s = .int .i64 (L : Int) ∧ L < 256 ∧ rankB xs.length xs = scanB L (xs.drop k) ∧ wr = w) (fun _ _ i _ => xs.length - (intOf i).toNat)
    case atStart => exact ⟨0, 2 ^ xs.length - 1, by omega, rfl, rfl, HFULL.out, by rw [List.drop_zero]; exact HRS.out, rfl⟩
    case round =>
      obtain ⟨k, L, hk, rfl, rfl, hL, hsc, hwr⟩ := hrel
      have hwr2 := hwr.symm
      clear hwr
      subst hwr2
      have HSC := Lib.hid hsc
      clear hsc
      by_cases hlt : k < xs.length
      · obtain ⟨b', off', hA', hcell⟩ := HC.out k hlt
        subst hA'
        obtain ⟨x, hx⟩ : ∃ x, xs[k] = x := ⟨_, rfl⟩
        rw [hx] at hcell
        have hdr : xs.drop k = x :: xs.drop (k + 1) := by rw [List.drop_eq_getElem_cons hlt, hx]
        have hki : (k : Int) < (xs.length : Int) := by omega
        have hk0 : (0 : Int) ≤ (k : Int) := by omega
        rw [hdr] at HSC
        have HX := Lib.hid hx
        clear hx hdr
        by_cases hx0 : x < 0
        · have hr : rankB xs.length xs = false := by rw [HSC.out]; rw [scanB_cons, decide_eq_false (by omega)]; rfl
          have HRF := Lib.hid hr
          clear hr
          go_wp2
          go_ret2
          exact NIL.out _ (Below.refl _ _) HRF.out _ rfl
        · obtain ⟨m, rfl⟩ : ∃ m : Nat, x = (m : Int) := ⟨x.toNat, by omega⟩
          have HHA := Lib.hid (has_wide L m hL)
          cases hb : L.testBit m with
          | false =>
            have hr : rankB xs.length xs = false := by rw [HSC.out]; rw [scanB_cons, Int.toNat_natCast, hb, Bool.false_and, Bool.and_false]
            have HRF := Lib.hid hr
            rw [hb] at HHA
            clear hr hb
            go_wp2_with (go_at_call 115; refine (HHA.out _).mono ?_; rintro e w' ⟨rfl, rfl⟩)
            go_ret2
            exact NIL.out _ (Below.refl _ _) HRF.out _ rfl
          | true =>
            have hm8 : m < 8 := by
              rcases Nat.lt_or_ge m 8 with h | h
              · exact h
              · rw [bit_far hL h] at hb; cases hb
            have hr : rankB xs.length xs = scanB (L &&& (255 - 2 ^ m)) (xs.drop (k + 1)) := by rw [HSC.out]; exact scanB_nat _ hb
            have HRF := Lib.hid hr
            rw [hb] at HHA
            have HWO := Lib.hid (without_any L m hL hm8)
            have hL2 : L &&& (255 - 2 ^ m) < 256 := Nat.lt_of_le_of_lt Nat.and_le_left hL
            obtain ⟨L2, hL2e⟩ : ∃ L2, L &&& (255 - 2 ^ m) = L2 := ⟨_, rfl⟩
            rw [hL2e] at HWO HRF hL2
            clear hr hb hL2e
            go_wp2_with (first
              | (go_at_call 115; refine (HHA.out _).mono ?_; rintro e w' ⟨rfl, rfl⟩)
              | (go_at_call 110; refine (HWO.out _).mono ?_; rintro e w' ⟨rfl, rfl⟩))
            go_roundw
            case rel => exact ⟨k + 1, L2, by omega, by go_num, rfl, hL2, HRF.out, trivial⟩
            case measure => simp [intOf]; omega
      · obtain rfl : k = xs.length := by omega
        have hr : rankB xs.length xs = true := by rw [HSC.out, List.drop_length]; rfl
        have HRT := Lib.hid hr
        have hA := HA0.out
        subst hA
        have HCL := Lib.hid (clone_at _ b off cap xs HI.out (by omega))
        clear hr
        go_wp2_with (go_at_call 120; (refine HCL.out.mono ?_; rintro e w' ⟨u, rfl, hb1, ho1⟩))
        go_ret2
        exact ⟨u, by rw [HRT.out]; rfl, hb1, by rw [ordOf_yes HRT.out]; exact ho1⟩
  · have e1 : ((xs.length : Int) != (n : Int)) = true := by simp; omega
    have hr := scan_len h1 h5 (fun e => hl e.symm)
    have HRF := Lib.hid hr
    clear hr
    go_enter Tryd.func137, Tryd.ntmps137
    go_wp2
    go_ret2
    exact NIL.out _ (Below.refl _ _) HRF.out _ rfl

/-- At which index each of n members stands, when k were told. -/
def backTo (xs : List Int) : Nat → List Int
  | 0 => List.replicate xs.length 0
  | k + 1 => (backTo xs k).set (xs.getD k 0).toNat (k : Int)
def backOf (xs : List Int) : List Int := backTo xs xs.length
theorem backTo_len (xs : List Int) : ∀ k, (backTo xs k).length = xs.length
  | 0 => by simp [backTo]
  | k + 1 => by simp [backTo, backTo_len xs k]
theorem backOf_len (xs : List Int) : (backOf xs).length = xs.length := backTo_len xs _

theorem infoOrder : (Tryd.prog.info? 3).map (fun i => (i.zero, i.size, i.bytes)) = some (some (.int .i64 0), 1, 8) := by kernel_rfl
set_option maxRecDepth 100000 in
set_option maxHeartbeats 1000000 in
theorem turned_any (w : World) (v : Value) (xs : List Int) (h : Ints w v xs) (h5 : xs.length ≤ 5) (hin : ∀ x ∈ xs, 0 ≤ x ∧ x ≤ (xs.length : Int) - 1) :
    Calls Tryd.prog 138 #[v] w fun e w' => e = .returned (.slice (some ⟨w.heap.size, 0, none⟩) xs.length xs.length) ∧ Below w.heap.size w w' ∧ Owns w' w.heap.size (.slice (some ⟨w.heap.size, 0, none⟩) xs.length xs.length) (backOf xs) := by
  obtain ⟨A, cap, rfl, hm, hc⟩ := h
  have hmk := fun W => run_make_row' (P := Tryd.prog) 67 3 (.int .i64 0) 8 Tryd.underlying67 infoOrder rfl .i64 .i64 xs.length (by omega) (by omega) W
  have HC := Lib.hid hc
  have HIN := Lib.hid hin
  clear hc hin
  unfold maxLen at hm
  go_enter Tryd.func138, Tryd.ntmps138
  go_wp2
  go_loopw [4, 5, 11] (fun _ _ i wr => ∃ k : Nat, k ≤ xs.length ∧ i = .int .i64 k ∧ Below w.heap.size w wr ∧
      wr.ownsRow w.heap.size 3 1 (.slice (some ⟨w.heap.size, 0, none⟩) xs.length xs.length) xs.length (vals (backTo xs k)))
    (fun _ _ i _ => xs.length - (intOf i).toNat)
  case atStart =>
    refine ⟨0, Nat.zero_le _, rfl, (Below.refl _ _).alloc (Nat.le_refl _) _, ?_⟩
    have := World.ownsRow_lit (base := w.heap.size) (e := 3) (size := 1) w (madeCells #[Value.int .i64 0] xs.length) xs.length (Nat.le_refl _) hm (by simp [madeCells])
    rw [toList_madeCells_one] at this
    simpa [backTo, vals] using this
  case round =>
    clear hmk
    obtain ⟨k, hk, rfl, hb, ho⟩ := hrel
    by_cases hlt : k < xs.length
    · obtain ⟨b, off, rfl, hcell⟩ := HC.out k hlt
      obtain ⟨x, hx⟩ : ∃ x, xs[k] = x := ⟨_, rfl⟩
      have hxr := HIN.out x (hx ▸ List.getElem_mem hlt)
      rw [hx] at hcell
      obtain ⟨m, rfl⟩ : ∃ m : Nat, x = (m : Int) := ⟨x.toNat, by omega⟩
      have hmn : m < xs.length := by omega
      have hcell' := (hb.cell (p := ⟨b, off + k, none⟩) (World.block_lt_of_cell? w _ hcell)).trans hcell
      have hf := ho.frozenAt m
      have hx1 := ho.cellAt m (by omega)
      have hst := ho.stored m (.int .i64 (k : Int))
      have hset : (vals (backTo xs k)).set m (.int .i64 (k : Int)) = vals (backTo xs (k + 1)) := by
        show _ = vals ((backTo xs k).set (xs.getD k 0).toNat (k : Int))
        rw [List.getD_eq_getElem?_getD, List.getElem?_eq_getElem hlt, Option.getD_some, hx, Int.toNat_natCast]
        simp [vals, List.map_set]
      rw [hset] at hst
      obtain ⟨v0, hx0⟩ : ∃ v0, wr.cell? ⟨w.heap.size, m, none⟩ = some v0 := by
        rw [hx1, List.getElem?_eq_getElem (by rw [ho.1]; omega)]; exact ⟨_, rfl⟩
      have hmi : (m : Int) < (xs.length : Int) := by omega
      have hki : (k : Int) < (xs.length : Int) := by omega
      have HO := Lib.hid hst
      clear hst hx1 ho hcell hset hx hxr
      go_wp2
      go_roundw
      case rel => exact ⟨k + 1, by omega, by go_num, hb.setCell (p := ⟨w.heap.size, m, none⟩) (Nat.le_refl _) _, HO.out.1⟩
      case measure => simp [intOf]; omega
    · obtain rfl : k = xs.length := by omega
      have HO := Lib.hid ho
      clear ho
      go_wp2
      go_ret
      exact ⟨rfl, hb, by have := HO.out; unfold Owns; rw [backOf_len]; exact this⟩

end Go.Proofs.YtfcbhcjgjbcjdaaDoor
