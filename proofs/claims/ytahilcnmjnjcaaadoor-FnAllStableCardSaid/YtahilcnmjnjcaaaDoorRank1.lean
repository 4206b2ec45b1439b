/-
  Rank1: Rank Clone Order Place PlaceInj SpecPlace Back OrderTurned SpecRank PlaceOut.
-/
import Derived.Test.YtahilcnmjnjcaaaDoorCore1
import Derived.Maps.AppendAt
import Derived.Deep.QuietTactic
import Derived.BigQuiet
import Derived.Deep.RegionLaw
import Derived.Outline
/-
  WHAT A RANKING IS: a list that has each of n numbers once; places. Plain functions, no walk.
-/
namespace Go.Proofs.YtahilcnmjnjcaaaDoor
set_option linter.unusedVariables false
set_option linter.unusedSimpArgs false
open Go.RowKit

/-- Whether a number is one of n. -/
def inR (n : Nat) (x : Int) : Bool := decide (0 ≤ x ∧ x ≤ (n : Int) - 1)
/-- The numbers that were seen, as a set. -/
def seenOf (xs : List Int) : Nat := xs.foldl (fun s x => s ||| 2 ^ x.toNat) 0
/-- As the specification asks it. -/
def rankB (n : Nat) (xs : List Int) : Bool := xs.all (inR n) && (decide (xs.length = n) && decide (seenOf xs = 2 ^ n - 1))
/-- As the program asks it. -/
def scanB : Nat → List Int → Bool
  | _, [] => true
  | left, x :: t => decide (0 ≤ x) && (left.testBit x.toNat && scanB (left &&& (255 - 2 ^ x.toNat)) t)

theorem seenOf_snoc (xs : List Int) (x : Int) : seenOf (xs ++ [x]) = seenOf xs ||| 2 ^ x.toNat := by simp [seenOf]
theorem seenOf_take (xs : List Int) (k : Nat) (h : k < xs.length) : seenOf (xs.take (k + 1)) = seenOf (xs.take k) ||| 2 ^ xs[k].toNat := by
  rw [List.take_succ_eq_append_getElem h, seenOf_snoc]
theorem seenOf_lt {n : Nat} (h8 : n ≤ 8) (xs : List Int) (h : ∀ x ∈ xs, inR n x = true) : seenOf xs < 2 ^ n := by
  have key : ∀ (l : List Int) (a : Nat), a < 2 ^ n → (∀ x ∈ l, inR n x = true) → l.foldl (fun s x => s ||| 2 ^ x.toNat) a < 2 ^ n := by
    intro l
    induction l with
    | nil => exact fun a ha _ => ha
    | cons x l ih =>
      intro a ha hl
      rw [List.foldl_cons]
      refine ih _ (Nat.or_lt_two_pow ha (Nat.pow_lt_pow_right (by decide) ?_)) (fun y hy => hl y (by simp [hy]))
      have := hl x (by simp)
      unfold inR at this
      rw [decide_eq_true_iff] at this
      omega
  exact key xs 0 (Nat.two_pow_pos n) h
theorem scanB_in : ∀ (xs : List Int) (left : Nat), scanB left xs = true → ∀ x ∈ xs, 0 ≤ x ∧ left.testBit x.toNat = true
  | [], _, _, x, hx => by cases hx
  | y :: t, left, h, x, hx => by
    unfold scanB at h
    rw [Bool.and_eq_true, Bool.and_eq_true, decide_eq_true_iff] at h
    rcases List.mem_cons.1 hx with rfl | hx
    · exact ⟨h.1, h.2.1⟩
    · have := scanB_in t _ h.2.2 x hx
      rw [Nat.testBit_and, Bool.and_eq_true] at this
      exact ⟨this.1, this.2.1⟩
theorem inR_of_bit {n : Nat} {x : Int} (h0 : 0 ≤ x) (h : (2 ^ n - 1).testBit x.toNat = true) : inR n x = true := by
  rw [Nat.testBit_two_pow_sub_one, decide_eq_true_iff] at h
  unfold inR
  rw [decide_eq_true_iff]
  omega
def fins {n : Nat} (l : List (Fin n)) : List Int := l.map (fun x => ((x.val : Nat) : Int))
theorem to_fins {n : Nat} : ∀ (xs : List Int), (∀ x ∈ xs, inR n x = true) → ∃ l : List (Fin n), l.length = xs.length ∧ fins l = xs
  | [], _ => ⟨[], rfl, rfl⟩
  | x :: t, h => by
    obtain ⟨l, hl, he⟩ := to_fins t (fun y hy => h y (by simp [hy]))
    have hx := h x (by simp)
    unfold inR at hx
    rw [decide_eq_true_iff] at hx
    refine ⟨⟨x.toNat, by omega⟩ :: l, by simp [hl], ?_⟩
    unfold fins at he ⊢
    rw [List.map_cons, he]
    congr 1
    simp only
    omega
theorem rank_1 : ∀ a : Fin 1, scanB 1 (fins [a]) = decide (seenOf (fins [a]) = 1) := by decide +kernel
theorem rank_2 : ∀ a b : Fin 2, scanB 3 (fins [a, b]) = decide (seenOf (fins [a, b]) = 3) := by decide +kernel
theorem rank_3 : ∀ a b c : Fin 3, scanB 7 (fins [a, b, c]) = decide (seenOf (fins [a, b, c]) = 7) := by decide +kernel
theorem rank_4 : ∀ a b c d : Fin 4, scanB 15 (fins [a, b, c, d]) = decide (seenOf (fins [a, b, c, d]) = 15) := by decide +kernel
theorem rank_5 : ∀ a b c d e : Fin 5, scanB 31 (fins [a, b, c, d, e]) = decide (seenOf (fins [a, b, c, d, e]) = 31) := by decide +kernel
theorem len1 {α : Type} {l : List α} (h : l.length = 1) : ∃ a, l = [a] := by
  match l, h with
  | [a], _ => exact ⟨a, rfl⟩
theorem len2 {α : Type} {l : List α} (h : l.length = 2) : ∃ a b, l = [a, b] := by
  match l, h with
  | [a, b], _ => exact ⟨a, b, rfl⟩
theorem len3 {α : Type} {l : List α} (h : l.length = 3) : ∃ a b c, l = [a, b, c] := by
  match l, h with
  | [a, b, c], _ => exact ⟨a, b, c, rfl⟩
theorem len4 {α : Type} {l : List α} (h : l.length = 4) : ∃ a b c d, l = [a, b, c, d] := by
  match l, h with
  | [a, b, c, d], _ => exact ⟨a, b, c, d, rfl⟩
theorem len5 {α : Type} {l : List α} (h : l.length = 5) : ∃ a b c d e, l = [a, b, c, d, e] := by
  match l, h with
  | [a, b, c, d, e], _ => exact ⟨a, b, c, d, e, rfl⟩
/-- Both ask the same. -/
theorem rank_scan {n : Nat} (h1 : 1 ≤ n) (h5 : n ≤ 5) (xs : List Int) : rankB n xs = (decide (xs.length = n) && scanB (2 ^ n - 1) xs) := by
  by_cases hl : xs.length = n
  · cases hall : xs.all (inR n) with
    | false =>
      unfold rankB
      rw [hall, Bool.false_and]
      cases hs : scanB (2 ^ n - 1) xs with
      | false => rw [Bool.and_false]
      | true =>
        exfalso
        have : xs.all (inR n) = true := List.all_eq_true.2 fun x hx => by
          have := scanB_in xs _ hs x hx
          exact inR_of_bit this.1 this.2
        rw [hall] at this; cases this
    | true =>
      obtain ⟨l, hll, rfl⟩ := to_fins xs (List.all_eq_true.1 hall)
      unfold rankB
      rw [hall, hl, decide_eq_true (rfl : n = n), Bool.true_and, Bool.true_and]
      rw [hl] at hll
      symm
      have hn : n = 1 ∨ n = 2 ∨ n = 3 ∨ n = 4 ∨ n = 5 := by omega
      rcases hn with rfl | rfl | rfl | rfl | rfl
      · obtain ⟨a, rfl⟩ := len1 hll; exact rank_1 a
      · obtain ⟨a, b, rfl⟩ := len2 hll; exact rank_2 a b
      · obtain ⟨a, b, c, rfl⟩ := len3 hll; exact rank_3 a b c
      · obtain ⟨a, b, c, d, rfl⟩ := len4 hll; exact rank_4 a b c d
      · obtain ⟨a, b, c, d, e, rfl⟩ := len5 hll; exact rank_5 a b c d e
  · unfold rankB
    rw [decide_eq_false hl, Bool.false_and, Bool.false_and, Bool.and_false]
theorem rank_parts {n : Nat} {xs : List Int} (h : rankB n xs = true) : xs.length = n ∧ (∀ x ∈ xs, 0 ≤ x ∧ x ≤ (n : Int) - 1) ∧ seenOf xs = 2 ^ n - 1 := by
  unfold rankB at h
  rw [Bool.and_eq_true, Bool.and_eq_true, decide_eq_true_iff, decide_eq_true_iff, List.all_eq_true] at h
  refine ⟨h.2.1, fun x hx => ?_, h.2.2⟩
  have := h.1 x hx
  unfold inR at this
  rw [decide_eq_true_iff] at this
  exact this

end Go.Proofs.YtahilcnmjnjcaaaDoor

/-
  slices.Clone of a slice of integers: a new slice with the same ones.
-/
namespace Go.Proofs.YtahilcnmjnjcaaaDoor
set_option linter.unusedVariables false
set_option linter.unusedSimpArgs false
open Go.RowKit

theorem addr_add_off (b off j : Nat) : (⟨b, off, none⟩ : Addr).add j = ⟨b, off + j, none⟩ := by unfold Addr.add; split <;> simp_all

set_option maxRecDepth 100000 in
set_option maxHeartbeats 2000000 in
theorem clone_at (w : World) (b off c : Nat) (xs : List Int) (h : Ints w (.slice (some ⟨b, off, none⟩) xs.length c) xs) (hn : xs.length ≤ 1000) :
    Calls Tryd.prog 87 #[.slice (some ⟨b, off, none⟩) xs.length c] w fun e w' => ∃ v, e = .returned v ∧ Below w.heap.size w w' ∧ Owns w' w.heap.size v xs := by
  obtain ⟨i0, hi, hz0, hz1, hz2⟩ := info_parts infoInt
  obtain ⟨A, cap, e, hm, hc⟩ := h
  obtain ⟨rfl, rfl⟩ : some ⟨b, off, none⟩ = A ∧ c = cap := by simpa using e
  have HC := Lib.hid hc
  clear hc e
  have q22 : ∀ (w : World) (a : Option Addr) (n c n' c' : Nat), (binOp .eql 39 (.slice a n c) (.slice none n' c')).run Tryd.prog w = .ok (.bool a.isNone) w := fun w a n c n' c' => Lib.run_eql_slice_nil w _ _ a n c n' c' Tryd.underlying39
  go_enter Tryd.func87, Tryd.ntmps87
  go_wp2_with (at_builtin; refine wpList_append_own _ rfl _ _ 39 rfl w.heap.size 3 i0 (.int .i64 0) 1 8 Tryd.underlying39 hi hz0 hz1 hz2 rfl (by decide) _ _ _ rfl (World.ownsRow_made w #[] 0 (Nat.le_refl _) (Nat.zero_le _) rfl) ⟨b, off, none⟩ xs.length c (vals xs) rfl ?qc1 ?qc2 ?qc3 ?qc4 ?qc5 ?qc6 ?_)
  case qc1 => simp
  case qc2 =>
    intro j u hj
    obtain ⟨hjl, rfl⟩ := List.getElem?_eq_some_iff.1 hj
    have hjx : j < xs.length := by simpa using hjl
    obtain ⟨b', off', e1, hcell⟩ := HC.out j hjx
    obtain ⟨rfl, rfl⟩ : b = b' ∧ off = off' := by simpa using e1
    rw [addr_add_off]
    refine Lib.cell?_alloc_some _ ?_
    simpa using hcell
  case qc3 => intro u hu; obtain ⟨x, _, rfl⟩ := List.mem_map.1 hu; rfl
  case qc4 => unfold maxLen; omega
  case qc5 => omega
  case qc6 => simp
  intro v' w1 hown hgrow hnil
  go_wp2
  have hw1 : Below w.heap.size w w1 := ((Below.refl _ w).alloc (Nat.le_refl _) _).grown hgrow (by simp) (by intro k hk; simp [Value.ownBlock] at hk; omega)
  go_ret
  exact ⟨v', rfl, hw1, by simpa [Owns] using hown⟩

end Go.Proofs.YtahilcnmjnjcaaaDoor

/-
  impl.orderFrom reads an order; (impl.order).turned: at which index each member stands.
-/
namespace Go.Proofs.YtahilcnmjnjcaaaDoor
set_option linter.unusedVariables false
set_option linter.unusedSimpArgs false
open Go.RowKit

theorem pow_bv : ∀ m : Fin 64, BitVec.ofInt 64 (wrap64 (2 ^ m.val)) = BitVec.ofNat 64 (2 ^ m.val) := by decide +kernel
theorem has_bit64 (s m : Nat) (hs : s < 256) (hm : m < 64) : (bits .and .i64 (s : Int) (wrap64 (2 ^ m)) != 0) = s.testBit m := by
  by_cases h8 : m < 8
  · exact has_bit s m hs h8
  · have e : bits .and .i64 (s : Int) (wrap64 (2 ^ m)) = 0 := by
      show IntKind.i64.wrap ((BitVec.ofInt 64 (s : Int) &&& BitVec.ofInt 64 (wrap64 (2 ^ m))).toNat : Int) = 0
      have h := pow_bv ⟨m, hm⟩
      simp only at h
      rw [h, BitVec.toNat_and, BitVec.ofInt_natCast, BitVec.toNat_ofNat, BitVec.toNat_ofNat, Nat.mod_eq_of_lt (by omega : s < 2 ^ 64), Nat.mod_eq_of_lt (Nat.pow_lt_pow_right (by decide) hm)]
      have hz : s &&& 2 ^ m = 0 := by
        apply Nat.eq_of_testBit_eq
        intro i
        rw [Nat.testBit_and, Nat.testBit_two_pow, Nat.zero_testBit]
        by_cases e : m = i
        · subst e
          rw [Nat.testBit_lt_two_pow (Nat.lt_of_lt_of_le hs (by
            have : 2 ^ 8 ≤ 2 ^ m := Nat.pow_le_pow_right (by decide) (by omega)
            simpa using this)), Bool.false_and]
        · rw [decide_eq_false e, Bool.and_false]
      rw [hz]
      decide
    have h2 : s.testBit m = false := Nat.testBit_lt_two_pow (Nat.lt_of_lt_of_le hs (by
      have : 2 ^ 8 ≤ 2 ^ m := Nat.pow_le_pow_right (by decide) (by omega)
      simpa using this))
    rw [e, h2]; rfl
theorem bit_far {s m : Nat} (hs : s < 256) (hm : 8 ≤ m) : s.testBit m = false := Nat.testBit_lt_two_pow (Nat.lt_of_lt_of_le hs (by
      have : 2 ^ 8 ≤ 2 ^ m := Nat.pow_le_pow_right (by decide) hm
      simpa using this))

set_option maxRecDepth 100000 in
set_option maxHeartbeats 400000 in
theorem has_wide (s m : Nat) (hs : s < 256) (w : World) :
    Calls Tryd.prog 86 #[.int .i64 (s : Int), .int .i64 (m : Int)] w fun e w' => e = .returned (.bool (s.testBit m)) ∧ w = w' := by
  by_cases h64 : m < 64
  · have H := Lib.hid (has_bit64 s m hs h64)
    go_enter Tryd.func86, Tryd.ntmps86
    go_wp2
    go_ret
    exact ⟨ret_bool H.out, rfl⟩
  · have H := Lib.hid (bit_far (s := s) hs (show 8 ≤ m by omega))
    have hmin : min m 64 = 64 := by omega
    have HM := Lib.hid hmin
    clear hmin
    go_enter Tryd.func86, Tryd.ntmps86
    go_wp2
    go_ret
    exact ⟨ret_bool (by
      rw [H.out, HM.out]
      have e : bits .and .i64 (s : Int) (wrap64 (2 ^ 64)) = 0 := by
        show IntKind.i64.wrap ((BitVec.ofInt 64 (s : Int) &&& BitVec.ofInt 64 (wrap64 (2 ^ 64))).toNat : Int) = 0
        have e2 : BitVec.ofInt 64 (wrap64 (2 ^ 64)) = 0#64 := by decide +kernel
        rw [e2, BitVec.and_zero]
        decide
      rw [e]; rfl), rfl⟩

theorem scan_len {n : Nat} (h1 : 1 ≤ n) (h5 : n ≤ 5) {xs : List Int} (hl : xs.length ≠ n) : rankB n xs = false := by
  rw [rank_scan h1 h5, decide_eq_false hl, Bool.false_and]

/-- What is read. -/
def ordOf (n : Nat) (xs : List Int) : List Int := if rankB n xs = true then xs else []
theorem ordOf_yes {n : Nat} {xs : List Int} (h : rankB n xs = true) : ordOf n xs = xs := if_pos h
theorem ordOf_no {n : Nat} {xs : List Int} (h : rankB n xs = false) : ordOf n xs = [] := by unfold ordOf; rw [h]; rfl
theorem scanB_cons (L : Nat) (x : Int) (t : List Int) : scanB L (x :: t) = (decide (0 ≤ x) && (L.testBit x.toNat && scanB (L &&& (255 - 2 ^ x.toNat)) t)) := rfl
theorem scanB_nat {L m : Nat} (t : List Int) (h : L.testBit m = true) : scanB L ((m : Int) :: t) = scanB (L &&& (255 - 2 ^ m)) t := by
  rw [scanB_cons, Int.toNat_natCast, h, decide_eq_true (by omega), Bool.true_and, Bool.true_and]

set_option maxRecDepth 100000 in
set_option maxHeartbeats 2000000 in
theorem orderFrom_any (w : World) (v : Value) (xs : List Int) (h : Ints w v xs) (n : Nat) (h1 : 1 ≤ n) (h5 : n ≤ 5) :
    Calls Tryd.prog 77 #[.int .i64 (n : Int), v] w fun e w' => ∃ u, e = .returned (.tuple #[u, .bool (rankB n xs)]) ∧ Below w.heap.size w w' ∧ Owns w' w.heap.size u (ordOf n xs) := by
  have h' := h
  obtain ⟨A, cap, rfl, hm, hc⟩ := h
  have HC := Lib.hid hc
  have HI := Lib.hid h'
  clear hc h'
  unfold maxLen at hm
  have nil : ∀ W : World, Below w.heap.size w W → rankB n xs = false → ∀ e, e = Ending.returned (.tuple #[.slice none 0 0, .bool false]) → ∃ u, e = .returned (.tuple #[u, .bool (rankB n xs)]) ∧ Below w.heap.size w W ∧ Owns W w.heap.size u (ordOf n xs) := fun W hb hf e he =>
    ⟨.slice none 0 0, by rw [hf]; exact he, hb, by rw [ordOf_no hf]; exact World.ownsRow_nil _ _ _ _⟩
  have NIL := Lib.hid nil
  clear nil
  by_cases hl : n = xs.length
  · subst hl
    have e1 : ((xs.length : Int) != (xs.length : Int)) = false := by simp
    have hrs := rank_scan h1 h5 xs
    rw [decide_eq_true (rfl : xs.length = xs.length), Bool.true_and] at hrs
    have HRS := Lib.hid hrs
    have HNB := Lib.hid (nodesBelow_any xs.length (by omega))
    obtain ⟨b, off, hA, _⟩ := HC.out 0 (by omega)
    have HA0 := Lib.hid hA
    have hfull : 2 ^ xs.length - 1 < 256 := by have : 2 ^ xs.length ≤ 2 ^ 5 := Nat.pow_le_pow_right (by decide) h5; omega
    have HFULL := Lib.hid hfull
    clear hrs hA hfull
    go_enter Tryd.func77, Tryd.ntmps77
    go_wp2_with (go_at_call 73; refine (HNB.out _).mono ?_; rintro e w' ⟨rfl, rfl⟩)
    go_loopw [6, 8, 17] (fun s _ i wr => ∃ k L : Nat, k ≤ xs.length ∧ i = .int .i64 k ∧ s = .int .i64 (L : Int) ∧ L < 256 ∧ rankB xs.length xs = scanB L (xs.drop k) ∧ wr = w) (fun _ _ i _ => xs.length - (intOf i).toNat)
    case atStart => exact ⟨0, 2 ^ xs.length - 1, by omega, rfl, rfl, HFULL.out, by rw [List.drop_zero]; exact HRS.out, rfl⟩
    case round =>
      obtain ⟨k, L, hk, rfl, rfl, hL, hsc, hwr⟩ := hrel
      have hwr2 := hwr.symm
      clear hwr
      subst hwr2
      have HSC := Lib.hid hsc
      clear hsc
      by_cases hlt : k < xs.length
      · obtain ⟨b', off', hA', hcell⟩ := HC.out k hlt
        subst hA'
        obtain ⟨x, hx⟩ : ∃ x, xs[k] = x := ⟨_, rfl⟩
        rw [hx] at hcell
        have hdr : xs.drop k = x :: xs.drop (k + 1) := by rw [List.drop_eq_getElem_cons hlt, hx]
        have hki : (k : Int) < (xs.length : Int) := by omega
        have hk0 : (0 : Int) ≤ (k : Int) := by omega
        rw [hdr] at HSC
        have HX := Lib.hid hx
        clear hx hdr
        by_cases hx0 : x < 0
        · have hr : rankB xs.length xs = false := by rw [HSC.out]; rw [scanB_cons, decide_eq_false (by omega)]; rfl
          have HRF := Lib.hid hr
          clear hr
          go_wp2
          go_ret2
          exact NIL.out _ (Below.refl _ _) HRF.out _ rfl
        · obtain ⟨m, rfl⟩ : ∃ m : Nat, x = (m : Int) := ⟨x.toNat, by omega⟩
          have HHA := Lib.hid (has_wide L m hL)
          cases hb : L.testBit m with
          | false =>
            have hr : rankB xs.length xs = false := by rw [HSC.out]; rw [scanB_cons, Int.toNat_natCast, hb, Bool.false_and, Bool.and_false]
            have HRF := Lib.hid hr
            rw [hb] at HHA
            clear hr hb
            go_wp2_with (go_at_call 86; refine (HHA.out _).mono ?_; rintro e w' ⟨rfl, rfl⟩)
            go_ret2
            exact NIL.out _ (Below.refl _ _) HRF.out _ rfl
          | true =>
            have hm8 : m < 8 := by
              rcases Nat.lt_or_ge m 8 with h | h
              · exact h
              · rw [bit_far hL h] at hb; cases hb
            have hr : rankB xs.length xs = scanB (L &&& (255 - 2 ^ m)) (xs.drop (k + 1)) := by rw [HSC.out]; exact scanB_nat _ hb
            have HRF := Lib.hid hr
            rw [hb] at HHA
            have HWO := Lib.hid (without_any L m hL hm8)
            have hL2 : L &&& (255 - 2 ^ m) < 256 := Nat.lt_of_le_of_lt Nat.and_le_left hL
            obtain ⟨L2, hL2e⟩ : ∃ L2, L &&& (255 - 2 ^ m) = L2 := ⟨_, rfl⟩
            rw [hL2e] at HWO HRF hL2
            clear hr hb hL2e
            go_wp2_with (first
              | (go_at_call 86; refine (HHA.out _).mono ?_; rintro e w' ⟨rfl, rfl⟩)
              | (go_at_call 85; refine (HWO.out _).mono ?_; rintro e w' ⟨rfl, rfl⟩))
            go_roundw
            case rel => exact ⟨k + 1, L2, by omega, by go_num, rfl, hL2, HRF.out, trivial⟩
            case measure => simp [intOf]; omega
      · obtain rfl : k = xs.length := by omega
        have hr : rankB xs.length xs = true := by rw [HSC.out, List.drop_length]; rfl
        have HRT := Lib.hid hr
        have hA := HA0.out
        subst hA
        have HCL := Lib.hid (clone_at _ b off cap xs HI.out (by omega))
        clear hr
        go_wp2_with (go_at_call 87; (refine HCL.out.mono ?_; rintro e w' ⟨u, rfl, hb1, ho1⟩))
        go_ret2
        exact ⟨u, by rw [HRT.out]; rfl, hb1, by rw [ordOf_yes HRT.out]; exact ho1⟩
  · have e1 : ((xs.length : Int) != (n : Int)) = true := by simp; omega
    have hr := scan_len h1 h5 (fun e => hl e.symm)
    have HRF := Lib.hid hr
    clear hr
    go_enter Tryd.func77, Tryd.ntmps77
    go_wp2
    go_ret2
    exact NIL.out _ (Below.refl _ _) HRF.out _ rfl

/-- At which index each of n members stands, when k were told. -/
def backTo (xs : List Int) : Nat → List Int
  | 0 => List.replicate xs.length 0
  | k + 1 => (backTo xs k).set (xs.getD k 0).toNat (k : Int)
def backOf (xs : List Int) : List Int := backTo xs xs.length
theorem backTo_len (xs : List Int) : ∀ k, (backTo xs k).length = xs.length
  | 0 => by simp [backTo]
  | k + 1 => by simp [backTo, backTo_len xs k]
theorem backOf_len (xs : List Int) : (backOf xs).length = xs.length := backTo_len xs _

theorem infoOrder : (Tryd.prog.info? 3).map (fun i => (i.zero, i.size, i.bytes)) = some (some (.int .i64 0), 1, 8) := by kernel_rfl
end Go.Proofs.YtahilcnmjnjcaaaDoor

/-
  PLACES IN RANKINGS, and what turned rankings say of them: plain functions, no walk.
-/
namespace Go.Proofs.YtahilcnmjnjcaaaDoor
set_option linter.unusedVariables false
set_option linter.unusedSimpArgs false
open Go.RowKit

/-- Where a member stands in a list, its length where it doesn't. -/
def place : List Int → Int → Nat
  | [], _ => 0
  | x :: t, c => if x = c then 0 else place t c + 1
theorem place_le : ∀ (xs : List Int) (c : Int), place xs c ≤ xs.length
  | [], _ => Nat.le_refl _
  | x :: t, c => by
    have := place_le t c
    unfold place
    split
    · exact Nat.zero_le _
    · rw [List.length_cons]; omega
def turnB (n : Nat) (l : List Int) : Bool :=
  decide (backOf l = (List.range n).map (fun (c : Nat) => ((place l (c : Int) : Nat) : Int))) &&
    ((List.range n).map (fun k => (k, ((backOf l).getD k 0).toNat))).isPerm ((List.range n).map (fun i => ((l.getD i 0).toNat, i)))
theorem turn_1 : ∀ a : Fin 1, scanB 1 (fins [a]) = true → turnB 1 (fins [a]) = true := by decide +kernel
theorem turn_2 : ∀ a b : Fin 2, scanB 3 (fins [a, b]) = true → turnB 2 (fins [a, b]) = true := by decide +kernel
theorem turn_3 : ∀ a b c : Fin 3, scanB 7 (fins [a, b, c]) = true → turnB 3 (fins [a, b, c]) = true := by decide +kernel
theorem turn_4 : ∀ a b c d : Fin 4, scanB 15 (fins [a, b, c, d]) = true → turnB 4 (fins [a, b, c, d]) = true := by decide +kernel
theorem turn_5 : ∀ a b c d e : Fin 5, scanB 31 (fins [a, b, c, d, e]) = true → turnB 5 (fins [a, b, c, d, e]) = true := by decide +kernel
theorem rank_turn {n : Nat} (h1 : 1 ≤ n) (h5 : n ≤ 5) {xs : List Int} (h : rankB n xs = true) : turnB n xs = true := by
  obtain ⟨hl, hin, _⟩ := rank_parts h
  rw [rank_scan h1 h5, Bool.and_eq_true] at h
  obtain ⟨l, hll, rfl⟩ := to_fins (n := n) xs (fun x hx => by unfold inR; rw [decide_eq_true_iff]; exact hin x hx)
  rw [hl] at hll
  have hs := h.2
  clear hin hl h
  have hn : n = 1 ∨ n = 2 ∨ n = 3 ∨ n = 4 ∨ n = 5 := by omega
  rcases hn with rfl | rfl | rfl | rfl | rfl
  · obtain ⟨a, rfl⟩ := len1 hll; exact turn_1 a hs
  · obtain ⟨a, b, rfl⟩ := len2 hll; exact turn_2 a b hs
  · obtain ⟨a, b, c, rfl⟩ := len3 hll; exact turn_3 a b c hs
  · obtain ⟨a, b, c, d, rfl⟩ := len4 hll; exact turn_4 a b c d hs
  · obtain ⟨a, b, c, d, e, rfl⟩ := len5 hll; exact turn_5 a b c d e hs
/-- What a ranking turned says: the places. -/
theorem back_place {n : Nat} (h1 : 1 ≤ n) (h5 : n ≤ 5) {xs : List Int} (h : rankB n xs = true) {c : Nat} (hc : c < n) : (backOf xs).getD c 0 = (place xs (c : Int) : Int) := by
  have := rank_turn h1 h5 h
  unfold turnB at this
  rw [Bool.and_eq_true, decide_eq_true_iff] at this
  rw [this.1]
  simp [List.getD, hc]
theorem back_perm {n : Nat} (h1 : 1 ≤ n) (h5 : n ≤ 5) {xs : List Int} (h : rankB n xs = true) : ((List.range n).map (fun k => (k, ((backOf xs).getD k 0).toNat))).Perm ((List.range n).map (fun i => ((xs.getD i 0).toNat, i))) := by
  have := rank_turn h1 h5 h
  unfold turnB at this
  rw [Bool.and_eq_true] at this
  exact List.isPerm_iff.1 this.2
theorem perm_sum {α : Type} (f : α → Int) {l l' : List α} (h : l.Perm l') : (l.map f).sum = (l'.map f).sum := by
  induction h with
  | nil => rfl
  | cons x _ ih => simp [ih]
  | swap x y l => simp [List.map_cons, List.sum_cons]; omega
  | trans _ _ ih1 ih2 => exact ih1.trans ih2

end Go.Proofs.YtahilcnmjnjcaaaDoor

/-
  A ranking's places are each one member's.
-/
namespace Go.Proofs.YtahilcnmjnjcaaaDoor
set_option linter.unusedVariables false
set_option linter.unusedSimpArgs false

theorem place_get : ∀ (xs : List Int) (c : Int), c ∈ xs → xs[place xs c]? = some c
  | [], c, h => by cases h
  | x :: t, c, h => by
    unfold place
    by_cases e : x = c
    · rw [if_pos e]; simp [e]
    · rw [if_neg e]
      rcases List.mem_cons.1 h with h | h
      · exact absurd h.symm e
      · simpa using place_get t c h
theorem rank_mem {n : Nat} (h1 : 1 ≤ n) (h5 : n ≤ 5) {xs : List Int} (h : rankB n xs = true) {c : Int} (hc0 : 0 ≤ c) (hc : c ≤ (n : Int) - 1) : c ∈ xs := by
  obtain ⟨hl, hin, _⟩ := rank_parts h
  have hk : c.toNat < n := by omega
  have hm : (c.toNat, ((backOf xs).getD c.toNat 0).toNat) ∈ (List.range n).map (fun i => ((xs.getD i 0).toNat, i)) := (back_perm h1 h5 h).subset (List.mem_map.2 ⟨c.toNat, List.mem_range.2 hk, rfl⟩)
  obtain ⟨i, hi, he⟩ := List.mem_map.1 hm
  rw [List.mem_range] at hi
  have hix : i < xs.length := by omega
  have he1 : (xs.getD i 0).toNat = c.toNat := (Prod.mk.inj he).1
  have e : xs.getD i 0 = xs[i] := by simp [List.getD, hix]
  have hr := hin xs[i] (List.getElem_mem _)
  rw [e] at he1
  have : xs[i] = c := by omega
  rw [← this]
  exact List.getElem_mem _
theorem place_inj {n : Nat} (h1 : 1 ≤ n) (h5 : n ≤ 5) {xs : List Int} (h : rankB n xs = true) {c d : Int} (hc : 0 ≤ c ∧ c ≤ (n : Int) - 1) (hd : 0 ≤ d ∧ d ≤ (n : Int) - 1) (e : place xs c = place xs d) : c = d := by
  have a := place_get xs c (rank_mem h1 h5 h hc.1 hc.2)
  have b := place_get xs d (rank_mem h1 h5 h hd.1 hd.2)
  rw [e, b] at a
  exact (Option.some.inj a).symm

end Go.Proofs.YtahilcnmjnjcaaaDoor

/-
  spec.l6mPlace: where a member stands.
-/
namespace Go.Proofs.YtahilcnmjnjcaaaDoor
set_option linter.unusedVariables false
set_option linter.unusedSimpArgs false
open Go.RowKit
set_option maxRecDepth 100000 in
set_option maxHeartbeats 1000000 in
theorem l6mPlace_any (w : World) (v : Value) (xs : List Int) (c : Int) (h : Ints w v xs) :
    Calls Tryd.prog 68 #[v, .int .i64 c] w fun e w' => e = .returned (.int .i64 (place xs c : Nat)) ∧ w = w' := by
  obtain ⟨A, cap, rfl, hm, hc⟩ := h
  have HC := Lib.hid hc
  clear hc
  unfold maxLen at hm
  go_enter Tryd.func68, Tryd.ntmps68
  go_wp2
  go_loopw [5] (fun i wr => ∃ k : Nat, k ≤ xs.length ∧ i = .int .i64 k ∧ place xs c = k + place (xs.drop k) c ∧ wr = w) (fun i _ => xs.length - (intOf i).toNat)
  case atStart => exact ⟨0, by omega, rfl, by simp, rfl⟩
  case round =>
    obtain ⟨k, hk, rfl, hp, hwr⟩ := hrel
    have hwr2 := hwr.symm
    clear hwr
    subst hwr2
    have HP := Lib.hid hp
    clear hp
    by_cases hlt : k < xs.length
    · obtain ⟨b, off, rfl, hcell⟩ := HC.out k hlt
      obtain ⟨x, hx⟩ : ∃ x, xs[k] = x := ⟨_, rfl⟩
      have hdr : xs.drop k = x :: xs.drop (k + 1) := by rw [List.drop_eq_getElem_cons hlt, hx]
      rw [hx] at hcell
      rw [hdr] at HP
      have hki : (k : Int) < (xs.length : Int) := by omega
      have hk0 : (0 : Int) ≤ (k : Int) := by omega
      clear hx hdr
      by_cases he : x = c
      · have e1 : (x == c) = true := by simp [he]
        have hr : place xs c = k := by rw [HP.out]; unfold place; rw [if_pos he]; omega
        have HR := Lib.hid hr
        clear hr he
        go_wp2
        go_ret
        exact ⟨by rw [HR.out]; rfl, rfl⟩
      · have e1 : (x == c) = false := by simp [he]
        have hr : place xs c = (k + 1) + place (xs.drop (k + 1)) c := by rw [HP.out]; conv => lhs; unfold place
                                                                         rw [if_neg he]; omega
        have HR := Lib.hid hr
        clear hr he
        go_wp2
        go_roundw
        case rel => exact ⟨k + 1, by omega, by go_num, HR.out, trivial⟩
        case measure => simp [intOf]; omega
    · obtain rfl : k = xs.length := by omega
      have hr : place xs c = xs.length := by rw [HP.out, List.drop_length]; rfl
      have HR := Lib.hid hr
      clear hr
      go_wp2
      go_ret
      exact ⟨by rw [HR.out]; rfl, rfl⟩

theorem l6mPlace_q (v : Value) (xs : List Int) (c : Int) (r : Int) (hr : (place xs c : Int) = r) (w : World) (h : Ints w v xs) :
    Calls Tryd.prog 68 #[v, .int .i64 c] w fun e w' => e = .returned (.int .i64 r) ∧ w' = w :=
  (l6mPlace_any w v xs c h).mono fun e w' h' => ⟨by rw [h'.1, hr], h'.2.symm⟩

end Go.Proofs.YtahilcnmjnjcaaaDoor

/-
  spec.l6mBack.
-/
namespace Go.Proofs.YtahilcnmjnjcaaaDoor
set_option linter.unusedVariables false
set_option linter.unusedSimpArgs false
open Go.RowKit

set_option maxRecDepth 100000 in
set_option maxHeartbeats 1000000 in
theorem l6mBack_any (w : World) (v : Value) (xs : List Int) (h : Ints w v xs) (h5 : xs.length ≤ 5) (hin : ∀ x ∈ xs, 0 ≤ x ∧ x ≤ (xs.length : Int) - 1) :
    Calls Tryd.prog 65 #[v] w fun e w' => e = .returned (.slice (some ⟨w.heap.size, 0, none⟩) xs.length xs.length) ∧ Below w.heap.size w w' ∧ Owns w' w.heap.size (.slice (some ⟨w.heap.size, 0, none⟩) xs.length xs.length) (backOf xs) := by
  obtain ⟨A, cap, rfl, hm, hc⟩ := h
  have hmk := fun W => run_make_row' (P := Tryd.prog) 39 3 (.int .i64 0) 8 Tryd.underlying39 infoOrder rfl .i64 .i64 xs.length (by omega) (by omega) W
  have HC := Lib.hid hc
  have HIN := Lib.hid hin
  clear hc hin
  unfold maxLen at hm
  go_enter Tryd.func65, Tryd.ntmps65
  go_wp2
  go_loopw [4] (fun i wr => ∃ k : Nat, k ≤ xs.length ∧ i = .int .i64 k ∧ Below w.heap.size w wr ∧
      wr.ownsRow w.heap.size 3 1 (.slice (some ⟨w.heap.size, 0, none⟩) xs.length xs.length) xs.length (vals (backTo xs k)))
    (fun i _ => xs.length - (intOf i).toNat)
  case atStart =>
    refine ⟨0, Nat.zero_le _, rfl, (Below.refl _ _).alloc (Nat.le_refl _) _, ?_⟩
    have := World.ownsRow_lit (base := w.heap.size) (e := 3) (size := 1) w (madeCells #[Value.int .i64 0] xs.length) xs.length (Nat.le_refl _) hm (by simp [madeCells])
    rw [toList_madeCells_one] at this
    simpa [backTo, vals] using this
  case round =>
    clear hmk
    obtain ⟨k, hk, rfl, hb, ho⟩ := hrel
    by_cases hlt : k < xs.length
    · obtain ⟨b, off, rfl, hcell⟩ := HC.out k hlt
      obtain ⟨x, hx⟩ : ∃ x, xs[k] = x := ⟨_, rfl⟩
      have hxr := HIN.out x (hx ▸ List.getElem_mem hlt)
      rw [hx] at hcell
      obtain ⟨m, rfl⟩ : ∃ m : Nat, x = (m : Int) := ⟨x.toNat, by omega⟩
      have hmn : m < xs.length := by omega
      have hcell' := (hb.cell (p := ⟨b, off + k, none⟩) (World.block_lt_of_cell? w _ hcell)).trans hcell
      have hf := ho.frozenAt m
      have hx1 := ho.cellAt m (by omega)
      have hst := ho.stored m (.int .i64 (k : Int))
      have hset : (vals (backTo xs k)).set m (.int .i64 (k : Int)) = vals (backTo xs (k + 1)) := by
        show _ = vals ((backTo xs k).set (xs.getD k 0).toNat (k : Int))
        rw [List.getD_eq_getElem?_getD, List.getElem?_eq_getElem hlt, Option.getD_some, hx, Int.toNat_natCast]
        simp [vals, List.map_set]
      rw [hset] at hst
      obtain ⟨v0, hx0⟩ : ∃ v0, wr.cell? ⟨w.heap.size, m, none⟩ = some v0 := by
        rw [hx1, List.getElem?_eq_getElem (by rw [ho.1]; omega)]; exact ⟨_, rfl⟩
      have hmi : (m : Int) < (xs.length : Int) := by omega
      have hki : (k : Int) < (xs.length : Int) := by omega
      have hk0 : (0 : Int) ≤ (k : Int) := by omega
      have HO := Lib.hid hst
      clear hst hx1 ho hcell hset hx hxr
      go_wp2
      go_roundw
      case rel => exact ⟨k + 1, by omega, by go_num, hb.setCell (p := ⟨w.heap.size, m, none⟩) (Nat.le_refl _) _, HO.out.1⟩
      case measure => simp [intOf]; omega
    · obtain rfl : k = xs.length := by omega
      have HO := Lib.hid ho
      clear ho
      go_wp2
      go_ret
      exact ⟨rfl, hb, by have := HO.out; unfold Owns; rw [backOf_len]; exact this⟩

end Go.Proofs.YtahilcnmjnjcaaaDoor

/-
  (impl.order).turned.
-/
namespace Go.Proofs.YtahilcnmjnjcaaaDoor
set_option linter.unusedVariables false
set_option linter.unusedSimpArgs false
open Go.RowKit
set_option maxRecDepth 100000 in
set_option maxHeartbeats 1000000 in
theorem turned_any (w : World) (v : Value) (xs : List Int) (h : Ints w v xs) (h5 : xs.length ≤ 5) (hin : ∀ x ∈ xs, 0 ≤ x ∧ x ≤ (xs.length : Int) - 1) :
    Calls Tryd.prog 64 #[v] w fun e w' => e = .returned (.slice (some ⟨w.heap.size, 0, none⟩) xs.length xs.length) ∧ Below w.heap.size w w' ∧ Owns w' w.heap.size (.slice (some ⟨w.heap.size, 0, none⟩) xs.length xs.length) (backOf xs) := by
  obtain ⟨A, cap, rfl, hm, hc⟩ := h
  have hmk := fun W => run_make_row' (P := Tryd.prog) 66 3 (.int .i64 0) 8 Tryd.underlying66 infoOrder rfl .i64 .i64 xs.length (by omega) (by omega) W
  have HC := Lib.hid hc
  have HIN := Lib.hid hin
  clear hc hin
  unfold maxLen at hm
  go_enter Tryd.func64, Tryd.ntmps64
  go_wp2
  go_loopw [4, 5, 11] (fun _ _ i wr => ∃ k : Nat, k ≤ xs.length ∧ i = .int .i64 k ∧ Below w.heap.size w wr ∧
      wr.ownsRow w.heap.size 3 1 (.slice (some ⟨w.heap.size, 0, none⟩) xs.length xs.length) xs.length (vals (backTo xs k)))
    (fun _ _ i _ => xs.length - (intOf i).toNat)
  case atStart =>
    refine ⟨0, Nat.zero_le _, rfl, (Below.refl _ _).alloc (Nat.le_refl _) _, ?_⟩
    have := World.ownsRow_lit (base := w.heap.size) (e := 3) (size := 1) w (madeCells #[Value.int .i64 0] xs.length) xs.length (Nat.le_refl _) hm (by simp [madeCells])
    rw [toList_madeCells_one] at this
    simpa [backTo, vals] using this
  case round =>
    clear hmk
    obtain ⟨k, hk, rfl, hb, ho⟩ := hrel
    by_cases hlt : k < xs.length
    · obtain ⟨b, off, rfl, hcell⟩ := HC.out k hlt
      obtain ⟨x, hx⟩ : ∃ x, xs[k] = x := ⟨_, rfl⟩
      have hxr := HIN.out x (hx ▸ List.getElem_mem hlt)
      rw [hx] at hcell
      obtain ⟨m, rfl⟩ : ∃ m : Nat, x = (m : Int) := ⟨x.toNat, by omega⟩
      have hmn : m < xs.length := by omega
      have hcell' := (hb.cell (p := ⟨b, off + k, none⟩) (World.block_lt_of_cell? w _ hcell)).trans hcell
      have hf := ho.frozenAt m
      have hx1 := ho.cellAt m (by omega)
      have hst := ho.stored m (.int .i64 (k : Int))
      have hset : (vals (backTo xs k)).set m (.int .i64 (k : Int)) = vals (backTo xs (k + 1)) := by
        show _ = vals ((backTo xs k).set (xs.getD k 0).toNat (k : Int))
        rw [List.getD_eq_getElem?_getD, List.getElem?_eq_getElem hlt, Option.getD_some, hx, Int.toNat_natCast]
        simp [vals, List.map_set]
      rw [hset] at hst
      obtain ⟨v0, hx0⟩ : ∃ v0, wr.cell? ⟨w.heap.size, m, none⟩ = some v0 := by
        rw [hx1, List.getElem?_eq_getElem (by rw [ho.1]; omega)]; exact ⟨_, rfl⟩
      have hmi : (m : Int) < (xs.length : Int) := by omega
      have hki : (k : Int) < (xs.length : Int) := by omega
      have HO := Lib.hid hst
      clear hst hx1 ho hcell hset hx hxr
      go_wp2
      go_roundw
      case rel => exact ⟨k + 1, by omega, by go_num, hb.setCell (p := ⟨w.heap.size, m, none⟩) (Nat.le_refl _) _, HO.out.1⟩
      case measure => simp [intOf]; omega
    · obtain rfl : k = xs.length := by omega
      have HO := Lib.hid ho
      clear ho
      go_wp2
      go_ret
      exact ⟨rfl, hb, by have := HO.out; unfold Owns; rw [backOf_len]; exact this⟩


end Go.Proofs.YtahilcnmjnjcaaaDoor

/-
  spec.l6mRank, spec.l6mPlace: whether a list is a ranking; where a member stands.
-/
namespace Go.Proofs.YtahilcnmjnjcaaaDoor
set_option linter.unusedVariables false
set_option linter.unusedSimpArgs false
open Go.RowKit

theorem l6In_r (n low high : Int) (r : Bool) (h : decide (low ≤ n ∧ n ≤ high) = r) (w : World) :
    Calls Tryd.prog 52 #[.int .i64 n, .int .i64 low, .int .i64 high] w fun e w' => e = .returned (.bool r) ∧ w = w' :=
  (l6In_any n low high w).mono fun e w' h' => ⟨by rw [← h]; exact h'.1, h'.2⟩

theorem rankB_bad {n : Nat} {xs : List Int} {k : Nat} (hk : k < xs.length) (h : inR n xs[k] = false) : rankB n xs = false := by
  unfold rankB
  have : xs.all (inR n) = false := by
    rw [Bool.eq_false_iff]
    intro hall
    rw [List.all_eq_true.1 hall _ (List.getElem_mem hk)] at h
    cases h
  rw [this, Bool.false_and]
theorem rankB_end {n : Nat} {xs : List Int} (h : ∀ k (hk : k < xs.length), inR n xs[k] = true) : rankB n xs = (decide (xs.length = n) && decide (seenOf xs = 2 ^ n - 1)) := by
  unfold rankB
  have : xs.all (inR n) = true := by
    rw [List.all_eq_true]
    intro x hx
    obtain ⟨k, hk, rfl⟩ := List.getElem_of_mem hx
    exact h k hk
  rw [this, Bool.true_and]

set_option maxRecDepth 100000 in
set_option maxHeartbeats 2000000 in
theorem l6mRank_any (w : World) (v : Value) (xs : List Int) (h : Ints w v xs) (n : Nat) (h1 : 1 ≤ n) (h5 : n ≤ 5) :
    Calls Tryd.prog 53 #[v, .int .i64 (n : Int)] w fun e w' => e = .returned (.bool (rankB n xs)) ∧ w = w' := by
  obtain ⟨A, cap, rfl, hm, hc⟩ := h
  have HC := Lib.hid hc
  clear hc
  unfold maxLen at hm
  have HLW := Lib.hid (low_wrap (v := n) (by omega))
  obtain ⟨n1, hn1⟩ : ∃ n1 : Nat, n - 1 = n1 := ⟨_, rfl⟩
  have hn1i : (n : Int) - 1 = (n1 : Int) := by omega
  have HN1 := Lib.hid hn1i
  clear hn1i
  go_enter Tryd.func53, Tryd.ntmps53
  go_wp2
  go_loopw [5, 6] (fun s i wr => ∃ k : Nat, k ≤ xs.length ∧ i = .int .i64 k ∧ s = .int .i64 (seenOf (xs.take k) : Nat) ∧ (∀ j (hj : j < xs.length), j < k → inR n xs[j] = true) ∧ wr = w) (fun _ i _ => xs.length - (intOf i).toNat)
  case atStart => exact ⟨0, by omega, rfl, rfl, fun j hj h => by omega, rfl⟩
  case round =>
    obtain ⟨k, hk, rfl, rfl, hall, hwr⟩ := hrel
    have hwr2 := hwr.symm
    clear hwr
    subst hwr2
    have HA := Lib.hid hall
    clear hall
    have hs32 : seenOf (xs.take k) < 32 := by
      have := seenOf_lt (n := n) (by omega) (xs.take k) (fun x hx => by
        obtain ⟨j, hj, rfl⟩ := List.getElem_of_mem hx
        rw [List.length_take] at hj
        rw [List.getElem_take]
        exact HA.out j (by omega) (by omega))
      have h2 : 2 ^ n ≤ 2 ^ 5 := Nat.pow_le_pow_right (by decide) h5
      omega
    obtain ⟨s, hs⟩ : ∃ s, seenOf (xs.take k) = s := ⟨_, rfl⟩
    rw [hs] at hs32 ⊢
    have HS := Lib.hid hs
    clear hs
    by_cases hlt : k < xs.length
    · obtain ⟨b, off, rfl, hcell⟩ := HC.out k hlt
      obtain ⟨x, hx⟩ : ∃ x, xs[k] = x := ⟨_, rfl⟩
      rw [hx] at hcell
      have hki : (k : Int) < (xs.length : Int) := by omega
      have hk0 : (0 : Int) ≤ (k : Int) := by omega
      have HX := Lib.hid hx
      have hw1 : IntKind.i64.wrap ((n : Int) - 1) = (n1 : Int) := by rw [HN1.out]; exact wraps_i64 _ (by omega) (by omega)
      have hw2 : wrap64 ((n : Int) - 1) = (n1 : Int) := by rw [← wrap_eq]; exact hw1
      clear hx
      cases hb : inR n x with
      | false =>
        have hr := rankB_bad hlt (by rw [HX.out]; exact hb)
        have HR := Lib.hid hr
        have HL := Lib.hid (fun W => l6In_r x 0 (n1 : Int) false (by unfold inR at hb; rw [HN1.out] at hb; exact hb) W)
        clear hb hr
        go_wp2_with (go_at_call 52; refine (HL.out _).mono ?_; rintro e w' ⟨rfl, rfl⟩)
        go_ret
        exact ⟨ret_bool HR.out.symm, rfl⟩
      | true =>
        have HL := Lib.hid (fun W => l6In_r x 0 (n1 : Int) true (by unfold inR at hb; rw [HN1.out] at hb; exact hb) W)
        obtain ⟨m, rfl⟩ : ∃ m : Nat, x = (m : Int) := ⟨x.toNat, by unfold inR at hb; rw [decide_eq_true_iff] at hb; omega⟩
        have hm5 : m < 5 := by unfold inR at hb; rw [decide_eq_true_iff] at hb; omega
        have hor : bits .or .i64 (s : Int) (wrap64 (2 ^ m)) = ((s ||| 2 ^ m : Nat) : Int) := or_pow (by omega) (by omega)
        have hnx : s ||| 2 ^ m = seenOf (xs.take (k + 1)) := by rw [seenOf_take xs k hlt, HX.out, HS.out]; rfl
        have HNX := Lib.hid hnx
        have HB := Lib.hid hb
        have hor2 := hor
        rw [← wrap_eq] at hor2
        clear hb hnx
        go_wp2_with (go_at_call 52; refine (HL.out _).mono ?_; rintro e w' ⟨rfl, rfl⟩)
        go_roundw
        case rel =>
          refine ⟨k + 1, by omega, by go_num, by rw [← HNX.out], fun j hj h => ?_, trivial⟩
          by_cases e : j = k
          · subst e; rw [HX.out]; exact HB.out
          · exact HA.out j hj (by omega)
        case measure => simp [intOf]; omega
    · obtain rfl : k = xs.length := by omega
      have hr := rankB_end (n := n) (fun j hj => HA.out j hj hj)
      rw [List.take_length] at HS
      rw [HS.out] at hr
      by_cases hl : xs.length = n
      · have e1 : ((xs.length : Int) == (n : Int)) = true := by simp [hl]
        obtain ⟨F1, hF1⟩ : ∃ F1, 2 ^ n - 1 = F1 := ⟨_, rfl⟩
        rw [hF1] at hr HLW
        have e2 : ((s : Int) == (F1 : Int)) = decide (s = F1) := by
          by_cases h : s = F1
          · subst h; simp
          · rw [decide_eq_false h]; simp; omega
        have hr2 : rankB n xs = decide (s = F1) := by rw [hr, hl]; simp
        have HR := Lib.hid hr2
        clear hr hr2 hF1
        have hlw := HLW.out
        have hlw2 := hlw
        rw [← wrap_eq, ← wrap_eq] at hlw2
        go_wp2
        go_ret
        exact ⟨ret_bool (by rw [HR.out]), rfl⟩
      · have e1 : ((xs.length : Int) == (n : Int)) = false := by simp; omega
        have hr2 : rankB n xs = false := by rw [hr, decide_eq_false hl]; rfl
        have HR := Lib.hid hr2
        clear hr hr2
        go_wp2
        go_ret
        exact ⟨ret_bool HR.out.symm, rfl⟩

end Go.Proofs.YtahilcnmjnjcaaaDoor

/-
  Who stands nowhere in a list.
-/
namespace Go.Proofs.YtahilcnmjnjcaaaDoor
set_option linter.unusedVariables false
set_option linter.unusedSimpArgs false
open Go.RowKit

theorem place_out : ∀ (xs : List Int) (c : Int), place xs c = xs.length ↔ c ∉ xs
  | [], _ => by simp [place]
  | x :: t, c => by
    have ih := place_out t c
    unfold place
    rw [List.length_cons, List.mem_cons]
    split
    · rename_i h; simp [h]
    · rename_i h
      rw [Nat.add_right_cancel_iff, ih]
      constructor
      · intro h2 h3
        rcases h3 with h3 | h3
        · exact h h3.symm
        · exact h2 h3
      · exact fun h2 h3 => h2 (.inr h3)

end Go.Proofs.YtahilcnmjnjcaaaDoor

