/-
  Rnk: Rank Clone Order Place SpecRank PlaceOut Rank6 SpecRank6 Order6.
-/
import Derived.Test.YtellghhilcjbnaaDoorCore1
import Derived.Maps.AppendAt
import Derived.Deep.QuietTactic
import Derived.BigQuiet
import Derived.Deep.RegionLaw
import Derived.Outline
/-
  WHAT A RANKING IS: a list that has each of n numbers once; places. Plain functions, no walk.
-/
namespace Go.Proofs.YtellghhilcjbnaaDoor
set_option linter.unusedVariables false
set_option linter.unusedSimpArgs false
open Go.RowKit

/-- Whether a number is one of n. -/
def inR (n : Nat) (x : Int) : Bool := decide (0 ≤ x ∧ x ≤ (n : Int) - 1)
/-- The numbers that were seen, as a set. -/
def seenOf (xs : List Int) : Nat := xs.foldl (fun s x => s ||| 2 ^ x.toNat) 0
/-- As the specification asks it. -/
def rankB (n : Nat) (xs : List Int) : Bool := xs.all (inR n) && (decide (xs.length = n) && decide (seenOf xs = 2 ^ n - 1))
/-- As the program asks it. -/
def scanB : Nat → List Int → Bool
  | _, [] => true
  | left, x :: t => decide (0 ≤ x) && (left.testBit x.toNat && scanB (left &&& (255 - 2 ^ x.toNat)) t)

theorem seenOf_snoc (xs : List Int) (x : Int) : seenOf (xs ++ [x]) = seenOf xs ||| 2 ^ x.toNat := by simp [seenOf]
theorem seenOf_take (xs : List Int) (k : Nat) (h : k < xs.length) : seenOf (xs.take (k + 1)) = seenOf (xs.take k) ||| 2 ^ xs[k].toNat := by
  rw [List.take_succ_eq_append_getElem h, seenOf_snoc]
theorem seenOf_lt {n : Nat} (h8 : n ≤ 8) (xs : List Int) (h : ∀ x ∈ xs, inR n x = true) : seenOf xs < 2 ^ n := by
  have key : ∀ (l : List Int) (a : Nat), a < 2 ^ n → (∀ x ∈ l, inR n x = true) → l.foldl (fun s x => s ||| 2 ^ x.toNat) a < 2 ^ n := by
    intro l
    induction l with
    | nil => exact fun a ha _ => ha
    | cons x l ih =>
      intro a ha hl
      rw [List.foldl_cons]
      refine ih _ (Nat.or_lt_two_pow ha (Nat.pow_lt_pow_right (by decide) ?_)) (fun y hy => hl y (by simp [hy]))
      have := hl x (by simp)
      unfold inR at this
      rw [decide_eq_true_iff] at this
      omega
  exact key xs 0 (Nat.two_pow_pos n) h
theorem scanB_in : ∀ (xs : List Int) (left : Nat), scanB left xs = true → ∀ x ∈ xs, 0 ≤ x ∧ left.testBit x.toNat = true
  | [], _, _, x, hx => by cases hx
  | y :: t, left, h, x, hx => by
    unfold scanB at h
    rw [Bool.and_eq_true, Bool.and_eq_true, decide_eq_true_iff] at h
    rcases List.mem_cons.1 hx with rfl | hx
    · exact ⟨h.1, h.2.1⟩
    · have := scanB_in t _ h.2.2 x hx
      rw [Nat.testBit_and, Bool.and_eq_true] at this
      exact ⟨this.1, this.2.1⟩
theorem inR_of_bit {n : Nat} {x : Int} (h0 : 0 ≤ x) (h : (2 ^ n - 1).testBit x.toNat = true) : inR n x = true := by
  rw [Nat.testBit_two_pow_sub_one, decide_eq_true_iff] at h
  unfold inR
  rw [decide_eq_true_iff]
  omega
def fins {n : Nat} (l : List (Fin n)) : List Int := l.map (fun x => ((x.val : Nat) : Int))
theorem to_fins {n : Nat} : ∀ (xs : List Int), (∀ x ∈ xs, inR n x = true) → ∃ l : List (Fin n), l.length = xs.length ∧ fins l = xs
  | [], _ => ⟨[], rfl, rfl⟩
  | x :: t, h => by
    obtain ⟨l, hl, he⟩ := to_fins t (fun y hy => h y (by simp [hy]))
    have hx := h x (by simp)
    unfold inR at hx
    rw [decide_eq_true_iff] at hx
    refine ⟨⟨x.toNat, by omega⟩ :: l, by simp [hl], ?_⟩
    unfold fins at he ⊢
    rw [List.map_cons, he]
    congr 1
    simp only
    omega
theorem rank_1 : ∀ a : Fin 1, scanB 1 (fins [a]) = decide (seenOf (fins [a]) = 1) := by decide +kernel
theorem rank_2 : ∀ a b : Fin 2, scanB 3 (fins [a, b]) = decide (seenOf (fins [a, b]) = 3) := by decide +kernel
theorem rank_3 : ∀ a b c : Fin 3, scanB 7 (fins [a, b, c]) = decide (seenOf (fins [a, b, c]) = 7) := by decide +kernel
theorem rank_4 : ∀ a b c d : Fin 4, scanB 15 (fins [a, b, c, d]) = decide (seenOf (fins [a, b, c, d]) = 15) := by decide +kernel
theorem rank_5 : ∀ a b c d e : Fin 5, scanB 31 (fins [a, b, c, d, e]) = decide (seenOf (fins [a, b, c, d, e]) = 31) := by decide +kernel
theorem len1 {α : Type} {l : List α} (h : l.length = 1) : ∃ a, l = [a] := by
  match l, h with
  | [a], _ => exact ⟨a, rfl⟩
theorem len2 {α : Type} {l : List α} (h : l.length = 2) : ∃ a b, l = [a, b] := by
  match l, h with
  | [a, b], _ => exact ⟨a, b, rfl⟩
theorem len3 {α : Type} {l : List α} (h : l.length = 3) : ∃ a b c, l = [a, b, c] := by
  match l, h with
  | [a, b, c], _ => exact ⟨a, b, c, rfl⟩
theorem len4 {α : Type} {l : List α} (h : l.length = 4) : ∃ a b c d, l = [a, b, c, d] := by
  match l, h with
  | [a, b, c, d], _ => exact ⟨a, b, c, d, rfl⟩
theorem len5 {α : Type} {l : List α} (h : l.length = 5) : ∃ a b c d e, l = [a, b, c, d, e] := by
  match l, h with
  | [a, b, c, d, e], _ => exact ⟨a, b, c, d, e, rfl⟩
/-- Both ask the same. -/
theorem rank_scan {n : Nat} (h1 : 1 ≤ n) (h5 : n ≤ 5) (xs : List Int) : rankB n xs = (decide (xs.length = n) && scanB (2 ^ n - 1) xs) := by
  by_cases hl : xs.length = n
  · cases hall : xs.all (inR n) with
    | false =>
      unfold rankB
      rw [hall, Bool.false_and]
      cases hs : scanB (2 ^ n - 1) xs with
      | false => rw [Bool.and_false]
      | true =>
        exfalso
        have : xs.all (inR n) = true := List.all_eq_true.2 fun x hx => by
          have := scanB_in xs _ hs x hx
          exact inR_of_bit this.1 this.2
        rw [hall] at this; cases this
    | true =>
      obtain ⟨l, hll, rfl⟩ := to_fins xs (List.all_eq_true.1 hall)
      unfold rankB
      rw [hall, hl, decide_eq_true (rfl : n = n), Bool.true_and, Bool.true_and]
      rw [hl] at hll
      symm
      have hn : n = 1 ∨ n = 2 ∨ n = 3 ∨ n = 4 ∨ n = 5 := by omega
      rcases hn with rfl | rfl | rfl | rfl | rfl
      · obtain ⟨a, rfl⟩ := len1 hll; exact rank_1 a
      · obtain ⟨a, b, rfl⟩ := len2 hll; exact rank_2 a b
      · obtain ⟨a, b, c, rfl⟩ := len3 hll; exact rank_3 a b c
      · obtain ⟨a, b, c, d, rfl⟩ := len4 hll; exact rank_4 a b c d
      · obtain ⟨a, b, c, d, e, rfl⟩ := len5 hll; exact rank_5 a b c d e
  · unfold rankB
    rw [decide_eq_false hl, Bool.false_and, Bool.false_and, Bool.and_false]
theorem rank_parts {n : Nat} {xs : List Int} (h : rankB n xs = true) : xs.length = n ∧ (∀ x ∈ xs, 0 ≤ x ∧ x ≤ (n : Int) - 1) ∧ seenOf xs = 2 ^ n - 1 := by
  unfold rankB at h
  rw [Bool.and_eq_true, Bool.and_eq_true, decide_eq_true_iff, decide_eq_true_iff, List.all_eq_true] at h
  refine ⟨h.2.1, fun x hx => ?_, h.2.2⟩
  have := h.1 x hx
  unfold inR at this
  rw [decide_eq_true_iff] at this
  exact this

end Go.Proofs.YtellghhilcjbnaaDoor

/-
  slices.Clone of a slice of integers: a new slice with the same ones.
-/
namespace Go.Proofs.YtellghhilcjbnaaDoor
set_option linter.unusedVariables false
set_option linter.unusedSimpArgs false
open Go.RowKit

theorem addr_add_off (b off j : Nat) : (⟨b, off, none⟩ : Addr).add j = ⟨b, off + j, none⟩ := by unfold Addr.add; split <;> simp_all


end Go.Proofs.YtellghhilcjbnaaDoor

/-
  impl.orderFrom reads an order; (impl.order).turned: at which index each member stands.
-/
namespace Go.Proofs.YtellghhilcjbnaaDoor
set_option linter.unusedVariables false
set_option linter.unusedSimpArgs false
open Go.RowKit

theorem pow_bv : ∀ m : Fin 64, BitVec.ofInt 64 (wrap64 (2 ^ m.val)) = BitVec.ofNat 64 (2 ^ m.val) := by decide +kernel
theorem has_bit64 (s m : Nat) (hs : s < 256) (hm : m < 64) : (bits .and .i64 (s : Int) (wrap64 (2 ^ m)) != 0) = s.testBit m := by
  by_cases h8 : m < 8
  · exact has_bit s m hs h8
  · have e : bits .and .i64 (s : Int) (wrap64 (2 ^ m)) = 0 := by
      show IntKind.i64.wrap ((BitVec.ofInt 64 (s : Int) &&& BitVec.ofInt 64 (wrap64 (2 ^ m))).toNat : Int) = 0
      have h := pow_bv ⟨m, hm⟩
      simp only at h
      rw [h, BitVec.toNat_and, BitVec.ofInt_natCast, BitVec.toNat_ofNat, BitVec.toNat_ofNat, Nat.mod_eq_of_lt (by omega : s < 2 ^ 64), Nat.mod_eq_of_lt (Nat.pow_lt_pow_right (by decide) hm)]
      have hz : s &&& 2 ^ m = 0 := by
        apply Nat.eq_of_testBit_eq
        intro i
        rw [Nat.testBit_and, Nat.testBit_two_pow, Nat.zero_testBit]
        by_cases e : m = i
        · subst e
          rw [Nat.testBit_lt_two_pow (Nat.lt_of_lt_of_le hs (by
            have : 2 ^ 8 ≤ 2 ^ m := Nat.pow_le_pow_right (by decide) (by omega)
            simpa using this)), Bool.false_and]
        · rw [decide_eq_false e, Bool.and_false]
      rw [hz]
      decide
    have h2 : s.testBit m = false := Nat.testBit_lt_two_pow (Nat.lt_of_lt_of_le hs (by
      have : 2 ^ 8 ≤ 2 ^ m := Nat.pow_le_pow_right (by decide) (by omega)
      simpa using this))
    rw [e, h2]; rfl
theorem bit_far {s m : Nat} (hs : s < 256) (hm : 8 ≤ m) : s.testBit m = false := Nat.testBit_lt_two_pow (Nat.lt_of_lt_of_le hs (by
      have : 2 ^ 8 ≤ 2 ^ m := Nat.pow_le_pow_right (by decide) hm
      simpa using this))

set_option maxRecDepth 100000 in
set_option maxHeartbeats 400000 in
theorem has_wide (s m : Nat) (hs : s < 256) (w : World) :
    Calls Tryd.prog 56 #[.int .i64 (s : Int), .int .i64 (m : Int)] w fun e w' => e = .returned (.bool (s.testBit m)) ∧ w = w' := by
  by_cases h64 : m < 64
  · have H := Lib.hid (has_bit64 s m hs h64)
    go_enter Tryd.func56, Tryd.ntmps56
    go_wp2
    go_ret
    exact ⟨ret_bool H.out, rfl⟩
  · have H := Lib.hid (bit_far (s := s) hs (show 8 ≤ m by omega))
    have hmin : min m 64 = 64 := by omega
    have HM := Lib.hid hmin
    clear hmin
    go_enter Tryd.func56, Tryd.ntmps56
    go_wp2
    go_ret
    exact ⟨ret_bool (by
      rw [H.out, HM.out]
      have e : bits .and .i64 (s : Int) (wrap64 (2 ^ 64)) = 0 := by
        show IntKind.i64.wrap ((BitVec.ofInt 64 (s : Int) &&& BitVec.ofInt 64 (wrap64 (2 ^ 64))).toNat : Int) = 0
        have e2 : BitVec.ofInt 64 (wrap64 (2 ^ 64)) = 0#64 := by decide +kernel
        rw [e2, BitVec.and_zero]
        decide
      rw [e]; rfl), rfl⟩

theorem scan_len {n : Nat} (h1 : 1 ≤ n) (h5 : n ≤ 5) {xs : List Int} (hl : xs.length ≠ n) : rankB n xs = false := by
  rw [rank_scan h1 h5, decide_eq_false hl, Bool.false_and]

/-- What is read. -/
def ordOf (n : Nat) (xs : List Int) : List Int := if rankB n xs = true then xs else []
theorem ordOf_yes {n : Nat} {xs : List Int} (h : rankB n xs = true) : ordOf n xs = xs := if_pos h
theorem ordOf_no {n : Nat} {xs : List Int} (h : rankB n xs = false) : ordOf n xs = [] := by unfold ordOf; rw [h]; rfl
theorem scanB_cons (L : Nat) (x : Int) (t : List Int) : scanB L (x :: t) = (decide (0 ≤ x) && (L.testBit x.toNat && scanB (L &&& (255 - 2 ^ x.toNat)) t)) := rfl
theorem scanB_nat {L m : Nat} (t : List Int) (h : L.testBit m = true) : scanB L ((m : Int) :: t) = scanB (L &&& (255 - 2 ^ m)) t := by
  rw [scanB_cons, Int.toNat_natCast, h, decide_eq_true (by omega), Bool.true_and, Bool.true_and]


/-- At which index each of n members stands, when k were told. -/
def backTo (xs : List Int) : Nat → List Int
  | 0 => List.replicate xs.length 0
  | k + 1 => (backTo xs k).set (xs.getD k 0).toNat (k : Int)
def backOf (xs : List Int) : List Int := backTo xs xs.length
theorem backTo_len (xs : List Int) : ∀ k, (backTo xs k).length = xs.length
  | 0 => by simp [backTo]
  | k + 1 => by simp [backTo, backTo_len xs k]
theorem backOf_len (xs : List Int) : (backOf xs).length = xs.length := backTo_len xs _

theorem infoOrder : (Tryd.prog.info? 3).map (fun i => (i.zero, i.size, i.bytes)) = some (some (.int .i64 0), 1, 8) := by kernel_rfl
end Go.Proofs.YtellghhilcjbnaaDoor

/-
  PLACES IN RANKINGS, and what turned rankings say of them: plain functions, no walk.
-/
namespace Go.Proofs.YtellghhilcjbnaaDoor
set_option linter.unusedVariables false
set_option linter.unusedSimpArgs false
open Go.RowKit

/-- Where a member stands in a list, its length where it doesn't. -/
def place : List Int → Int → Nat
  | [], _ => 0
  | x :: t, c => if x = c then 0 else place t c + 1
theorem place_le : ∀ (xs : List Int) (c : Int), place xs c ≤ xs.length
  | [], _ => Nat.le_refl _
  | x :: t, c => by
    have := place_le t c
    unfold place
    split
    · exact Nat.zero_le _
    · rw [List.length_cons]; omega
def turnB (n : Nat) (l : List Int) : Bool :=
  decide (backOf l = (List.range n).map (fun (c : Nat) => ((place l (c : Int) : Nat) : Int))) &&
    ((List.range n).map (fun k => (k, ((backOf l).getD k 0).toNat))).isPerm ((List.range n).map (fun i => ((l.getD i 0).toNat, i)))
theorem turn_1 : ∀ a : Fin 1, scanB 1 (fins [a]) = true → turnB 1 (fins [a]) = true := by decide +kernel
theorem turn_2 : ∀ a b : Fin 2, scanB 3 (fins [a, b]) = true → turnB 2 (fins [a, b]) = true := by decide +kernel
theorem turn_3 : ∀ a b c : Fin 3, scanB 7 (fins [a, b, c]) = true → turnB 3 (fins [a, b, c]) = true := by decide +kernel
theorem turn_4 : ∀ a b c d : Fin 4, scanB 15 (fins [a, b, c, d]) = true → turnB 4 (fins [a, b, c, d]) = true := by decide +kernel
theorem turn_5 : ∀ a b c d e : Fin 5, scanB 31 (fins [a, b, c, d, e]) = true → turnB 5 (fins [a, b, c, d, e]) = true := by decide +kernel
theorem rank_turn {n : Nat} (h1 : 1 ≤ n) (h5 : n ≤ 5) {xs : List Int} (h : rankB n xs = true) : turnB n xs = true := by
  obtain ⟨hl, hin, _⟩ := rank_parts h
  rw [rank_scan h1 h5, Bool.and_eq_true] at h
  obtain ⟨l, hll, rfl⟩ := to_fins (n := n) xs (fun x hx => by unfold inR; rw [decide_eq_true_iff]; exact hin x hx)
  rw [hl] at hll
  have hs := h.2
  clear hin hl h
  have hn : n = 1 ∨ n = 2 ∨ n = 3 ∨ n = 4 ∨ n = 5 := by omega
  rcases hn with rfl | rfl | rfl | rfl | rfl
  · obtain ⟨a, rfl⟩ := len1 hll; exact turn_1 a hs
  · obtain ⟨a, b, rfl⟩ := len2 hll; exact turn_2 a b hs
  · obtain ⟨a, b, c, rfl⟩ := len3 hll; exact turn_3 a b c hs
  · obtain ⟨a, b, c, d, rfl⟩ := len4 hll; exact turn_4 a b c d hs
  · obtain ⟨a, b, c, d, e, rfl⟩ := len5 hll; exact turn_5 a b c d e hs
/-- What a ranking turned says: the places. -/
theorem back_place {n : Nat} (h1 : 1 ≤ n) (h5 : n ≤ 5) {xs : List Int} (h : rankB n xs = true) {c : Nat} (hc : c < n) : (backOf xs).getD c 0 = (place xs (c : Int) : Int) := by
  have := rank_turn h1 h5 h
  unfold turnB at this
  rw [Bool.and_eq_true, decide_eq_true_iff] at this
  rw [this.1]
  simp [List.getD, hc]
theorem back_perm {n : Nat} (h1 : 1 ≤ n) (h5 : n ≤ 5) {xs : List Int} (h : rankB n xs = true) : ((List.range n).map (fun k => (k, ((backOf xs).getD k 0).toNat))).Perm ((List.range n).map (fun i => ((xs.getD i 0).toNat, i))) := by
  have := rank_turn h1 h5 h
  unfold turnB at this
  rw [Bool.and_eq_true] at this
  exact List.isPerm_iff.1 this.2
theorem perm_sum {α : Type} (f : α → Int) {l l' : List α} (h : l.Perm l') : (l.map f).sum = (l'.map f).sum := by
  induction h with
  | nil => rfl
  | cons x _ ih => simp [ih]
  | swap x y l => simp [List.map_cons, List.sum_cons]; omega
  | trans _ _ ih1 ih2 => exact ih1.trans ih2

end Go.Proofs.YtellghhilcjbnaaDoor

/-
  spec.l6mRank, spec.l6mPlace: whether a list is a ranking; where a member stands.
-/
namespace Go.Proofs.YtellghhilcjbnaaDoor
set_option linter.unusedVariables false
set_option linter.unusedSimpArgs false
open Go.RowKit

theorem l6In_r (n low high : Int) (r : Bool) (h : decide (low ≤ n ∧ n ≤ high) = r) (w : World) :
    Calls Tryd.prog 43 #[.int .i64 n, .int .i64 low, .int .i64 high] w fun e w' => e = .returned (.bool r) ∧ w = w' :=
  (l6In_any n low high w).mono fun e w' h' => ⟨by rw [← h]; exact h'.1, h'.2⟩

theorem rankB_bad {n : Nat} {xs : List Int} {k : Nat} (hk : k < xs.length) (h : inR n xs[k] = false) : rankB n xs = false := by
  unfold rankB
  have : xs.all (inR n) = false := by
    rw [Bool.eq_false_iff]
    intro hall
    rw [List.all_eq_true.1 hall _ (List.getElem_mem hk)] at h
    cases h
  rw [this, Bool.false_and]
theorem rankB_end {n : Nat} {xs : List Int} (h : ∀ k (hk : k < xs.length), inR n xs[k] = true) : rankB n xs = (decide (xs.length = n) && decide (seenOf xs = 2 ^ n - 1)) := by
  unfold rankB
  have : xs.all (inR n) = true := by
    rw [List.all_eq_true]
    intro x hx
    obtain ⟨k, hk, rfl⟩ := List.getElem_of_mem hx
    exact h k hk
  rw [this, Bool.true_and]


end Go.Proofs.YtellghhilcjbnaaDoor

/-
  Who stands nowhere in a list.
-/
namespace Go.Proofs.YtellghhilcjbnaaDoor
set_option linter.unusedVariables false
set_option linter.unusedSimpArgs false
open Go.RowKit

theorem place_out : ∀ (xs : List Int) (c : Int), place xs c = xs.length ↔ c ∉ xs
  | [], _ => by simp [place]
  | x :: t, c => by
    have ih := place_out t c
    unfold place
    rw [List.length_cons, List.mem_cons]
    split
    · rename_i h; simp [h]
    · rename_i h
      rw [Nat.add_right_cancel_iff, ih]
      constructor
      · intro h2 h3
        rcases h3 with h3 | h3
        · exact h h3.symm
        · exact h2 h3
      · exact fun h2 h3 => h2 (.inr h3)

end Go.Proofs.YtellghhilcjbnaaDoor

/-
  Rankings of six.
-/
namespace Go.Proofs.YtellghhilcjbnaaDoor
set_option linter.unusedVariables false
set_option linter.unusedSimpArgs false
open Go.RowKit

set_option maxRecDepth 100000 in
theorem rank_6 : ∀ a b c d e f : Fin 6, scanB 63 (fins [a, b, c, d, e, f]) = decide (seenOf (fins [a, b, c, d, e, f]) = 63) := by decide +kernel
theorem len6 {α : Type} {l : List α} (h : l.length = 6) : ∃ a b c d e f, l = [a, b, c, d, e, f] := by
  match l, h with
  | [a, b, c, d, e, f], _ => exact ⟨a, b, c, d, e, f, rfl⟩
/-- Both ask the same. -/
theorem rank_scan6 {n : Nat} (h1 : 1 ≤ n) (h6 : n ≤ 6) (xs : List Int) : rankB n xs = (decide (xs.length = n) && scanB (2 ^ n - 1) xs) := by
  by_cases hl : xs.length = n
  · cases hall : xs.all (inR n) with
    | false =>
      unfold rankB
      rw [hall, Bool.false_and]
      cases hs : scanB (2 ^ n - 1) xs with
      | false => rw [Bool.and_false]
      | true =>
        exfalso
        have : xs.all (inR n) = true := List.all_eq_true.2 fun x hx => by
          have := scanB_in xs _ hs x hx
          exact inR_of_bit this.1 this.2
        rw [hall] at this; cases this
    | true =>
      obtain ⟨l, hll, rfl⟩ := to_fins xs (List.all_eq_true.1 hall)
      unfold rankB
      rw [hall, hl, decide_eq_true (rfl : n = n), Bool.true_and, Bool.true_and]
      rw [hl] at hll
      symm
      have hn : n = 1 ∨ n = 2 ∨ n = 3 ∨ n = 4 ∨ n = 5 ∨ n = 6 := by omega
      rcases hn with rfl | rfl | rfl | rfl | rfl | rfl
      · obtain ⟨a, rfl⟩ := len1 hll; exact rank_1 a
      · obtain ⟨a, b, rfl⟩ := len2 hll; exact rank_2 a b
      · obtain ⟨a, b, c, rfl⟩ := len3 hll; exact rank_3 a b c
      · obtain ⟨a, b, c, d, rfl⟩ := len4 hll; exact rank_4 a b c d
      · obtain ⟨a, b, c, d, e, rfl⟩ := len5 hll; exact rank_5 a b c d e
      · obtain ⟨a, b, c, d, e, f, rfl⟩ := len6 hll; exact rank_6 a b c d e f
  · unfold rankB
    rw [decide_eq_false hl, Bool.false_and, Bool.false_and, Bool.and_false]
end Go.Proofs.YtellghhilcjbnaaDoor

/-
  spec.l6mRank, up to six.
-/
namespace Go.Proofs.YtellghhilcjbnaaDoor
set_option linter.unusedVariables false
set_option linter.unusedSimpArgs false
open Go.RowKit


end Go.Proofs.YtellghhilcjbnaaDoor

/-
  impl.orderFrom, up to six.
-/
namespace Go.Proofs.YtellghhilcjbnaaDoor
set_option linter.unusedVariables false
set_option linter.unusedSimpArgs false
open Go.RowKit

theorem scan_len6 {n : Nat} (h1 : 1 ≤ n) (h5 : n ≤ 6) {xs : List Int} (hl : xs.length ≠ n) : rankB n xs = false := by
  rw [rank_scan6 h1 h5, decide_eq_false hl, Bool.false_and]


end Go.Proofs.YtellghhilcjbnaaDoor

