/-
  ALL ORDERS BEHIND A BEGINNING, by the members that are left, and those of them that are stable. Plain mathematics.
-/
import Derived.Test.YtahilcnmjnjcaaaDoorAllI
import Derived.Test.YtahilcnmjnjcaaaDoorElems
namespace Go.Proofs.YtahilcnmjnjcaaaDoor
set_option linter.unusedVariables false
set_option linter.unusedSimpArgs false
open Go.RowKit

/-- All orders that begin so, with the members left behind. -/
def comp : Nat → Nat → List Int → List (List Int)
  | 0, _, beg => [beg]
  | d + 1, left, beg => (elems left).flatMap fun v => comp d (wo8 left v) (beg ++ [(v : Int)])
theorem elems_range : ∀ m : Fin 256, elems m.val = (List.range 8).filter fun v => m.val.testBit v := by decide +kernel
theorem wo8_bits_all : ∀ (m : Fin 256) (k v : Fin 8), (m.val &&& (255 - 2 ^ k.val)).testBit v.val = (m.val.testBit v.val && !(v.val == k.val)) := by decide +kernel
theorem wo8_bits {m k v : Nat} (hm : m < 256) (hk : k < 8) (hv : v < 8) : (wo8 m k).testBit v = (m.testBit v && !(v == k)) := wo8_bits_all ⟨m, hm⟩ ⟨k, hk⟩ ⟨v, hv⟩
/-- The set is that of those not begun with. -/
def LeftOf (n left : Nat) (beg : List Int) : Prop := ∀ u, u < 8 → (left.testBit u = true ↔ u < n ∧ (u : Int) ∉ beg)
theorem LeftOf.step {n left : Nat} {beg : List Int} (hm : left < 256) (h : LeftOf n left beg) {v : Nat} (hv : v < 8) : LeftOf n (wo8 left v) (beg ++ [(v : Int)]) := by
  intro u hu
  rw [wo8_bits hm hv hu, Bool.and_eq_true, h u hu, List.mem_append, List.mem_singleton]
  constructor
  · rintro ⟨⟨h1, h2⟩, h3⟩
    refine ⟨h1, ?_⟩
    rintro (h4 | h4)
    · exact h2 h4
    · obtain rfl : u = v := by omega
      simp at h3
  · rintro ⟨h1, h2⟩
    refine ⟨⟨h1, fun h4 => h2 (.inl h4)⟩, ?_⟩
    have : u ≠ v := fun e => h2 (.inr (by rw [e]))
    simp [this]
theorem leftOf_full : ∀ (n : Fin 9) (u : Fin 8), ((2 ^ n.val - 1).testBit u.val = true ↔ u.val < n.val) := by decide
theorem leftOf_all {n : Nat} (h8 : n ≤ 8) : LeftOf n (2 ^ n - 1) [] := fun u hu => by
  rw [leftOf_full ⟨n, by omega⟩ ⟨u, hu⟩]
  simp
theorem flat_if {α β : Type} (p : α → Prop) [DecidablePred p] (f : α → List β) : ∀ l : List α, (l.flatMap fun k => if p k then f k else []) = (l.filter fun k => decide (p k)).flatMap f
  | [] => rfl
  | k :: l => by
    rw [List.flatMap_cons, flat_if p f l, List.filter_cons]
    by_cases h : p k
    · rw [if_pos h, decide_eq_true h, if_pos rfl, List.flatMap_cons]
    · rw [if_neg h, decide_eq_false h, if_neg (by simp)]; rfl
theorem elems_left {n left : Nat} {beg : List Int} (h8 : n ≤ 8) (hm : left < 256) (h : LeftOf n left beg) : elems left = (List.range n).filter fun (k : Nat) => decide (place beg (k : Int) = beg.length) := by
  have e1 := elems_range ⟨left, hm⟩
  simp only at e1
  rw [e1]
  have e2 : List.range 8 = List.range n ++ (List.range (8 - n)).map (n + ·) := by rw [← List.range_add]; congr 1; omega
  rw [e2, List.filter_append]
  have e3 : ((List.range (8 - n)).map (n + ·)).filter (fun v => left.testBit v) = [] := by
    rw [List.filter_eq_nil_iff]
    intro x hx
    obtain ⟨y, hy, rfl⟩ := List.mem_map.1 hx
    rw [List.mem_range] at hy
    rw [h _ (by omega)]
    omega
  rw [e3, List.append_nil]
  refine List.filter_congr fun x hx => ?_
  rw [List.mem_range] at hx
  have := h x (by omega)
  rw [Bool.eq_iff_iff, this, decide_eq_true_iff, place_out]
  exact ⟨fun h => h.2, fun h2 => ⟨hx, h2⟩⟩
/-- What is listed is what of all orders is stable. -/
theorem allI_comp {ls rs : List (List Int)} {n : Nat} (h8 : n ≤ 8) : ∀ (d left : Nat) (beg : List Int), left < 256 → LeftOf n left beg → allI ls rs n d beg = (comp d left beg).filter fun p => (blocksOf ls rs p).isEmpty
  | 0, left, beg, _, _ => by
    show (if (blocksOf ls rs beg).isEmpty = true then [beg] else []) = List.filter _ [beg]
    rw [List.filter_cons]
    rfl
  | d + 1, left, beg, hm, h => by
    show ((List.range n).flatMap fun (k : Nat) => if place beg (k : Int) = beg.length then allI ls rs n d (beg ++ [(k : Int)]) else []) = ((elems left).flatMap fun v => comp d (wo8 left v) (beg ++ [(v : Int)])).filter _
    rw [flat_if, ← elems_left h8 hm h, List.filter_flatMap]
    refine congrArg List.flatten (List.map_congr_left fun v hv => ?_)
    obtain ⟨hv8, hb⟩ := mem_elems.1 hv
    exact allI_comp h8 d _ _ (wo8_lt hm) (h.step hm hv8)
/-- What is given out, member by member. -/
def compTo (d left : Nat) (beg : List Int) (l : List Nat) : List (List Int) := l.flatMap fun v => comp d (wo8 left v) (beg ++ [(v : Int)])
theorem compTo_snoc (d left : Nat) (beg : List Int) (l : List Nat) (v : Nat) : compTo d left beg (l ++ [v]) = compTo d left beg l ++ comp d (wo8 left v) (beg ++ [(v : Int)]) := by simp [compTo]
theorem compTo_all (d left : Nat) (beg : List Int) : compTo d left beg (elems left) = comp (d + 1) left beg := rfl
theorem comp_len {p : List Int} : ∀ (d left : Nat) (beg : List Int), p ∈ comp d left beg → p.length = beg.length + d
  | 0, left, beg, h => by rw [List.mem_singleton.1 h]; rfl
  | d + 1, left, beg, h => by
    obtain ⟨v, hv, hp⟩ := List.mem_flatMap.1 h
    rw [comp_len d _ _ hp, List.length_append]
    simp; omega
theorem comp_count : ∀ (d left : Nat) (beg : List Int), (comp d left beg).length ≤ 8 ^ d
  | 0, _, _ => by simp [comp]
  | d + 1, left, beg => by
    have key : ∀ l : List Nat, (compTo d left beg l).length ≤ l.length * 8 ^ d := by
      intro l
      induction l with
      | nil => simp [compTo]
      | cons v l ih =>
        have := comp_count d (wo8 left v) (beg ++ [(v : Int)])
        show ((v :: l).flatMap _).length ≤ _
        rw [List.flatMap_cons, List.length_append, List.length_cons, Nat.succ_mul]
        have ih' : (l.flatMap fun v => comp d (wo8 left v) (beg ++ [(v : Int)])).length ≤ l.length * 8 ^ d := ih
        omega
    have h1 := key (elems left)
    have h2 : (elems left).length ≤ 8 := by
      rw [elems_len]
      unfold bitsOf
      refine Nat.le_trans (List.length_filter_le _ _) ?_
      simp
    refine Nat.le_trans h1 ?_
    rw [Nat.pow_succ, Nat.mul_comm (8 ^ d)]
    exact Nat.mul_le_mul_right _ h2
theorem comp_rank {n : Nat} {p : List Int} (h8 : n ≤ 8) : ∀ (d left : Nat) (beg : List Int), left < 256 → LeftOf n left beg → Begins n beg → beg.length + d = n → p ∈ comp d left beg → rankB n p = true
  | 0, left, beg, _, _, hb, hl, h => by rw [List.mem_singleton.1 h]; exact hb.rank (by omega)
  | d + 1, left, beg, hm, hL, hb, hl, h => by
    obtain ⟨v, hv, hp⟩ := List.mem_flatMap.1 h
    obtain ⟨hv8, hbit⟩ := mem_elems.1 hv
    obtain ⟨h1, h2⟩ := (hL v hv8).1 hbit
    exact comp_rank h8 d _ _ (wo8_lt hm) (hL.step hm hv8) (hb.snoc h1 ((place_out beg (v : Int)).2 h2)) (by simp; omega) hp
theorem compTo_count (d left : Nat) (beg : List Int) : ∀ l : List Nat, (compTo d left beg l).length ≤ l.length * 8 ^ d
  | [] => by simp [compTo]
  | v :: l => by
    have h1 := comp_count d (wo8 left v) (beg ++ [(v : Int)])
    have h2 : (l.flatMap fun v => comp d (wo8 left v) (beg ++ [(v : Int)])).length ≤ l.length * 8 ^ d := compTo_count d left beg l
    show ((v :: l).flatMap _).length ≤ _
    rw [List.flatMap_cons, List.length_append, List.length_cons, Nat.succ_mul]
    omega

end Go.Proofs.YtahilcnmjnjcaaaDoor
