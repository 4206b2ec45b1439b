/-
  THE SPECIFICATION's LIST OF CHOICES, and its first one of the least measure.
-/
import Derived.Test.YtellghhilcjbnaaDoorBest
import Derived.Test.YtellghhilcjbnaaDoorRnk
namespace Go.Proofs.YtellghhilcjbnaaDoor
set_option linter.unusedVariables false
set_option linter.unusedSimpArgs false
open Go.RowKit

/-- All choices that begin with some columns, as the specification lists them. -/
def chI (n : Nat) : Nat → List Int → List (List Int)
  | 0, beg => [beg]
  | d + 1, beg => (List.range n).flatMap fun (k : Nat) => if place beg (k : Int) = beg.length then chI n d (beg ++ [(k : Int)]) else []
theorem wo8_bit_all : ∀ (m : Fin 256) (k v : Fin 8), (m.val &&& (255 - 2 ^ k.val)).testBit v.val = (m.val.testBit v.val && !(v.val == k.val)) := by decide +kernel
theorem wo8_bit {m k v : Nat} (hm : m < 256) (hk : k < 8) (hv : v < 8) : (wo8 m k).testBit v = (m.testBit v && !(v == k)) := wo8_bit_all ⟨m, hm⟩ ⟨k, hk⟩ ⟨v, hv⟩
theorem elems_range_all : ∀ (m : Fin 256), elems m.val = (List.range 8).filter fun v => m.val.testBit v := by decide +kernel
theorem elems_range {n m : Nat} (hn : n ≤ 8) (hm : m < 256) (h : ∀ v, v < 8 → n ≤ v → m.testBit v = false) : elems m = (List.range n).filter fun v => m.testBit v := by
  rw [elems_range_all ⟨m, hm⟩]
  have e : List.range 8 = List.range n ++ (List.range (8 - n)).map (n + ·) := by rw [← List.range_add]; congr 1; omega
  show List.filter (fun v => m.testBit v) (List.range 8) = _
  rw [e, List.filter_append]
  have : List.filter (fun v => m.testBit v) ((List.range (8 - n)).map (n + ·)) = [] := by
    rw [List.filter_eq_nil_iff]
    intro v hv
    obtain ⟨j, hj, rfl⟩ := List.mem_map.1 hv
    rw [List.mem_range] at hj
    rw [h (n + j) (by omega) (by omega)]
    simp
  rw [this, List.append_nil]
theorem chI_chs {n : Nat} (hn : n ≤ 8) : ∀ (d : Nat) (beg : List Int) (left : Nat), left < 256 → (∀ v, v < 8 → (left.testBit v = true ↔ v < n ∧ (v : Int) ∉ beg)) → chI n d beg = (chs d left).map fun p => beg ++ p.map Int.ofNat
  | 0, beg, left, _, _ => by simp [chI, chs]
  | d + 1, beg, left, hm, hb => by
    have he : elems left = (List.range n).filter fun v => left.testBit v := elems_range hn hm fun v h8 hv => by
      rw [Bool.eq_false_iff]
      intro ht
      have := (hb v h8).1 ht
      omega
    show (List.range n).flatMap (fun (k : Nat) => if place beg (k : Int) = beg.length then chI n d (beg ++ [(k : Int)]) else []) = ((elems left).flatMap fun v => (chs d (wo8 left v)).map (v :: ·)).map fun p => beg ++ p.map Int.ofNat
    rw [he]
    have key : ∀ l : List Nat, (∀ v ∈ l, v < n) → l.flatMap (fun (k : Nat) => if place beg (k : Int) = beg.length then chI n d (beg ++ [(k : Int)]) else []) = ((l.filter fun v => left.testBit v).flatMap fun v => (chs d (wo8 left v)).map (v :: ·)).map fun p => beg ++ p.map Int.ofNat := by
      intro l
      induction l with
      | nil => intro _; rfl
      | cons k t ih =>
        intro hl
        have hk := hl k (by simp)
        rw [List.flatMap_cons, ih fun v hv => hl v (by simp [hv]), List.filter_cons]
        by_cases hbt : left.testBit k = true
        · have hkb := (hb k (by omega)).1 hbt
          rw [if_pos ((place_out _ _).2 hkb.2), if_pos hbt, List.flatMap_cons, List.map_append]
          congr 1
          rw [chI_chs hn d (beg ++ [(k : Int)]) (wo8 left k) (wo8_lt hm) ?_]
          · rw [List.map_map]
            apply List.map_congr_left
            intro p _
            simp
          · intro v hv
            rw [wo8_bit hm (by omega) hv, Bool.and_eq_true, hb v hv]
            simp only [List.mem_append, List.mem_singleton, Bool.not_eq_true', beq_eq_false_iff_ne]
            constructor
            · rintro ⟨⟨h1, h2⟩, h3⟩
              exact ⟨h1, by rintro (h4 | h4); exact h2 h4; exact h3 (by omega)⟩
            · rintro ⟨h1, h2⟩
              exact ⟨⟨h1, fun h => h2 (.inl h)⟩, fun h => h2 (.inr (by omega))⟩
        · have hkb : ¬ place beg (k : Int) = beg.length := by
            rw [place_out]
            intro h
            exact hbt ((hb k (by omega)).2 ⟨hk, h⟩)
          rw [if_neg hkb, if_neg hbt, List.nil_append]
    exact key _ fun v hv => List.mem_range.1 hv
theorem full_bits_all : ∀ (n : Fin 9) (v : Fin 8), (2 ^ n.val - 1).testBit v.val = decide (v.val < n.val) := by decide +kernel
theorem chI_full {n : Nat} (hn : n ≤ 8) : chI n n [] = (chs n (2 ^ n - 1)).map fun p => p.map Int.ofNat := by
  have := chI_chs hn n [] (2 ^ n - 1) (by have : 2 ^ n ≤ 2 ^ 8 := Nat.pow_le_pow_right (by decide) hn; omega) (fun v hv => by
    have := full_bits_all ⟨n, by omega⟩ ⟨v, hv⟩
    simp only at this
    rw [this]
    simp)
  simpa using this
/-- The first one of the least measure. -/
def bestI (M : List Int → Int) (b : List Int) (l : List (List Int)) : List Int := l.foldl (fun b p => if M p < M b then p else b) b
theorem best_stays (M : List Int → Int) {L : Int} : ∀ (l : List (List Int)) (b : List Int), M b = L → (∀ p ∈ l, L ≤ M p) → bestI M b l = b
  | [], _, _, _ => rfl
  | p :: l, b, hb, h => by
    unfold bestI
    rw [List.foldl_cons, if_neg (by have := h p (by simp); omega)]
    exact best_stays M l b hb fun q hq => h q (by simp [hq])
theorem best_find (M : List Int → Int) {L : Int} {g : List Int} : ∀ (l : List (List Int)) (b : List Int), (∀ p ∈ b :: l, L ≤ M p) → (b :: l).find? (fun p => M p == L) = some g → bestI M b l = g
  | l, b, h, hf => by
    rw [List.find?_cons] at hf
    by_cases hb : M b = L
    · rw [show (M b == L) = true by simp [hb]] at hf
      obtain rfl : b = g := by simpa using hf
      exact best_stays M l b hb fun q hq => h q (by simp [hq])
    · rw [show (M b == L) = false by simp [hb]] at hf
      have hf : l.find? (fun p => M p == L) = some g := hf
      match l, h, hf with
      | [], _, hf => simp at hf
      | p :: l, h, hf =>
        unfold bestI
        rw [List.foldl_cons]
        have hbL : L < M b := by have := h b (by simp); omega
        by_cases hp : M p < M b
        · rw [if_pos hp]
          exact best_find M l p (fun q hq => h q (List.mem_cons_of_mem _ hq)) hf
        · rw [if_neg hp]
          have hpL : ¬ M p = L := by omega
          rw [List.find?_cons, show (M p == L) = false by simp [hpL]] at hf
          refine best_find M (L := L) l b (fun q hq => ?_) ?_
          · rcases List.mem_cons.1 hq with rfl | hq
            · exact h _ (by simp)
            · exact h q (by simp [hq])
          · rw [List.find?_cons, show (M b == L) = false by simp [hb]]; exact hf
theorem chs_len : ∀ (d left : Nat) (p : List Nat), p ∈ chs d left → p.length = d
  | 0, left, p, hp => by have : p = [] := by simpa [chs] using hp
                         subst this; rfl
  | d + 1, left, p, hp => by
    unfold chs at hp
    rw [List.mem_flatMap] at hp
    obtain ⟨v, hv, hp⟩ := hp
    obtain ⟨q, hq, rfl⟩ := List.mem_map.1 hp
    rw [List.length_cons, chs_len d _ _ hq]
theorem chs_mem : ∀ (d left : Nat) (p : List Nat), p ∈ chs d left → ∀ v ∈ p, v < 8 ∧ (left < 256 → left.testBit v = true)
  | 0, left, p, hp, v, hv => by have : p = [] := by simpa [chs] using hp
                                subst this; simp at hv
  | d + 1, left, p, hp, v, hv => by
    unfold chs at hp
    rw [List.mem_flatMap] at hp
    obtain ⟨u, hu, hp⟩ := hp
    obtain ⟨q, hq, rfl⟩ := List.mem_map.1 hp
    obtain ⟨h8, hbt⟩ := mem_elems.1 hu
    rcases List.mem_cons.1 hv with rfl | hv
    · exact ⟨h8, fun _ => hbt⟩
    · obtain ⟨h1, h2⟩ := chs_mem d _ q hq v hv
      refine ⟨h1, fun hm => ?_⟩
      have := h2 (wo8_lt hm)
      rw [wo8_bit hm h8 h1, Bool.and_eq_true] at this
      exact this.1
theorem addMeas : Meas (fun _ => True) (· + ·) 0 := ⟨Int.add_comm, Int.add_assoc, fun _ _ c h => Int.add_le_add_left h c, fun a _ => Int.add_zero a, trivial, fun _ _ _ _ => trivial⟩
theorem maxMeas : Meas (fun a => minI ≤ a) max minI := ⟨Int.max_comm, Int.max_assoc, fun a b c h => by omega, fun a h => by omega, Int.le_refl _, fun a b h1 h2 => by omega⟩
theorem sum_bound {F : Nat → Int} (hF : ∀ k, -1000 ≤ F k ∧ F k ≤ 1000) : ∀ (p : List Nat) (row : Nat), -1000 * (p.length : Int) ≤ meas (· + ·) 0 F row p ∧ meas (· + ·) 0 F row p ≤ 1000 * (p.length : Int)
  | [], _ => by simp [meas]
  | v :: p, row => by
    have ih := sum_bound hF p (row + 1)
    have := hF (6 * row + v)
    show -1000 * ((p.length + 1 : Nat) : Int) ≤ meas (· + ·) 0 F (row + 1) p + F (6 * row + v) ∧ meas (· + ·) 0 F (row + 1) p + F (6 * row + v) ≤ 1000 * ((p.length + 1 : Nat) : Int)
    omega
theorem max_bound {F : Nat → Int} (hF : ∀ k, -1000 ≤ F k ∧ F k ≤ 1000) : ∀ (p : List Nat) (row : Nat), minI ≤ meas max minI F row p ∧ meas max minI F row p ≤ 1000
  | [], _ => by simp [meas, minI]
  | v :: p, row => by
    have ih := max_bound hF p (row + 1)
    have := hF (6 * row + v)
    unfold minI at ih ⊢
    show _ ≤ max (meas max _ F (row + 1) p) (F (6 * row + v)) ∧ max (meas max _ F (row + 1) p) (F (6 * row + v)) ≤ 1000
    omega

/-- The choice that the specification finds is the one that is made column by column. -/
theorem best_greedy {good : Int → Prop} {op : Int → Int → Int} {e : Int} (M : Meas good op e) {F : Nat → Int} (hF : ∀ k, good (F k)) (hb : ∀ (p : List Nat) (row : Nat), p.length ≤ 8 → meas op e F row p ≤ maxI) {n : Nat} (hn : n ≤ 8)
    {MI : List Int → Int} (hMI : ∀ p ∈ chs n (2 ^ n - 1), MI (p.map Int.ofNat) = meas op e F 0 p) {b : List Int} {l : List (List Int)} (hl : chI n n [] = b :: l) (hlen : (bitsOf (2 ^ n - 1)).length = n) :
    bestI MI b l = (greedy op e F (lst op e F n 0 (2 ^ n - 1)) n 0 (2 ^ n - 1) e).map Int.ofNat ∧ MI (bestI MI b l) = lst op e F n 0 (2 ^ n - 1) := by
  have hm : 2 ^ n - 1 < 256 := by have : 2 ^ n ≤ 2 ^ 8 := Nat.pow_le_pow_right (by decide) hn
                                  omega
  obtain ⟨h1, q, hq, h2⟩ := lst_least M F hb n 0 (2 ^ n - 1) hm hlen
  have hone : ∀ p, op e (meas op e F 0 p) = meas op e F 0 p := fun p => by rw [M.comm, M.unit _ (meas_good M F hF p 0)]
  have hg := greedy_first M F hF hb n 0 (2 ^ n - 1) e (lst op e F n 0 (2 ^ n - 1)) hm hlen M.ge (fun p hp => by rw [hone]; exact h1 p hp) ⟨q, hq, by rw [hone]; exact h2.symm⟩
  rw [chI_full hn] at hl
  have hall : ∀ p ∈ b :: l, lst op e F n 0 (2 ^ n - 1) ≤ MI p := fun p hp => by
    rw [← hl] at hp
    obtain ⟨p0, hp0, rfl⟩ := List.mem_map.1 hp
    rw [hMI p0 hp0]; exact h1 p0 hp0
  have hf : (b :: l).find? (fun p => MI p == lst op e F n 0 (2 ^ n - 1)) = some ((greedy op e F (lst op e F n 0 (2 ^ n - 1)) n 0 (2 ^ n - 1) e).map Int.ofNat) := by
    rw [← hl, List.find?_map]
    have hx : (chs n (2 ^ n - 1)).find? ((fun p => MI p == lst op e F n 0 (2 ^ n - 1)) ∘ fun p => p.map Int.ofNat) = (chs n (2 ^ n - 1)).find? fun p => op e (meas op e F 0 p) == lst op e F n 0 (2 ^ n - 1) := by
      have : ∀ t : List (List Nat), (∀ p ∈ t, p ∈ chs n (2 ^ n - 1)) → t.find? ((fun p => MI p == lst op e F n 0 (2 ^ n - 1)) ∘ fun p => p.map Int.ofNat) = t.find? fun p => op e (meas op e F 0 p) == lst op e F n 0 (2 ^ n - 1) := by
        intro t
        induction t with
        | nil => intro _; rfl
        | cons a t ih =>
          intro ht
          have ha : ((fun p => MI p == lst op e F n 0 (2 ^ n - 1)) ∘ fun p => p.map Int.ofNat) a = (op e (meas op e F 0 a) == lst op e F n 0 (2 ^ n - 1)) := by
            show (MI (a.map Int.ofNat) == _) = _
            rw [hMI a (ht a (by simp)), hone]
          rw [List.find?_cons, List.find?_cons, ih fun p hp => ht p (by simp [hp]), ha]
      exact this _ fun p hp => hp
    rw [hx, hg]; rfl
  have hbest := best_find MI l b hall hf
  refine ⟨hbest, ?_⟩
  rw [hbest]
  have := List.find?_some hf
  exact beq_iff_eq.1 this

end Go.Proofs.YtellghhilcjbnaaDoor
