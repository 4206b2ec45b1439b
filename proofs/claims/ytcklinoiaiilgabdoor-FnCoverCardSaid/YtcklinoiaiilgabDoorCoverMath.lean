/-
  COVERS HAVE A NODE OF EACH EDGE OF A MATCHING: plain functions, no walk.
-/
import Derived.Test.YtcklinoiaiilgabDoorMPoly
import Derived.Test.YtcklinoiaiilgabDoorSym
import Derived.Test.YtcklinoiaiilgabDoorSpecCover
namespace Go.Proofs.YtcklinoiaiilgabDoor
set_option linter.unusedVariables false
set_option linter.unusedSimpArgs false
open Go.RowKit
set_option maxRecDepth 100000

theorem and_size_all : ∀ (s : Fin 256) (v : Fin 8), s.val.testBit v.val = true → (bitsOf (wo s.val v.val)).length + 1 = (bitsOf s.val).length := by decide +kernel
theorem wo_size_le_all : ∀ (s : Fin 256) (v : Fin 8), (bitsOf (wo s.val v.val)).length ≤ (bitsOf s.val).length := by decide +kernel
theorem wo_size_le {s : Nat} (hs : s < 256) (v : Fin 8) : (bitsOf (wo s v.val)).length ≤ (bitsOf s).length := wo_size_le_all ⟨s, hs⟩ v

/-- A set that has a node of each edge of what is left has at least as many nodes as a matching has edges. -/
theorem match_cover {f : Nat → Nat} {t k : Nat} (h : HasM f t k) : ∀ s, s < 256 → (∀ a b : Fin 8, t.testBit a.val = true → t.testBit b.val = true → (f a.val).testBit b.val = true → s.testBit a.val = true ∨ s.testBit b.val = true) → k ≤ (bitsOf s).length := by
  induction h with
  | none t => exact fun s _ _ => Nat.zero_le _
  | @edge t k a b ha hb hab h ih =>
    intro s hs hc
    have hb' : t.testBit b.val = true := by rw [wo_bit, Bool.and_eq_true] at hb; exact hb.1
    have hsub : ∀ i : Fin 8, (wo (wo t a.val) b.val).testBit i.val = true → t.testBit i.val = true ∧ i ≠ a ∧ i ≠ b := fun i hi => by
      rw [wo_bit, wo_bit, Bool.and_eq_true, Bool.and_eq_true, decide_eq_true_eq, decide_eq_true_eq] at hi
      exact ⟨hi.1.1, hi.1.2, hi.2⟩
    have hs2 : wo (wo s a.val) b.val < 256 := wo_256 (wo_256 hs)
    have := ih (wo (wo s a.val) b.val) hs2 (fun x y hx hy hxy => by
      obtain ⟨hx1, hx2, hx3⟩ := hsub x hx
      obtain ⟨hy1, hy2, hy3⟩ := hsub y hy
      rcases hc x y hx1 hy1 hxy with h | h
      · left; rw [wo_bit, wo_bit, h, decide_eq_true hx2, decide_eq_true hx3]; rfl
      · right; rw [wo_bit, wo_bit, h, decide_eq_true hy2, decide_eq_true hy3]; rfl)
    rcases hc a b ha hb' hab with h | h
    · have h1 := size_wo hs a.isLt h
      have h2 := wo_size_le (wo_256 (v := a.val) hs) b
      omega
    · have h1 := size_wo hs b.isLt h
      have h2 := wo_size_le (wo_256 (v := b.val) hs) a
      rw [wo_comm] at this
      omega

/-- What is known of covers. -/
theorem cover_facts {xs : List Int} {a : Int} (h : coverOf xs a = true) : ∃ s : Nat, a = (s : Int) ∧ s < 256 ∧ gIn xs = true ∧ gr (gfun xs) (2 ^ xs.length - 1) ≤ (bitsOf s).length ∧ coverOf xs ((s ||| 1 : Nat) : Int) = true := by
  unfold coverOf at h
  rw [Bool.and_eq_true, Bool.and_eq_true, decide_eq_true_eq] at h
  obtain ⟨⟨hg, h0, hlt⟩, hc⟩ := h
  obtain ⟨h1, h8, hok⟩ := gIn_parts hg
  obtain ⟨s, rfl⟩ : ∃ s : Nat, a = (s : Int) := ⟨a.toNat, by omega⟩
  have hs : s < 2 ^ xs.length := by exact_mod_cast hlt
  have hp8 := pow8_le (v := xs.length) (by omega)
  have hs8 : s < 256 := by omega
  have hf8 := gfun_lt h8 hok
  rw [Int.toNat_natCast] at hc
  have hat : ∀ i, i < xs.length → covAt (gfun xs) s i = true := fun i hi => List.all_eq_true.1 hc i (List.mem_range.2 hi)
  have hn1 : ∀ m : Nat, m < 256 → ∀ j : Fin 8, (255 - m).testBit j.val = !m.testBit j.val := fun m hm j => by
    rw [show 255 - m = 2 ^ 8 - (m + 1) by omega, Nat.testBit_two_pow_sub_succ hm]
    simp [j.isLt]
  refine ⟨s, rfl, hs8, hg, ?_, ?_⟩
  · refine match_cover (gr_has (gIn_sym hg) (all256 h8)) s hs8 fun x y hx hy hxy => ?_
    have hxn : x.val < xs.length := by
      rcases Nat.lt_or_ge x.val xs.length with h | h
      · exact h
      · rw [gfun_far h] at hxy; simp at hxy
    have := hat x.val hxn
    unfold covAt at this
    rw [Bool.or_eq_true, decide_eq_true_eq] at this
    rcases this with h | h
    · exact .inl h
    · right
      cases hsy : s.testBit y.val with
      | true => rfl
      | false =>
        have h2 : (gfun xs x.val &&& (255 - s)).testBit y.val = true := by rw [Nat.testBit_and, hxy, hn1 s hs8 y, hsy]; rfl
        rw [h] at h2
        simp at h2
  · have hor : s ||| 1 < 2 ^ xs.length := Nat.or_lt_two_pow hs (by have := Nat.pow_le_pow_right (n := 2) (by decide) h1; omega)
    unfold coverOf
    rw [hg, Int.toNat_natCast, Bool.true_and, Bool.and_eq_true, decide_eq_true_eq]
    refine ⟨⟨by omega, by exact_mod_cast hor⟩, covB_yes fun i hi => ?_⟩
    have := hat i hi
    unfold covAt at this ⊢
    rw [Bool.or_eq_true, decide_eq_true_eq] at this ⊢
    rcases this with h | h
    · left; rw [Nat.testBit_or, h]; rfl
    · right
      apply Nat.eq_of_testBit_eq
      intro j
      rw [Nat.zero_testBit, Nat.testBit_and]
      by_cases hj : j < 8
      · have h3 : (gfun xs i &&& (255 - s)).testBit j = false := by rw [h]; simp
        rw [Nat.testBit_and, hn1 s hs8 ⟨j, hj⟩] at h3
        rw [hn1 (s ||| 1) (by omega) ⟨j, hj⟩, Nat.testBit_or]
        cases hb : (gfun xs i).testBit j with
        | false => rfl
        | true =>
          rw [hb, Bool.true_and, Bool.not_eq_false'] at h3
          simp only at h3 ⊢
          rw [h3]; rfl
      · rw [Nat.testBit_lt_two_pow (Nat.lt_of_lt_of_le (hf8 i) (Nat.pow_le_pow_right (n := 2) (i := 8) (by decide) (by omega)))]; rfl

end Go.Proofs.YtcklinoiaiilgabDoor
