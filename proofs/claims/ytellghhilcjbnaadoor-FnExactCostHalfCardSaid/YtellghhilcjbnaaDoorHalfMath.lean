/-
  A GREATEST MATCHING OF ROWS WITH COLUMNS is what a choice of the most edges has. Plain functions.
-/
import Derived.Test.YtellghhilcjbnaaDoorBest
namespace Go.Proofs.YtellghhilcjbnaaDoor
set_option linter.unusedVariables false
set_option linter.unusedSimpArgs false
open Go.RowKit

def sdStep (e : Nat → Nat → Bool) (g : Nat → Int) (row used : Nat) (m : Int) (b : Nat) : Int := if e row b = true ∧ used.testBit b = false then max m (1 + g b) else m
/-- The greatest number of the last d rows that are matched with columns not used. -/
def sd (e : Nat → Nat → Bool) (n : Nat) : Nat → Nat → Nat → Int
  | 0, _, _ => 0
  | d + 1, row, used => (List.range n).foldl (sdStep e (fun b => sd e n d (row + 1) (used ||| 2 ^ b)) row used) (sd e n d (row + 1) used)
theorem foldl_sd (e : Nat → Nat → Bool) (g : Nat → Int) (row used : Nat) : ∀ (l : List Nat) (a : Int), a ≤ l.foldl (sdStep e g row used) a ∧ (∀ b ∈ l, e row b = true → used.testBit b = false → 1 + g b ≤ l.foldl (sdStep e g row used) a) ∧
    (l.foldl (sdStep e g row used) a = a ∨ ∃ b ∈ l, e row b = true ∧ used.testBit b = false ∧ l.foldl (sdStep e g row used) a = 1 + g b)
  | [], a => ⟨Int.le_refl _, fun b hb => by simp at hb, .inl rfl⟩
  | b :: l, a => by
    rw [List.foldl_cons]
    obtain ⟨h1, h2, h3⟩ := foldl_sd e g row used l (sdStep e g row used a b)
    have hs : a ≤ sdStep e g row used a b := by unfold sdStep; split <;> omega
    refine ⟨by omega, fun c hc he hu => ?_, ?_⟩
    · rcases List.mem_cons.1 hc with rfl | hc
      · have : 1 + g c ≤ sdStep e g row used a c := by unfold sdStep; rw [if_pos ⟨he, hu⟩]; omega
        omega
      · exact h2 c hc he hu
    · rcases h3 with h3 | ⟨c, hc, he, hu, h3⟩
      · by_cases hb : e row b = true ∧ used.testBit b = false
        · have e1 : sdStep e g row used a b = max a (1 + g b) := by unfold sdStep; rw [if_pos hb]
          rw [h3, e1]
          rcases Int.le_total a (1 + g b) with hle | hle
          · exact .inr ⟨b, by simp, hb.1, hb.2, by omega⟩
          · exact .inl (by omega)
        · have e1 : sdStep e g row used a b = a := by unfold sdStep; rw [if_neg hb]
          rw [h3, e1]
          exact .inl rfl
      · exact .inr ⟨c, by simp [hc], he, hu, h3⟩
theorem sd_skip (e : Nat → Nat → Bool) (n d row used : Nat) : sd e n d (row + 1) used ≤ sd e n (d + 1) row used := (foldl_sd e _ row used (List.range n) _).1
theorem sd_take (e : Nat → Nat → Bool) {n d row used b : Nat} (hb : b < n) (he : e row b = true) (hu : used.testBit b = false) : 1 + sd e n d (row + 1) (used ||| 2 ^ b) ≤ sd e n (d + 1) row used :=
  (foldl_sd e _ row used (List.range n) _).2.1 b (List.mem_range.2 hb) he hu
theorem sd_hit (e : Nat → Nat → Bool) (n d row used : Nat) : sd e n (d + 1) row used = sd e n d (row + 1) used ∨ ∃ b, b < n ∧ e row b = true ∧ used.testBit b = false ∧ sd e n (d + 1) row used = 1 + sd e n d (row + 1) (used ||| 2 ^ b) := by
  rcases (foldl_sd e (fun b => sd e n d (row + 1) (used ||| 2 ^ b)) row used (List.range n) (sd e n d (row + 1) used)).2.2 with h | ⟨b, hb, he, hu, h⟩
  · exact .inl h
  · exact .inr ⟨b, List.mem_range.1 hb, he, hu, h⟩
theorem or_bit (used b u : Nat) : (used ||| 2 ^ b).testBit u = (used.testBit u || decide (b = u)) := by
  rw [Nat.testBit_or, Nat.testBit_two_pow]
/-- More used, less matched. -/
theorem sd_mono (e : Nat → Nat → Bool) (n : Nat) : ∀ (d row used used' : Nat), (∀ u, u < n → used.testBit u = true → used'.testBit u = true) → sd e n d row used' ≤ sd e n d row used
  | 0, _, _, _, _ => Int.le_refl _
  | d + 1, row, used, used', h => by
    rcases sd_hit e n d row used' with h1 | ⟨b, hb, he, hu, h1⟩
    · rw [h1]
      exact Int.le_trans (sd_mono e n d _ _ _ h) (sd_skip e n d row used)
    · rw [h1]
      have hu' : used.testBit b = false := by
        cases hx : used.testBit b with
        | false => rfl
        | true => rw [h b hb hx] at hu; cases hu
      have := sd_mono e n d (row + 1) (used ||| 2 ^ b) (used' ||| 2 ^ b) (fun u hun hx => by
        rw [or_bit, Bool.or_eq_true] at hx ⊢
        rcases hx with hx | hx
        · exact .inl (h u hun hx)
        · exact .inr hx)
      have := sd_take e (d := d) hb he hu'
      omega
theorem sd_bounds (e : Nat → Nat → Bool) (n : Nat) : ∀ (d row used : Nat), 0 ≤ sd e n d row used ∧ sd e n d row used ≤ (d : Int)
  | 0, _, _ => ⟨Int.le_refl _, Int.le_refl _⟩
  | d + 1, row, used => by
    have h0 := sd_bounds e n d (row + 1) used
    have hs := sd_skip e n d row used
    rcases sd_hit e n d row used with h | ⟨b, hb, he, hu, h⟩
    · omega
    · have := sd_bounds e n d (row + 1) (used ||| 2 ^ b)
      omega
/-- What is left is what is not used. -/
def FreeOf (n used left : Nat) : Prop := ∀ u, u < 8 → (left.testBit u = true ↔ u < n ∧ used.testBit u = false)
theorem wo8_bitsH_all : ∀ (m : Fin 256) (k v : Fin 8), (m.val &&& (255 - 2 ^ k.val)).testBit v.val = (m.val.testBit v.val && !(v.val == k.val)) := by decide +kernel
theorem wo8_bitsH {m k v : Nat} (hm : m < 256) (hk : k < 8) (hv : v < 8) : (wo8 m k).testBit v = (m.testBit v && !(v == k)) := wo8_bitsH_all ⟨m, hm⟩ ⟨k, hk⟩ ⟨v, hv⟩
theorem FreeOf.step {n used left : Nat} (hm : left < 256) (h : FreeOf n used left) {v : Nat} (hv : v < 8) : FreeOf n (used ||| 2 ^ v) (wo8 left v) := by
  intro u hu
  rw [wo8_bitsH hm hv hu, Bool.and_eq_true, h u hu, or_bit, Bool.or_eq_false_iff]
  constructor
  · rintro ⟨⟨h1, h2⟩, h3⟩
    have : v ≠ u := fun e => by rw [e] at h3; simp at h3
    exact ⟨h1, h2, by simp [this]⟩
  · rintro ⟨h1, h2, h3⟩
    have : u ≠ v := fun e => by rw [e] at h3; simp at h3
    exact ⟨⟨h1, h2⟩, by simp [this]⟩
/-- Where more columns are left than rows, one column need not be there. -/
theorem sd_spare (e : Nat → Nat → Bool) {n : Nat} (h8 : n ≤ 8) : ∀ (d row used left : Nat), left < 256 → FreeOf n used left → d < (bitsOf left).length → ∃ v, v < n ∧ v < 8 ∧ left.testBit v = true ∧ sd e n d row used ≤ sd e n d row (used ||| 2 ^ v)
  | 0, row, used, left, hm, hf, hd => by
    obtain ⟨v, hv⟩ : ∃ v, v ∈ elems left := List.exists_mem_of_length_pos (by rw [elems_len]; omega)
    obtain ⟨h8', hb⟩ := mem_elems.1 hv
    exact ⟨v, ((hf v h8').1 hb).1, h8', hb, Int.le_refl _⟩
  | d + 1, row, used, left, hm, hf, hd => by
    rcases sd_hit e n d row used with h | ⟨b, hb, he, hu, h⟩
    · obtain ⟨v, hvn, hv8, hvb, hle⟩ := sd_spare e h8 d (row + 1) used left hm hf (by omega)
      exact ⟨v, hvn, hv8, hvb, by rw [h]; exact Int.le_trans hle (sd_skip e n d row _)⟩
    · have hb8 : b < 8 := by omega
      have hbl : left.testBit b = true := (hf b hb8).2 ⟨hb, hu⟩
      have hlen := wo8_len hm hb8 hbl
      obtain ⟨v, hvn, hv8, hvb, hle⟩ := sd_spare e h8 d (row + 1) (used ||| 2 ^ b) (wo8 left b) (wo8_lt hm) (hf.step hm hb8) (by omega)
      rw [wo8_bitsH hm hb8 hv8, Bool.and_eq_true] at hvb
      have hne : v ≠ b := fun e => by rw [e] at hvb; simp at hvb
      refine ⟨v, hvn, hv8, hvb.1, ?_⟩
      have h1 := sd_take e (d := d) (used := used ||| 2 ^ v) hb he (by rw [or_bit, hu]; simp [hne])
      have h2 := sd_mono e n d (row + 1) ((used ||| 2 ^ v) ||| 2 ^ b) ((used ||| 2 ^ b) ||| 2 ^ v) (fun u _ hx => by
        rw [or_bit, or_bit] at hx ⊢
        simp only [Bool.or_eq_true] at hx ⊢
        rcases hx with (hx | hx) | hx
        · exact .inl (.inl hx)
        · exact .inr hx
        · exact .inl (.inr hx))
      omega
/-- The least number of a choice of the last rows, where numbers are given by row and column. -/
def hlst (f : Nat → Nat → Int) : Nat → Nat → Nat → Int
  | 0, _, _ => 0
  | d + 1, row, left => (elems left).foldl (lstStep (· + ·) (f row) (fun v => hlst f d (row + 1) (wo8 left v))) maxI
def eF (e : Nat → Nat → Bool) (r c : Nat) : Int := if e r c = true then -1 else 0
/-- What a choice of the most edges has. -/
theorem half_eq (e : Nat → Nat → Bool) {n : Nat} (h8 : n ≤ 8) : ∀ (d row used left : Nat), left < 256 → FreeOf n used left → (bitsOf left).length = d → hlst (eF e) d row left = -(sd e n d row used)
  | 0, _, _, _, _, _, _ => rfl
  | d + 1, row, used, left, hm, hf, hl => by
    have hg : ∀ v ∈ elems left, hlst (eF e) d (row + 1) (wo8 left v) = -(sd e n d (row + 1) (used ||| 2 ^ v)) := fun v hv => by
      obtain ⟨hv8, hb⟩ := mem_elems.1 hv
      exact half_eq e h8 d (row + 1) _ _ (wo8_lt hm) (hf.step hm hv8) (by have := wo8_len hm hv8 hb; omega)
    obtain ⟨h1, h2, h3⟩ := foldl_lst (· + ·) (eF e row) (fun v => hlst (eF e) d (row + 1) (wo8 left v)) (elems left) maxI
    show (elems left).foldl (lstStep (· + ·) (eF e row) (fun v => hlst (eF e) d (row + 1) (wo8 left v))) maxI = _
    obtain ⟨H, hH⟩ : ∃ H, (elems left).foldl (lstStep (· + ·) (eF e row) (fun v => hlst (eF e) d (row + 1) (wo8 left v))) maxI = H := ⟨_, rfl⟩
    rw [hH] at h1 h2 h3 ⊢
    have hf0 : ∀ v, eF e row v ≤ 0 := fun v => by unfold eF; split <;> omega
    have hle : H ≤ -(sd e n (d + 1) row used) := by
      rcases sd_hit e n d row used with h | ⟨b, hb, he, hu, h⟩
      · obtain ⟨v, hvn, hv8, hvb, hle⟩ := sd_spare e h8 d (row + 1) used left hm hf (by omega)
        have hv := mem_elems.2 ⟨hv8, hvb⟩
        have := h1 v hv
        rw [hg v hv] at this
        have := hf0 v
        omega
      · have hb8 : b < 8 := by omega
        have hv := mem_elems.2 ⟨hb8, (hf b hb8).2 ⟨hb, hu⟩⟩
        have := h1 b hv
        rw [hg b hv] at this
        have : eF e row b = -1 := by unfold eF; rw [if_pos he]
        omega
    rcases h3 with h3 | ⟨v, hv, h3⟩
    · have := sd_bounds e n (d + 1) row used
      unfold maxI at h3
      omega
    · obtain ⟨hv8, hvb⟩ := mem_elems.1 hv
      obtain ⟨hvn, hu⟩ := (hf v hv8).1 hvb
      rw [hg v hv] at h3
      by_cases he : e row v = true
      · have e1 : eF e row v = -1 := by unfold eF; rw [if_pos he]
        have := sd_take e (d := d) hvn he hu
        omega
      · have e1 : eF e row v = 0 := by unfold eF; rw [if_neg he]
        have h4 := sd_mono e n d (row + 1) used (used ||| 2 ^ v) (fun u _ hx => by rw [or_bit, hx]; rfl)
        have h5 := sd_skip e n d row used
        omega

end Go.Proofs.YtellghhilcjbnaaDoor
