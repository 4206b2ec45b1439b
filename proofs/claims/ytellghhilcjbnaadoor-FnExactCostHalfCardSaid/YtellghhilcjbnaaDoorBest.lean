/-
  CHOICES OF COLUMNS, and the least of what their numbers are together: plain functions, no walk.
-/
import Derived.Test.YtellghhilcjbnaaDoorCore1
namespace Go.Proofs.YtellghhilcjbnaaDoor
set_option linter.unusedVariables false
set_option linter.unusedSimpArgs false
open Go.RowKit

/-- What numbers are together: a sum, or the greatest one. -/
structure Meas (good : Int → Prop) (op : Int → Int → Int) (e : Int) : Prop where
  comm : ∀ a b, op a b = op b a
  assoc : ∀ a b c, op (op a b) c = op a (op b c)
  mono : ∀ a b c, a ≤ b → op c a ≤ op c b
  unit : ∀ a, good a → op a e = a
  ge : good e
  gop : ∀ a b, good a → good b → good (op a b)

/-- The numbers of the rows from one on. -/
def meas (op : Int → Int → Int) (e : Int) (F : Nat → Int) : Nat → List Nat → Int
  | _, [] => e
  | row, v :: p => op (meas op e F (row + 1) p) (F (6 * row + v))
/-- The choices of columns of a set, in order. -/
def chs : Nat → Nat → List (List Nat)
  | 0, _ => [[]]
  | d + 1, left => (elems left).flatMap fun v => (chs d (wo8 left v)).map (v :: ·)
def maxI : Int := 9223372036854775807
def minI : Int := -9223372036854775808
def lstStep (op : Int → Int → Int) (f : Nat → Int) (g : Nat → Int) (a : Int) (v : Nat) : Int := min a (op (g v) (f v))
/-- The least measure of the last rows. -/
def lst (op : Int → Int → Int) (e : Int) (F : Nat → Int) : Nat → Nat → Nat → Int
  | 0, _, _ => e
  | d + 1, row, left => (elems left).foldl (lstStep op (fun v => F (6 * row + v)) (fun v => lst op e F d (row + 1) (wo8 left v))) maxI

theorem foldl_lst (op : Int → Int → Int) (f g : Nat → Int) : ∀ (l : List Nat) (a : Int), (∀ v ∈ l, l.foldl (lstStep op f g) a ≤ op (g v) (f v)) ∧ l.foldl (lstStep op f g) a ≤ a ∧ (l.foldl (lstStep op f g) a = a ∨ ∃ v ∈ l, l.foldl (lstStep op f g) a = op (g v) (f v))
  | [], a => ⟨fun v hv => by simp at hv, by simp, .inl rfl⟩
  | v :: l, a => by
    obtain ⟨h1, h2, h3⟩ := foldl_lst op f g l (lstStep op f g a v)
    rw [List.foldl_cons]
    have hs1 : lstStep op f g a v ≤ a := Int.min_le_left _ _
    have hs2 : lstStep op f g a v ≤ op (g v) (f v) := Int.min_le_right _ _
    refine ⟨fun u hu => ?_, Int.le_trans h2 hs1, ?_⟩
    · rcases List.mem_cons.1 hu with rfl | hu
      · exact Int.le_trans h2 hs2
      · exact h1 u hu
    · rcases h3 with h3 | ⟨u, hu, h3⟩
      · rw [h3]
        unfold lstStep
        by_cases hc : a ≤ op (g v) (f v)
        · left; exact Int.min_eq_left hc
        · right; exact ⟨v, by simp, Int.min_eq_right (by omega)⟩
      · exact .inr ⟨u, by simp [hu], h3⟩
theorem elems_ne {m d : Nat} (h : (bitsOf m).length = d + 1) : elems m ≠ [] := by
  intro he
  have : (elems m).length = 0 := by rw [he]; rfl
  unfold elems at this
  rw [List.length_map] at this
  omega

section
variable {good : Int → Prop} {op : Int → Int → Int} {e : Int} (M : Meas good op e) (F : Nat → Int) (hF : ∀ k, good (F k))
include M hF
theorem meas_good : ∀ (p : List Nat) (row : Nat), good (meas op e F row p)
  | [], _ => M.ge
  | _ :: p, row => M.gop _ _ (meas_good p (row + 1)) (hF _)
omit hF in
/-- The least measure is that of a choice, and no choice has less. -/
theorem lst_least (hb : ∀ (p : List Nat) (row : Nat), p.length ≤ 8 → meas op e F row p ≤ maxI) : ∀ (d row left : Nat), left < 256 → (bitsOf left).length = d → (∀ p ∈ chs d left, lst op e F d row left ≤ meas op e F row p) ∧ ∃ p ∈ chs d left, lst op e F d row left = meas op e F row p
  | 0, row, left, _, _ => ⟨fun p hp => by
      have : p = [] := by simpa [chs] using hp
      subst this; exact Int.le_refl _, [], by simp [chs], rfl⟩
  | d + 1, row, left, hm, hl => by
    obtain ⟨h1, h2, h3⟩ := foldl_lst op (fun v => F (6 * row + v)) (fun v => lst op e F d (row + 1) (wo8 left v)) (elems left) maxI
    have sub : ∀ v ∈ elems left, wo8 left v < 256 ∧ (bitsOf (wo8 left v)).length = d := fun v hv => by
      obtain ⟨h8, hbt⟩ := mem_elems.1 hv
      exact ⟨wo8_lt hm, by have := wo8_len hm h8 hbt; omega⟩
    refine ⟨fun p hp => ?_, ?_⟩
    · unfold chs at hp
      rw [List.mem_flatMap] at hp
      obtain ⟨v, hv, hp⟩ := hp
      obtain ⟨q, hq, rfl⟩ := List.mem_map.1 hp
      have ih := (lst_least hb d (row + 1) (wo8 left v) (sub v hv).1 (sub v hv).2).1 q hq
      refine Int.le_trans (h1 v hv) ?_
      show op _ _ ≤ op (meas op e F (row + 1) q) (F (6 * row + v))
      rw [M.comm _ (F (6 * row + v)), M.comm _ (F (6 * row + v))]
      exact M.mono _ _ _ ih
    · have att : ∀ v ∈ elems left, ∃ p ∈ chs (d + 1) left, op (lst op e F d (row + 1) (wo8 left v)) (F (6 * row + v)) = meas op e F row p := fun v hv => by
        obtain ⟨q, hq, he⟩ := (lst_least hb d (row + 1) (wo8 left v) (sub v hv).1 (sub v hv).2).2
        refine ⟨v :: q, ?_, by rw [he]; rfl⟩
        unfold chs
        rw [List.mem_flatMap]
        exact ⟨v, hv, List.mem_map.2 ⟨q, hq, rfl⟩⟩
      have pick : ∃ v ∈ elems left, lst op e F (d + 1) row left = op (lst op e F d (row + 1) (wo8 left v)) (F (6 * row + v)) := by
        rcases h3 with h3 | h3
        · obtain ⟨v, hv⟩ := List.exists_mem_of_ne_nil _ (elems_ne hl)
          obtain ⟨p, hp, he⟩ := att v hv
          have hle := h1 v hv
          have hpl : p.length ≤ 8 := by
            have key : ∀ (d left : Nat) (p : List Nat), p ∈ chs d left → p.length = d := by
              intro d
              induction d with
              | zero => intro left p hp; have : p = [] := by simpa [chs] using hp
                        subst this; rfl
              | succ d ih =>
                intro left p hp
                unfold chs at hp
                rw [List.mem_flatMap] at hp
                obtain ⟨v, hv, hp⟩ := hp
                obtain ⟨q, hq, rfl⟩ := List.mem_map.1 hp
                rw [List.length_cons, ih _ _ hq]
            have hle8 : (bitsOf left).length ≤ 8 := by
              unfold bitsOf
              refine Nat.le_trans (List.length_filter_le _ _) ?_
              rw [List.length_finRange]
              exact Nat.le_refl _
            rw [key _ _ _ hp]; omega
          have := hb p row hpl
          refine ⟨v, hv, ?_⟩
          show List.foldl _ _ _ = _
          have e2 : op (lst op e F d (row + 1) (wo8 left v)) (F (6 * row + v)) ≤ maxI := by rw [he]; exact this
          have hle2 : maxI ≤ op (lst op e F d (row + 1) (wo8 left v)) (F (6 * row + v)) := by rw [h3] at hle; exact hle
          rw [h3]
          omega
        · exact h3
      obtain ⟨v, hv, hev⟩ := pick
      obtain ⟨p, hp, he⟩ := att v hv
      exact ⟨p, hp, hev.trans he⟩
end

theorem find_flat {α β : Type} (f : α → List β) (pr : β → Bool) : ∀ l : List α, (l.flatMap f).find? pr = (l.find? fun a => (f a).any pr).bind fun a => (f a).find? pr
  | [] => rfl
  | a :: l => by
    rw [List.flatMap_cons, List.find?_append, find_flat f pr l, List.find?_cons]
    cases h : (f a).any pr with
    | true =>
      obtain ⟨b, hb, hp⟩ := List.any_eq_true.1 h
      cases hfi : (f a).find? pr with
      | none => exact absurd hp (by simpa using List.find?_eq_none.1 hfi b hb)
      | some c => simp [hfi]
    | false =>
      have : (f a).find? pr = none := by
        rw [List.find?_eq_none]
        intro b hb hp
        rw [List.any_eq_false] at h
        exact h b hb hp
      rw [this]
      simp
/-- The next column: the first one with which the least measure can still be reached. -/
def nxt (op : Int → Int → Int) (e : Int) (F : Nat → Int) (d row left : Nat) (made L : Int) : Nat :=
  ((elems left).find? fun v => op (op made (F (6 * row + v))) (lst op e F d (row + 1) (wo8 left v)) == L).getD ((elems left).getLastD 0)
def greedy (op : Int → Int → Int) (e : Int) (F : Nat → Int) (L : Int) : Nat → Nat → Nat → Int → List Nat
  | 0, _, _, _ => []
  | d + 1, row, left, made => nxt op e F d row left made L :: greedy op e F L d (row + 1) (wo8 left (nxt op e F d row left made L)) (op made (F (6 * row + nxt op e F d row left made L)))

section
variable {good : Int → Prop} {op : Int → Int → Int} {e : Int} (M : Meas good op e) (F : Nat → Int) (hF : ∀ k, good (F k)) (hb : ∀ (p : List Nat) (row : Nat), p.length ≤ 8 → meas op e F row p ≤ maxI)
include M hF hb
theorem greedy_first : ∀ (d row left : Nat) (made L : Int), left < 256 → (bitsOf left).length = d → good made → (∀ p ∈ chs d left, L ≤ op made (meas op e F row p)) → (∃ p ∈ chs d left, op made (meas op e F row p) = L) →
    (chs d left).find? (fun p => op made (meas op e F row p) == L) = some (greedy op e F L d row left made)
  | 0, row, left, made, L, _, _, _, _, hex => by
    obtain ⟨p, hp, he⟩ := hex
    have : p = [] := by simpa [chs] using hp
    subst this
    unfold chs greedy
    rw [List.find?_cons]
    rw [show (op made (meas op e F row []) == L) = true by rw [he]; simp]
  | d + 1, row, left, made, L, hm, hl, hg, hall, hex => by
    have sub : ∀ v ∈ elems left, wo8 left v < 256 ∧ (bitsOf (wo8 left v)).length = d := fun v hv => by
      obtain ⟨h8, hbt⟩ := mem_elems.1 hv
      exact ⟨wo8_lt hm, by have := wo8_len hm h8 hbt; omega⟩
    have split : ∀ v q, op made (meas op e F row (v :: q)) = op (op made (F (6 * row + v))) (meas op e F (row + 1) q) := fun v q => by
      show op made (op (meas op e F (row + 1) q) (F (6 * row + v))) = _
      rw [M.comm (meas op e F (row + 1) q), M.assoc]
    have mem : ∀ v ∈ elems left, ∀ q ∈ chs d (wo8 left v), (v :: q) ∈ chs (d + 1) left := fun v hv q hq => by
      unfold chs
      rw [List.mem_flatMap]
      exact ⟨v, hv, List.mem_map.2 ⟨q, hq, rfl⟩⟩
    have test : ∀ v ∈ elems left, ((chs d (wo8 left v)).map (v :: ·)).any (fun p => op made (meas op e F row p) == L) = (op (op made (F (6 * row + v))) (lst op e F d (row + 1) (wo8 left v)) == L) := fun v hv => by
      obtain ⟨h1, q, hq, h2⟩ := lst_least M F hb d (row + 1) (wo8 left v) (sub v hv).1 (sub v hv).2
      rw [Bool.eq_iff_iff, List.any_eq_true, beq_iff_eq]
      constructor
      · rintro ⟨p, hp, hpe⟩
        obtain ⟨q', hq', rfl⟩ := List.mem_map.1 hp
        rw [beq_iff_eq, split] at hpe
        have a1 := hall _ (mem v hv q hq)
        rw [split, ← h2] at a1
        have a2 := M.mono _ _ (op made (F (6 * row + v))) (h1 q' hq')
        rw [hpe] at a2
        omega
      · intro he
        refine ⟨v :: q, List.mem_map.2 ⟨q, hq, rfl⟩, ?_⟩
        rw [beq_iff_eq, split, ← h2, he]
    have hfi : ((elems left).find? fun v => ((chs d (wo8 left v)).map (v :: ·)).any (fun p => op made (meas op e F row p) == L)) = (elems left).find? fun v => op (op made (F (6 * row + v))) (lst op e F d (row + 1) (wo8 left v)) == L := by
      have : ∀ l : List Nat, (∀ v ∈ l, v ∈ elems left) → (l.find? fun v => ((chs d (wo8 left v)).map (v :: ·)).any (fun p => op made (meas op e F row p) == L)) = l.find? fun v => op (op made (F (6 * row + v))) (lst op e F d (row + 1) (wo8 left v)) == L := by
        intro l
        induction l with
        | nil => intro _; rfl
        | cons a t ih =>
          intro hl
          rw [List.find?_cons, List.find?_cons, test a (hl a (by simp)), ih fun v hv => hl v (by simp [hv])]
      exact this _ fun v hv => hv
    rw [show chs (d + 1) left = (elems left).flatMap fun v => (chs d (wo8 left v)).map (v :: ·) from rfl, find_flat, hfi]
    cases hfc : (elems left).find? fun v => op (op made (F (6 * row + v))) (lst op e F d (row + 1) (wo8 left v)) == L with
    | none =>
      exfalso
      obtain ⟨p, hp, he⟩ := hex
      unfold chs at hp
      rw [List.mem_flatMap] at hp
      obtain ⟨v, hv, hp⟩ := hp
      have := test v hv
      rw [List.find?_eq_none] at hfc
      have hno := hfc v hv
      rw [← this] at hno
      exact hno (List.any_eq_true.2 ⟨p, hp, by rw [beq_iff_eq]; exact he⟩)
    | some v =>
      have hv := List.mem_of_find?_eq_some hfc
      have hve := List.find?_some hfc
      have hn : nxt op e F d row left made L = v := by unfold nxt; rw [hfc]; rfl
      unfold greedy
      rw [hn]
      show ((chs d (wo8 left v)).map (v :: ·)).find? _ = _
      rw [List.find?_map]
      have hfun : ((fun p => op made (meas op e F row p) == L) ∘ fun x => v :: x) = fun q => op (op made (F (6 * row + v))) (meas op e F (row + 1) q) == L := by
        funext q
        show (op made (meas op e F row (v :: q)) == L) = _
        rw [split]
      rw [hfun]
      have ih := greedy_first d (row + 1) (wo8 left v) (op made (F (6 * row + v))) L (sub v hv).1 (sub v hv).2 (M.gop _ _ hg (hF _))
        (fun q hq => by rw [← split]; exact hall _ (mem v hv q hq))
        (by
          rw [beq_iff_eq] at hve
          obtain ⟨h1, q, hq, h2⟩ := lst_least M F hb d (row + 1) (wo8 left v) (sub v hv).1 (sub v hv).2
          exact ⟨q, hq, by rw [← h2]; exact hve⟩)
      rw [ih]
      rfl
end

end Go.Proofs.YtellghhilcjbnaaDoor
