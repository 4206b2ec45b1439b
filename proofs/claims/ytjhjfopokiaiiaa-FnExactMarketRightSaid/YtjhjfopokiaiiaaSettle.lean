/-
  ASKING, ROUND BY ROUND: plain mathematics of the pairing that comes of it (no program). L i j: whom i has at place j; P i k: the place of k; B k i: the place of i in the ranking of k.
-/
import Derived.Tactics
namespace Go.Proofs.Ytjhjfopokiaiiaa
set_option linter.unusedVariables false
set_option linter.unusedSimpArgs false

theorem pigeon : ∀ (n : Nat) (f : Nat → Nat), (∀ k, k < n + 1 → f k < n) → ∃ a b, a < b ∧ b < n + 1 ∧ f a = f b
  | 0, f, h => absurd (h 0 (by omega)) (by omega)
  | n + 1, f, h => by
    by_cases hc : ∃ a, a < n + 1 ∧ f a = f (n + 1)
    · obtain ⟨a, ha, he⟩ := hc
      exact ⟨a, n + 1, ha, by omega, he⟩
    · have hne : ∀ a, a < n + 1 → f a ≠ f (n + 1) := fun a ha he => hc ⟨a, ha, he⟩
      have hv := h (n + 1) (by omega)
      obtain ⟨a, b, hab, hb, he⟩ := pigeon n (fun k => if f k = n then f (n + 1) else f k) (fun k hk => by
        have h1 := h k (by omega)
        have h2 := hne k hk
        show (if f k = n then f (n + 1) else f k) < n
        split
        · omega
        · omega)
      have ha' := hne a (by omega)
      have hb' := hne b (by omega)
      refine ⟨a, b, hab, by omega, ?_⟩
      have he' : (if f a = n then f (n + 1) else f a) = (if f b = n then f (n + 1) else f b) := he
      split at he' <;> split at he' <;> omega

structure Ranks (n : Nat) (L P : Nat → Nat → Nat) : Prop where
  at_lt : ∀ i j, i < n → j < n → L i j < n
  pl_lt : ∀ i k, i < n → k < n → P i k < n
  at_pl : ∀ i k, i < n → k < n → L i (P i k) = k
  pl_at : ∀ i j, i < n → j < n → P i (L i j) = j

/-- What holds before each round. -/
structure Asked (n : Nat) (L : Nat → Nat → Nat) (B : Nat → Nat → Nat) (asked : Nat → Nat) (kept : Nat → Option Nat) : Prop where
  bound : ∀ i, i < n → asked i ≤ n
  last : ∀ k i, k < n → kept k = some i → i < n ∧ 0 < asked i ∧ L i (asked i - 1) = k
  seen : ∀ i j, i < n → j < asked i → ∃ i', kept (L i j) = some i' ∧ B (L i j) i' ≤ B (L i j) i

theorem asked_start (n : Nat) (L B : Nat → Nat → Nat) : Asked n L B (fun _ => 0) (fun _ => none) :=
  ⟨fun _ _ => Nat.zero_le _, fun k i _ h => (by cases h), fun i j _ h => absurd h (Nat.not_lt_zero _)⟩

/-- Who has none can still ask. -/
theorem asked_lt {n : Nat} {L P B : Nat → Nat → Nat} {asked : Nat → Nat} {kept : Nat → Option Nat} (hr : Ranks n L P) (h : Asked n L B asked kept) {i : Nat} (hi : i < n) (hf : ∀ k, k < n → kept k ≠ some i) : asked i < n := by
  refine Nat.lt_of_not_le fun hge => ?_
  have hall : ∀ k, k < n → ∃ i', kept k = some i' := fun k hk => by
    have := h.seen i (P i k) hi (Nat.lt_of_lt_of_le (hr.pl_lt i k hi hk) hge)
    rw [hr.at_pl i k hi hk] at this
    obtain ⟨i', h', _⟩ := this
    exact ⟨i', h'⟩
  obtain ⟨a, b, hab, hb, he⟩ := pigeon n (fun k => if k < n then (kept k).getD 0 else i) (fun k hk => by
    show (if k < n then (kept k).getD 0 else i) < n
    split
    · rename_i hk
      obtain ⟨i', h'⟩ := hall k hk
      rw [h']
      exact (h.last k i' hk h').1
    · exact hi)
  have han : a < n := by omega
  obtain ⟨ia, ha⟩ := hall a han
  have he' : (if a < n then (kept a).getD 0 else i) = (if b < n then (kept b).getD 0 else i) := he
  rw [if_pos han, ha] at he'
  by_cases hbn : b < n
  · obtain ⟨ib, hb'⟩ := hall b hbn
    rw [if_pos hbn, hb'] at he'
    have he2 : ia = ib := he'
    subst he2
    have h1 := (h.last a ia han ha).2.2
    have h2 := (h.last b ia hbn hb').2.2
    omega
  · rw [if_neg hbn] at he'
    have he2 : ia = i := he'
    exact hf a han (by rw [ha, he2])

def setF {α : Type} (f : Nat → α) (k : Nat) (v : α) : Nat → α := fun x => if x = k then v else f x
theorem setF_same {α : Type} (f : Nat → α) (k : Nat) (v : α) : setF f k v k = v := if_pos rfl
theorem setF_other {α : Type} (f : Nat → α) {k x : Nat} (v : α) (h : x ≠ k) : setF f k v x = f x := if_neg h

/-- Whom a keeper has behind i's asking. -/
def answerF (B : Nat → Nat → Nat) (k i : Nat) : Option Nat → Option Nat
  | none => some i
  | some i0 => if B k i < B k i0 then some i else some i0

theorem asked_step {n : Nat} {L P B : Nat → Nat → Nat} {asked : Nat → Nat} {kept : Nat → Option Nat} (hr : Ranks n L P) (h : Asked n L B asked kept) {i : Nat} (hi : i < n) (hf : ∀ k, k < n → kept k ≠ some i) :
    Asked n L B (setF asked i (asked i + 1)) (setF kept (L i (asked i)) (answerF B (L i (asked i)) i (kept (L i (asked i))))) := by
  have hlt := asked_lt hr h hi hf
  obtain ⟨k, hk⟩ : ∃ k, L i (asked i) = k := ⟨_, rfl⟩
  have hkn : k < n := by rw [← hk]; exact hr.at_lt i _ hi hlt
  rw [hk]
  -- whom k has afterwards, and that it is no worse for k
  obtain ⟨i1, h1, hB1, hB0⟩ : ∃ i1, answerF B k i (kept k) = some i1 ∧ B k i1 ≤ B k i ∧ ∀ i0, kept k = some i0 → B k i1 ≤ B k i0 := by
    cases h0 : kept k with
    | none => exact ⟨i, rfl, Nat.le_refl _, fun i0 e => (by cases e)⟩
    | some i0 =>
      unfold answerF
      by_cases hc : B k i < B k i0
      · exact ⟨i, by simp [hc], Nat.le_refl _, fun j e => by cases e; omega⟩
      · exact ⟨i0, by simp [hc], by omega, fun j e => by cases e; omega⟩
  have hwho : i1 = i ∨ kept k = some i1 := by
    cases h0 : kept k with
    | none => rw [h0] at h1; left; cases h1; rfl
    | some i0 =>
      rw [h0] at h1
      unfold answerF at h1
      by_cases hc : B k i < B k i0
      · left; simp [hc] at h1; exact h1.symm
      · right; simp [hc] at h1; rw [h1]
  rw [h1]
  refine ⟨fun x hx => ?_, fun k' x hk' hx => ?_, fun x j hx hj => ?_⟩
  · by_cases e : x = i
    · subst e; rw [setF_same]; omega
    · rw [setF_other _ _ e]; exact h.bound x hx
  · by_cases ek : k' = k
    · subst ek
      rw [setF_same] at hx
      cases hx
      rcases hwho with e | e
      · subst e; rw [setF_same]; exact ⟨hi, by omega, by simpa using hk⟩
      · have hne : i1 ≠ i := fun e2 => hf k' hk' (by rw [e, e2])
        rw [setF_other _ _ hne]
        exact h.last k' i1 hk' e
    · rw [setF_other _ _ ek] at hx
      have hne : x ≠ i := fun e2 => hf k' hk' (by rw [hx, e2])
      rw [setF_other _ _ hne]
      exact h.last k' x hk' hx
  · have old : j < asked x → ∃ i', setF kept k (some i1) (L x j) = some i' ∧ B (L x j) i' ≤ B (L x j) x := fun hj' => by
      obtain ⟨i', h', hB'⟩ := h.seen x j hx hj'
      by_cases ek : L x j = k
      · rw [ek] at h' hB' ⊢
        exact ⟨i1, setF_same _ _ _, Nat.le_trans (hB0 i' h') hB'⟩
      · exact ⟨i', by rw [setF_other _ _ ek]; exact h', hB'⟩
    by_cases e : x = i
    · subst e
      rw [setF_same] at hj
      by_cases hj' : j < asked x
      · exact old hj'
      · obtain rfl : j = asked x := by omega
        rw [hk]
        exact ⟨i1, setF_same _ _ _, hB1⟩
    · rw [setF_other _ _ e] at hj
      exact old hj

/-- Nobody is left without: no one blocks what is kept. -/
theorem asked_stable {n : Nat} {L P B : Nat → Nat → Nat} {asked : Nat → Nat} {kept : Nat → Option Nat} (hr : Ranks n L P) (h : Asked n L B asked kept) {p : Nat → Nat} (hp : ∀ i, i < n → p i < n ∧ kept (p i) = some i) {i k i' : Nat} (hi : i < n) (hk : k < n) (hk' : kept k = some i') :
    ¬ (P i k < P i (p i) ∧ B k i < B k i') := by
  rintro ⟨h1, h2⟩
  obtain ⟨hpn, hpk⟩ := hp i hi
  obtain ⟨_, h3, h4⟩ := h.last (p i) i hpn hpk
  have hb := h.bound i hi
  have h5 : P i (p i) = asked i - 1 := by rw [← h4]; exact hr.pl_at i _ hi (by omega)
  obtain ⟨j, hj, hB⟩ := h.seen i (P i k) hi (by omega)
  rw [hr.at_pl i k hi hk] at hj hB
  rw [hk'] at hj
  cases hj
  omega

end Go.Proofs.Ytjhjfopokiaiiaa
