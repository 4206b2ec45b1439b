/-
  Set1: Settle Lattice SettleL SettleRun SettleRank.
-/
import Derived.Tactics
import Derived.Test.YtahilcnmjnjcaaaDoorRank1
import Derived.Test.YtahilcnmjnjcaaaDoorRankAll
/-
  ASKING, ROUND BY ROUND: plain mathematics of the pairing that comes of it (no program). L i j: whom i has at place j; P i k: the place of k; B k i: the place of i in the ranking of k.
-/
namespace Go.Proofs.YtahilcnmjnjcaaaDoor
set_option linter.unusedVariables false
set_option linter.unusedSimpArgs false

theorem pigeon : ∀ (n : Nat) (f : Nat → Nat), (∀ k, k < n + 1 → f k < n) → ∃ a b, a < b ∧ b < n + 1 ∧ f a = f b
  | 0, f, h => absurd (h 0 (by omega)) (by omega)
  | n + 1, f, h => by
    by_cases hc : ∃ a, a < n + 1 ∧ f a = f (n + 1)
    · obtain ⟨a, ha, he⟩ := hc
      exact ⟨a, n + 1, ha, by omega, he⟩
    · have hne : ∀ a, a < n + 1 → f a ≠ f (n + 1) := fun a ha he => hc ⟨a, ha, he⟩
      have hv := h (n + 1) (by omega)
      obtain ⟨a, b, hab, hb, he⟩ := pigeon n (fun k => if f k = n then f (n + 1) else f k) (fun k hk => by
        have h1 := h k (by omega)
        have h2 := hne k hk
        show (if f k = n then f (n + 1) else f k) < n
        split
        · omega
        · omega)
      have ha' := hne a (by omega)
      have hb' := hne b (by omega)
      refine ⟨a, b, hab, by omega, ?_⟩
      have he' : (if f a = n then f (n + 1) else f a) = (if f b = n then f (n + 1) else f b) := he
      split at he' <;> split at he' <;> omega

structure Ranks (n : Nat) (L P : Nat → Nat → Nat) : Prop where
  at_lt : ∀ i j, i < n → j < n → L i j < n
  pl_lt : ∀ i k, i < n → k < n → P i k < n
  at_pl : ∀ i k, i < n → k < n → L i (P i k) = k
  pl_at : ∀ i j, i < n → j < n → P i (L i j) = j

/-- What holds before each round. -/
structure Asked (n : Nat) (L : Nat → Nat → Nat) (B : Nat → Nat → Nat) (asked : Nat → Nat) (kept : Nat → Option Nat) : Prop where
  bound : ∀ i, i < n → asked i ≤ n
  last : ∀ k i, k < n → kept k = some i → i < n ∧ 0 < asked i ∧ L i (asked i - 1) = k
  seen : ∀ i j, i < n → j < asked i → ∃ i', kept (L i j) = some i' ∧ B (L i j) i' ≤ B (L i j) i

theorem asked_start (n : Nat) (L B : Nat → Nat → Nat) : Asked n L B (fun _ => 0) (fun _ => none) :=
  ⟨fun _ _ => Nat.zero_le _, fun k i _ h => (by cases h), fun i j _ h => absurd h (Nat.not_lt_zero _)⟩

/-- Who has none can still ask. -/
theorem asked_lt {n : Nat} {L P B : Nat → Nat → Nat} {asked : Nat → Nat} {kept : Nat → Option Nat} (hr : Ranks n L P) (h : Asked n L B asked kept) {i : Nat} (hi : i < n) (hf : ∀ k, k < n → kept k ≠ some i) : asked i < n := by
  refine Nat.lt_of_not_le fun hge => ?_
  have hall : ∀ k, k < n → ∃ i', kept k = some i' := fun k hk => by
    have := h.seen i (P i k) hi (Nat.lt_of_lt_of_le (hr.pl_lt i k hi hk) hge)
    rw [hr.at_pl i k hi hk] at this
    obtain ⟨i', h', _⟩ := this
    exact ⟨i', h'⟩
  obtain ⟨a, b, hab, hb, he⟩ := pigeon n (fun k => if k < n then (kept k).getD 0 else i) (fun k hk => by
    show (if k < n then (kept k).getD 0 else i) < n
    split
    · rename_i hk
      obtain ⟨i', h'⟩ := hall k hk
      rw [h']
      exact (h.last k i' hk h').1
    · exact hi)
  have han : a < n := by omega
  obtain ⟨ia, ha⟩ := hall a han
  have he' : (if a < n then (kept a).getD 0 else i) = (if b < n then (kept b).getD 0 else i) := he
  rw [if_pos han, ha] at he'
  by_cases hbn : b < n
  · obtain ⟨ib, hb'⟩ := hall b hbn
    rw [if_pos hbn, hb'] at he'
    have he2 : ia = ib := he'
    subst he2
    have h1 := (h.last a ia han ha).2.2
    have h2 := (h.last b ia hbn hb').2.2
    omega
  · rw [if_neg hbn] at he'
    have he2 : ia = i := he'
    exact hf a han (by rw [ha, he2])

def setF {α : Type} (f : Nat → α) (k : Nat) (v : α) : Nat → α := fun x => if x = k then v else f x
theorem setF_same {α : Type} (f : Nat → α) (k : Nat) (v : α) : setF f k v k = v := if_pos rfl
theorem setF_other {α : Type} (f : Nat → α) {k x : Nat} (v : α) (h : x ≠ k) : setF f k v x = f x := if_neg h

/-- Whom a keeper has behind i's asking. -/
def answerF (B : Nat → Nat → Nat) (k i : Nat) : Option Nat → Option Nat
  | none => some i
  | some i0 => if B k i < B k i0 then some i else some i0

theorem asked_step {n : Nat} {L P B : Nat → Nat → Nat} {asked : Nat → Nat} {kept : Nat → Option Nat} (hr : Ranks n L P) (h : Asked n L B asked kept) {i : Nat} (hi : i < n) (hf : ∀ k, k < n → kept k ≠ some i) :
    Asked n L B (setF asked i (asked i + 1)) (setF kept (L i (asked i)) (answerF B (L i (asked i)) i (kept (L i (asked i))))) := by
  have hlt := asked_lt hr h hi hf
  obtain ⟨k, hk⟩ : ∃ k, L i (asked i) = k := ⟨_, rfl⟩
  have hkn : k < n := by rw [← hk]; exact hr.at_lt i _ hi hlt
  rw [hk]
  -- whom k has afterwards, and that it is no worse for k
  obtain ⟨i1, h1, hB1, hB0⟩ : ∃ i1, answerF B k i (kept k) = some i1 ∧ B k i1 ≤ B k i ∧ ∀ i0, kept k = some i0 → B k i1 ≤ B k i0 := by
    cases h0 : kept k with
    | none => exact ⟨i, rfl, Nat.le_refl _, fun i0 e => (by cases e)⟩
    | some i0 =>
      unfold answerF
      by_cases hc : B k i < B k i0
      · exact ⟨i, by simp [hc], Nat.le_refl _, fun j e => by cases e; omega⟩
      · exact ⟨i0, by simp [hc], by omega, fun j e => by cases e; omega⟩
  have hwho : i1 = i ∨ kept k = some i1 := by
    cases h0 : kept k with
    | none => rw [h0] at h1; left; cases h1; rfl
    | some i0 =>
      rw [h0] at h1
      unfold answerF at h1
      by_cases hc : B k i < B k i0
      · left; simp [hc] at h1; exact h1.symm
      · right; simp [hc] at h1; rw [h1]
  rw [h1]
  refine ⟨fun x hx => ?_, fun k' x hk' hx => ?_, fun x j hx hj => ?_⟩
  · by_cases e : x = i
    · subst e; rw [setF_same]; omega
    · rw [setF_other _ _ e]; exact h.bound x hx
  · by_cases ek : k' = k
    · subst ek
      rw [setF_same] at hx
      cases hx
      rcases hwho with e | e
      · subst e; rw [setF_same]; exact ⟨hi, by omega, by simpa using hk⟩
      · have hne : i1 ≠ i := fun e2 => hf k' hk' (by rw [e, e2])
        rw [setF_other _ _ hne]
        exact h.last k' i1 hk' e
    · rw [setF_other _ _ ek] at hx
      have hne : x ≠ i := fun e2 => hf k' hk' (by rw [hx, e2])
      rw [setF_other _ _ hne]
      exact h.last k' x hk' hx
  · have old : j < asked x → ∃ i', setF kept k (some i1) (L x j) = some i' ∧ B (L x j) i' ≤ B (L x j) x := fun hj' => by
      obtain ⟨i', h', hB'⟩ := h.seen x j hx hj'
      by_cases ek : L x j = k
      · rw [ek] at h' hB' ⊢
        exact ⟨i1, setF_same _ _ _, Nat.le_trans (hB0 i' h') hB'⟩
      · exact ⟨i', by rw [setF_other _ _ ek]; exact h', hB'⟩
    by_cases e : x = i
    · subst e
      rw [setF_same] at hj
      by_cases hj' : j < asked x
      · exact old hj'
      · obtain rfl : j = asked x := by omega
        rw [hk]
        exact ⟨i1, setF_same _ _ _, hB1⟩
    · rw [setF_other _ _ e] at hj
      exact old hj

/-- Nobody is left without: no one blocks what is kept. -/
theorem asked_stable {n : Nat} {L P B : Nat → Nat → Nat} {asked : Nat → Nat} {kept : Nat → Option Nat} (hr : Ranks n L P) (h : Asked n L B asked kept) {p : Nat → Nat} (hp : ∀ i, i < n → p i < n ∧ kept (p i) = some i) {i k i' : Nat} (hi : i < n) (hk : k < n) (hk' : kept k = some i') :
    ¬ (P i k < P i (p i) ∧ B k i < B k i') := by
  rintro ⟨h1, h2⟩
  obtain ⟨hpn, hpk⟩ := hp i hi
  obtain ⟨_, h3, h4⟩ := h.last (p i) i hpn hpk
  have hb := h.bound i hi
  have h5 : P i (p i) = asked i - 1 := by rw [← h4]; exact hr.pl_at i _ hi (by omega)
  obtain ⟨j, hj, hB⟩ := h.seen i (P i k) hi (by omega)
  rw [hr.at_pl i k hi hk] at hj hB
  rw [hk'] at hj
  cases hj
  omega

end Go.Proofs.YtahilcnmjnjcaaaDoor

/-
  STABLE PAIRINGS AS A LATTICE: plain mathematics (no program). P i k: the place of k in the ranking of i; B k i: of i in that of k; a pairing told from both sides.
-/
namespace Go.Proofs.YtahilcnmjnjcaaaDoor
set_option linter.unusedVariables false
set_option linter.unusedSimpArgs false

/-- A pairing, told from both sides. -/
structure Pair (n : Nat) (p p' : Nat → Nat) : Prop where
  lt : ∀ i, i < n → p i < n
  lt' : ∀ k, k < n → p' k < n
  bk : ∀ i, i < n → p' (p i) = i
  fw : ∀ k, k < n → p (p' k) = k
theorem Pair.turn {n : Nat} {p p' : Nat → Nat} (h : Pair n p p') : Pair n p' p := ⟨h.lt', h.lt, h.fw, h.bk⟩
theorem Pair.inj {n : Nat} {p p' : Nat → Nat} (h : Pair n p p') {i j : Nat} (hi : i < n) (hj : j < n) (e : p i = p j) : i = j := by rw [← h.bk i hi, e, h.bk j hj]
/-- Places: no two alike. -/
def Inj2 (n : Nat) (P : Nat → Nat → Nat) : Prop := ∀ i k k', i < n → k < n → k' < n → P i k = P i k' → k = k'
/-- None block. -/
def StableF (n : Nat) (P B : Nat → Nat → Nat) (p p' : Nat → Nat) : Prop := ∀ i k, i < n → k < n → ¬ (P i k < P i (p i) ∧ B k i < B k (p' k))
theorem StableF.turn {n : Nat} {P B : Nat → Nat → Nat} {p p' : Nat → Nat} (h : StableF n P B p p') : StableF n B P p' p := fun k i hk hi ⟨h1, h2⟩ => h i k hi hk ⟨h2, h1⟩

/-- What is better for one side is worse for the other one. -/
theorem worse {n : Nat} {P B : Nat → Nat → Nat} {p p' q q' : Nat → Nat} (hP : Inj2 n P) (hp : Pair n p p') (hq : Pair n q q') (sq : StableF n P B q q') (h : ∀ i, i < n → P i (p i) ≤ P i (q i)) {k : Nat} (hk : k < n) : B k (q' k) ≤ B k (p' k) := by
  have hi := hp.lt' k hk
  have hpk := hp.fw k hk
  by_cases e : q (p' k) = k
  · have : q' k = p' k := by rw [← e, hq.bk _ hi, e]
    rw [this]; exact Nat.le_refl _
  · have h1 := h (p' k) hi
    rw [hpk] at h1
    have hne : P (p' k) k ≠ P (p' k) (q (p' k)) := fun he => e (hP _ _ _ hi hk (hq.lt _ hi) he).symm
    have := sq (p' k) k hi hk
    omega

/-- The better one of two for each. -/
def betterF (P : Nat → Nat → Nat) (p q : Nat → Nat) (i : Nat) : Nat := if P i (p i) < P i (q i) then p i else q i
def worseF (P : Nat → Nat → Nat) (p q : Nat → Nat) (i : Nat) : Nat := if P i (p i) < P i (q i) then q i else p i
theorem better_le {P : Nat → Nat → Nat} {p q : Nat → Nat} (i : Nat) : P i (betterF P p q i) ≤ P i (p i) ∧ P i (betterF P p q i) ≤ P i (q i) := by
  unfold betterF; split <;> omega
theorem worse_ge {P : Nat → Nat → Nat} {p q : Nat → Nat} (i : Nat) : P i (p i) ≤ P i (worseF P p q i) ∧ P i (q i) ≤ P i (worseF P p q i) := by
  unfold worseF; split <;> omega

section
variable {n : Nat} {P B : Nat → Nat → Nat} {p p' q q' : Nat → Nat}
/-- Whom each one of the other side has then. -/
def betterF' (P : Nat → Nat → Nat) (p q p' q' : Nat → Nat) (k : Nat) : Nat := if betterF P p q (p' k) = k then p' k else q' k
def worseF' (P : Nat → Nat → Nat) (p q p' q' : Nat → Nat) (k : Nat) : Nat := if betterF P p q (p' k) = k then q' k else p' k

/-- Of both partners of k one has it as the better one, and for k this is the worse one. -/
theorem better_one (hP : Inj2 n P) (hB : Inj2 n B) (hp : Pair n p p') (hq : Pair n q q') (sp : StableF n P B p p') (sq : StableF n P B q q') {k : Nat} (hk : k < n) :
    ∀ i j, i < n → j < n → betterF P p q i = k → betterF P p q j = k → i = j := by
  intro i j hi hj ei ej
  have key : ∀ i j, i < n → j < n → i ≠ j → P i (p i) < P i (q i) → p i = k → ¬ P j (p j) < P j (q j) → q j = k → False := by
    intro i j hi hj hne h1 e1 h2 e2
    have hpk : p' k = i := by rw [← e1, hp.bk i hi]
    have hqk : q' k = j := by rw [← e2, hq.bk j hj]
    have hpj : p j ≠ k := fun e => hne (hp.inj hi hj (by rw [e1, e]))
    have h3 : P j k ≠ P j (p j) := fun e => hpj (hP _ _ _ hj hk (hp.lt _ hj) e).symm
    have a := sp j k hj hk
    have b := sq i k hi hk
    rw [hpk] at a
    rw [hqk] at b
    rw [e2] at h2
    rw [e1] at h1
    have h4 : B k i ≠ B k j := fun e => hne (hB _ _ _ hk hi hj e)
    by_cases h5 : B k i < B k j
    · exact b ⟨h1, h5⟩
    · exact a ⟨by omega, by omega⟩
  unfold betterF at ei ej
  by_cases hc : i = j
  · exact hc
  · exfalso
    by_cases h1 : P i (p i) < P i (q i)
    · rw [if_pos h1] at ei
      by_cases h2 : P j (p j) < P j (q j)
      · rw [if_pos h2] at ej
        exact hc (hp.inj hi hj (by rw [ei, ej]))
      · rw [if_neg h2] at ej
        exact key i j hi hj hc h1 ei h2 ej
    · rw [if_neg h1] at ei
      by_cases h2 : P j (p j) < P j (q j)
      · rw [if_pos h2] at ej
        exact key j i hj hi (fun e => hc e.symm) h2 ej h1 ei
      · rw [if_neg h2] at ej
        exact hc (hq.inj hi hj (by rw [ei, ej]))
theorem inj_surj {n : Nat} {f : Nat → Nat} (hf : ∀ i, i < n → f i < n) (hi : ∀ i j, i < n → j < n → f i = f j → i = j) {k : Nat} (hk : k < n) : ∃ i, i < n ∧ f i = k := by
  by_cases h : ∃ i, i < n ∧ f i = k
  · exact h
  · exfalso
    have hno : ∀ i, i < n → f i ≠ k := fun i h1 h2 => h ⟨i, h1, h2⟩
    obtain ⟨m, rfl⟩ : ∃ m, n = m + 1 := ⟨n - 1, by omega⟩
    obtain ⟨a, b, hab, hb, he⟩ := pigeon m (fun i => if f i = m then k else f i) (fun i hi' => by
      have h1 := hf i hi'
      have h2 := hno i hi'
      show (if f i = m then k else f i) < m
      split
      · rename_i e
        have : k ≠ m := fun e2 => h2 (by rw [e, e2])
        omega
      · omega)
    have he' : (if f a = m then k else f a) = (if f b = m then k else f b) := he
    have na := hno a (by omega)
    have nb := hno b hb
    have : f a = f b := by
      split at he' <;> split at he' <;> omega
    have := hi a b (by omega) hb this
    omega
theorem pair_of_right {n : Nat} {f g : Nat → Nat} (hf : ∀ i, i < n → f i < n) (hg : ∀ i, i < n → g i < n) (h : ∀ k, k < n → f (g k) = k) : Pair n f g := by
  refine ⟨hf, hg, fun i hi => ?_, h⟩
  obtain ⟨k, hk, he⟩ := inj_surj hg (fun a b ha hb e => by rw [← h a ha, e, h b hb]) hi
  rw [← he, h k hk]
theorem better_or {i : Nat} : (betterF P p q i = p i ∧ worseF P p q i = q i) ∨ (betterF P p q i = q i ∧ worseF P p q i = p i) := by
  unfold betterF worseF
  split
  · exact .inl ⟨rfl, rfl⟩
  · exact .inr ⟨rfl, rfl⟩
theorem better'_or {k : Nat} : (betterF' P p q p' q' k = p' k ∧ worseF' P p q p' q' k = q' k) ∨ (betterF' P p q p' q' k = q' k ∧ worseF' P p q p' q' k = p' k) := by
  unfold betterF' worseF'
  split
  · exact .inl ⟨rfl, rfl⟩
  · exact .inr ⟨rfl, rfl⟩
theorem better_lt (hp : Pair n p p') (hq : Pair n q q') {i : Nat} (hi : i < n) : betterF P p q i < n ∧ worseF P p q i < n := by
  have h1 := hp.lt i hi
  have h2 := hq.lt i hi
  rcases better_or (P := P) (p := p) (q := q) (i := i) with ⟨a, b⟩ | ⟨a, b⟩ <;> rw [a, b] <;> exact ⟨by assumption, by assumption⟩
theorem better'_lt (hp : Pair n p p') (hq : Pair n q q') {k : Nat} (hk : k < n) : betterF' P p q p' q' k < n ∧ worseF' P p q p' q' k < n := by
  have h1 := hp.lt' k hk
  have h2 := hq.lt' k hk
  rcases better'_or (P := P) (p := p) (q := q) (p' := p') (q' := q') (k := k) with ⟨a, b⟩ | ⟨a, b⟩ <;> rw [a, b] <;> exact ⟨by assumption, by assumption⟩
theorem better_pair (hP : Inj2 n P) (hB : Inj2 n B) (hp : Pair n p p') (hq : Pair n q q') (sp : StableF n P B p p') (sq : StableF n P B q q') : Pair n (betterF P p q) (betterF' P p q p' q') := by
  refine pair_of_right (fun i hi => (better_lt hp hq hi).1) (fun k hk => (better'_lt hp hq hk).1) fun k hk => ?_
  obtain ⟨i, hi, he⟩ := inj_surj (fun i hi => (better_lt hp hq hi).1) (fun i j hi hj e => better_one hP hB hp hq sp sq (better_lt hp hq hi).1 i j hi hj rfl e.symm) hk
  unfold betterF'
  split
  · assumption
  · rename_i hno
    rcases better_or (P := P) (p := p) (q := q) (i := i) with ⟨a, _⟩ | ⟨a, _⟩
    · exfalso
      apply hno
      have : p' k = i := by rw [← he, a, hp.bk i hi]
      rw [this]; exact he
    · have : q' k = i := by rw [← he, a, hq.bk i hi]
      rw [this]; exact he
theorem worse_pair (hP : Inj2 n P) (hB : Inj2 n B) (hp : Pair n p p') (hq : Pair n q q') (sp : StableF n P B p p') (sq : StableF n P B q q') : Pair n (worseF P p q) (worseF' P p q p' q') := by
  refine pair_of_right (fun i hi => (better_lt hp hq hi).2) (fun k hk => (better'_lt hp hq hk).2) fun k hk => ?_
  unfold worseF'
  split
  · rename_i h1
    rcases better_or (P := P) (p := p) (q := q) (i := q' k) with ⟨a, b⟩ | ⟨a, b⟩
    · rw [b, hq.fw k hk]
    · have e2 : betterF P p q (q' k) = k := by rw [a, hq.fw k hk]
      have e3 := better_one hP hB hp hq sp sq hk (p' k) (q' k) (hp.lt' k hk) (hq.lt' k hk) h1 e2
      rw [b, ← e3, hp.fw k hk]
  · rename_i h1
    rcases better_or (P := P) (p := p) (q := q) (i := p' k) with ⟨a, b⟩ | ⟨a, b⟩
    · exact absurd (by rw [a, hp.fw k hk]) h1
    · rw [b, hp.fw k hk]
theorem better_worst (hP : Inj2 n P) (hB : Inj2 n B) (hp : Pair n p p') (hq : Pair n q q') (sp : StableF n P B p p') (sq : StableF n P B q q') {k : Nat} (hk : k < n) :
    B k (p' k) ≤ B k (betterF' P p q p' q' k) ∧ B k (q' k) ≤ B k (betterF' P p q p' q' k) :=
  ⟨worse hP (better_pair hP hB hp hq sp sq) hp sp (fun i _ => (better_le i).1) hk, worse hP (better_pair hP hB hp hq sp sq) hq sq (fun i _ => (better_le i).2) hk⟩
theorem better_stable (sp : StableF n P B p p') (sq : StableF n P B q q') : StableF n P B (betterF P p q) (betterF' P p q p' q') := by
  rintro i k hi hk ⟨h1, h2⟩
  have hl := better_le (P := P) (p := p) (q := q) i
  rcases better'_or (P := P) (p := p) (q := q) (p' := p') (q' := q') (k := k) with ⟨a, _⟩ | ⟨a, _⟩
  · rw [a] at h2; exact sp i k hi hk ⟨by omega, h2⟩
  · rw [a] at h2; exact sq i k hi hk ⟨by omega, h2⟩
theorem worse_stable (hP : Inj2 n P) (hB : Inj2 n B) (hp : Pair n p p') (hq : Pair n q q') (sp : StableF n P B p p') (sq : StableF n P B q q') : StableF n P B (worseF P p q) (worseF' P p q p' q') := by
  rintro i k hi hk ⟨h1, h2⟩
  obtain ⟨b1, b2⟩ := better_worst hP hB hp hq sp sq hk
  have hb : B k (worseF' P p q p' q' k) ≤ B k (p' k) ∧ B k (worseF' P p q p' q' k) ≤ B k (q' k) := by
    rcases better'_or (P := P) (p := p) (q := q) (p' := p') (q' := q') (k := k) with ⟨a, b⟩ | ⟨a, b⟩
    · rw [a] at b1 b2; rw [b]; exact ⟨b2, Nat.le_refl _⟩
    · rw [a] at b1 b2; rw [b]; exact ⟨Nat.le_refl _, b1⟩
  rcases better_or (P := P) (p := p) (q := q) (i := i) with ⟨_, b⟩ | ⟨_, b⟩
  · rw [b] at h1; exact sq i k hi hk ⟨h1, by omega⟩
  · rw [b] at h1; exact sp i k hi hk ⟨h1, by omega⟩
end

/-- Who asks gets the best: nobody has asked anyone that is worse than the partner in a stable pairing. -/
theorem asked_best {n : Nat} {L P B : Nat → Nat → Nat} {asked : Nat → Nat} {kept : Nat → Option Nat} {q q' : Nat → Nat} (hr : Ranks n L P) (hB : Inj2 n B) (hq : Pair n q q') (sq : StableF n P B q q') (h : Asked n L B asked kept)
    (hb : ∀ i, i < n → asked i ≤ P i (q i) + 1) {i : Nat} (hi : i < n) (hf : ∀ k, k < n → kept k ≠ some i) : ∀ j, j < n → setF asked i (asked i + 1) j ≤ P j (q j) + 1 := by
  intro j hj
  by_cases e : j = i
  · subst e
    rw [setF_same]
    refine Nat.succ_le_succ (Nat.le_of_not_lt fun hlt => ?_)
    have hk := hq.lt j hj
    obtain ⟨i', h1, h2⟩ := h.seen j (P j (q j)) hj hlt
    rw [hr.at_pl j _ hj hk] at h1 h2
    obtain ⟨hi', h3, h4⟩ := h.last (q j) i' hk h1
    have hne : i' ≠ j := fun e => hf _ hk (by rw [h1, e])
    have hbi := hb i' hi'
    have hbd := h.bound i' hi'
    have h5 : P i' (q j) = asked i' - 1 := by rw [← h4]; exact hr.pl_at i' _ hi' (by omega)
    have h6 : P i' (q j) ≠ P i' (q i') := fun e => by
      have : q j = q i' := by rw [← hr.at_pl i' (q j) hi' hk, e, hr.at_pl i' (q i') hi' (hq.lt i' hi')]
      exact hne (hq.inj hj hi' this).symm
    have h7 : B (q j) i' ≠ B (q j) j := fun e => hne (hB _ _ _ hk hi' hj e)
    exact sq i' (q j) hi' hk ⟨by omega, by rw [hq.bk j hj]; omega⟩
  · rw [setF_other _ _ e]; exact hb j hj

end Go.Proofs.YtahilcnmjnjcaaaDoor

/-
  ASKING, ROUND BY ROUND, ON LISTS: what spec.l6mAsk and impl's settled keep (how often each has asked; whom each keeper has, -1 for nobody).
-/
namespace Go.Proofs.YtahilcnmjnjcaaaDoor
set_option linter.unusedVariables false
set_option linter.unusedSimpArgs false

def wishL (ls : List (List Int)) (i j : Nat) : Nat := ((ls.getD i []).getD j 0).toNat
def placeL (ls : List (List Int)) (i k : Nat) : Nat := place (ls.getD i []) (k : Int)
theorem ranks_of {n : Nat} {ls : List (List Int)} (h1 : 1 ≤ n) (h5 : n ≤ 5) (hl : ls.length = n) (hls : ∀ l ∈ ls, rankB n l = true) : Ranks n (wishL ls) (placeL ls) := by
  have row : ∀ i, i < n → ∃ xs, ls.getD i [] = xs ∧ rankB n xs = true := fun i hi => by
    have hi' : i < ls.length := by omega
    exact ⟨ls[i], by simp [List.getD, hi'], hls _ (List.getElem_mem _)⟩
  have get : ∀ (xs : List Int), rankB n xs = true → ∀ k, k < n → xs[place xs (k : Int)]? = some (k : Int) ∧ place xs (k : Int) < n := fun xs hx k hk => by
    have hg := place_get xs (k : Int) (rank_mem h1 h5 hx (by omega) (by omega))
    have := (List.getElem?_eq_some_iff.1 hg).1
    have hlen := (rank_parts hx).1
    exact ⟨hg, by omega⟩
  refine ⟨fun i j hi hj => ?_, fun i k hi hk => ?_, fun i k hi hk => ?_, fun i j hi hj => ?_⟩
  · obtain ⟨xs, he, hx⟩ := row i hi
    unfold wishL
    rw [he]
    have hj' : j < xs.length := by rw [(rank_parts hx).1]; exact hj
    have := (rank_parts hx).2.1 xs[j] (List.getElem_mem _)
    simp [List.getD, hj']
    omega
  · obtain ⟨xs, he, hx⟩ := row i hi
    unfold placeL
    rw [he]
    exact (get xs hx k hk).2
  · obtain ⟨xs, he, hx⟩ := row i hi
    unfold wishL placeL
    rw [he, List.getD_eq_getElem?_getD, (get xs hx k hk).1]
    simp
  · obtain ⟨xs, he, hx⟩ := row i hi
    have hj' : j < xs.length := by rw [(rank_parts hx).1]; exact hj
    -- every place is someone's
    obtain ⟨c, hc, hp⟩ : ∃ c, c < n ∧ place xs ((c : Nat) : Int) = j := by
      obtain ⟨a, b, hab, hb, hf⟩ := pigeon n (fun c => if c < n then place xs ((c : Nat) : Int) else j) (fun c _ => by
        show (if c < n then place xs ((c : Nat) : Int) else j) < n
        split
        · exact (get xs hx c (by assumption)).2
        · exact hj)
      have han : a < n := by omega
      have hf' : (if a < n then place xs ((a : Nat) : Int) else j) = (if b < n then place xs ((b : Nat) : Int) else j) := hf
      rw [if_pos han] at hf'
      by_cases hbn : b < n
      · rw [if_pos hbn] at hf'
        have := place_inj h1 h5 hx (c := (a : Int)) (d := (b : Int)) (by omega) (by omega) hf'
        omega
      · rw [if_neg hbn] at hf'
        exact ⟨a, han, hf'⟩
    have hg := (get xs hx c hc).1
    rw [hp] at hg
    unfold wishL placeL
    rw [he, List.getD_eq_getElem?_getD, hg]
    simpa using hp

def askF (hs0 : List Int) (i : Nat) : Nat := (hs0.getD i 0).toNat
def optOf (v : Int) : Option Nat := if v < 0 then none else some v.toNat
def keptF (ks : List Int) (k : Nat) : Option Nat := optOf (ks.getD k (-1))
def freeB (ks : List Int) (i : Nat) : Bool := !(ks.contains (i : Int))
def firstFree (n : Nat) (ks : List Int) : Option Nat := (List.range n).find? (freeB ks)
def answerL (rs : List (List Int)) (k i : Nat) (h : Int) : Int := if h < 0 then (i : Int) else if placeL rs k i < place (rs.getD k []) h then (i : Int) else h
def askStep (ls rs : List (List Int)) (i : Nat) (st : List Int × List Int) : List Int × List Int :=
  (st.1.set i (st.1.getD i 0 + 1), st.2.set (wishL ls i (st.1.getD i 0).toNat) (answerL rs (wishL ls i (st.1.getD i 0).toNat) i (st.2.getD (wishL ls i (st.1.getD i 0).toNat) (-1))))
def stepL (ls rs : List (List Int)) (n : Nat) (st : List Int × List Int) : List Int × List Int :=
  match firstFree n st.2 with
  | none => st
  | some i => askStep ls rs i st
def runL (ls rs : List (List Int)) (n : Nat) : Nat → List Int × List Int
  | 0 => (List.replicate n 0, List.replicate n (-1))
  | t + 1 => stepL ls rs n (runL ls rs n t)

theorem getD_set {α : Type} (xs : List α) (i k : Nat) (v d : α) (hi : i < xs.length) : (xs.set i v).getD k d = if k = i then v else xs.getD k d := by
  rw [List.getD_eq_getElem?_getD, List.getD_eq_getElem?_getD, List.getElem?_set]
  by_cases h : i = k
  · subst h; simp [hi]
  · rw [if_neg h, if_neg (fun e => h e.symm)]
theorem askF_set (hs0 : List Int) (i : Nat) (hi : i < hs0.length) (h0 : 0 ≤ hs0.getD i 0) : askF (hs0.set i (hs0.getD i 0 + 1)) = setF (askF hs0) i (askF hs0 i + 1) := by
  funext x
  unfold askF setF
  rw [getD_set _ _ _ _ _ hi]
  split
  · omega
  · rfl
theorem keptF_set (ks : List Int) (k : Nat) (v : Int) (hk : k < ks.length) : keptF (ks.set k v) = setF (keptF ks) k (optOf v) := by
  funext x
  unfold keptF setF
  rw [getD_set _ _ _ _ _ hk]
  split <;> rfl
theorem answer_opt (rs : List (List Int)) (k i : Nat) (h : Int) : optOf (answerL rs k i h) = answerF (placeL rs) k i (optOf h) := by
  unfold answerL optOf answerF
  by_cases h0 : h < 0
  · rw [if_pos h0, if_pos h0, if_neg (by omega)]; simp
  · rw [if_neg h0, if_neg h0]
    have e : place (rs.getD k []) h = placeL rs k h.toNat := by unfold placeL; rw [Int.toNat_of_nonneg (by omega)]
    rw [e]
    simp only []
    by_cases hc : placeL rs k i < placeL rs k h.toNat
    · rw [if_pos hc, if_pos hc, if_neg (by omega)]; simp
    · rw [if_neg hc, if_neg hc, if_neg h0]

structure GsSt (ls rs : List (List Int)) (n : Nat) (st : List Int × List Int) : Prop where
  len1 : st.1.length = n
  len2 : st.2.length = n
  nn : ∀ i, 0 ≤ st.1.getD i 0
  rng : ∀ k, -1 ≤ st.2.getD k (-1) ∧ st.2.getD k (-1) < n
  asked : Asked n (wishL ls) (placeL rs) (askF st.1) (keptF st.2)
theorem gs_start (ls rs : List (List Int)) (n : Nat) : GsSt ls rs n (runL ls rs n 0) := by
  have e1 : ∀ i, (List.replicate n (0 : Int)).getD i 0 = 0 := fun i => by
    rw [List.getD_eq_getElem?_getD, List.getElem?_replicate]; split <;> rfl
  have e2 : ∀ i, (List.replicate n (-1 : Int)).getD i (-1) = -1 := fun i => by
    rw [List.getD_eq_getElem?_getD, List.getElem?_replicate]; split <;> rfl
  refine ⟨by simp [runL], by simp [runL], fun i => ?_, fun k => ?_, ?_⟩
  · show 0 ≤ (List.replicate n (0 : Int)).getD i 0
    rw [e1]; omega
  · show -1 ≤ (List.replicate n (-1 : Int)).getD k (-1) ∧ (List.replicate n (-1 : Int)).getD k (-1) < (n : Int)
    rw [e2]; omega
  · have f1 : askF (List.replicate n (0 : Int)) = fun _ => 0 := by funext i; unfold askF; rw [e1]; rfl
    have f2 : keptF (List.replicate n (-1 : Int)) = fun _ => none := by funext i; unfold keptF; rw [e2]; rfl
    show Asked n (wishL ls) (placeL rs) (askF (List.replicate n (0 : Int))) (keptF (List.replicate n (-1 : Int)))
    rw [f1, f2]
    exact asked_start _ _ _
theorem free_kept {ks : List Int} {i : Nat} (h : freeB ks i = true) (k : Nat) (hk : k < ks.length) : keptF ks k ≠ some i := by
  unfold keptF optOf
  intro e
  have hg : ks.getD k (-1) = ks[k] := by simp [List.getD, hk]
  rw [hg] at e
  split at e
  · cases e
  · have e2 : ks[k].toNat = i := by simpa using e
    unfold freeB at h
    have : ks.contains (i : Int) = true := by
      rw [List.contains_iff_mem]
      have : ks[k] = (i : Int) := by omega
      rw [← this]; exact List.getElem_mem _
    rw [this] at h
    cases h
/-- One round: nothing is out of bounds, and all holds again. -/
theorem gs_step {ls rs : List (List Int)} {n : Nat} {st : List Int × List Int} (hr : Ranks n (wishL ls) (placeL ls)) (h : GsSt ls rs n st) {i : Nat} (hi : i < n) (hf : freeB st.2 i = true) :
    (st.1.getD i 0).toNat < n ∧ wishL ls i (st.1.getD i 0).toNat < n ∧ GsSt ls rs n (askStep ls rs i st) := by
  have hfr : ∀ k, k < n → keptF st.2 k ≠ some i := fun k hk => free_kept hf k (by rw [h.len2]; exact hk)
  have hlt := asked_lt hr h.asked hi hfr
  have hk := hr.at_lt i _ hi hlt
  have hs := asked_step hr h.asked hi hfr
  have hlt' : (st.1.getD i 0).toNat < n := hlt
  obtain ⟨k, hke⟩ : ∃ k, wishL ls i (st.1.getD i 0).toNat = k := ⟨_, rfl⟩
  have hke' : wishL ls i (askF st.1 i) = k := hke
  rw [hke'] at hk hs
  refine ⟨hlt', by rw [hke]; exact hk, ?_⟩
  unfold askStep
  rw [hke]
  have hi1 : i < st.1.length := by rw [h.len1]; exact hi
  have hk2 : k < st.2.length := by rw [h.len2]; exact hk
  refine ⟨by simp [h.len1], by simp [h.len2], fun x => ?_, fun x => ?_, ?_⟩
  · show 0 ≤ (st.1.set i (st.1.getD i 0 + 1)).getD x 0
    rw [getD_set _ _ _ _ _ hi1]
    split
    · have := h.nn i; omega
    · exact h.nn x
  · show -1 ≤ (st.2.set k _).getD x (-1) ∧ (st.2.set k _).getD x (-1) < (n : Int)
    rw [getD_set _ _ _ _ _ hk2]
    split
    · have := h.rng k
      unfold answerL
      split
      · omega
      · split
        · omega
        · omega
    · exact h.rng x
  · show Asked n (wishL ls) (placeL rs) (askF (st.1.set i (st.1.getD i 0 + 1))) (keptF (st.2.set k (answerL rs k i (st.2.getD k (-1)))))
    rw [askF_set _ _ hi1 (h.nn i), keptF_set _ _ _ hk2, answer_opt]
    exact hs

end Go.Proofs.YtahilcnmjnjcaaaDoor

/-
  ASKING ENDS: at most n * n rounds; whoever runs the rounds till nobody is free has the same list; it is a ranking; the pairing is stable.
-/
namespace Go.Proofs.YtahilcnmjnjcaaaDoor
set_option linter.unusedVariables false
set_option linter.unusedSimpArgs false

theorem sum_set : ∀ (xs : List Int) (i : Nat) (v : Int), i < xs.length → (xs.set i v).sum = xs.sum - xs.getD i 0 + v
  | [], i, v, h => absurd h (Nat.not_lt_zero _)
  | x :: t, 0, v, _ => by simp; omega
  | x :: t, i + 1, v, h => by
    have := sum_set t i v (by simpa using h)
    simp [List.getD] at this ⊢
    omega
theorem sum_bound (n : Nat) : ∀ (xs : List Int), (∀ x ∈ xs, x ≤ (n : Int)) → xs.sum ≤ (xs.length : Int) * n
  | [], _ => by simp
  | x :: t, h => by
    have h0 := h x (by simp)
    have ht := sum_bound n t (fun y hy => h y (by simp [hy]))
    rw [List.sum_cons, List.length_cons, Int.natCast_succ, Int.add_mul]
    omega
theorem step_free {ls rs : List (List Int)} {n : Nat} {st : List Int × List Int} {i : Nat} (h : firstFree n st.2 = some i) : stepL ls rs n st = askStep ls rs i st := by unfold stepL; rw [h]
theorem step_none {ls rs : List (List Int)} {n : Nat} {st : List Int × List Int} (h : firstFree n st.2 = none) : stepL ls rs n st = st := by unfold stepL; rw [h]
theorem free_some {n i : Nat} {ks : List Int} (h : firstFree n ks = some i) : i < n ∧ freeB ks i = true := by
  unfold firstFree at h
  exact ⟨List.mem_range.1 (List.mem_of_find?_eq_some h), List.find?_some h⟩
theorem free_none {n : Nat} {ks : List Int} (h : firstFree n ks = none) (i : Nat) (hi : i < n) : (i : Int) ∈ ks := by
  unfold firstFree at h
  have := List.find?_eq_none.1 h i (List.mem_range.2 hi)
  unfold freeB at this
  rw [Bool.not_eq_true', Bool.not_eq_false] at this
  exact List.contains_iff_mem.1 this
/-- The first who is free: the walk's loop found it. -/
theorem free_first {n i : Nat} {ks : List Int} (hi : i < n) (h : freeB ks i = true) (hno : ∀ j, j < i → freeB ks j = false) : firstFree n ks = some i := by
  cases hf : firstFree n ks with
  | none =>
    have := free_none hf i hi
    unfold freeB at h
    rw [List.contains_iff_mem.2 this] at h
    cases h
  | some j =>
    obtain ⟨hj, hjf⟩ := free_some hf
    unfold firstFree at hf
    rcases Nat.lt_trichotomy i j with hlt | rfl | hgt
    · rw [List.find?_range_eq_some] at hf
      have := hf.2.2 i hlt
      rw [h] at this
      cases this
    · rfl
    · rw [hno j hgt] at hjf
      cases hjf
theorem free_no {n : Nat} {ks : List Int} (hno : ∀ j, j < n → freeB ks j = false) : firstFree n ks = none := by
  cases hf : firstFree n ks with
  | none => rfl
  | some j =>
    obtain ⟨hj, hjf⟩ := free_some hf
    rw [hno j hj] at hjf
    cases hjf

/-- What the loops keep: t rounds were run, each asked once. -/
structure Runs (ls rs : List (List Int)) (n t : Nat) (st : List Int × List Int) : Prop where
  eq : st = runL ls rs n t
  sum : st.1.sum = t
  gs : GsSt ls rs n st
theorem runs_start (ls rs : List (List Int)) (n : Nat) : Runs ls rs n 0 (List.replicate n 0, List.replicate n (-1)) :=
  ⟨rfl, by simp, gs_start ls rs n⟩
theorem runs_step {ls rs : List (List Int)} {n t : Nat} {st : List Int × List Int} (hr : Ranks n (wishL ls) (placeL ls)) (h : Runs ls rs n t st) {i : Nat} (hf : firstFree n st.2 = some i) : Runs ls rs n (t + 1) (askStep ls rs i st) := by
  obtain ⟨hi, hfr⟩ := free_some hf
  refine ⟨?_, ?_, (gs_step hr h.gs hi hfr).2.2⟩
  · show _ = stepL ls rs n (runL ls rs n t)
    rw [← h.eq, step_free hf]
  · show (st.1.set i (st.1.getD i 0 + 1)).sum = _
    rw [sum_set _ _ _ (by rw [h.gs.len1]; exact hi), h.sum]
    omega
theorem runs_bound {ls rs : List (List Int)} {n t : Nat} {st : List Int × List Int} (h : Runs ls rs n t st) : t ≤ n * n := by
  have hb := sum_bound n st.1 (fun x hx => by
    obtain ⟨i, hi, he⟩ := List.getElem_of_mem hx
    have hn := h.gs.nn i
    have := h.gs.asked.bound i (by rw [← h.gs.len1]; exact hi)
    unfold askF at this
    have hg : st.1.getD i 0 = x := by simp [List.getD, hi, he]
    rw [hg] at this hn
    omega)
  rw [h.sum, h.gs.len1] at hb
  have : ((n * n : Nat) : Int) = (n : Int) * n := by simp
  omega
/-- One round more is one within the bound. -/
theorem runs_more {ls rs : List (List Int)} {n t : Nat} {st : List Int × List Int} (hr : Ranks n (wishL ls) (placeL ls)) (h : Runs ls rs n t st) {i : Nat} (hf : firstFree n st.2 = some i) : t + 1 ≤ n * n := runs_bound (runs_step hr h hf)

/-- Whom each keeper has in the end. -/
def settledK (ls rs : List (List Int)) (n : Nat) : List Int := (runL ls rs n (n * n)).2
theorem run_stuck {ls rs : List (List Int)} {n t : Nat} (h : firstFree n (runL ls rs n t).2 = none) : ∀ d, runL ls rs n (t + d) = runL ls rs n t
  | 0 => rfl
  | d + 1 => by
    have ih := run_stuck h d
    show stepL ls rs n (runL ls rs n (t + d)) = _
    rw [ih, step_none h]
theorem runs_end {ls rs : List (List Int)} {n t : Nat} {st : List Int × List Int} (h : Runs ls rs n t st) (hf : firstFree n st.2 = none) : st.2 = settledK ls rs n := by
  have hb := runs_bound h
  have hs := run_stuck (ls := ls) (rs := rs) (n := n) (t := t) (by rw [← h.eq]; exact hf) (n * n - t)
  rw [show t + (n * n - t) = n * n by omega] at hs
  unfold settledK
  rw [hs, ← h.eq]

/-- Nobody free: nobody without. -/
theorem stuck_rank {ls rs : List (List Int)} {n : Nat} {st : List Int × List Int} (h : GsSt ls rs n st) (hf : firstFree n st.2 = none) : rankB n st.2 = true := by
  have hall := fun i hi => free_none hf i hi
  refine rank_of_all h.len2 (fun x hx => ?_) hall
  obtain ⟨k, hk, he⟩ := List.getElem_of_mem hx
  have hrg := h.rng k
  have hg : st.2.getD k (-1) = x := by simp [List.getD, hk, he]
  rw [hg] at hrg
  refine ⟨Int.not_lt.1 fun hneg => ?_, by omega⟩
  have hkn : k < n := by rw [← h.len2]; exact hk
  have pl : ∀ i, i < n → st.2[place st.2 (i : Int)]? = some (i : Int) ∧ place st.2 (i : Int) < n := fun i hi => by
    have hp := place_get st.2 (i : Int) (hall i hi)
    have := (List.getElem?_eq_some_iff.1 hp).1
    exact ⟨hp, by rw [← h.len2]; exact this⟩
  obtain ⟨a, b, hab, hb, hfe⟩ := pigeon n (fun i => if i < n then place st.2 (i : Int) else k) (fun i _ => by
    show (if i < n then place st.2 ((i : Nat) : Int) else k) < n
    split
    · exact (pl i (by assumption)).2
    · exact hkn)
  have han : a < n := by omega
  have hfe' : (if a < n then place st.2 ((a : Nat) : Int) else k) = (if b < n then place st.2 ((b : Nat) : Int) else k) := hfe
  rw [if_pos han] at hfe'
  have ga := (pl a han).1
  by_cases hbn : b < n
  · rw [if_pos hbn] at hfe'
    have gb := (pl b hbn).1
    rw [hfe', gb] at ga
    have : (b : Int) = (a : Int) := by simpa using ga
    omega
  · rw [if_neg hbn] at hfe'
    rw [hfe', List.getElem?_eq_getElem hk, he] at ga
    have : x = (a : Int) := by simpa using ga
    omega

end Go.Proofs.YtahilcnmjnjcaaaDoor

/-
  ASKING ENDS WITH A RANKING; one ranking turned, and turned back.
-/
namespace Go.Proofs.YtahilcnmjnjcaaaDoor
set_option linter.unusedVariables false
set_option linter.unusedSimpArgs false

theorem settled_exists {ls rs : List (List Int)} {n : Nat} (hr : Ranks n (wishL ls) (placeL ls)) : ∃ t st, Runs ls rs n t st ∧ firstFree n st.2 = none := by
  apply Classical.byContradiction
  intro hno
  have go : ∀ t, ∃ st, Runs ls rs n t st := fun t => by
    induction t with
    | zero => exact ⟨_, runs_start ls rs n⟩
    | succ t ih =>
      obtain ⟨st, h⟩ := ih
      cases hf : firstFree n st.2 with
      | none => exact absurd ⟨t, st, h, hf⟩ hno
      | some i => exact ⟨_, runs_step hr h hf⟩
  obtain ⟨st, h⟩ := go (n * n + 1)
  have := runs_bound h
  omega

/-- One ranking turned: its places. -/
theorem rank_one {n : Nat} (h1 : 1 ≤ n) (h5 : n ≤ 5) {xs : List Int} (h : rankB n xs = true) : Ranks n (fun _ j => (xs.getD j 0).toNat) (fun _ k => place xs (k : Int)) := by
  have hr := ranks_of (ls := List.replicate n xs) h1 h5 (by simp) (fun l hl => by rw [(List.mem_replicate.1 hl).2]; exact h)
  have e : ∀ i, i < n → (List.replicate n xs).getD i [] = xs := fun i hi => by
    rw [List.getD_eq_getElem?_getD, List.getElem?_replicate, if_pos hi]; rfl
  refine ⟨fun i j hi hj => ?_, fun i k hi hk => ?_, fun i k hi hk => ?_, fun i j hi hj => ?_⟩
  · have := hr.at_lt i j hi hj; unfold wishL at this; rwa [e i hi] at this
  · have := hr.pl_lt i k hi hk; unfold placeL at this; rwa [e i hi] at this
  · have := hr.at_pl i k hi hk; unfold wishL placeL at this; rwa [e i hi] at this
  · have := hr.pl_at i j hi hj; unfold wishL placeL at this; rwa [e i hi] at this
theorem rank_back {n : Nat} (h1 : 1 ≤ n) (h5 : n ≤ 5) {xs : List Int} (h : rankB n xs = true) : rankB n (backOf xs) = true := by
  have ho := rank_one h1 h5 h
  have hl := (rank_parts h).1
  have hbl : (backOf xs).length = n := by rw [backOf_len, hl]
  have get : ∀ c, c < n → (backOf xs).getD c 0 = (place xs (c : Int) : Int) := fun c hc => back_place h1 h5 h hc
  refine rank_of_all hbl (fun x hx => ?_) (fun i hi => ?_)
  · obtain ⟨c, hc, he⟩ := List.getElem_of_mem hx
    have hcn : c < n := by omega
    have hg := get c hcn
    have hx2 : (backOf xs).getD c 0 = x := by simp [List.getD, hc, he]
    have := ho.pl_lt 0 c (by omega) hcn
    rw [hx2] at hg
    omega
  · have hj := ho.at_lt 0 i (by omega) hi
    have hp := ho.pl_at 0 i (by omega) hi
    have hg := get _ hj
    have hj2 : (xs.getD i 0).toNat < (backOf xs).length := by omega
    have hp2 : place xs (((xs.getD i 0).toNat : Nat) : Int) = i := hp
    rw [hp2] at hg
    obtain ⟨m, hm⟩ : ∃ m, (xs.getD i 0).toNat = m := ⟨_, rfl⟩
    rw [hm] at hg hj2
    rw [List.getD_eq_getElem?_getD, List.getElem?_eq_getElem hj2, Option.getD_some] at hg
    rw [← hg]
    exact List.getElem_mem _
theorem back_back {n : Nat} (h1 : 1 ≤ n) (h5 : n ≤ 5) {xs : List Int} (h : rankB n xs = true) {k : Nat} (hk : k < n) : (backOf (backOf xs)).getD k 0 = xs.getD k 0 := by
  have hb := rank_back h1 h5 h
  have ho := rank_one h1 h5 h
  have hob := rank_one h1 h5 hb
  rw [back_place h1 h5 hb hk]
  have hj := ho.at_lt 0 k (by omega) hk
  have hp : place xs (((xs.getD k 0).toNat : Nat) : Int) = k := ho.pl_at 0 k (by omega) hk
  have hg := back_place h1 h5 h hj
  rw [hp] at hg
  have hq : place (backOf xs) (((backOf xs).getD (xs.getD k 0).toNat 0).toNat : Nat) = (xs.getD k 0).toNat := hob.pl_at 0 _ (by omega) hj
  rw [hg, Int.toNat_natCast] at hq
  rw [hq]
  have hkl : k < xs.length := by rw [(rank_parts h).1]; exact hk
  have := (rank_parts h).2.1 xs[k] (List.getElem_mem _)
  have e : xs.getD k 0 = xs[k] := by simp [List.getD, hkl]
  rw [e]
  omega

theorem settled_rank {ls rs : List (List Int)} {n : Nat} (hr : Ranks n (wishL ls) (placeL ls)) : rankB n (settledK ls rs n) = true := by
  obtain ⟨t, st, h, hf⟩ := settled_exists (rs := rs) hr
  rw [← runs_end h hf]
  exact stuck_rank h.gs hf

end Go.Proofs.YtahilcnmjnjcaaaDoor

