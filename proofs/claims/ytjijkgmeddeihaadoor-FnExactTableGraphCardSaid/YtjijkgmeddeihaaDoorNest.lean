/-
  AN ITERATOR THAT RANGES OVER ITERATORS OF ITS OWN: its contract, whose invariants abide the turn of whatever is no cells and was laid since its call began; and the statement that ranges over it.
-/
import Derived.Test.YtjijkgmeddeihaaDoorMarks
import Derived.RangeFuncNested
import Derived.RangeFuncWrites
namespace Go.Proofs.YtjijkgmeddeihaaDoor
set_option linter.unusedVariables false
set_option linter.unusedSimpArgs false
open Go.RowKit

variable {F : Fence} {n : Nat} {P : Program}

def SeqOwn {α : Type} (F : Fence) (n : Nat) (P : Program) (g : Nat) (lb : Array Value) (encs : α → Array Value) (Kp : World → World → Prop) (S Sp : List α → Prop) (N : Nat) (w : World) : Prop :=
  ∀ (l : Nat) (J Jx : List α → World → Prop) (W : World), Below w.heap.size w W → OwnFrom W.heap.size J → OwnFrom W.heap.size Jx →
    (∀ pre x W1, J pre W1 → pre.length < N → YieldAt F (n - 1) P l (encs x) W1 fun e W' => KeepsFrom W.heap.size W1 W' ∧
      ((e = .returned (.bool true) ∧ J (pre ++ [x]) W' ∧ Kp W1 W') ∨ (e = .returned (.bool false) ∧ Jx (pre ++ [x]) W'))) →
    J [] W →
    CallsIn F n P g (#[.func (.yield l) #[] #[]] ++ lb) W fun e W' => (∃ v, e = .returned v) ∧ ((∃ xs, S xs ∧ J xs W') ∨ (∃ pre, Sp pre ∧ Jx pre W'))

theorem ownFrom_mono {β : Type} {B B' : Nat} {I : β → World → Prop} (h : OwnFrom B I) (hB : B ≤ B') : OwnFrom B' I :=
  fun s X Y row hs hg hr => h s X Y row hs hg fun r e => ⟨Nat.le_trans hB (hr r e).1, (hr r e).2⟩

/-- A loop's record, in block D + 1, and the block D for what its rounds defer. -/
def Book (D : Nat) (r : Loop) (W : World) : Prop := W.heap[D + 1]? = some (.loop r) ∧ W.heap[D]? = some (.deferred (some []))
theorem book_lt {D : Nat} {r : Loop} {X : World} (h : Book D r X) : D + 1 < X.heap.size := (Array.getElem?_eq_some_iff.1 h.1).1
theorem book_own {β : Type} (D : Nat) (r : Loop) : OwnFrom (D + 2) (fun (_ : β) W => Book D r W) := by
  intro _ X Y row hs hg hr
  have hlt := book_lt hs
  have far : ∀ k, k < D + 2 → some k ≠ row := fun k hk e => by have := (hr k e.symm).1; omega
  exact ⟨(hg.block _ hlt (far _ (by omega))).trans hs.1, (hg.block _ (by omega) (far _ (by omega))).trans hs.2⟩
theorem book_keeps {D : Nat} {r : Loop} {X Y : World} (h : Book D r X) (k : KeepsFrom D X Y) : Book D r Y := ⟨k.same _ _ (by omega) h.1 rfl, k.same _ _ (Nat.le_refl _) h.2 rfl⟩
theorem book_put {D : Nat} {r : Loop} {X : World} (h : Book D r X) (r' : Loop) : Book D r' (X.putObj (D + 1) (.loop r')) :=
  ⟨World.putObj_heap_same (book_lt h), (World.putObj_heap_other (by omega)).trans h.2⟩
theorem keeps_put (X : World) (D : Nat) (o : Obj) : KeepsFrom (D + 2) X (X.putObj (D + 1) o) := KeepsFrom.of_grownBy (grownBy_putObj' _ _ _) fun j e => by cases e; omega
theorem keepsFrom_mono {B B' : Nat} {X Y : World} (h : KeepsFrom B X Y) (hB : B ≤ B') : KeepsFrom B' X Y := ⟨h.size, fun k o hk => h.same k o (Nat.le_trans hB hk)⟩

abbrev bookOf (fn : FuncId) (tmps : Array Value) (ps : Array Tmp) (assign body : Code) (D : Nat) (st : LoopState) (pe : Option Code) : Loop :=
  { state := st, pending := pe, fn := fn, tmps := tmps, params := ps, assign := assign, body := body, defers := D }

theorem wpIn_range_nest {α : Type} {g : Operand} {ps : Array Tmp} {assign body : Code} {Q : Exit → Act → World → Prop} {a : Act} {w : World}
    (hro : F.round = none) (h1 : 1 ≤ n) {gf : Nat} {lb : Array Value} (hg : a.eval g = .func (.func gf) #[] lb) (hF : F.fn gf) (enters : ∀ args w, (callFunc gf args).run P w = .ok (.enter gf args) w)
    {encs : α → Array Value} {Kp : World → World → Prop} {S Sp : List α → Prop} {N : Nat} {w0 : World} (hseq : SeqOwn F (n - 1) P gf lb encs Kp S Sp N w0) (hbel : Below w0.heap.size w0 w)
    (hKt : ∀ {A B C : World}, Kp A B → Kp B C → Kp A C)
    (hKb : ∀ (W : World) (o o' : Obj), W.heap[w.heap.size + 1]? = some o → o.isCells = false → o.isWalk = false → Kp W (W.putObj (w.heap.size + 1) o'))
    (hps : ∀ x, (encs x).size = ps.size) (I : List α → World → Prop) (Ix : Code → List α → World → Prop)
    (hI : OwnFrom w.heap.size I) (hIx : ∀ c, OwnFrom w.heap.size (Ix c)) (h0 : I [] w) (a₁ : α → Act)
    (hassign : ∀ (l : Nat) (x : α) (W : World) (K : Act → World → Prop), K (a₁ x) W →
      assign.wpIn (F.inRound l) (n - 1 - 1) P (Exit.then K (fun _ _ _ => False)) { tmps := (ps.zip (encs x)).foldl (fun t (p, v) => t.setIfInBounds p v) a.tmps, defers := [] } W)
    (hbody : ∀ (l : Nat) (pre : List α) (x : α) (W : World), I pre W → pre.length < N → body.wpIn (F.inRound l) (n - 1 - 1) P (ownPostG w.heap.size Kp I Ix (pre ++ [x]) W) (a₁ x) W)
    (hdone : ∀ (D : Nat) (xs : List α) (W : World), w.heap.size ≤ D → S xs → I xs W → W.heap[D]? = some (.deferred (some [])) → Q .normal { a with defers := { target := .collected D, args := #[] } :: a.defers } W)
    (hstop : ∀ (D : Nat) (c : Code) (pre : List α) (W : World), w.heap.size ≤ D → Sp pre → Ix c pre W → W.heap[D]? = some (.deferred (some [])) → c.wpIn F n P Q { a with defers := { target := .collected D, args := #[] } :: a.defers } W) :
    (Code.rangeFunc g ps assign body).wpIn F n P Q a w := by
  refine wpIn_rangeFunc fun fn hfn => ?_
  rw [hro]
  obtain ⟨B, hB⟩ : ∃ B, B = bookOf fn a.tmps ps assign body w.heap.size := ⟨_, rfl⟩
  obtain ⟨W1, hW1⟩ : ∃ W1, (w.alloc (.deferred (some []))).alloc (.loop (B .ready none)) = W1 := ⟨_, rfl⟩
  have hsz : W1.heap.size = w.heap.size + 2 := by rw [← hW1]; simp
  have hbk : Book w.heap.size (B .ready none) W1 := by
    have h := World.alloc_heap_new (w.alloc (.deferred (some []))) (.loop (B .ready none))
    rw [World.size_alloc, hW1] at h
    refine ⟨h, ?_⟩
    rw [← hW1, Below.heap_alloc _ _ _ (by simp)]
    exact World.alloc_heap_new w _
  have hI1 : I [] W1 := by rw [← hW1]; exact hI.alloc _ (hI.alloc _ h0)
  have hbl : Below w0.heap.size w0 W1 := by
    rw [← hW1]
    exact hbel.trans ((((Below.refl _ w).alloc (Nat.le_refl _) _).alloc (by simp) _).mono hbel.size)
  have hown : ∀ I' : List α → World → Prop, OwnFrom w.heap.size I' → OwnFrom W1.heap.size I' := fun _ h => ownFrom_mono h (by omega)
  have hbo : ∀ r, OwnFrom W1.heap.size (fun (_ : List α) W => Book w.heap.size r W) := fun r => by rw [hsz]; exact book_own _ r
  refine ⟨w.heap.size + 1, _, W1, { target := .fn (.func gf) lb, args := #[.func (.yield (w.heap.size + 1)) #[] #[]] }, W1, gf, #[.func (.yield (w.heap.size + 1)) #[] #[]] ++ lb, W1,
    (run_enterLoop_outer _ _ _ _ _).trans (by rw [← hW1, hB]), by simp only [resolve, hg]; simp [go_sem], fun f' hf' => ?_, by simp [invoke, go_sem, enters], fun _ => h1, ?_⟩
  · simp [Target.leads] at hf'
    subst hf'
    exact hF
  refine (hseq (w.heap.size + 1) (fun pre W => I pre W ∧ Book w.heap.size (B .ready none) W) (fun pre W => ∃ c, Ix c pre W ∧ Book w.heap.size (B .done (some c)) W) W1 hbl
    ((hown _ hI).and (hbo _)) (fun s X Y row ⟨c, hc, hk⟩ hg' hr => ⟨c, hown _ (hIx c) s X Y row hc hg' hr, hbo _ s X Y row hk hg' hr⟩) ?round ⟨hI1, hbk⟩).mono ?behind
  case behind =>
    rintro e W2 ⟨⟨v, rfl⟩, ⟨xs, hS, hi, hk⟩ | ⟨pre, hSp, c, hc, hk⟩⟩
    · refine ⟨none, _, (run_endLoop (P := P) hk.1 (by rw [hB]; simp)).trans (by rw [hB]), hdone _ xs _ (Nat.le_refl _) hS (hI.putObj _ hi (by omega) hk.1 rfl) ?_⟩
      exact (World.putObj_heap_other (by omega)).trans hk.2
    · refine ⟨some c, _, (run_endLoop (P := P) hk.1 (by rw [hB]; simp)).trans (by rw [hB]), hstop _ c pre _ (Nat.le_refl _) hSp ((hIx c).putObj _ hc (by omega) hk.1 rfl) ?_⟩
      exact (World.putObj_heap_other (by omega)).trans hk.2
  case round =>
    rintro pre x W ⟨hi, hk⟩ hlen
    have hy := run_yield (P := P) (args := encs x) hk.1 (by rw [hB]; exact hps x)
    rw [hB] at hy
    refine ⟨fn, _, assign, body, hy, roundIn_of_wpIn hfn (hassign _ x W _ ?_)⟩
    have hbusy := book_put hk (B .busy none)
    refine ⟨W.putObj (w.heap.size + 1) (.loop (B .busy none)), (run_beginRound hk.1 (by rw [hB])).trans (by rw [hB]), wpIn_mono (hbody _ pre x _ (hI.putObj _ hi (by omega) hk.1 rfl) hlen) ?_⟩
    have ends : ∀ (jump : Option Code) (W3 : World), KeepsFrom w.heap.size (W.putObj (w.heap.size + 1) (.loop (B .busy none))) W3 →
        (Instr.endRound (w.heap.size + 1) jump).run P W3 = .ok (.bool jump.isNone) (W3.putObj (w.heap.size + 1) (.loop (B (if jump.isNone then .ready else .done) jump))) ∧
        Book w.heap.size (B .busy none) W3 ∧ Book w.heap.size (B (if jump.isNone then .ready else .done) jump) (W3.putObj (w.heap.size + 1) (.loop (B (if jump.isNone then .ready else .done) jump))) ∧
        KeepsFrom W1.heap.size W (W3.putObj (w.heap.size + 1) (.loop (B (if jump.isNone then .ready else .done) jump))) := by
      intro jump W3 hk3
      have h3 := book_keeps hbusy hk3
      refine ⟨(run_endRound (P := P) jump h3.1).trans (by rw [hB]), h3, book_put h3 _, ?_⟩
      rw [hsz]
      exact ((keeps_put _ _ _).trans (keepsFrom_mono hk3 (by omega))).trans (keeps_put _ _ _)
    rintro e a3 W3 hp
    have stops : ∀ c, KeepsFrom w.heap.size (W.putObj (w.heap.size + 1) (.loop (B .busy none))) W3 → Ix c (pre ++ [x]) W3 → ∃ v w', (Instr.endRound (w.heap.size + 1) (some c)).run P W3 = .ok v w' ∧
        (KeepsFrom W1.heap.size W w' ∧ ((Ending.returned v = .returned (.bool true) ∧ (I (pre ++ [x]) w' ∧ Book w.heap.size (B .ready none) w') ∧ Kp W w') ∨
          (Ending.returned v = .returned (.bool false) ∧ ∃ c, Ix c (pre ++ [x]) w' ∧ Book w.heap.size (B .done (some c)) w'))) := by
      intro c hk3 hc
      obtain ⟨hr, h3, h4, h5⟩ := ends (some c) W3 hk3
      exact ⟨_, _, hr, h5, .inr ⟨rfl, c, (hIx c).putObj _ hc (by omega) h3.1 rfl, h4⟩⟩
    cases e with
    | normal =>
      obtain ⟨hk3, hkp, hi3⟩ := hp
      obtain ⟨hr, h3, h4, h5⟩ := ends none W3 hk3
      exact ⟨_, _, hr, h5, .inl ⟨rfl, ⟨hI.putObj _ hi3 (by omega) h3.1 rfl, h4⟩, hKt (hKt (hKb _ _ _ hk.1 rfl rfl) hkp) (hKb _ _ _ h3.1 rfl rfl)⟩⟩
    | ret => exact stops _ hp.1 hp.2
    | exit id => exact stops _ hp.1 hp.2
    | goto t => exact stops _ hp.1 hp.2
    | panic ch => exact hp.elim
    | outgrown => exact hp.elim

end Go.Proofs.YtjijkgmeddeihaaDoor
