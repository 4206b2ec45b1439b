/-
  A range over an iterator that hands out new lists: the body is told what the list is and that it is newer than all that was kept. No stop.
-/
import Derived.Test.YtahilcnmjnjcaaaDoorCompl
namespace Go.Proofs.YtahilcnmjnjcaaaDoor
set_option linter.unusedVariables false
set_option linter.unusedSimpArgs false
open Go.RowKit Go.Shelf

/-- How the body of a round ends: off its end. -/
def roundEnd (B0 : Nat) (I : List (List Int) → World → Prop) (xs : List (List Int)) (W : World) : Exit → Act → World → Prop
  | .normal, _, W' => I xs W' ∧ KeepsU B0 W W'
  | _, _, _ => False
/-- A record of a loop turns, and all else stays. -/
theorem below_putBoth {X Y : World} (h : Below X.heap.size X Y) (r : Nat) (o : Obj) (hr : r < X.heap.size) : Below (X.putObj r o).heap.size (X.putObj r o) (Y.putObj r o) := by
  have hs : (X.putObj r o).heap.size = X.heap.size := by simp [World.putObj]
  refine ⟨h.os, h.tape, h.output, by simp [World.putObj]; exact h.size, fun k hk => ?_⟩
  by_cases e : k = r
  · subst e
    rw [World.putObj_heap_same hr, World.putObj_heap_same (Nat.lt_of_lt_of_le hr h.size)]
  · rw [World.putObj_heap_other e, World.putObj_heap_other e]
    exact h.block k (by omega)
theorem keepsU_put {B0 : Nat} {X Y : World} {r : Nat} {o o1 : Obj} (ht : 1 < r) (hX : X.heap[r]? = some o) (ho : o.isCells = false) (k : KeepsU B0 (X.putObj r o1) Y) : KeepsU B0 X (Y.putObj r o) := by
  have hr : r < X.heap.size := (Array.getElem?_eq_some_iff.1 hX).1
  have hs : (X.putObj r o1).heap.size = X.heap.size := by simp [World.putObj]
  have hsz := k.size
  rw [hs] at hsz
  refine ⟨⟨k.low.os, k.low.tape, k.low.output, by simp [World.putObj]; exact hsz, fun i hi => ?_⟩, fun i c t fr hi h1 h2 => ?_, fun i q hb hi hq => ?_⟩
  · rw [World.putObj_heap_other (by omega), k.low.block i hi, World.putObj_heap_other (by omega)]
  · have hne : i ≠ r := fun e => by subst e; rw [hX] at hi; cases hi; cases ho
    rw [World.putObj_heap_other hne]
    exact k.cells i c t fr ((World.putObj_heap_other hne).trans hi) h1 h2
  · by_cases e : i = r
    · subst e
      rw [hX] at hi
      cases hi
      exact World.putObj_heap_same (by omega)
    · rw [World.putObj_heap_other e]
      exact k.other i q hb ((World.putObj_heap_other e).trans hi) hq

theorem wpIn_range_lists {n : Nat} {g : Operand} {ps : Array Tmp} {assign body : Code} {Q : Exit → Act → World → Prop} {a : Act} {w : World} (h1 : 1 ≤ n) {gf : Nat} {lb : Array Value} (hg : a.eval g = .func (.func gf) #[] lb)
    (eg : ∀ args w, (callFunc gf args).run Tryd.prog w = .ok (.enter gf args) w) (hps : ps.size = 1) (N : Nat) (Good : List Int → Prop) (all : List (List Int)) (I : List (List Int) → World → Prop) (hI : ClosedJ w.heap.size I) (ht : 1 < w.heap.size)
    (hseq : ∀ (l : Nat) (J : List (List Int) → World → Prop) (W1 : World), Below w.heap.size w W1 → ClosedJ W1.heap.size J → Takes l w.heap.size W1.heap.size N Good J → J [] W1 →
      Calls Tryd.prog gf (#[.func (.yield l) #[] #[]] ++ lb) W1 fun e W' => (∃ v, e = .returned v) ∧ J all W')
    (h0 : I [] w) (a₁ : Value → Act)
    (hassign : ∀ (l : Nat) (v : Value) (W : World) (K : Act → World → Prop), K (a₁ v) W →
      assign.wpIn (Fence.wide.inRound l) (n - 1 - 1) Tryd.prog (Exit.then K (fun _ _ _ => False)) { tmps := (ps.zip #[v]).foldl (fun t (p, v) => t.setIfInBounds p v) a.tmps, defers := [] } W)
    (hbody : ∀ (l : Nat) (pre : List (List Int)) (b c : Nat) (xs : List Int) (wB W : World), I pre wB → pre.length < N → w.heap.size ≤ wB.heap.size → Below wB.heap.size wB W → Owns W wB.heap.size (.slice (some ⟨b, 0, none⟩) xs.length c) xs → Good xs →
      body.wpIn (Fence.wide.inRound l) (n - 1 - 1) Tryd.prog (roundEnd w.heap.size I (pre ++ [xs]) W) (a₁ (.slice (some ⟨b, 0, none⟩) xs.length c)) W)
    (hdone : ∀ (D : Nat) (W : World), w.heap.size ≤ D → I all W → W.heap[D]? = some (.deferred (some [])) → Q .normal { a with defers := { target := .collected D, args := #[] } :: a.defers } W) :
    (Code.rangeFunc g ps assign body).wpIn Fence.wide n Tryd.prog Q a w := by
  refine wpIn_rangeFunc fun fn hfn => ?_
  obtain ⟨rec, hrec⟩ : ∃ rec : LoopState → Loop, rec = fun st => { state := st, pending := none, fn, tmps := a.tmps, params := ps, assign, body, defers := w.heap.size } := ⟨_, rfl⟩
  obtain ⟨r, hr⟩ : ∃ r, r = w.heap.size + 1 := ⟨_, rfl⟩
  obtain ⟨W1, hW1⟩ : ∃ W1, (w.alloc (.deferred (some []))).alloc (.loop (rec .ready)) = W1 := ⟨_, rfl⟩
  have hs1 : W1.heap.size = w.heap.size + 1 + 1 := by rw [← hW1]; simp
  have hL : W1.heap[r]? = some (.loop (rec .ready)) := by
    have := World.alloc_heap_new (w.alloc (.deferred (some []))) (.loop (rec .ready))
    rw [World.size_alloc] at this
    rw [← hW1, hr]; exact this
  have hK : W1.heap[w.heap.size]? = some (.deferred (some [])) := by
    rw [← hW1]; exact (Below.heap_alloc _ _ _ (by simp)).trans (World.alloc_heap_new w _)
  have hb : Below w.heap.size w W1 := by rw [← hW1]; exact ((Below.refl _ _).alloc (Nat.le_refl _) _).alloc (by simp) _
  have hI1 : I [] W1 := hI.below h0 hb
  refine ⟨r, [{ target := .collected w.heap.size, args := #[] }], W1, { target := .fn (.func gf) lb, args := #[.func (.yield r) #[] #[]] }, W1, gf, #[.func (.yield r) #[] #[]] ++ lb, W1, ?_, ?_, ?_, ?_, fun _ => h1, ?_⟩
  · rw [← hW1, hrec, hr]; exact run_enterLoop_outer _ _ _ _ _
  · simp only [resolve, hg]
    simp [go_sem]
  · intro f' _; trivial
  · simp [invoke, go_sem, eg]
  · have hc : ClosedJ W1.heap.size (fun pre W => I pre W ∧ W.heap[r]? = some (.loop (rec .ready)) ∧ W.heap[w.heap.size]? = some (.deferred (some []))) := by
      refine ⟨fun s A B row hs hg' hrw => ⟨hI.own s A B row hs.1 hg' (fun q e => ⟨by have := (hrw q e).1; omega, (hrw q e).2⟩), ?_, ?_⟩, fun s X q u v hs hq hbx => ⟨hI.box s X q u v hs.1 (by omega) hbx, ?_, ?_⟩⟩
      · exact (hg'.block r (Array.getElem?_eq_some_iff.1 hs.2.1).1 (fun e => by have := (hrw r e.symm).1; omega)).trans hs.2.1
      · exact (hg'.block _ (Array.getElem?_eq_some_iff.1 hs.2.2).1 (fun e => by have := (hrw _ e.symm).1; omega)).trans hs.2.2
      · exact (Below.heap_setCell _ _ _ _ (by show r ≠ q; omega)).trans hs.2.1
      · exact (Below.heap_setCell _ _ _ _ (by show w.heap.size ≠ q; omega)).trans hs.2.2
    refine ((callsIn_wide (n := n - 1)).2 (hseq r _ W1 hb hc ?_ ⟨hI1, hL, hK⟩)).mono ?_
    · rintro pre b c xs wB X ⟨hi, hl, hk⟩ hpN hBj hBX hox hgd
      have hrB : r < wB.heap.size := by omega
      have hlX : X.heap[r]? = some (.loop (rec .ready)) := (hBX.block r hrB).trans hl
      have hy := run_yield (P := Tryd.prog) (args := #[.slice (some ⟨b, 0, none⟩) xs.length c]) hlX (by rw [hrec]; exact hps.symm)
      rw [hrec] at hy
      refine ⟨fn, _, assign, body, hy, roundIn_any (n := n - 1 - 1) (roundIn_of_wpIn hfn (hassign _ _ X _ ⟨_, run_beginRound hlX (by rw [hrec]), ?_⟩))⟩
      have hiB : I pre (wB.putObj r (.loop { rec .ready with state := .busy })) := hI.own _ wB _ _ hi (grownBy_putObj' wB r _) (fun q e => by cases e; exact ⟨by omega, _, hl, rfl⟩)
      have hsB : (wB.putObj r (.loop { rec .ready with state := .busy })).heap.size = wB.heap.size := by simp [World.putObj]
      have hbl : (X.putObj r (.loop { rec .ready with state := .busy })).heap[r]? = some (.loop { rec .ready with state := .busy }) := World.putObj_heap_same (Array.getElem?_eq_some_iff.1 hlX).1
      refine wpIn_mono (hbody _ pre b c xs _ _ hiB hpN (by rw [hsB]; omega) (below_putBoth hBX r _ hrB) (by rw [hsB]; exact ownsRow_putObj hox _ hlX rfl) hgd) ?_
      rintro e a3 W3 hp
      cases e with
      | normal =>
        obtain ⟨hi3, hk3⟩ := hp
        have hl3 := hk3.other r _ (by omega) hbl rfl
        have he := run_endRound (P := Tryd.prog) none hl3
        rw [hrec] at he
        have hk4 := keepsU_put (by omega) hlX rfl hk3
        have hd3 : W3.heap[w.heap.size]? = some (.deferred (some [])) := hk3.other _ _ (Nat.le_refl _) ((World.putObj_heap_other (by omega)).trans ((hBX.block _ (by omega)).trans hk)) rfl
        have hi4 : I (pre ++ [xs]) (W3.putObj r (.loop (rec .ready))) := hI.own _ W3 _ _ hi3 (grownBy_putObj' W3 r _) (fun q e => by cases e; exact ⟨by omega, _, hl3, rfl⟩)
        rw [hrec] at hk4 hi4
        refine ⟨_, _, he, rfl, ⟨hi4, ?_, ?_⟩, hk4⟩
        · rw [hrec]; exact World.putObj_heap_same (Array.getElem?_eq_some_iff.1 hl3).1
        · exact (World.putObj_heap_other (by omega)).trans hd3
      | ret => exact hp.elim
      | exit id => exact hp.elim
      | goto t => exact hp.elim
      | panic ch => exact hp.elim
      | outgrown => exact hp.elim
    · rintro e W2 ⟨⟨v, rfl⟩, hi, hl, hk⟩
      have he := run_endLoop (P := Tryd.prog) hl (by rw [hrec]; simp)
      rw [hrec] at he
      refine ⟨none, _, he, ?_⟩
      refine hdone _ _ (Nat.le_refl _) (hI.own _ W2 _ _ hi (grownBy_putObj' W2 r _) (fun q e => by cases e; exact ⟨by omega, _, hl, rfl⟩)) ((World.putObj_heap_other (by omega)).trans hk)

end Go.Proofs.YtahilcnmjnjcaaaDoor
