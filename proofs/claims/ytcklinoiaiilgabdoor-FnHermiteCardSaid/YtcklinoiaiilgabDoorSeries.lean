/-
  impl.series, wayPoly: the polynomials of ways and of full graphs, made one behind the other.
-/
import Derived.Test.YtcklinoiaiilgabDoorImplPoly
import Derived.Test.YtcklinoiaiilgabDoorSets
import Derived.Deep.RegionLaw
namespace Go.Proofs.YtcklinoiaiilgabDoor
set_option linter.unusedVariables false
set_option linter.unusedSimpArgs false
open Go.RowKit

/-- The numbers of the next polynomial. -/
def nxt (c : Int) (l a : List Int) (k : Nat) : Int := (if k = 0 then 0 else co l (k - 1)) - c * co a k
/-- Two polynomials of the series, one behind the other. -/
def chP (t : Nat → Int) : Nat → List Int × List Int
  | 0 => ([], [1])
  | i + 1 => ((chP t i).2, tab (i + 2) (nxt (t i) (chP t i).2 (chP t i).1))
/-- What makes a series fit. -/
def serOk (t : Nat → Int) (i : Nat) : Bool :=
  within 100000 (chP t i).1 && within 100000 (chP t i).2 && decide (trim (chP t (i + 1)).2 = (chP t (i + 1)).2) && decide (0 ≤ t i ∧ t i ≤ 12)

theorem series1_enter (args : Array Value) (W : World) : (callFunc 115 args).run Tryd.prog W = .ok (.enter 115 args) W := by go_simp
set_option maxHeartbeats 2000000 in
theorem series1_any (D : FuncId) (i : Nat) (c : Int) (hE : ∀ args W, (callFunc D args).run Tryd.prog W = .ok (.enter D args) W)
    (hD : ∀ W, Calls Tryd.prog D #[.int .i64 (i : Int)] W fun e W' => e = .returned (.int .i64 c) ∧ W = W') (hc : 0 ≤ c ∧ c ≤ 12)
    (vl va : Value) (l a : List Int) (hl : within 100000 l = true) (ha : within 100000 a = true) (k : Nat) (hk : k ≤ 1000) (Bl Bt Bi Ba : Nat) (w : World)
    (cl : w.cell? ⟨Bl, 0, none⟩ = some vl) (ct : w.cell? ⟨Bt, 0, none⟩ = some (.func (.func D) #[] #[])) (ci : w.cell? ⟨Bi, 0, none⟩ = some (.int .i64 (i : Int))) (ca : w.cell? ⟨Ba, 0, none⟩ = some va)
    (il : Ints w vl l) (ia : Ints w va a) :
    Calls Tryd.prog 115 #[.int .i64 (k : Int), .pointer (some ⟨Bl, 0, none⟩), .pointer (some ⟨Bt, 0, none⟩), .pointer (some ⟨Bi, 0, none⟩), .pointer (some ⟨Ba, 0, none⟩)] w fun e w' =>
      e = .returned (.int .i64 (nxt c l a k)) ∧ ∃ n, w' = w.drewN n := by
  obtain ⟨x, hx⟩ : ∃ x, (if k = 0 then 0 else co l (k - 1)) = x := ⟨_, rfl⟩
  obtain ⟨y, hy⟩ : ∃ y, co a k = y := ⟨_, rfl⟩
  have hL : ∀ W, Ints W vl l → Calls Tryd.prog 116 #[vl, .int .i64 ((k : Int) - 1)] W fun e w' => e = .returned (.int .i64 x) ∧ W = w' := by
    intro W h
    rw [← hx]
    by_cases h0 : k = 0
    · rw [if_pos h0]; exact of_neg W vl l h _ (by omega)
    · rw [if_neg h0]
      have e : (k : Int) - 1 = ((k - 1 : Nat) : Int) := by omega
      rw [e]; exact of_nat W vl l h _ (by omega)
  have hA : ∀ W, Ints W va a → Calls Tryd.prog 116 #[va, .int .i64 (k : Int)] W fun e w' => e = .returned (.int .i64 y) ∧ W = w' := by
    intro W h
    rw [← hy]; exact of_nat W va a h k (by omega)
  have hr : nxt c l a k = x - c * y := by unfold nxt; rw [hx, hy]
  have bx : -100000 ≤ x ∧ x ≤ 100000 := by
    rw [← hx]
    split
    · omega
    · exact within_co hl (by omega) _
  have by' : -100000 ≤ y ∧ y ≤ 100000 := by rw [← hy]; exact within_co ha (by omega) _
  obtain ⟨m1, m2⟩ := mul_bound (a := c) (b := y) (x := 12) (y := 100000) (by omega) by'
  have b0 : IntKind.i64.wrap ((k : Int) - 1) = (k : Int) - 1 := IntWalk.i64_in _ (by omega)
  have b1 : IntKind.i64.wrap (c * y) = c * y := IntWalk.i64_in _ (by omega)
  have b2 : IntKind.i64.wrap (x - c * y) = x - c * y := IntWalk.i64_in _ (by omega)
  rw [hr]
  have c0 := (wrap_eq _).symm.trans b0
  have c1 := (wrap_eq _).symm.trans b1
  have c2 := (wrap_eq _).symm.trans b2
  have HL := Lib.hid hL
  have HA := Lib.hid hA
  have HD := Lib.hid hD
  have IL := Lib.hid il
  have IA := Lib.hid ia
  clear hL hA hD il ia hx hy hr bx by' hl ha hc
  go_enter Tryd.func115, Tryd.ntmps115
  go_wp2
  go_quiet ((first
    | (go_at_call 116; with_reducible exact still (HL.out _ (IL.out.drewN _)))
    | (go_at_call 116; with_reducible exact still (HA.out _ (IA.out.drewN _)))
    | with_reducible exact still (HD.out _)))
  go_wp2
  go_ret
  exact ⟨rfl, _, rfl⟩

/-- How the loop stands: the boxes of times, ahead and last, and what they hold. -/
def Ser (w : World) (D : FuncId) (t : Nat → Int) (k : Nat) (wr : World) : Prop :=
  ∃ va vl, Below w.heap.size w wr ∧ w.heap.size + 5 ≤ wr.heap.size ∧ wr.heap[w.heap.size]? = some (.cells #[.func (.func D) #[] #[]] 37 (0, 0)) ∧
    wr.heap[w.heap.size + 1 + 1 + 1]? = some (.cells #[va] 44 (0, 0)) ∧ wr.heap[w.heap.size + 1 + 1 + 1 + 1]? = some (.cells #[vl] 44 (0, 0)) ∧
    Owns wr w.heap.size va (chP t k).1 ∧ Owns wr w.heap.size vl (chP t k).2 ∧
    (∀ g, va.ownBlock = some g → g ≠ w.heap.size + 1 + 1 + 1 ∧ g ≠ w.heap.size + 1 + 1 + 1 + 1) ∧ (∀ g, vl.ownBlock = some g → g ≠ w.heap.size + 1 + 1 + 1 ∧ g ≠ w.heap.size + 1 + 1 + 1 + 1)

/-- The blocks with which a series begins. -/
abbrev serWorld (w : World) (D : FuncId) : World :=
  ((((w.alloc (.cells #[.func (.func D) #[] #[]] 37)).alloc (.cells #[] 3)).alloc (.cells #[.int .i64 1] 3)).alloc (.cells #[.slice (some ⟨w.heap.size + 1, 0, none⟩) 0 0] 44)).alloc (.cells #[.slice (some ⟨w.heap.size + 1 + 1, 0, none⟩) 1 1] 44)
theorem ser_start (w : World) (D : FuncId) (t : Nat → Int) : Ser w D t 0 (serWorld w D) := by
  have hb0 : Below w.heap.size w (w.alloc (.cells #[.func (.func D) #[] #[]] 37)) := (Below.refl _ _).alloc (Nat.le_refl _) _
  have hb1 := hb0.alloc (o := .cells #[] 3) hb0.size
  have hb2 := hb1.alloc (o := .cells #[.int .i64 1] 3) hb1.size
  have hb3 := hb2.alloc (o := .cells #[.slice (some ⟨w.heap.size + 1, 0, none⟩) 0 0] 44) hb2.size
  have hb4 := hb3.alloc (o := .cells #[.slice (some ⟨w.heap.size + 1 + 1, 0, none⟩) 1 1] 44) hb3.size
  have oa : Owns ((w.alloc (.cells #[.func (.func D) #[] #[]] 37)).alloc (.cells #[] 3)) w.heap.size (.slice (some ⟨w.heap.size + 1, 0, none⟩) 0 0) [] := by
    have := World.ownsRow_lit (base := w.heap.size) (e := 3) (size := 1) (w.alloc (.cells #[.func (.func D) #[] #[]] 37)) #[] 0 hb0.size (by simp [maxLen]) rfl
    have hs1 : (w.alloc (.cells #[.func (.func D) #[] #[]] 37)).heap.size = w.heap.size + 1 := by simp
    rw [hs1] at this
    exact this
  have ol : Owns (((w.alloc (.cells #[.func (.func D) #[] #[]] 37)).alloc (.cells #[] 3)).alloc (.cells #[.int .i64 1] 3)) w.heap.size (.slice (some ⟨w.heap.size + 1 + 1, 0, none⟩) 1 1) [1] := by
    have := World.ownsRow_lit (base := w.heap.size) (e := 3) (size := 1) ((w.alloc (.cells #[.func (.func D) #[] #[]] 37)).alloc (.cells #[] 3)) #[.int .i64 1] 1 hb1.size (by simp [maxLen]) rfl
    have hs2 : ((w.alloc (.cells #[.func (.func D) #[] #[]] 37)).alloc (.cells #[] 3)).heap.size = w.heap.size + 1 + 1 := by simp
    rw [hs2] at this
    exact this
  refine ⟨.slice (some ⟨w.heap.size + 1, 0, none⟩) 0 0, .slice (some ⟨w.heap.size + 1 + 1, 0, none⟩) 1 1, hb4, by simp, ?_, ?_, ?_, ?_, ?_, ?_, ?_⟩
  · rw [Below.heap_alloc _ _ _ (by simp; omega), Below.heap_alloc _ _ _ (by simp; omega), Below.heap_alloc _ _ _ (by simp; omega), Below.heap_alloc _ _ _ (by simp)]
    exact World.alloc_heap_new _ _
  · rw [Below.heap_alloc _ _ _ (by simp)]
    have e : w.heap.size + 1 + 1 + 1 = (((w.alloc (.cells #[.func (.func D) #[] #[]] 37)).alloc (.cells #[] 3)).alloc (.cells #[.int .i64 1] 3)).heap.size := by simp
    rw [e]
    exact World.alloc_heap_new _ _
  · have e : w.heap.size + 1 + 1 + 1 + 1 = ((((w.alloc (.cells #[.func (.func D) #[] #[]] 37)).alloc (.cells #[] 3)).alloc (.cells #[.int .i64 1] 3)).alloc (.cells #[.slice (some ⟨w.heap.size + 1, 0, none⟩) 0 0] 44)).heap.size := by simp
    rw [e]
    exact World.alloc_heap_new _ _
  · exact ((World.ownsRow.alloc oa _).alloc _).alloc _
  · exact (World.ownsRow.alloc ol _).alloc _
  · intro g hg; simp [Value.ownBlock] at hg; omega
  · intro g hg; simp [Value.ownBlock] at hg; omega

theorem ser_next (w : World) (D : FuncId) (t : Nat → Int) (k : Nat) (hk : k ≤ 20) (hE : ∀ args W, (callFunc D args).run Tryd.prog W = .ok (.enter D args) W)
    (hD : ∀ W, Calls Tryd.prog D #[.int .i64 (k : Int)] W fun e W' => e = .returned (.int .i64 (t k)) ∧ W = W') (hok : serOk t k = true) (wr : World) (va vl : Value)
    (ht : wr.heap[w.heap.size]? = some (.cells #[.func (.func D) #[] #[]] 37 (0, 0))) (ha : wr.heap[w.heap.size + 1 + 1 + 1]? = some (.cells #[va] 44 (0, 0))) (hl : wr.heap[w.heap.size + 1 + 1 + 1 + 1]? = some (.cells #[vl] 44 (0, 0)))
    (ia : Ints wr va (chP t k).1) (il : Ints wr vl (chP t k).2) :
    Calls Tryd.prog 114 #[.int .i64 ((k : Int) + 2), .func (.func 115) #[] #[.pointer (some ⟨w.heap.size + 1 + 1 + 1 + 1, 0, none⟩), .pointer (some ⟨w.heap.size, 0, none⟩), .pointer (some ⟨wr.heap.size, 0, none⟩), .pointer (some ⟨w.heap.size + 1 + 1 + 1, 0, none⟩)]] (wr.alloc (.cells #[.int .i64 (k : Int)] 3)) fun e w' =>
      ∃ u, e = .returned u ∧ Below wr.heap.size wr w' ∧ wr.heap.size < w'.heap.size ∧ Owns w' (wr.heap.size + 1) u (chP t (k + 1)).2 := by
  have hok' := hok
  unfold serOk at hok'
  simp only [Bool.and_eq_true, decide_eq_true_eq] at hok'
  obtain ⟨⟨⟨wa, wl⟩, htr⟩, hc⟩ := hok'
  have hb0 := box1_below wr (.cells #[.int .i64 (k : Int)] 3)
  have lt1 := (Array.getElem?_eq_some_iff.1 ht).1
  have lt2 := (Array.getElem?_eq_some_iff.1 ha).1
  have lt3 := (Array.getElem?_eq_some_iff.1 hl).1
  have ct : wr.cell? ⟨w.heap.size, 0, none⟩ = some (.func (.func D) #[] #[]) := by rw [cell_of_row _ _ _ _ _ _ ht]; rfl
  have ca : wr.cell? ⟨w.heap.size + 1 + 1 + 1, 0, none⟩ = some va := by rw [cell_of_row _ _ _ _ _ _ ha]; rfl
  have cl : wr.cell? ⟨w.heap.size + 1 + 1 + 1 + 1, 0, none⟩ = some vl := by rw [cell_of_row _ _ _ _ _ _ hl]; rfl
  have ci : (wr.alloc (.cells #[.int .i64 (k : Int)] 3)).cell? ⟨wr.heap.size, 0, none⟩ = some (.int .i64 (k : Int)) := cell_box wr _ _
  have e2 : (k : Int) + 2 = ((k + 2 : Nat) : Int) := by omega
  have hsz : (wr.alloc (.cells #[.int .i64 (k : Int)] 3)).heap.size = wr.heap.size + 1 := by simp
  rw [e2]
  refine (polyOf_nat _ (k + 2) (by omega) _ _ (nxt (t k) (chP t k).2 (chP t k).1) series1_enter ?_).mono ?_
  · intro m W hm hb
    refine (series1_any D k (t k) hE hD hc vl va _ _ wl wa m (by omega) _ _ _ _ W ?_ ?_ ?_ ?_ ((il.below hb0).below hb) ((ia.below hb0).below hb)).mono ?_
    · exact (hb.cell (p := ⟨w.heap.size + 1 + 1 + 1 + 1, 0, none⟩) (by simp only [hsz]; omega)).trans ((hb0.cell (p := ⟨w.heap.size + 1 + 1 + 1 + 1, 0, none⟩) lt3).trans cl)
    · exact (hb.cell (p := ⟨w.heap.size, 0, none⟩) (by simp only [hsz]; omega)).trans ((hb0.cell (p := ⟨w.heap.size, 0, none⟩) lt1).trans ct)
    · exact (hb.cell (p := ⟨wr.heap.size, 0, none⟩) (by simp only [hsz]; omega)).trans ci
    · exact (hb.cell (p := ⟨w.heap.size + 1 + 1 + 1, 0, none⟩) (by simp only [hsz]; omega)).trans ((hb0.cell (p := ⟨w.heap.size + 1 + 1 + 1, 0, none⟩) lt2).trans ca)
    · rintro e w' ⟨rfl, n, rfl⟩
      exact ⟨rfl, below_drewN (Below.refl _ _) n⟩
  · rintro e w' ⟨u, rfl, hb, ho⟩
    rw [hsz] at ho
    have hs := hb.size
    rw [hsz] at hs
    refine ⟨u, rfl, step_below hb0 hb, by omega, ?_⟩
    have e3 : (chP t (k + 1)).2 = trim (tab (k + 2) (nxt (t k) (chP t k).2 (chP t k).1)) := htr.symm
    rw [e3]
    exact ho

theorem owns_slice {w : World} {B : Nat} {v : Value} {xs : List Int} (h : Owns w B v xs) : ∃ A n c, v = .slice A n c := by
  rcases h.2 with ⟨hv, _⟩ | ⟨g, cap, cur, hv, _⟩
  · exact ⟨_, _, _, hv⟩
  · exact ⟨_, _, _, hv⟩

/-- The two boxes are written: the next round's state. -/
theorem ser_step {w wr w1 : World} {D : FuncId} {t : Nat → Int} {k : Nat} {va vl u : Value} (hb : Below w.heap.size w wr) (hsz : w.heap.size + 5 ≤ wr.heap.size)
    (ht : wr.heap[w.heap.size]? = some (.cells #[.func (.func D) #[] #[]] 37 (0, 0))) (ha : wr.heap[w.heap.size + 1 + 1 + 1]? = some (.cells #[va] 44 (0, 0))) (hl : wr.heap[w.heap.size + 1 + 1 + 1 + 1]? = some (.cells #[vl] 44 (0, 0)))
    (ol : Owns wr w.heap.size vl (chP t k).2) (gl : ∀ g, vl.ownBlock = some g → g ≠ w.heap.size + 1 + 1 + 1 ∧ g ≠ w.heap.size + 1 + 1 + 1 + 1)
    (hb1 : Below wr.heap.size wr w1) (ou : Owns w1 (wr.heap.size + 1) u (chP t (k + 1)).2) :
    Ser w D t (k + 1) ((w1.setCell ⟨w.heap.size + 1 + 1 + 1, 0, none⟩ vl).setCell ⟨w.heap.size + 1 + 1 + 1 + 1, 0, none⟩ u) := by
  have ht1 := (hb1.block _ (by omega)).trans ht
  have ha1 := (hb1.block _ (by omega)).trans ha
  have hl1 := (hb1.block _ (by omega)).trans hl
  have g1 := grown_setCell w1 (w.heap.size + 1 + 1 + 1) 0 vl
  have g2 := grown_setCell (w1.setCell ⟨w.heap.size + 1 + 1 + 1, 0, none⟩ vl) (w.heap.size + 1 + 1 + 1 + 1) 0 u
  have gu : ∀ g, u.ownBlock = some g → g ≠ w.heap.size + 1 + 1 + 1 ∧ g ≠ w.heap.size + 1 + 1 + 1 + 1 := fun g hg => by have := (ou.lt g hg).1; omega
  have hsz1 := hb1.size
  have n1 : ∀ {v : Value}, (∀ g, v.ownBlock = some g → g ≠ w.heap.size + 1 + 1 + 1 ∧ g ≠ w.heap.size + 1 + 1 + 1 + 1) → (v.ownBlock = none ∨ v.ownBlock ≠ some (w.heap.size + 1 + 1 + 1)) ∧ (v.ownBlock = none ∨ v.ownBlock ≠ some (w.heap.size + 1 + 1 + 1 + 1)) := by
    intro v h
    cases hv : v.ownBlock with
    | none => exact ⟨.inl rfl, .inl rfl⟩
    | some g => have := h g hv; exact ⟨.inr (by simpa using this.1), .inr (by simpa using this.2)⟩
  refine ⟨vl, u, ?_, ?_, ?_, ?_, ?_, ?_, ?_, gl, gu⟩
  · exact ((step_below hb hb1).setCell (p := ⟨w.heap.size + 1 + 1 + 1, 0, none⟩) (by simp; omega) _).setCell (p := ⟨w.heap.size + 1 + 1 + 1 + 1, 0, none⟩) (by simp; omega) _
  · simp [World.setCell]; omega
  · rw [Below.heap_setCell _ _ _ _ (by simp; omega), Below.heap_setCell _ _ _ _ (by simp; omega)]; exact ht1
  · rw [Below.heap_setCell _ _ _ _ (by simp)]; exact heap_setCell_same w1 _ 0 _ _ _ ha1
  · refine (heap_setCell_same (w1.setCell ⟨w.heap.size + 1 + 1 + 1, 0, none⟩ vl) (w.heap.size + 1 + 1 + 1 + 1) 0 #[vl] 44 u ?_)
    rw [Below.heap_setCell _ _ _ _ (by simp)]; exact hl1
  · exact World.ownsRow.kept (World.ownsRow.kept (owns_below ol hb1) g1 (n1 gl).1) g2 (n1 gl).2
  · exact World.ownsRow.kept (World.ownsRow.kept (owns_mono ou (by omega)) g1 (n1 gu).1) g2 (n1 gu).2

set_option maxRecDepth 100000 in
set_option maxHeartbeats 4000000 in
theorem series_any (w : World) (n : Nat) (hn : n ≤ 12) (D : FuncId) (t : Nat → Int) (hE : ∀ args W, (callFunc D args).run Tryd.prog W = .ok (.enter D args) W)
    (hD : ∀ (i : Nat) W, i < n → Calls Tryd.prog D #[.int .i64 (i : Int)] W fun e W' => e = .returned (.int .i64 (t i)) ∧ W = W') (hok : ∀ i, i < n → serOk t i = true) :
    Calls Tryd.prog 63 #[.int .i64 (n : Int), .func (.func D) #[] #[]] w fun e w' => ∃ u, e = .returned u ∧ Below w.heap.size w w' ∧ Owns w' w.heap.size u (chP t n).2 := by
  have HE := Lib.hid hE
  have HD := Lib.hid hD
  have HO := Lib.hid hok
  clear hE hD hok
  go_enter Tryd.func63, Tryd.ntmps63
  go_wp2
  go_loopw [12] (fun i wr => ∃ k : Nat, k ≤ n ∧ i = .int .i64 k ∧ Ser w D t k wr) (fun i _ => n - (intOf i).toNat)
  case atStart => exact ⟨0, by omega, rfl, ser_start w D t⟩
  case round =>
    obtain ⟨k, hk, rfl, hs⟩ := hrel
    obtain ⟨va, vl, hb, hsz, ht, ha, hl, oa, ol, ga, gl⟩ := hs
    obtain ⟨Aa, na, ca0, rfl⟩ := owns_slice oa
    obtain ⟨Al, nl, cl0, rfl⟩ := owns_slice ol
    by_cases hlt : k < n
    · have HB := Lib.hid hb
      have HT := Lib.hid ht
      have HA := Lib.hid ha
      have HL := Lib.hid hl
      have OA := Lib.hid oa
      have OL := Lib.hid ol
      have GA := Lib.hid ga
      have GL := Lib.hid gl
      clear hb ht ha hl oa ol ga gl
      have HN := Lib.hid (ser_next w D t k (by omega) HE.out (fun W => HD.out k W hlt) (HO.out k hlt) wr _ _ HT.out HA.out HL.out (ints_of_owns OA.out) (ints_of_owns OL.out))
      go_wp2_with fail
      refine HN.out.mono ?_
      rintro e w1 ⟨u, rfl, hb1, hsz1, ou⟩
      obtain ⟨Au, nu, cu0, rfl⟩ := owns_slice ou
      have ha1 := (hb1.block _ (by omega)).trans HA.out
      have hl1 := (hb1.block _ (by omega)).trans HL.out
      have ca : w1.cell? ⟨w.heap.size + 1 + 1 + 1, 0, none⟩ = some (.slice Aa na ca0) := by rw [cell_of_row _ _ _ _ _ _ ha1]; rfl
      have cl : w1.cell? ⟨w.heap.size + 1 + 1 + 1 + 1, 0, none⟩ = some (.slice Al nl cl0) := by rw [cell_of_row _ _ _ _ _ _ hl1]; rfl
      have fa := frozen_of_row w1 _ 0 _ _ ha1
      have fl := frozen_of_row w1 _ 0 _ _ hl1
      have HST := Lib.hid (ser_step (D := D) HB.out hsz HT.out HA.out HL.out OL.out GL.out hb1 ou)
      clear ha1 hl1 hb1 ou
      go_wp2
      go_roundw
      case rel => exact ⟨k + 1, by omega, by go_num, HST.out⟩
      case measure => simp [intOf]; omega
    · obtain rfl : k = n := by omega
      have cl : wr.cell? ⟨w.heap.size + 1 + 1 + 1 + 1, 0, none⟩ = some (.slice Al nl cl0) := by rw [cell_of_row _ _ _ _ _ _ hl]; rfl
      have HB := Lib.hid hb
      have OL := Lib.hid ol
      clear hb ht ha hl oa ol ga gl
      go_wp2
      go_ret
      exact ⟨_, rfl, HB.out, OL.out⟩

/-- How many times the one ahead is taken away: in full graphs, in ways. -/
def tFull (i : Nat) : Int := (i : Int)
def tWay (_ : Nat) : Int := 1
theorem full_ok : ∀ i : Fin 12, serOk tFull i.val = true := by decide +kernel
theorem way_ok : ∀ i : Fin 12, serOk tWay i.val = true := by decide +kernel
/-- The last polynomial of a series. -/
def fullP (n : Nat) : List Int := (chP tFull n).2
def wayP (n : Nat) : List Int := (chP tWay n).2
theorem full_poly : ∀ n : Fin 13, okPoly (fullP n.val) = true := by decide +kernel
theorem way_poly : ∀ n : Fin 13, okPoly (wayP n.val) = true ∧ within 100000 (wayP n.val) = true := by decide +kernel

theorem full_poly' {n : Nat} (h : n ≤ 12) : okPoly (fullP n) = true := full_poly ⟨n, by omega⟩
theorem way_poly' {n : Nat} (h : n ≤ 12) : okPoly (wayP n) = true ∧ within 100000 (wayP n) = true := way_poly ⟨n, by omega⟩

theorem wayPoly1_enter (args : Array Value) (W : World) : (callFunc 121 args).run Tryd.prog W = .ok (.enter 121 args) W := by go_simp
set_option maxHeartbeats 400000 in
theorem wayPoly1_any (i : Nat) (W : World) : Calls Tryd.prog 121 #[.int .i64 (i : Int)] W fun e W' => e = .returned (.int .i64 (tWay i)) ∧ W = W' := by
  go_enter Tryd.func121, Tryd.ntmps121
  go_wp2
  go_ret
  exact ⟨rfl, rfl⟩

theorem herm1_enter (args : Array Value) (W : World) : (callFunc 64 args).run Tryd.prog W = .ok (.enter 64 args) W := by go_simp
set_option maxHeartbeats 400000 in
theorem herm1_any (i : Nat) (W : World) : Calls Tryd.prog 64 #[.int .i64 (i : Int)] W fun e W' => e = .returned (.int .i64 (tFull i)) ∧ W = W' := by
  go_enter Tryd.func64, Tryd.ntmps64
  go_wp2
  go_ret
  exact ⟨rfl, rfl⟩

set_option maxHeartbeats 400000 in
theorem wayPoly_any (w : World) (n : Nat) (hn : n ≤ 12) : Calls Tryd.prog 77 #[.int .i64 (n : Int)] w fun e w' => ∃ u, e = .returned u ∧ Below w.heap.size w w' ∧ Owns w' w.heap.size u (wayP n) := by
  have HS := Lib.hid (series_any w n hn _ tWay wayPoly1_enter (fun i W _ => wayPoly1_any i W) (fun i hi => way_ok ⟨i, by omega⟩))
  go_enter Tryd.func77, Tryd.ntmps77
  go_wp2_with fail
  refine HS.out.mono ?_
  rintro e w1 ⟨u, rfl, hb, ho⟩
  go_wp2
  go_ret
  exact ⟨u, rfl, hb, ho⟩

theorem toldList_yes {p : List Int} (h : okPoly p = true) : toldList p = p := by unfold toldList; rw [if_pos h]

set_option maxHeartbeats 1000000 in
theorem implHerm_yes (n : Nat) (hn : n ≤ 12) (w : World) : Calls Tryd.prog 16 #[.int .i64 (n : Int)] w (GivesInts w true (fullP n)) := by
  have HS := Lib.hid (series_any w n hn _ tFull herm1_enter (fun i W _ => herm1_any i W) (fun i hi => full_ok ⟨i, by omega⟩))
  have HO := Lib.hid (full_poly' hn)
  have h1 : ¬ (12 : Int) < (n : Int) := by omega
  go_enter Tryd.func16, Tryd.ntmps16
  go_wp2_with fail
  refine HS.out.mono ?_
  rintro e w1 ⟨u, rfl, hb, ho⟩
  go_wp2_with fail
  refine (toldPoly_any w1 _ _ _ ho).mono ?_
  rintro e w2 ⟨y, rfl, rfl, ho2⟩
  go_wp2
  go_ret2
  refine ⟨y, ?_, hb, ?_⟩
  · rw [show okPoly (chP tFull n).2 = true from HO.out]; rfl
  · rw [toldList_yes (show okPoly (chP tFull n).2 = true from HO.out)] at ho2; exact ho2
set_option maxHeartbeats 1000000 in
theorem implHerm_no (n : Int) (h : n < 0 ∨ 12 < n) (w : World) : Calls Tryd.prog 16 #[.int .i64 n] w (GivesInts w false []) := by
  rcases h with h | h
  · go_enter Tryd.func16, Tryd.ntmps16
    go_wp2
    go_ret2
    exact ⟨_, rfl, Below.refl _ _, World.ownsRow_nil _ _ _ _⟩
  · have h0 : ¬ n < 0 := by omega
    go_enter Tryd.func16, Tryd.ntmps16
    go_wp2
    go_ret2
    exact ⟨_, rfl, Below.refl _ _, World.ownsRow_nil _ _ _ _⟩

set_option maxHeartbeats 1000000 in
theorem implPWay_yes (n : Nat) (hn : n ≤ 12) (w : World) : Calls Tryd.prog 24 #[.int .i64 (n : Int)] w (GivesInts w true (wayP n)) := by
  have HS := Lib.hid (wayPoly_any w n hn)
  have HO := Lib.hid (way_poly' hn).1
  have h1 : ¬ (12 : Int) < (n : Int) := by omega
  go_enter Tryd.func24, Tryd.ntmps24
  go_wp2_with fail
  refine HS.out.mono ?_
  rintro e w1 ⟨u, rfl, hb, ho⟩
  go_wp2_with fail
  refine (toldPoly_any w1 _ _ _ ho).mono ?_
  rintro e w2 ⟨y, rfl, rfl, ho2⟩
  go_wp2
  go_ret2
  refine ⟨y, ?_, hb, ?_⟩
  · rw [HO.out]; rfl
  · rw [toldList_yes HO.out] at ho2; exact ho2
set_option maxHeartbeats 1000000 in
theorem implPWay_no (n : Int) (h : n < 0 ∨ 12 < n) (w : World) : Calls Tryd.prog 24 #[.int .i64 n] w (GivesInts w false []) := by
  rcases h with h | h
  · go_enter Tryd.func24, Tryd.ntmps24
    go_wp2
    go_ret2
    exact ⟨_, rfl, Below.refl _ _, World.ownsRow_nil _ _ _ _⟩
  · have h0 : ¬ n < 0 := by omega
    go_enter Tryd.func24, Tryd.ntmps24
    go_wp2
    go_ret2
    exact ⟨_, rfl, Below.refl _ _, World.ownsRow_nil _ _ _ _⟩

/-- The polynomial of a ring. -/
def ringP (n : Nat) : List Int := trim (tab (max (wayP n).length (wayP (n - 2)).length) fun k => co (wayP n) k - co (wayP (n - 2)) k)
theorem ring_poly : ∀ n : Fin 13, 3 ≤ n.val → okPoly (ringP n.val) = true ∧ (wayP n.val).length ≤ 13 ∧ (wayP (n.val - 2)).length ≤ 13 := by decide +kernel

theorem ring_poly' {n : Nat} (h3 : 3 ≤ n) (h : n ≤ 12) : okPoly (ringP n) = true ∧ (wayP n).length ≤ 13 ∧ (wayP (n - 2)).length ≤ 13 := ring_poly ⟨n, by omega⟩ h3

set_option maxHeartbeats 1000000 in
theorem implPRing_yes (n : Nat) (h3 : 3 ≤ n) (hn : n ≤ 12) (w : World) : Calls Tryd.prog 28 #[.int .i64 (n : Int)] w (GivesInts w true (ringP n)) := by
  have hS2 := fun W => wayPoly_any W (n - 2) (by omega)
  have e2 : ((n - 2 : Nat) : Int) = (n : Int) - 2 := by omega
  rw [e2] at hS2
  have HS := Lib.hid (wayPoly_any w n hn)
  have HS2 := Lib.hid hS2
  obtain ⟨hr, hl1, hl2⟩ := ring_poly' h3 hn
  have HO := Lib.hid hr
  have hw1 := within_mono (way_poly' hn).2 (b := 1000000000000) (by omega)
  have hw2 := within_mono (way_poly' (n := n - 2) (by omega)).2 (b := 1000000000000) (by omega)
  have hm := fun W z1 z2 (a : Ints W z1 (wayP n)) (b : Ints W z2 (wayP (n - 2))) => minus_any z1 z2 (wayP n) (wayP (n - 2)) hw1 hw2 (by omega) (by omega) W a b
  have HM := Lib.hid hm
  have h1 : ¬ (12 : Int) < (n : Int) := by omega
  have h0 : ¬ (n : Int) < 3 := by omega
  clear hm hS2
  clear hw1 hw2 hr hl1 hl2
  go_enter Tryd.func28, Tryd.ntmps28
  go_wp2_with fail
  refine HS.out.mono ?_
  rintro e w1 ⟨u, rfl, hb, ho⟩
  go_wp2_with fail
  refine (HS2.out w1).mono ?_
  rintro e w2 ⟨u2, rfl, hb2, ho2⟩
  go_wp2_with fail
  refine (HM.out w2 _ _ ((ints_of_owns ho).below hb2) (ints_of_owns ho2)).mono ?_
  rintro e w3 ⟨u3, rfl, hb3, ho3⟩
  have hb3' := step_below (step_below hb hb2) hb3
  go_wp2_with fail
  refine (toldPoly_any w3 _ _ _ ho3).mono ?_
  rintro e w4 ⟨y, rfl, rfl, ho4⟩
  go_wp2
  go_ret2
  refine ⟨y, ?_, hb3', ?_⟩
  · rw [show okPoly (trim (tab (max (wayP n).length (wayP (n - 2)).length) fun k => co (wayP n) k - co (wayP (n - 2)) k)) = true from HO.out]; rfl
  · rw [toldList_yes (show okPoly (trim (tab (max (wayP n).length (wayP (n - 2)).length) fun k => co (wayP n) k - co (wayP (n - 2)) k)) = true from HO.out)] at ho4; exact owns_mono ho4 (by have := hb.size; have := hb2.size; omega)
set_option maxHeartbeats 1000000 in
theorem implPRing_no (n : Int) (h : n < 3 ∨ 12 < n) (w : World) : Calls Tryd.prog 28 #[.int .i64 n] w (GivesInts w false []) := by
  rcases h with h | h
  · go_enter Tryd.func28, Tryd.ntmps28
    go_wp2
    go_ret2
    exact ⟨_, rfl, Below.refl _ _, World.ownsRow_nil _ _ _ _⟩
  · have h0 : ¬ n < 3 := by omega
    go_enter Tryd.func28, Tryd.ntmps28
    go_wp2
    go_ret2
    exact ⟨_, rfl, Below.refl _ _, World.ownsRow_nil _ _ _ _⟩

end Go.Proofs.YtcklinoiaiilgabDoor
