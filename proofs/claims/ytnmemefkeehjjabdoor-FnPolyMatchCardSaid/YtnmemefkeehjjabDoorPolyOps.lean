/-
  impl.poly[int]: with, plus, minus, times, derived, valueAt: their contracts.
-/
import Derived.Test.YtnmemefkeehjjabDoorPolyOf
import Derived.Deep.QuietTactic
import Derived.BigQuiet
import Derived.IntWalk
namespace Go.Proofs.YtnmemefkeehjjabDoor
set_option linter.unusedVariables false
set_option linter.unusedSimpArgs false
open Go.RowKit

/-- A call that leaves the world alone, met where an order was drawn. -/
theorem still {P : Program} {f : FuncId} {args : Array Value} {w : World} {n : Nat} {v : Value} (h : Calls P f args (w.drewN n) fun e w' => e = .returned v ∧ w.drewN n = w') :
    Calls P f args (w.drewN n) fun e w' => e = .returned v ∧ ∃ m, w' = w.drewN m :=
  h.mono fun _ _ ⟨a, b⟩ => ⟨a, n, b.symm⟩

/-- A number of which sums and differences of two fit. -/
def Small (x : Int) : Prop := -1000000000000 ≤ x ∧ x ≤ 1000000000000

theorem plus1_any (a b : Int) (ha : Small a) (hb : Small b) (w : World) :
    Calls Tryd.prog 72 #[.int .i64 a, .int .i64 b] w fun e w' => e = .returned (.int .i64 (a + b)) ∧ w = w' := by
  obtain ⟨a1, a2⟩ := ha
  obtain ⟨b1, b2⟩ := hb
  go_enter Tryd.func72, Tryd.ntmps72
  go_wp2
  go_ret
  exact ⟨rfl, rfl⟩
theorem plus1_enter (args : Array Value) (W : World) : (callFunc 72 args).run Tryd.prog W = .ok (.enter 72 args) W := by go_simp


theorem with1_enter (args : Array Value) (W : World) : (callFunc 91 args).run Tryd.prog W = .ok (.enter 91 args) W := by go_simp
set_option maxHeartbeats 1000000 in
theorem with1_any (D : FuncId) (op : Int → Int → Int) (hE : ∀ args W, (callFunc D args).run Tryd.prog W = .ok (.enter D args) W)
    (hD : ∀ a b W, Small a → Small b → Calls Tryd.prog D #[.int .i64 a, .int .i64 b] W fun e W' => e = .returned (.int .i64 (op a b)) ∧ W = W')
    (vp vq : Value) (p q : List Int) (hp : within 1000000000000 p = true) (hq : within 1000000000000 q = true) (k : Nat) (hk : k ≤ 1000) (Bd Bp Bq : Nat) (w : World)
    (cd : w.cell? ⟨Bd, 0, none⟩ = some (.func (.func D) #[] #[])) (cp : w.cell? ⟨Bp, 0, none⟩ = some vp) (cq : w.cell? ⟨Bq, 0, none⟩ = some vq) (ip : Ints w vp p) (iq : Ints w vq q) :
    Calls Tryd.prog 91 #[.int .i64 (k : Int), .pointer (some ⟨Bd, 0, none⟩), .pointer (some ⟨Bp, 0, none⟩), .pointer (some ⟨Bq, 0, none⟩)] w fun e w' => e = .returned (.int .i64 (op (co p k) (co q k))) ∧ ∃ n, w' = w.drewN n := by
  have sp : Small (co p k) := within_co hp (by omega) k
  have sq : Small (co q k) := within_co hq (by omega) k
  have HD := Lib.hid (fun W => hD _ _ W sp sq)
  have HP := Lib.hid (fun W (h : Ints W vp p) => of_nat W vp p h k (by omega))
  have HQ := Lib.hid (fun W (h : Ints W vq q) => of_nat W vq q h k (by omega))
  have IP := Lib.hid ip
  have IQ := Lib.hid iq
  clear hD sp sq hp hq ip iq
  go_enter Tryd.func91, Tryd.ntmps91
  go_wp2
  go_quiet ((first
    | (go_at_call 66; with_reducible exact still (HP.out _ (IP.out.drewN _)))
    | (go_at_call 66; with_reducible exact still (HQ.out _ (IQ.out.drewN _)))
    | with_reducible exact still (HD.out _)))
  go_wp2
  go_ret
  exact ⟨rfl, _, rfl⟩

theorem cell_box (w : World) (v : Value) (t : TypeId) : (w.alloc (.cells #[v] t)).cell? ⟨w.heap.size, 0, none⟩ = some v := by go_simp
theorem box_ints {w : World} {v : Value} {xs : List Int} (h : Ints w v xs) (o : Obj) : Ints (w.alloc o) v xs := h.below ((Below.refl _ _).alloc (Nat.le_refl _) _)

/-- The three boxes of with's closure. -/
abbrev boxes3 (w : World) (a b d : Value) : World := ((w.alloc (.cells #[a] 49)).alloc (.cells #[b] 49)).alloc (.cells #[d] 89)
theorem boxes3_cells (w : World) (a b d : Value) : (boxes3 w a b d).cell? ⟨w.heap.size + 1 + 1, 0, none⟩ = some d ∧ (boxes3 w a b d).cell? ⟨w.heap.size, 0, none⟩ = some a ∧ (boxes3 w a b d).cell? ⟨w.heap.size + 1, 0, none⟩ = some b ∧ (boxes3 w a b d).heap.size = w.heap.size + 1 + 1 + 1 := by
  unfold boxes3
  refine ⟨by go_simp, by go_simp, by go_simp, by simp⟩

theorem with_run (D : FuncId) (op : Int → Int → Int) (hE : ∀ args W, (callFunc D args).run Tryd.prog W = .ok (.enter D args) W)
    (hD : ∀ a b W, Small a → Small b → Calls Tryd.prog D #[.int .i64 a, .int .i64 b] W fun e W' => e = .returned (.int .i64 (op a b)) ∧ W = W')
    (vp vq : Value) (p q : List Int) (hp : within 1000000000000 p = true) (hq : within 1000000000000 q = true) (w : World) (ip : Ints w vp p) (iq : Ints w vq q) (m : Nat) (hm : m ≤ 100) :
    Calls Tryd.prog 61 #[.int .i64 (m : Int), .func (.func 91) #[] #[.pointer (some ⟨w.heap.size + 1 + 1, 0, none⟩), .pointer (some ⟨w.heap.size, 0, none⟩), .pointer (some ⟨w.heap.size + 1, 0, none⟩)]] (boxes3 w vp vq (.func (.func D) #[] #[])) fun e w' =>
      ∃ u, e = .returned u ∧ Below w.heap.size w w' ∧ Owns w' w.heap.size u (trim (tab m fun k => op (co p k) (co q k))) := by
  obtain ⟨cd, cp, cq, hsz⟩ := boxes3_cells w vp vq (.func (.func D) #[] #[])
  have hb0 : Below w.heap.size w (boxes3 w vp vq (.func (.func D) #[] #[])) := (((Below.refl _ _).alloc (Nat.le_refl _) _).alloc (by simp) _).alloc (by simp; omega) _
  refine (polyOf_nat _ m hm _ _ (fun k => op (co p k) (co q k)) with1_enter ?_).mono ?_
  · intro k W hk hb
    refine (with1_any D op hE hD vp vq p q hp hq k (by omega) _ _ _ W ?_ ?_ ?_ ((ip.below hb0).below hb) ((iq.below hb0).below hb)).mono ?_
    · exact (hb.cell (p := ⟨w.heap.size + 1 + 1, 0, none⟩) (by simp only [hsz]; omega)).trans cd
    · exact (hb.cell (p := ⟨w.heap.size, 0, none⟩) (by simp only [hsz]; omega)).trans cp
    · exact (hb.cell (p := ⟨w.heap.size + 1, 0, none⟩) (by simp only [hsz]; omega)).trans cq
    · rintro e w' ⟨rfl, n, rfl⟩
      exact ⟨rfl, below_drewN (Below.refl _ _) n⟩
  · rintro e w' ⟨u, rfl, hb, ho⟩
    exact ⟨u, rfl, step_below hb0 hb, owns_mono ho hb0.size⟩

set_option maxHeartbeats 1000000 in
theorem withP_any (D : FuncId) (op : Int → Int → Int) (hE : ∀ args W, (callFunc D args).run Tryd.prog W = .ok (.enter D args) W)
    (hD : ∀ a b W, Small a → Small b → Calls Tryd.prog D #[.int .i64 a, .int .i64 b] W fun e W' => e = .returned (.int .i64 (op a b)) ∧ W = W')
    (vp vq : Value) (p q : List Int) (hp : within 1000000000000 p = true) (hq : within 1000000000000 q = true) (lp : p.length ≤ 50) (lq : q.length ≤ 50) (w : World) (ip : Ints w vp p) (iq : Ints w vq q) :
    Calls Tryd.prog 71 #[vp, vq, .func (.func D) #[] #[]] w fun e w' => ∃ u, e = .returned u ∧ Below w.heap.size w w' ∧ Owns w' w.heap.size u (trim (tab (max p.length q.length) fun k => op (co p k) (co q k))) := by
  have HR := Lib.hid (with_run D op hE hD vp vq p q hp hq w ip iq)
  clear hE hD
  obtain ⟨A, capA, rfl, _, _⟩ := ip
  obtain ⟨B, capB, rfl, _, _⟩ := iq
  by_cases hlt : p.length < q.length
  · have e : max p.length q.length = q.length := by omega
    rw [e]
    clear e
    go_enter Tryd.func71, Tryd.ntmps71
    go_wp2_with fail
    refine (HR.out q.length (by omega)).mono ?_
    rintro e w1 ⟨u, rfl, hb, ho⟩
    go_wp2
    go_ret
    exact ⟨u, rfl, hb, ho⟩
  · have e : max p.length q.length = p.length := by omega
    rw [e]
    clear e
    go_enter Tryd.func71, Tryd.ntmps71
    go_wp2_with fail
    refine (HR.out p.length (by omega)).mono ?_
    rintro e w1 ⟨u, rfl, hb, ho⟩
    go_wp2
    go_ret
    exact ⟨u, rfl, hb, ho⟩

set_option maxHeartbeats 400000 in
theorem plus_any (vp vq : Value) (p q : List Int) (hp : within 1000000000000 p = true) (hq : within 1000000000000 q = true) (lp : p.length ≤ 50) (lq : q.length ≤ 50) (w : World) (ip : Ints w vp p) (iq : Ints w vq q) :
    Calls Tryd.prog 38 #[vp, vq] w fun e w' => ∃ u, e = .returned u ∧ Below w.heap.size w w' ∧ Owns w' w.heap.size u (trim (addL p q)) := by
  have HR := Lib.hid (withP_any _ (· + ·) plus1_enter (fun a b W ha hb => plus1_any a b ha hb W) vp vq p q hp hq lp lq w ip iq)
  clear ip iq
  go_enter Tryd.func38, Tryd.ntmps38
  go_wp2_with fail
  refine HR.out.mono ?_
  rintro e w1 ⟨u, rfl, hb, ho⟩
  go_wp2
  go_ret
  exact ⟨u, rfl, hb, ho⟩


end Go.Proofs.YtnmemefkeehjjabDoor
