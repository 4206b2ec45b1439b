/-
  (impl.table).overOrders: the sum over all orders, by a closure that recurs.
-/
import Derived.Test.YtfcbhcjgjbcjdacDoorExpand
import Derived.Test.YtfcbhcjgjbcjdacDoorFlat
import Derived.Test.YtfcbhcjgjbcjdacDoorOnce
import Derived.Test.YtfcbhcjgjbcjdacDoorKeptObj
import Derived.Test.YtfcbhcjgjbcjdacDoorSets
import Derived.Deep.RegionHeld3
import Derived.Laws.EntriesVeiled
namespace Go.Proofs.YtfcbhcjgjbcjdacDoor
set_option linter.unusedVariables false
set_option linter.unusedSimpArgs false
open Go.RowKit Go.Shelf

/-- What the closure that recurs reads. -/
def SumW (n : Nat) (F : Nat → Int) (sg : Int) (tb sb fb : Nat) (W : World) : Prop :=
  W.heap[tb]? = some (.cells (tcells n F) 74 (0, 0)) ∧ Boxed W sb 79 (.int .i64 sg) ∧ Boxed W fb 114 (.func (.func 91) #[] #[.pointer (some ⟨sb, 0, none⟩), .pointer (some ⟨tb, 0, none⟩), .pointer (some ⟨fb, 0, none⟩)])
theorem SumW.below {n : Nat} {F : Nat → Int} {sg : Int} {tb sb fb : Nat} {W W' : World} (h : SumW n F sg tb sb fb W) (hb : Below W.heap.size W W') : SumW n F sg tb sb fb W' :=
  ⟨kept_obj hb h.1, kept_obj hb h.2.1, kept_obj hb h.2.2⟩

set_option maxRecDepth 100000 in
set_option maxHeartbeats 2000000 in
theorem orderTerm_any (w : World) (n : Nat) (F : Nat → Int) (sg : Int) (tb sb fb rb lb : Nat) (row left v : Nat) (E : Int) (hS : SumW n F sg tb sb fb w)
    (hr : Boxed w rb 3 (.int .i64 (row : Int))) (hl : Boxed w lb 97 (.int .i64 (left : Int))) (h6 : row < 6) (hv : v < 6) (hm : left < 256)
    (hcall : ∀ W, Below w.heap.size w W → Calls Tryd.prog 91 #[.int .i64 ((row + 1 : Nat) : Int), .int .i64 ((wo8 left v : Nat) : Int), .pointer (some ⟨sb, 0, none⟩), .pointer (some ⟨tb, 0, none⟩), .pointer (some ⟨fb, 0, none⟩)] W fun e W' => e = .returned (.int .i64 E) ∧ Below W.heap.size W W')
    (hbd : -4000000000000000 ≤ F (6 * row + v) * E ∧ F (6 * row + v) * E ≤ 4000000000000000) :
    Calls Tryd.prog 92 #[.int .i64 (v : Int), .pointer (some ⟨tb, 0, none⟩), .pointer (some ⟨rb, 0, none⟩), .pointer (some ⟨fb, 0, none⟩), .pointer (some ⟨lb, 0, none⟩)] w fun e W' => e = .returned (.int .i64 (F (6 * row + v) * E)) ∧ Below w.heap.size w W' := by
  have hc := hcall w.drew (Below.drew (Below.refl _ _))
  have hw := wrap_big _ hbd.1 hbd.2
  obtain ⟨f, hf⟩ : ∃ f, F (6 * row + v) = f := ⟨_, rfl⟩
  rw [hf] at hw ⊢
  obtain ⟨p, hp⟩ : ∃ p, f * E = p := ⟨_, rfl⟩
  rw [hp] at hw ⊢
  obtain ⟨x, hx⟩ : ∃ x, wo8 left v = x := ⟨_, rfl⟩
  have hwo := without_any left v hm (by omega) w.drew
  have hx' : left &&& (255 - 2 ^ v) = x := hx
  rw [hx'] at hwo
  rw [hx] at hc
  obtain ⟨r1, hr1⟩ : ∃ r1, row + 1 = r1 := ⟨_, rfl⟩
  have hrw : IntKind.i64.wrap ((row : Int) + 1) = (r1 : Int) := by rw [IntKind.wrap_i64]; omega
  rw [hr1] at hc
  have q1 : w.drew.cell? ⟨tb, 1 + row * 6 + v, none⟩ = some (.int .i64 f) := by
    have := (table_cells (w := w.drew) hS.1).2.1 (6 * row + v) (by omega)
    rw [show 1 + row * 6 + v = 1 + (6 * row + v) by omega, this, hf]
  have q2 : w.drew.cell? ⟨rb, 0, none⟩ = some (.int .i64 (row : Int)) := hr.cell
  have q3 : w.drew.cell? ⟨lb, 0, none⟩ = some (.int .i64 (left : Int)) := hl.cell
  have q4 : w.drew.cell? ⟨fb, 0, none⟩ = some (.func (.func 91) #[] #[.pointer (some ⟨sb, 0, none⟩), .pointer (some ⟨tb, 0, none⟩), .pointer (some ⟨fb, 0, none⟩)]) := hS.2.2.cell
  have HQ := Lib.hid (And.intro q1 (And.intro q2 (And.intro q3 q4)))
  have HCEL := Lib.hid (fun (w3 : World) (hb3 : Below w.drew.heap.size w.drew w3) => show w3.cell? ⟨tb, 1 + row * 6 + v, none⟩ = some (.int .i64 f) ∧ w3.cell? ⟨rb, 0, none⟩ = some (.int .i64 (row : Int)) ∧ w3.cell? ⟨lb, 0, none⟩ = some (.int .i64 (left : Int)) ∧ w3.cell? ⟨fb, 0, none⟩ = some (.func (.func 91) #[] #[.pointer (some ⟨sb, 0, none⟩), .pointer (some ⟨tb, 0, none⟩), .pointer (some ⟨fb, 0, none⟩)]) from
    ⟨(hb3.cell (World.block_lt_of_cell? _ _ q1)).trans q1, (hb3.cell (World.block_lt_of_cell? _ _ q2)).trans q2, (hb3.cell (World.block_lt_of_cell? _ _ q3)).trans q3, (hb3.cell (World.block_lt_of_cell? _ _ q4)).trans q4⟩)
  have HC := Lib.hid hc
  have HWO := Lib.hid hwo
  have i1 : (0 : Int) ≤ (row : Int) := by omega
  have i2 : (row : Int) < 6 := by omega
  have i3 : (0 : Int) ≤ (v : Int) := by omega
  have i4 : (v : Int) < 6 := by omega
  obtain ⟨hw1, hw2⟩ := hw
  clear hc hwo hcall hbd hS hr hl hx hx' hf hr1 h6 hv hm
  go_enter Tryd.func92, Tryd.ntmps92
  go_wp2
  apply once_zero (fun (w' : World) => Below w.heap.size w w')
  case h1 =>
    go_region_held3 (fun w' => w'.cell? ⟨tb, 1 + row * 6 + v, none⟩ = some (.int .i64 f) ∧ w'.cell? ⟨rb, 0, none⟩ = some (.int .i64 (row : Int)) ∧ w'.cell? ⟨lb, 0, none⟩ = some (.int .i64 (left : Int)) ∧ w'.cell? ⟨fb, 0, none⟩ = some (.func (.func 91) #[] #[.pointer (some ⟨sb, 0, none⟩), .pointer (some ⟨tb, 0, none⟩), .pointer (some ⟨fb, 0, none⟩)]))
      (first | exact ⟨q1, q2, q3, q4⟩ | exact HCEL.out w3 hb3)
      (first | (go_at_call 86; refine HWO.out.mono ?_; rintro e w' ⟨rfl, rfl⟩) | (go_at_call 91; refine HC.out.mono ?_; rintro e w3 ⟨rfl, hb3⟩))
    all_goals exact ⟨below_undrew hb3, rfl⟩
  intro w3 hb3
  clear q1 q2 q3 q4
  go_wp2
  go_ret
  exact ⟨rfl, hb3⟩

theorem bits_six : ∀ (v : Fin 8) (m : Fin 64), m.val.testBit v.val = true → v.val < 6 := by decide +kernel
theorem wo8_six {m v : Nat} (hm : m < 64) : wo8 m v < 64 := Nat.lt_of_le_of_lt Nat.and_le_left hm
theorem expand_zero (F : Nat → Int) (sg : Int) (row left : Nat) : expand F sg 0 row left = 1 := rfl
theorem expand_succ (F : Nat → Int) (sg : Int) (d row left : Nat) : expand F sg (d + 1) row left = (sumS sg (fun v => F (6 * row + v) * expand F sg d (row + 1) (wo8 left v)) ((bitsOf left).map Fin.val)).1 := rfl

set_option maxRecDepth 100000 in
set_option maxHeartbeats 2000000 in
theorem orderSum_any (n : Nat) (F : Nat → Int) (hF : ∀ i, -30 ≤ F i ∧ F i ≤ 30) (sg : Int) (hsg : sg = 1 ∨ sg = -1) (tb sb fb : Nat) : ∀ (d : Nat) (w : World) (row left : Nat), row + d ≤ 6 → left < 64 → (bitsOf left).length = d → Tab w → SumW n F sg tb sb fb w →
    Calls Tryd.prog 91 #[.int .i64 (row : Int), .int .i64 (left : Int), .pointer (some ⟨sb, 0, none⟩), .pointer (some ⟨tb, 0, none⟩), .pointer (some ⟨fb, 0, none⟩)] w fun e w' => e = .returned (.int .i64 (expand F sg d row left)) ∧ Below w.heap.size w w' := by
  intro d
  induction d with
  | zero =>
    intro w row left hrd hleft hlen hT hS
    have h0 : left = 0 := len_zero (by omega) hlen
    subst h0
    have hB : Below w.heap.size w ((w.alloc (.cells #[.int .i64 (row : Int)] 3)).alloc (.cells #[.int .i64 ((0 : Nat) : Int)] 97)) := ((Below.refl _ _).alloc (Nat.le_refl _) _).alloc (by simp) _
    have HB := Lib.hid hB
    clear hB hT hS hF hsg hlen hleft hrd
    go_enter Tryd.func91, Tryd.ntmps91
    go_wp2
    go_ret
    exact ⟨rfl, HB.out⟩
  | succ d ih =>
    intro w row left hrd hleft hlen hT hS
    have hne : left ≠ 0 := by
      intro h0
      subst h0
      rw [bitsOf_zero] at hlen
      simp at hlen
    have hne' : ((left : Int) == 0) = false := by
      rw [beq_eq_false_iff_ne]
      omega
    obtain ⟨W2, hW2⟩ : ∃ W2, (w.alloc (.cells #[.int .i64 (row : Int)] 3)).alloc (.cells #[.int .i64 (left : Int)] 97) = W2 := ⟨_, rfl⟩
    have hB : Below w.heap.size w W2 := by rw [← hW2]; exact ((Below.refl _ _).alloc (Nat.le_refl _) _).alloc (by simp) _
    have hr : Boxed W2 w.heap.size 3 (.int .i64 (row : Int)) := by rw [← hW2]; exact (Boxed.new w 3 _).alloc _
    have hl : Boxed W2 (w.heap.size + 1) 97 (.int .i64 (left : Int)) := by
      rw [← hW2]
      have := Boxed.new (w.alloc (.cells #[.int .i64 (row : Int)] 3)) 97 (.int .i64 (left : Int))
      rwa [World.size_alloc] at this
    have hS2 := hS.below hB
    have hsum := signSum_any W2 sg hsg left (by omega) (hT.later hB) 92 #[.pointer (some ⟨tb, 0, none⟩), .pointer (some ⟨w.heap.size, 0, none⟩), .pointer (some ⟨fb, 0, none⟩), .pointer (some ⟨w.heap.size + 1, 0, none⟩)] (fun v => F (6 * row + v) * expand F sg d (row + 1) (wo8 left v)) 18000000000000 (by decide)
      (enters_of Tryd.func92 (by kernel_rfl) rfl)
      (fun v h8 hb W hW => by
        have hv6 : v < 6 := bits_six ⟨v, h8⟩ ⟨left, hleft⟩ hb
        have htb := term_bound hF hsg (row := row) (show left < 256 by omega) (show d ≤ 5 by omega) hlen h8 hb
        exact orderTerm_any W n F sg tb sb fb w.heap.size (w.heap.size + 1) row left v _ (hS2.below hW) (kept_obj hW hr) (kept_obj hW hl) (by omega) hv6 (by omega)
          (fun W' hW' => ih W' (row + 1) (wo8 left v) (by omega) (wo8_six hleft) (by have := wo8_len (show left < 256 by omega) h8 hb; omega) ((((hT.later hB).later hW)).later hW') ((hS2.below hW).below hW'))
          ⟨by omega, by omega⟩)
      (fun v h8 hb => (term_bound hF hsg (row := row) (show left < 256 by omega) (show d ≤ 5 by omega) hlen h8 hb).1)
    rw [← expand_succ] at hsum
    obtain ⟨E, hE⟩ : ∃ E, expand F sg (d + 1) row left = E := ⟨_, rfl⟩
    rw [hE] at hsum ⊢
    have q1 : W2.cell? ⟨sb, 0, none⟩ = some (.int .i64 sg) := hS2.2.1.cell
    have q2 : W2.cell? ⟨w.heap.size + 1, 0, none⟩ = some (.int .i64 (left : Int)) := hl.cell
    have HSUM := Lib.hid hsum
    have HB := Lib.hid hB
    clear hsum hB hr hl hS2 hT hS hF hsg hlen hleft hrd hne ih hE
    go_enter Tryd.func91, Tryd.ntmps91
    go_wp2_with (go_at_call 87; refine HSUM.out.mono ?_; rintro e w3 ⟨rfl, hb3⟩)
    go_ret
    exact ⟨rfl, step_below HB.out hb3⟩

theorem full_len : ∀ n : Fin 7, (bitsOf (2 ^ n.val - 1)).length = n.val := by decide +kernel
theorem full_lt : ∀ n : Fin 7, 2 ^ n.val - 1 < 64 := by decide

set_option maxRecDepth 100000 in
set_option maxHeartbeats 2000000 in
theorem overOrders_any (n : Nat) (F : Nat → Int) (hF : ∀ i, -30 ≤ F i ∧ F i ≤ 30) (sg : Int) (hsg : sg = 1 ∨ sg = -1) (h6 : n ≤ 6) (w : World) (hT : Tab w) :
    Calls Tryd.prog 58 #[.agg (tcells n F), .int .i64 sg] w fun e w' => e = .returned (.int .i64 (expand F sg n 0 (2 ^ n - 1))) ∧ Below w.heap.size w w' := by
  obtain ⟨W3, hW3⟩ : ∃ W3, ((w.alloc (.cells (tcells n F) 74)).alloc (.cells #[.int .i64 sg] 79)).alloc (.cells #[.nilFunc] 114) = W3 := ⟨_, rfl⟩
  have k1 : W3.heap[w.heap.size]? = some (.cells (tcells n F) 74 (0, 0)) := by
    rw [← hW3]
    rw [Below.heap_alloc _ _ _ (by simp; omega), Below.heap_alloc _ _ _ (by simp)]
    exact World.alloc_heap_new _ _
  have k2 : Boxed W3 (w.heap.size + 1) 79 (.int .i64 sg) := by
    rw [← hW3]
    have := (Boxed.new (w.alloc (.cells (tcells n F) 74)) 79 (.int .i64 sg)).alloc (.cells #[.nilFunc] 114)
    rwa [World.size_alloc] at this
  have k3 : Boxed W3 (w.heap.size + 1 + 1) 114 .nilFunc := by
    rw [← hW3]
    have := Boxed.new ((w.alloc (.cells (tcells n F) 74)).alloc (.cells #[.int .i64 sg] 79)) 114 .nilFunc
    rwa [World.size_alloc, World.size_alloc] at this
  have hB : Below w.heap.size w W3 := by rw [← hW3]; exact (((Below.refl _ _).alloc (Nat.le_refl _) _).alloc (by simp) _).alloc (by simp; omega) _
  obtain ⟨W4, hW4⟩ : ∃ W4, W3.setCell ⟨w.heap.size + 1 + 1, 0, none⟩ (.func (.func 91) #[] #[.pointer (some ⟨w.heap.size + 1, 0, none⟩), .pointer (some ⟨w.heap.size, 0, none⟩), .pointer (some ⟨w.heap.size + 1 + 1, 0, none⟩)]) = W4 := ⟨_, rfl⟩
  have hS4 : SumW n F sg w.heap.size (w.heap.size + 1) (w.heap.size + 1 + 1) W4 := by
    rw [← hW4]
    refine ⟨?_, ?_, k3.set _⟩
    · rw [Below.heap_setCell _ _ _ _ (by show w.heap.size ≠ w.heap.size + 1 + 1; omega)]; exact k1
    · exact (Below.heap_setCell _ _ _ _ (by show w.heap.size + 1 ≠ w.heap.size + 1 + 1; omega)).trans k2
  have hB4 : Below w.heap.size w W4 := by rw [← hW4]; exact hB.setCell (p := ⟨w.heap.size + 1 + 1, 0, none⟩) (by show w.heap.size ≤ w.heap.size + 1 + 1; omega) _
  have hT4 : Tab W4 := hT.later hB4
  have hc := orderSum_any n F hF sg hsg w.heap.size (w.heap.size + 1) (w.heap.size + 1 + 1) n W4.drew 0 (2 ^ n - 1) (by omega) (full_lt ⟨n, by omega⟩) (full_len ⟨n, by omega⟩) hT4 hS4
  have hnb := nodesBelow_any n (by omega) W4.drew
  obtain ⟨E, hE⟩ : ∃ E, expand F sg n 0 (2 ^ n - 1) = E := ⟨_, rfl⟩
  rw [hE] at hc ⊢
  obtain ⟨x, hx⟩ : ∃ x, 2 ^ n - 1 = x := ⟨_, rfl⟩
  rw [hx] at hc hnb
  have q1 := k3.cell
  have q2 := k3.frozen
  have q3 : W4.drew.cell? ⟨w.heap.size, 0, none⟩ = some (.int .i64 (n : Int)) := (table_cells (w := W4.drew) hS4.1).1
  have q4 : W4.drew.cell? ⟨w.heap.size + 1 + 1, 0, none⟩ = some (.func (.func 91) #[] #[.pointer (some ⟨w.heap.size + 1, 0, none⟩), .pointer (some ⟨w.heap.size, 0, none⟩), .pointer (some ⟨w.heap.size + 1 + 1, 0, none⟩)]) := hS4.2.2.cell
  have HB := Lib.hid hB4
  have HC := Lib.hid hc
  have HNB := Lib.hid hnb
  have HW4 := Lib.hid hW4
  have HW3 := Lib.hid hW3
  clear hT4 hc hnb hB4 hS4 hB k1 k2 k3 hF hsg hT h6 hE hx hW4
  have HCEL := Lib.hid (fun (w3 : World) (hb3 : Below W4.drew.heap.size W4.drew w3) => show w3.cell? ⟨w.heap.size, 0, none⟩ = some (.int .i64 (n : Int)) ∧ w3.cell? ⟨w.heap.size + 1 + 1, 0, none⟩ = some (.func (.func 91) #[] #[.pointer (some ⟨w.heap.size + 1, 0, none⟩), .pointer (some ⟨w.heap.size, 0, none⟩), .pointer (some ⟨w.heap.size + 1 + 1, 0, none⟩)]) from
    ⟨(hb3.cell (World.block_lt_of_cell? _ _ q3)).trans q3, (hb3.cell (World.block_lt_of_cell? _ _ q4)).trans q4⟩)
  go_enter Tryd.func58, Tryd.ntmps58
  go_wp2
  clear hW3
  rw [HW4.out]
  apply once_zero (fun (w' : World) => Below w.heap.size w w')
  case h1 =>
    go_region_held3 (fun w' => w'.cell? ⟨w.heap.size, 0, none⟩ = some (.int .i64 (n : Int)) ∧ w'.cell? ⟨w.heap.size + 1 + 1, 0, none⟩ = some (.func (.func 91) #[] #[.pointer (some ⟨w.heap.size + 1, 0, none⟩), .pointer (some ⟨w.heap.size, 0, none⟩), .pointer (some ⟨w.heap.size + 1 + 1, 0, none⟩)]))
      (first | exact ⟨q3, q4⟩ | exact HCEL.out w3 hb3)
      (first | (go_at_call 75; refine HNB.out.mono ?_; rintro e w' ⟨rfl, rfl⟩) | (go_at_call 91; refine HC.out.mono ?_; rintro e w3 ⟨rfl, hb3⟩))
    all_goals exact ⟨step_below HB.out (below_undrew hb3), rfl⟩
  intro w3 hb3
  clear q1 q2 q3 q4
  go_wp2
  go_ret
  exact ⟨rfl, hb3⟩

end Go.Proofs.YtfcbhcjgjbcjdacDoor
