/-
  (impl.table).overPairs: the sum over all pairings, by a closure that recurs.
-/
import Derived.Test.YtfcbhcjgjbcjdacDoorMates
import Derived.Test.YtfcbhcjgjbcjdacDoorOrders
namespace Go.Proofs.YtfcbhcjgjbcjdacDoor
set_option linter.unusedVariables false
set_option linter.unusedSimpArgs false
open Go.RowKit Go.Shelf

/-- What the closure that recurs reads. -/
def PairW (n : Nat) (F : Nat → Int) (sg : Int) (tb sb fb : Nat) (W : World) : Prop :=
  W.heap[tb]? = some (.cells (tcells n F) 74 (0, 0)) ∧ Boxed W sb 79 (.int .i64 sg) ∧ Boxed W fb 110 (.func (.func 84) #[] #[.pointer (some ⟨sb, 0, none⟩), .pointer (some ⟨tb, 0, none⟩), .pointer (some ⟨fb, 0, none⟩)])
theorem PairW.below {n : Nat} {F : Nat → Int} {sg : Int} {tb sb fb : Nat} {W W' : World} (h : PairW n F sg tb sb fb W) (hb : Below W.heap.size W W') : PairW n F sg tb sb fb W' :=
  ⟨kept_obj hb h.1, kept_obj hb h.2.1, kept_obj hb h.2.2⟩

set_option maxHeartbeats 400000 in
theorem lowest_in (m : Nat) (hm : m < 256) (h0 : m ≠ 0) (w : World) (hT : Tab w) :
    Calls Tryd.prog 85 #[.int .i64 (m : Int)] w fun e w' => e = .returned (.int .i64 ((lowN m : Nat) : Int)) ∧ w = w' := by
  have H := Lib.hid (tz_any m hm h0 w hT)
  have hw : IntKind.u64.wrap (m : Int) = (m : Int) := by rw [IntKind.wrap_u64]; omega
  clear hT
  go_enter Tryd.func85, Tryd.ntmps85
  go_wp2_with (go_at_call 101; refine H.out.mono ?_; rintro e w' ⟨rfl, rfl⟩)
  go_ret
  exact ⟨rfl, rfl⟩

set_option maxRecDepth 100000 in
set_option maxHeartbeats 2000000 in
theorem pairTerm_any (w : World) (n : Nat) (F : Nat → Int) (sg : Int) (tb sb fb rb lb : Nat) (row left v : Nat) (E : Int) (hS : PairW n F sg tb sb fb w)
    (hr : Boxed w rb 3 (.int .i64 (row : Int))) (hl : Boxed w lb 97 (.int .i64 (left : Int))) (h6 : row < 6) (hv : v < 6) (hm : left < 256)
    (hcall : ∀ W, Below w.heap.size w W → Calls Tryd.prog 84 #[.int .i64 ((wo8 left v : Nat) : Int), .pointer (some ⟨sb, 0, none⟩), .pointer (some ⟨tb, 0, none⟩), .pointer (some ⟨fb, 0, none⟩)] W fun e W' => e = .returned (.int .i64 E) ∧ Below W.heap.size W W')
    (hbd : -4000000000000000 ≤ F (6 * row + v) * E ∧ F (6 * row + v) * E ≤ 4000000000000000) :
    Calls Tryd.prog 88 #[.int .i64 (v : Int), .pointer (some ⟨tb, 0, none⟩), .pointer (some ⟨rb, 0, none⟩), .pointer (some ⟨fb, 0, none⟩), .pointer (some ⟨lb, 0, none⟩)] w fun e W' => e = .returned (.int .i64 (F (6 * row + v) * E)) ∧ Below w.heap.size w W' := by
  have hc := hcall w.drew (Below.drew (Below.refl _ _))
  have hw := wrap_big _ hbd.1 hbd.2
  obtain ⟨f, hf⟩ : ∃ f, F (6 * row + v) = f := ⟨_, rfl⟩
  rw [hf] at hw ⊢
  obtain ⟨p, hp⟩ : ∃ p, f * E = p := ⟨_, rfl⟩
  rw [hp] at hw ⊢
  obtain ⟨x, hx⟩ : ∃ x, wo8 left v = x := ⟨_, rfl⟩
  have hwo := without_any left v hm (by omega) w.drew
  have hx' : left &&& (255 - 2 ^ v) = x := hx
  rw [hx'] at hwo
  rw [hx] at hc
  have q1 : w.drew.cell? ⟨tb, 1 + row * 6 + v, none⟩ = some (.int .i64 f) := by
    have := (table_cells (w := w.drew) hS.1).2.1 (6 * row + v) (by omega)
    rw [show 1 + row * 6 + v = 1 + (6 * row + v) by omega, this, hf]
  have q2 : w.drew.cell? ⟨rb, 0, none⟩ = some (.int .i64 (row : Int)) := hr.cell
  have q3 : w.drew.cell? ⟨lb, 0, none⟩ = some (.int .i64 (left : Int)) := hl.cell
  have q4 : w.drew.cell? ⟨fb, 0, none⟩ = some (.func (.func 84) #[] #[.pointer (some ⟨sb, 0, none⟩), .pointer (some ⟨tb, 0, none⟩), .pointer (some ⟨fb, 0, none⟩)]) := hS.2.2.cell
  have HQ := Lib.hid (And.intro q1 (And.intro q2 (And.intro q3 q4)))
  have HCEL := Lib.hid (fun (w3 : World) (hb3 : Below w.drew.heap.size w.drew w3) => show w3.cell? ⟨tb, 1 + row * 6 + v, none⟩ = some (.int .i64 f) ∧ w3.cell? ⟨rb, 0, none⟩ = some (.int .i64 (row : Int)) ∧ w3.cell? ⟨lb, 0, none⟩ = some (.int .i64 (left : Int)) ∧ w3.cell? ⟨fb, 0, none⟩ = some (.func (.func 84) #[] #[.pointer (some ⟨sb, 0, none⟩), .pointer (some ⟨tb, 0, none⟩), .pointer (some ⟨fb, 0, none⟩)]) from
    ⟨(hb3.cell (World.block_lt_of_cell? _ _ q1)).trans q1, (hb3.cell (World.block_lt_of_cell? _ _ q2)).trans q2, (hb3.cell (World.block_lt_of_cell? _ _ q3)).trans q3, (hb3.cell (World.block_lt_of_cell? _ _ q4)).trans q4⟩)
  have HC := Lib.hid hc
  have HWO := Lib.hid hwo
  have i1 : (0 : Int) ≤ (row : Int) := by omega
  have i2 : (row : Int) < 6 := by omega
  have i3 : (0 : Int) ≤ (v : Int) := by omega
  have i4 : (v : Int) < 6 := by omega
  obtain ⟨hw1, hw2⟩ := hw
  clear hc hwo hcall hbd hS hr hl hx hx' hf h6 hv hm
  go_enter Tryd.func88, Tryd.ntmps88
  go_wp2
  apply once_zero (fun (w' : World) => Below w.heap.size w w')
  case h1 =>
    go_region_held3 (fun w' => w'.cell? ⟨tb, 1 + row * 6 + v, none⟩ = some (.int .i64 f) ∧ w'.cell? ⟨rb, 0, none⟩ = some (.int .i64 (row : Int)) ∧ w'.cell? ⟨lb, 0, none⟩ = some (.int .i64 (left : Int)) ∧ w'.cell? ⟨fb, 0, none⟩ = some (.func (.func 84) #[] #[.pointer (some ⟨sb, 0, none⟩), .pointer (some ⟨tb, 0, none⟩), .pointer (some ⟨fb, 0, none⟩)]))
      (first | exact ⟨q1, q2, q3, q4⟩ | exact HCEL.out w3 hb3)
      (first | (go_at_call 86; refine HWO.out.mono ?_; rintro e w' ⟨rfl, rfl⟩) | (go_at_call 84; refine HC.out.mono ?_; rintro e w3 ⟨rfl, hb3⟩))
    all_goals exact ⟨below_undrew hb3, rfl⟩
  intro w3 hb3
  clear q1 q2 q3 q4
  go_wp2
  go_ret
  exact ⟨rfl, hb3⟩

theorem wo8_six2 {m v u : Nat} (hm : m < 64) : wo8 (wo8 m v) u < 64 := Nat.lt_of_le_of_lt Nat.and_le_left (wo8_six hm)

set_option maxRecDepth 100000 in
set_option maxHeartbeats 2000000 in
theorem pairSum_any (n : Nat) (F : Nat → Int) (hF : ∀ i, -30 ≤ F i ∧ F i ≤ 30) (sg : Int) (hsg : sg = 1 ∨ sg = -1) (tb sb fb : Nat) : ∀ (d : Nat) (w : World) (left : Nat), d ≤ 6 → left < 64 → (bitsOf left).length = d → Tab w → PairW n F sg tb sb fb w →
    Calls Tryd.prog 84 #[.int .i64 (left : Int), .pointer (some ⟨sb, 0, none⟩), .pointer (some ⟨tb, 0, none⟩), .pointer (some ⟨fb, 0, none⟩)] w fun e w' => e = .returned (.int .i64 (mates F sg d left)) ∧ Below w.heap.size w w' := by
  intro d
  induction d using Nat.strongRecOn with
  | ind d ih =>
  intro w left h6 hleft hlen hT hS
  cases d with
  | zero =>
    have h0 : left = 0 := len_zero (by omega) hlen
    subst h0
    clear hT hS hF hsg hlen hleft ih
    go_enter Tryd.func84, Tryd.ntmps84
    go_wp2
    go_ret
    exact ⟨rfl, Below.refl _ _⟩
  | succ d =>
    have hl256 : left < 256 := by omega
    have hne := ne_of_len hlen
    have hne' : ((left : Int) == 0) = false := by
      rw [beq_eq_false_iff_ne]
      omega
    have hrl := rest_len hl256 hlen
    have hlow6 : lowN left < 6 := bits_six ⟨lowN left, lowN_lt left⟩ ⟨left, hleft⟩ (lowN_bit hl256 hne)
    obtain ⟨rest, hrest⟩ : ∃ rest, wo8 left (lowN left) = rest := ⟨_, rfl⟩
    have hr64 : rest < 64 := by rw [← hrest]; exact wo8_six hleft
    obtain ⟨W1, hW1⟩ : ∃ W1, w.alloc (.cells #[.int .i64 ((lowN left : Nat) : Int)] 3) = W1 := ⟨_, rfl⟩
    obtain ⟨W2, hW2⟩ : ∃ W2, W1.alloc (.cells #[.int .i64 (rest : Int)] 97) = W2 := ⟨_, rfl⟩
    have hB1 : Below w.heap.size w W1 := by rw [← hW1]; exact (Below.refl _ _).alloc (Nat.le_refl _) _
    have hs1 : W1.heap.size = w.heap.size + 1 := by rw [← hW1]; simp
    have hB : Below w.heap.size w W2 := by rw [← hW2]; exact hB1.alloc (by omega) _
    have hr1 : Boxed W1 w.heap.size 3 (.int .i64 ((lowN left : Nat) : Int)) := by rw [← hW1]; exact Boxed.new w 3 _
    have hr : Boxed W2 w.heap.size 3 (.int .i64 ((lowN left : Nat) : Int)) := by rw [← hW2]; exact hr1.alloc _
    have hl : Boxed W2 (w.heap.size + 1) 97 (.int .i64 (rest : Int)) := by
      rw [← hW2, ← hs1]
      exact Boxed.new W1 97 (.int .i64 (rest : Int))
    have hS2 := hS.below hB
    have hsum := signSum_any W2 sg hsg rest (by omega) (hT.later hB) 88 #[.pointer (some ⟨tb, 0, none⟩), .pointer (some ⟨w.heap.size, 0, none⟩), .pointer (some ⟨fb, 0, none⟩), .pointer (some ⟨w.heap.size + 1, 0, none⟩)] (mateT F sg d left) 18000000000000 (by decide)
      (enters_of Tryd.func88 (by kernel_rfl) rfl)
      (fun v h8 hb W hW => by
        have hv6 : v < 6 := bits_six ⟨v, h8⟩ ⟨rest, hr64⟩ hb
        have hb' : (wo8 left (lowN left)).testBit v = true := by rw [hrest]; exact hb
        have htb := mateT_bound hF hsg hl256 (show d ≤ 5 by omega) hlen h8 hb'
        unfold mateT at htb ⊢
        rw [hrest] at htb ⊢
        exact pairTerm_any W n F sg tb sb fb w.heap.size (w.heap.size + 1) (lowN left) rest v _ (hS2.below hW) (kept_obj hW hr) (kept_obj hW hl) hlow6 hv6 (by omega)
          (fun W' hW' => ih (d - 1) (by omega) W' (wo8 rest v) (by omega) (by rw [← hrest]; exact wo8_six2 hleft) (by have := wo8_len (show rest < 256 by omega) h8 hb; rw [hrest] at hrl; omega) ((((hT.later hB).later hW)).later hW') ((hS2.below hW).below hW'))
          ⟨by omega, by omega⟩)
      (fun v h8 hb => mateT_bound hF hsg hl256 (show d ≤ 5 by omega) hlen h8 (by rw [hrest]; exact hb))
    have hms := mates_succ F sg hl256 hlen
    rw [hrest] at hms
    have hsum' : Calls Tryd.prog 87 #[.int .i64 sg, .int .i64 (rest : Int), .func (.func 88) #[] #[.pointer (some ⟨tb, 0, none⟩), .pointer (some ⟨w.heap.size, 0, none⟩), .pointer (some ⟨fb, 0, none⟩), .pointer (some ⟨w.heap.size + 1, 0, none⟩)]] W2 fun e w' => e = .returned (.int .i64 (mates F sg (d + 1) left)) ∧ Below W2.heap.size W2 w' := by rw [hms]; exact hsum
    have hlo := lowest_in left hl256 hne w hT
    have hwo := without_any left (lowN left) hl256 (lowN_lt left) W1
    have hwx : left &&& (255 - 2 ^ lowN left) = rest := hrest
    rw [hwx] at hwo
    obtain ⟨E, hE⟩ : ∃ E, mates F sg (d + 1) left = E := ⟨_, rfl⟩
    rw [hE] at hsum' ⊢
    obtain ⟨row, hrow⟩ : ∃ row, lowN left = row := ⟨_, rfl⟩
    rw [hrow] at hlo hwo hr1 hW1
    have q0 : W2.cell? ⟨sb, 0, none⟩ = some (.int .i64 sg) := hS2.2.1.cell
    have q1 : W1.cell? ⟨w.heap.size, 0, none⟩ = some (.int .i64 (row : Int)) := hr1.cell
    have q2 : W2.cell? ⟨w.heap.size + 1, 0, none⟩ = some (.int .i64 (rest : Int)) := hl.cell
    have HSUM := Lib.hid hsum'
    have HLO := Lib.hid hlo
    have HWO := Lib.hid hwo
    have HB := Lib.hid hB
    clear hsum hsum' hB hB1 hr hr1 hl hS2 hT hS hF hsg hlen hleft hl256 hne ih hE hms hlo hwo hwx hrl hlow6 hr64 h6 hrest hrow
    go_enter Tryd.func84, Tryd.ntmps84
    go_wp2_with (first
      | (go_at_call 85; refine HLO.out.mono ?_; rintro e w' ⟨rfl, rfl⟩)
      | (go_at_call 86; refine HWO.out.mono ?_; rintro e w' ⟨rfl, rfl⟩)
      | (go_at_call 87; refine HSUM.out.mono ?_; rintro e w3 ⟨rfl, hb3⟩))
    go_ret
    exact ⟨rfl, step_below HB.out hb3⟩

set_option maxRecDepth 100000 in
set_option maxHeartbeats 2000000 in
theorem overPairs_any (n : Nat) (F : Nat → Int) (hF : ∀ i, -30 ≤ F i ∧ F i ≤ 30) (sg : Int) (hsg : sg = 1 ∨ sg = -1) (h6 : n ≤ 6) (w : World) (hT : Tab w) :
    Calls Tryd.prog 55 #[.agg (tcells n F), .int .i64 sg] w fun e w' => e = .returned (.int .i64 (mates F sg n (2 ^ n - 1))) ∧ Below w.heap.size w w' := by
  obtain ⟨W3, hW3⟩ : ∃ W3, ((w.alloc (.cells (tcells n F) 74)).alloc (.cells #[.int .i64 sg] 79)).alloc (.cells #[.nilFunc] 110) = W3 := ⟨_, rfl⟩
  have k1 : W3.heap[w.heap.size]? = some (.cells (tcells n F) 74 (0, 0)) := by
    rw [← hW3]
    rw [Below.heap_alloc _ _ _ (by simp; omega), Below.heap_alloc _ _ _ (by simp)]
    exact World.alloc_heap_new _ _
  have k2 : Boxed W3 (w.heap.size + 1) 79 (.int .i64 sg) := by
    rw [← hW3]
    have := (Boxed.new (w.alloc (.cells (tcells n F) 74)) 79 (.int .i64 sg)).alloc (.cells #[.nilFunc] 110)
    rwa [World.size_alloc] at this
  have k3 : Boxed W3 (w.heap.size + 1 + 1) 110 .nilFunc := by
    rw [← hW3]
    have := Boxed.new ((w.alloc (.cells (tcells n F) 74)).alloc (.cells #[.int .i64 sg] 79)) 110 .nilFunc
    rwa [World.size_alloc, World.size_alloc] at this
  have hB : Below w.heap.size w W3 := by rw [← hW3]; exact (((Below.refl _ _).alloc (Nat.le_refl _) _).alloc (by simp) _).alloc (by simp; omega) _
  obtain ⟨W4, hW4⟩ : ∃ W4, W3.setCell ⟨w.heap.size + 1 + 1, 0, none⟩ (.func (.func 84) #[] #[.pointer (some ⟨w.heap.size + 1, 0, none⟩), .pointer (some ⟨w.heap.size, 0, none⟩), .pointer (some ⟨w.heap.size + 1 + 1, 0, none⟩)]) = W4 := ⟨_, rfl⟩
  have hS4 : PairW n F sg w.heap.size (w.heap.size + 1) (w.heap.size + 1 + 1) W4 := by
    rw [← hW4]
    refine ⟨?_, ?_, k3.set _⟩
    · rw [Below.heap_setCell _ _ _ _ (by show w.heap.size ≠ w.heap.size + 1 + 1; omega)]; exact k1
    · exact (Below.heap_setCell _ _ _ _ (by show w.heap.size + 1 ≠ w.heap.size + 1 + 1; omega)).trans k2
  have hB4 : Below w.heap.size w W4 := by rw [← hW4]; exact hB.setCell (p := ⟨w.heap.size + 1 + 1, 0, none⟩) (by show w.heap.size ≤ w.heap.size + 1 + 1; omega) _
  have hT4 : Tab W4 := hT.later hB4
  have hc := pairSum_any n F hF sg hsg w.heap.size (w.heap.size + 1) (w.heap.size + 1 + 1) n W4.drew (2 ^ n - 1) h6 (full_lt ⟨n, by omega⟩) (full_len ⟨n, by omega⟩) hT4 hS4
  have hnb := nodesBelow_any n (by omega) W4.drew
  obtain ⟨E, hE⟩ : ∃ E, mates F sg n (2 ^ n - 1) = E := ⟨_, rfl⟩
  rw [hE] at hc ⊢
  obtain ⟨x, hx⟩ : ∃ x, 2 ^ n - 1 = x := ⟨_, rfl⟩
  rw [hx] at hc hnb
  have q1 := k3.cell
  have q2 := k3.frozen
  have q3 : W4.drew.cell? ⟨w.heap.size, 0, none⟩ = some (.int .i64 (n : Int)) := (table_cells (w := W4.drew) hS4.1).1
  have q4 : W4.drew.cell? ⟨w.heap.size + 1 + 1, 0, none⟩ = some (.func (.func 84) #[] #[.pointer (some ⟨w.heap.size + 1, 0, none⟩), .pointer (some ⟨w.heap.size, 0, none⟩), .pointer (some ⟨w.heap.size + 1 + 1, 0, none⟩)]) := hS4.2.2.cell
  have HB := Lib.hid hB4
  have HC := Lib.hid hc
  have HNB := Lib.hid hnb
  have HW4 := Lib.hid hW4
  have HW3 := Lib.hid hW3
  clear hT4 hc hnb hB4 hS4 hB k1 k2 k3 hF hsg hT h6 hE hx hW4
  have HCEL := Lib.hid (fun (w3 : World) (hb3 : Below W4.drew.heap.size W4.drew w3) => show w3.cell? ⟨w.heap.size, 0, none⟩ = some (.int .i64 (n : Int)) ∧ w3.cell? ⟨w.heap.size + 1 + 1, 0, none⟩ = some (.func (.func 84) #[] #[.pointer (some ⟨w.heap.size + 1, 0, none⟩), .pointer (some ⟨w.heap.size, 0, none⟩), .pointer (some ⟨w.heap.size + 1 + 1, 0, none⟩)]) from
    ⟨(hb3.cell (World.block_lt_of_cell? _ _ q3)).trans q3, (hb3.cell (World.block_lt_of_cell? _ _ q4)).trans q4⟩)
  go_enter Tryd.func55, Tryd.ntmps55
  go_wp2
  clear hW3
  rw [HW4.out]
  apply once_zero (fun (w' : World) => Below w.heap.size w w')
  case h1 =>
    go_region_held3 (fun w' => w'.cell? ⟨w.heap.size, 0, none⟩ = some (.int .i64 (n : Int)) ∧ w'.cell? ⟨w.heap.size + 1 + 1, 0, none⟩ = some (.func (.func 84) #[] #[.pointer (some ⟨w.heap.size + 1, 0, none⟩), .pointer (some ⟨w.heap.size, 0, none⟩), .pointer (some ⟨w.heap.size + 1 + 1, 0, none⟩)]))
      (first | exact ⟨q3, q4⟩ | exact HCEL.out w3 hb3)
      (first | (go_at_call 75; refine HNB.out.mono ?_; rintro e w' ⟨rfl, rfl⟩) | (go_at_call 84; refine HC.out.mono ?_; rintro e w3 ⟨rfl, hb3⟩))
    all_goals exact ⟨step_below HB.out (below_undrew hb3), rfl⟩
  intro w3 hb3
  clear q1 q2 q3 q4
  go_wp2
  go_ret
  exact ⟨rfl, hb3⟩

end Go.Proofs.YtfcbhcjgjbcjdacDoor
