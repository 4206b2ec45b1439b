/-
  spec.DrawPolyIn, DrawPolyDerive, DrawPolyAdd, DrawPolyTimes, DrawPolyAt: what they hand back.
-/
import Derived.Test.YtldnipbpjohikabDrawPoly
namespace Go.Proofs.Ytldnipbpjohikab
open Go.RowKit

/-- One list was drawn. -/
def Drew1 (w : World) (e : Ending) (w' : World) : Prop := ∃ v xs, e = .returned v ∧ xs.length ≤ 7 ∧ Ints w' v xs ∧ Below w.heap.size w w'
/-- Two lists were drawn. -/
def Drew2 (w : World) (e : Ending) (w' : World) : Prop := ∃ v u xs ys, e = .returned (.tuple #[v, u]) ∧ xs.length ≤ 7 ∧ ys.length ≤ 7 ∧ Ints w' v xs ∧ Ints w' u ys ∧ Below w.heap.size w w'
/-- A list and a number were drawn. -/
def DrewN (w : World) (e : Ending) (w' : World) : Prop := ∃ v xs x, e = .returned (.tuple #[v, .int .i64 x]) ∧ xs.length ≤ 7 ∧ Ints w' v xs ∧ (-21 ≤ x ∧ x ≤ 21) ∧ Below w.heap.size w w'

theorem rdr_start {w : World} {r M cap : Nat} {A : Option Addr} (hr : w.heap[r]? = some (.cells (rcells A M cap 0) 50 (0, 0))) : Rdr w r M cap A 0 w := ⟨⟨0, Nat.le_refl _, hr⟩, Within.refl _ _ _⟩

set_option maxHeartbeats 1000000 in
theorem drawIn_any (w : World) (A : Option Addr) (L cap : Nat) (hc : L ≤ cap) (hm : L ≤ maxLen) (hx : Code8 w A L) : Calls Try.prog 8 #[.slice A L cap] w (Drew1 w) := by
  have HO := Lib.hid (open_any w A L cap hc hm)
  have HX := Lib.hid hx
  clear hx hm hc
  go_enter Try.func8, Try.ntmps8
  go_wp2_with fail
  refine HO.out.mono ?_
  rintro e w1 ⟨r, M, cap', rfl, hM, hML, hrw, hr, hb1⟩
  have HP := Lib.hid (poly_any w1 r M cap' 0 A (rdr_start hr) ((HX.out.less hML).bytes hb1 r hrw) hM (Array.getElem?_eq_some_iff.1 hr).1 (by omega))
  clear hr
  go_wp2_with fail
  refine HP.out.mono ?_
  rintro e w2 ⟨v, xs, rfl, hl, ho, hrd⟩
  go_wp2
  go_ret
  exact ⟨v, xs, rfl, hl, ints_of_owns ho, Below.within hb1 hrd.2 hrw⟩

set_option maxHeartbeats 1000000 in
theorem drawDerive_any (w : World) (A : Option Addr) (L cap : Nat) (hc : L ≤ cap) (hm : L ≤ maxLen) (hx : Code8 w A L) : Calls Try.prog 19 #[.slice A L cap] w (Drew1 w) := by
  have HO := Lib.hid (open_any w A L cap hc hm)
  have HX := Lib.hid hx
  clear hx hm hc
  go_enter Try.func19, Try.ntmps19
  go_wp2_with fail
  refine HO.out.mono ?_
  rintro e w1 ⟨r, M, cap', rfl, hM, hML, hrw, hr, hb1⟩
  have HP := Lib.hid (poly_any w1 r M cap' 0 A (rdr_start hr) ((HX.out.less hML).bytes hb1 r hrw) hM (Array.getElem?_eq_some_iff.1 hr).1 (by omega))
  clear hr
  go_wp2_with fail
  refine HP.out.mono ?_
  rintro e w2 ⟨v, xs, rfl, hl, ho, hrd⟩
  go_wp2
  go_ret
  exact ⟨v, xs, rfl, hl, ints_of_owns ho, Below.within hb1 hrd.2 hrw⟩

set_option maxHeartbeats 1000000 in
theorem drawAt_any (w : World) (A : Option Addr) (L cap : Nat) (hc : L ≤ cap) (hm : L ≤ maxLen) (hx : Code8 w A L) : Calls Try.prog 22 #[.slice A L cap] w (DrewN w) := by
  have HO := Lib.hid (open_any w A L cap hc hm)
  have HX := Lib.hid hx
  clear hx hm hc
  go_enter Try.func22, Try.ntmps22
  go_wp2_with fail
  refine HO.out.mono ?_
  rintro e w1 ⟨r, M, cap', rfl, hM, hML, hrw, hr, hb1⟩
  have hby := (HX.out.less hML).bytes hb1 r hrw
  have hrl := (Array.getElem?_eq_some_iff.1 hr).1
  have HP := Lib.hid (poly_any w1 r M cap' 0 A (rdr_start hr) hby hM hrl (by omega))
  have HBY := Lib.hid hby
  clear hr hby
  go_wp2_with fail
  refine HP.out.mono ?_
  rintro e w2 ⟨v, xs, rfl, hl, ho, hrd⟩
  go_wp2_with fail
  refine (rdr_pick (m := 43) hrd HBY.out hM (by omega) (by omega) (by omega)).mono ?_
  rintro e w3 ⟨x, hx, rfl, hrd2, hw3⟩
  have ho3 := owns_within ho hw3 hrl
  go_wp2
  go_ret2
  exact ⟨v, xs, (x : Int) - 21, rfl, hl, ints_of_owns ho3, by omega, Below.within hb1 hrd2.2 hrw⟩

set_option maxHeartbeats 1000000 in
theorem polys_any (w : World) (A : Option Addr) (L cap : Nat) (hc : L ≤ cap) (hm : L ≤ maxLen) (hx : Code8 w A L) : Calls Try.prog 30 #[.slice A L cap] w (Drew2 w) := by
  have HO := Lib.hid (open_any w A L cap hc hm)
  have HX := Lib.hid hx
  clear hx hm hc
  go_enter Try.func30, Try.ntmps30
  go_wp2_with fail
  refine HO.out.mono ?_
  rintro e w1 ⟨r, M, cap', rfl, hM, hML, hrw, hr, hb1⟩
  have hby := (HX.out.less hML).bytes hb1 r hrw
  have hrl := (Array.getElem?_eq_some_iff.1 hr).1
  have HP := Lib.hid (poly_any w1 r M cap' 0 A (rdr_start hr) hby hM hrl (by omega))
  have HBY := Lib.hid hby
  clear hr hby
  go_wp2_with fail
  refine HP.out.mono ?_
  rintro e w2 ⟨v, xs, rfl, hl, ho, hrd⟩
  have hr2 : Rdr w2 r M cap' A (0 + 20) w2 := ⟨hrd.1, Within.refl _ _ _⟩
  have hsz := hrd.2.size
  go_wp2_with fail
  refine (poly_any w2 r M cap' (0 + 20) A hr2 (HBY.out.within hrd.2) hM (by omega) (by omega)).mono ?_
  rintro e w3 ⟨u, ys, rfl, hl2, ho2, hrd2⟩
  have ho3 := owns_within ho hrd2.2 hrl
  go_wp2
  go_ret2
  exact ⟨v, u, xs, ys, rfl, hl, hl2, ints_of_owns ho3, ints_of_owns ho2, Below.within hb1 (hrd.2.trans hrd2.2) hrw⟩

set_option maxHeartbeats 1000000 in
theorem drawAdd_any (w : World) (A : Option Addr) (L cap : Nat) (hc : L ≤ cap) (hm : L ≤ maxLen) (hx : Code8 w A L) : Calls Try.prog 13 #[.slice A L cap] w (Drew2 w) := by
  have HO := Lib.hid (polys_any w A L cap hc hm hx)
  clear hx hm hc
  go_enter Try.func13, Try.ntmps13
  go_wp2_with fail
  refine HO.out.mono ?_
  rintro e w1 ⟨v, u, xs, ys, rfl, h⟩
  go_wp2
  go_ret2
  exact ⟨v, u, xs, ys, rfl, h⟩

set_option maxHeartbeats 1000000 in
theorem drawTimes_any (w : World) (A : Option Addr) (L cap : Nat) (hc : L ≤ cap) (hm : L ≤ maxLen) (hx : Code8 w A L) : Calls Try.prog 16 #[.slice A L cap] w (Drew2 w) := by
  have HO := Lib.hid (polys_any w A L cap hc hm hx)
  clear hx hm hc
  go_enter Try.func16, Try.ntmps16
  go_wp2_with fail
  refine HO.out.mono ?_
  rintro e w1 ⟨v, u, xs, ys, rfl, h⟩
  go_wp2
  go_ret2
  exact ⟨v, u, xs, ys, rfl, h⟩

end Go.Proofs.Ytldnipbpjohikab
