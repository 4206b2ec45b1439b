/-
  slices.Clone of a slice of integers: a new slice with the same ones.
-/
import Derived.Test.YtjijkgmeddeihaaDoorBase
import Derived.Test.YtjijkgmeddeihaaDoorSpan
import Derived.Maps.AppendAt
namespace Go.Proofs.YtjijkgmeddeihaaDoor
set_option linter.unusedVariables false
set_option linter.unusedSimpArgs false
open Go.RowKit

theorem addr_add_off (b off j : Nat) : (⟨b, off, none⟩ : Addr).add j = ⟨b, off + j, none⟩ := by unfold Addr.add; split <;> simp_all

set_option maxRecDepth 100000 in
set_option maxHeartbeats 2000000 in
theorem clone_at (w : World) (b off c : Nat) (xs : List Int) (h : Ints w (.slice (some ⟨b, off, none⟩) xs.length c) xs) (hn : xs.length ≤ 1000) :
    Calls Tryd.prog 38 #[.slice (some ⟨b, off, none⟩) xs.length c] w fun e w' => ∃ v, e = .returned v ∧ Below w.heap.size w w' ∧ Owns w' w.heap.size v xs := by
  obtain ⟨i0, hi, hz0, hz1, hz2⟩ := info_parts infoInt
  obtain ⟨A, cap, e, hm, hc⟩ := h
  obtain ⟨rfl, rfl⟩ : some ⟨b, off, none⟩ = A ∧ c = cap := by simpa using e
  have HC := Lib.hid hc
  clear hc e
  have q22 : ∀ (w : World) (a : Option Addr) (n c n' c' : Nat), (binOp .eql 22 (.slice a n c) (.slice none n' c')).run Tryd.prog w = .ok (.bool a.isNone) w := fun w a n c n' c' => Lib.run_eql_slice_nil w _ _ a n c n' c' Tryd.underlying22
  go_enter Tryd.func38, Tryd.ntmps38
  go_wp2_with (at_builtin; refine wpList_append_own _ rfl _ _ 22 rfl w.heap.size 3 i0 (.int .i64 0) 1 8 Tryd.underlying22 hi hz0 hz1 hz2 rfl (by decide) _ _ _ rfl (World.ownsRow_made w #[] 0 (Nat.le_refl _) (Nat.zero_le _) rfl) ⟨b, off, none⟩ xs.length c (vals xs) rfl ?qc1 ?qc2 ?qc3 ?qc4 ?qc5 ?qc6 ?_)
  case qc1 => simp
  case qc2 =>
    intro j u hj
    obtain ⟨hjl, rfl⟩ := List.getElem?_eq_some_iff.1 hj
    have hjx : j < xs.length := by simpa using hjl
    obtain ⟨b', off', e1, hcell⟩ := HC.out j hjx
    obtain ⟨rfl, rfl⟩ : b = b' ∧ off = off' := by simpa using e1
    rw [addr_add_off]
    refine Lib.cell?_alloc_some _ ?_
    simpa using hcell
  case qc3 => intro u hu; obtain ⟨x, _, rfl⟩ := List.mem_map.1 hu; rfl
  case qc4 => unfold maxLen; omega
  case qc5 => omega
  case qc6 => simp
  intro v' w1 hown hgrow hnil
  go_wp2
  have hw1 : Below w.heap.size w w1 := ((Below.refl _ w).alloc (Nat.le_refl _) _).grown hgrow (by simp) (by intro k hk; simp [Value.ownBlock] at hk; omega)
  go_ret
  exact ⟨v', rfl, hw1, by simpa [Owns] using hown⟩

end Go.Proofs.YtjijkgmeddeihaaDoor
