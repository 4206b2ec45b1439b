/-
  slices.Grow of nil, slices.Concat of two slices of integers, the second one of one.
-/
import Derived.Test.YtahilcnmjnjcaaaDoorRank1
import Derived.Lib.AppendZeros
namespace Go.Proofs.YtahilcnmjnjcaaaDoor
set_option linter.unusedVariables false
set_option linter.unusedSimpArgs false
open Go.RowKit

set_option maxRecDepth 100000 in
set_option maxHeartbeats 2000000 in
theorem grow_any (w : World) (n : Nat) (h1 : 1 ≤ n) (hn : n ≤ 1000) :
    Calls Tryd.prog 92 #[.slice none 0 0, .int .i64 (n : Int)] w fun e w' => ∃ c, e = .returned (.slice (some ⟨w.heap.size, 0, none⟩) 0 c) ∧ Below w.heap.size w w' ∧ w'.ownsRow w.heap.size 3 1 (.slice (some ⟨w.heap.size, 0, none⟩) 0 c) 0 [] := by
  obtain ⟨i0, hi, hz0, hz1, hz2⟩ := info_parts infoInt
  have hr := fun ty => Lib.run_append_nil_zeros (P := Tryd.prog) w 66 3 ty 3 i0 (.int .i64 0) .i64 .i64 Tryd.underlying66 Tryd.underlying3 hi hz0 n (by omega) (by rw [hz1]; decide) (by omega) (by rw [hz2]; omega)
  obtain ⟨c, hc⟩ : ∃ c, grownCap w n 0 3 = c := ⟨_, rfl⟩
  have hcn : n ≤ c := by rw [← hc]; exact grownCap_ge _ _ _ _
  have hcm : c ≤ maxLen := by rw [← hc]; exact grownCap_le_maxLen _ _ _ _ (by unfold maxLen; omega)
  obtain ⟨cs, hcs⟩ : ∃ cs, Builtin.zeroCells (Value.int .i64 0).cells n ++ Builtin.zeroCells (Value.int .i64 0).cells (grownCap w n 0 3 - n) = cs := ⟨_, rfl⟩
  have hsz : cs.size = c * 1 := by
    rw [← hcs, hc, Array.size_append]
    simp [Builtin.zeroCells, Value.cells]
    omega
  rw [hcs, hc] at hr
  have h2 : ¬ ((n : Int) < 0) := by omega
  have h3 : wrap64 (n : Int) = (n : Int) := by unfold wrap64; omega
  have h4 : (n : Int) > 0 := by omega
  have h5 : (0 : Int) < (n : Int) := by omega
  have HO := Lib.hid (World.ownsRow_made (base := w.heap.size) (e := 3) (size := 1) w.drew cs c (Nat.le_refl _) hcm hsz)
  have HR := Lib.hid hr
  clear hc hcs hsz hcn hi hz0 hz1 hz2 hr
  go_enter Tryd.func92, Tryd.ntmps92
  go_wp2_with (at_builtin; refine Lib.wpList_append_run _ rfl _ _ 66 3 rfl _ _ rfl rfl _ _ (HR.out _) ?_)
  go_ret
  exact ⟨c, rfl, (Below.refl _ _).drew.alloc (Nat.le_refl _) _, HO.out⟩

theorem len_facts {k : Nat} (h : k ≤ 1000) : wrap64 ((k : Int) + 1) = ((k + 1 : Nat) : Int) ∧ wrap64 (k : Int) = (k : Int) ∧ ¬ ((k : Int) < 0) ∧ ¬ (((k + 1 : Nat) : Int) < 0) := by
  refine ⟨by unfold wrap64; omega, by unfold wrap64; omega, by omega, by omega⟩

set_option maxRecDepth 100000 in
set_option maxHeartbeats 2000000 in
/-- Both of them, one behind the other, in a new slice. -/
theorem concat_any (w : World) (q b off c b2 : Nat) (xs : List Int) (x : Int) (h : Ints w (.slice (some ⟨b, off, none⟩) xs.length c) xs) (hn : xs.length ≤ 900) (hq0 : w.cell? ⟨q, 0, none⟩ = some (.slice (some ⟨b, off, none⟩) xs.length c)) (hq1 : w.cell? ⟨q, 1, none⟩ = some (.slice (some ⟨b2, 0, none⟩) 1 1))
    (hx : w.cell? ⟨b2, 0, none⟩ = some (.int .i64 x)) :
    Calls Tryd.prog 84 #[.slice (some ⟨q, 0, none⟩) 2 2] w fun e w' => ∃ g c', e = .returned (.slice (some ⟨g, 0, none⟩) (xs.length + 1) c') ∧ Below w.heap.size w w' ∧ Owns w' w.heap.size (.slice (some ⟨g, 0, none⟩) (xs.length + 1) c') (xs ++ [x]) := by
  obtain ⟨i0, hi, hz0, hz1, hz2⟩ := info_parts infoInt
  obtain ⟨A, cap, e, hm, hc⟩ := h
  obtain ⟨rfl, rfl⟩ : some ⟨b, off, none⟩ = A ∧ c = cap := by simpa using e
  have HC : Hid (∀ j u, (vals xs)[j]? = some u → w.cell? ((⟨b, off, none⟩ : Addr).add j) = some u) := Lib.hid fun j u hj => by
    obtain ⟨hjl, rfl⟩ := List.getElem?_eq_some_iff.1 hj
    have hjx : j < xs.length := by simpa [vals] using hjl
    obtain ⟨b', off', e1, hcell⟩ := hc j hjx
    obtain ⟨rfl, rfl⟩ : b = b' ∧ off = off' := by simpa using e1
    rw [addr_add_off]
    simpa [vals] using hcell
  have HVL : Hid ((vals xs).length = xs.length * 1) := Lib.hid (by simp [vals])
  have HV1 : Hid (∀ u ∈ vals xs, u.oneCell' = true) := Lib.hid (fun u hu => by obtain ⟨y, _, rfl⟩ := List.mem_map.1 hu; rfl)
  have HQ := Lib.hid (And.intro hq0 (And.intro hq1 hx))
  obtain ⟨n, hnn⟩ : ∃ n, xs.length = n := ⟨_, rfl⟩
  have HN := Lib.hid hnn
  have hxe : Hid (vals xs ++ [Value.int .i64 x] = vals (xs ++ [x])) := Lib.hid (by simp [vals])
  rw [hnn] at hn hq0 hm HQ HVL ⊢
  obtain ⟨n1, hn1⟩ : ∃ n1, n + 1 = n1 := ⟨_, rfl⟩
  obtain ⟨lf1, lf2, lf3, lf4⟩ := len_facts (show n ≤ 1000 by omega)
  rw [hn1] at lf1 lf4
  have HG := Lib.hid (grow_any w n1 (by omega) (by omega))
  have HN1 := Lib.hid hn1
  clear hc e hnn
  rw [hn1]
  clear hn1
  go_enter Tryd.func84, Tryd.ntmps84
  go_wp2
  go_loopw [3, 5, 11] (fun sv _ iv wr => ∃ k : Nat, k ≤ 2 ∧ iv = .int .i64 k ∧ sv = .int .i64 (if k = 0 then 0 else if k = 1 then (n : Int) else (n1 : Int)) ∧ wr = w) (fun _ _ iv _ => 2 - (intOf iv).toNat)
  case atStart => exact ⟨0, by omega, rfl, rfl, rfl⟩
  case round =>
    obtain ⟨k, hk, rfl, rfl, rfl⟩ := hrel
    obtain rfl | rfl | rfl : k = 0 ∨ k = 1 ∨ k = 2 := by omega
    · go_wp2
      go_roundw
      case rel => exact ⟨1, by omega, rfl, rfl, trivial⟩
      case measure => simp [intOf]
    · go_wp2
      go_roundw
      case rel => exact ⟨2, by omega, rfl, (by have := HN1.out; simp; omega), trivial⟩
      case measure => simp [intOf]
    · go_wp2_with fail
      refine HG.out.mono ?_
      rintro e w1 ⟨c1, rfl, hb1, ho1⟩
      have HI1 : Hid (Owns w1 wr.heap.size (.slice (some ⟨wr.heap.size, 0, none⟩) 0 c1) [] ∧ Below wr.heap.size wr w1) := Lib.hid ⟨ho1, hb1⟩
      obtain ⟨w, hww⟩ : ∃ w, w = wr := ⟨_, rfl⟩
      subst hww
      clear ho1 hb1 hq0 hq1 hx lf1 lf2 lf3 lf4 HG
      go_wp2
      go_loopw [6, 8, 27] (fun tv _ iv wr => ∃ k : Nat, k ≤ 2 ∧ iv = .int .i64 k ∧ Owns wr w.heap.size tv (if k = 0 then [] else if k = 1 then xs else xs ++ [x]) ∧ Below w.heap.size w wr) (fun _ _ iv _ => 2 - (intOf iv).toNat)
      case atStart => exact ⟨0, by omega, rfl, HI1.out.1, HI1.out.2⟩
      case round =>
        obtain ⟨k, hk, rfl, ho, hb⟩ := hrel
        have HB := Lib.hid hb
        obtain ⟨hq0, hq1, hx⟩ := HQ.out
        have hq0' := (hb.cell (World.block_lt_of_cell? _ _ hq0)).trans hq0
        have hq1' := (hb.cell (World.block_lt_of_cell? _ _ hq1)).trans hq1
        have hx' := (hb.cell (World.block_lt_of_cell? _ _ hx)).trans hx
        have hbs := hb.size
        obtain rfl | rfl | rfl : k = 0 ∨ k = 1 ∨ k = 2 := by omega
        · have HO : Hid (wr.ownsRow w.heap.size 3 1 u6 0 []) := Lib.hid ho
          have HCW : Hid (∀ j u, (vals xs)[j]? = some u → wr.cell? ((⟨b, off, none⟩ : Addr).add j) = some u) := Lib.hid fun j u hj => by
            have := HC.out j u hj
            exact (HB.out.cell (World.block_lt_of_cell? _ _ this)).trans this
          clear ho hb hq0 hq1 hx
          go_wp2_with (at_builtin; refine wpList_append_own _ rfl _ _ 66 rfl w.heap.size 3 i0 (.int .i64 0) 1 8 Tryd.underlying66 hi hz0 hz1 hz2 rfl (by decide) _ 0 [] rfl HO.out ⟨b, off, none⟩ n c (vals xs) rfl HVL.out HCW.out HV1.out (by unfold maxLen; omega) (by omega) hbs ?_; intro v' w2 hown hgrow hnil)
          have HN2 : Hid (Owns w2 w.heap.size v' xs ∧ Below w.heap.size w w2) := Lib.hid ⟨by unfold Owns; rw [HN.out]; simpa using hown, HB.out.grown hgrow hbs (fun k hk => (HO.out.lt k hk).1)⟩
          clear hown hgrow hnil
          go_roundw
          case rel => exact ⟨1, by omega, rfl, HN2.out⟩
          case measure => simp [intOf]
        · have HO : Hid (wr.ownsRow w.heap.size 3 1 u6 n (vals xs)) := Lib.hid (by have h : Owns wr w.heap.size u6 xs := ho; unfold Owns at h; rw [HN.out] at h; exact h)
          have HX : Hid (∀ j u, [Value.int .i64 x][j]? = some u → wr.cell? ((⟨b2, 0, none⟩ : Addr).add j) = some u) := Lib.hid fun j u hj => by
            obtain rfl : j = 0 := by
              have := (List.getElem?_eq_some_iff.1 hj).1
              simpa using this
            obtain rfl : Value.int .i64 x = u := by simpa using hj
            rw [addr_add_off]
            exact hx'
          clear ho hb hq0 hq1 hx hx'
          go_wp2_with (at_builtin; refine wpList_append_own _ rfl _ _ 66 rfl w.heap.size 3 i0 (.int .i64 0) 1 8 Tryd.underlying66 hi hz0 hz1 hz2 rfl (by decide) _ n (vals xs) rfl HO.out ⟨b2, 0, none⟩ 1 1 [.int .i64 x] rfl rfl HX.out (fun u hu => by rw [List.mem_singleton.1 hu]; rfl) (by unfold maxLen; omega) (by omega) hbs ?_; intro v' w2 hown hgrow hnil)
          have HN2 : Hid (Owns w2 w.heap.size v' (xs ++ [x]) ∧ Below w.heap.size w w2) := Lib.hid ⟨by unfold Owns; rw [List.length_append, HN.out]; rw [hxe.out] at hown; exact hown, HB.out.grown hgrow hbs (fun k hk => (HO.out.lt k hk).1)⟩
          clear hown hgrow hnil
          go_roundw
          case rel => exact ⟨2, by omega, rfl, HN2.out⟩
          case measure => simp [intOf]
        · have ho' : Owns wr w.heap.size u6 (xs ++ [x]) := ho
          obtain ⟨g, c', rfl, hg⟩ : ∃ g c', u6 = .slice (some ⟨g, 0, none⟩) n1 c' ∧ w.heap.size ≤ g := by
            have hl : (xs ++ [x]).length = n1 := by rw [List.length_append, HN.out]; exact HN1.out
            unfold Owns at ho'
            rw [hl] at ho'
            rcases ho'.2 with ⟨_, h0⟩ | ⟨g, cap', cur, hv, hgb, _⟩
            · have := HN1.out; omega
            · exact ⟨g, cap', hv, hgb⟩
          have HE := Lib.hid (And.intro ho' HB.out)
          clear ho ho' hb hq0 hq1 hx hq0' hq1' hx'
          go_wp2
          go_ret
          exact ⟨g, c', rfl, HE.out.2, HE.out.1⟩

end Go.Proofs.YtahilcnmjnjcaaaDoor
