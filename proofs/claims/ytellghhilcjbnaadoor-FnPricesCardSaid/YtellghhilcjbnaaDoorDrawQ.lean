/-
  DrawQ: Pick Draw StepApp DrawRank MktGrow DrawCosts Over23 DrawC.
-/
import Derived.Deep.WholeRow
import Derived.Deep.QuietTactic
import Derived.BigQuiet
import Derived.IntWalk
import Derived.Test.YtellghhilcjbnaaDoorCore1
import Derived.Deep.DeepCutAuto
import Derived.Sort.BigQuietIn
import Derived.Deep.AppendLies
import Derived.Deep.RegionHeld3
/-
  The drawn laws' reader: what one pick leaves.
-/
namespace Go.Proofs.YtellghhilcjbnaaDoor
set_option linter.unusedVariables false
set_option linter.unusedSimpArgs false
open Go.RowKit

/-- The cells of a reader. -/
abbrev rcells (A : Option Addr) (L cap p : Nat) : Array Value := #[.slice A L cap, .int .i64 (p : Int)]

/-- The drawn bytes lie there, apart from the reader's block. -/
def Bytes (w : World) (r : Nat) (A : Option Addr) (L : Nat) : Prop :=
  ∀ i, i < L → ∃ b off x, A = some ⟨b, off, none⟩ ∧ b ≠ r ∧ w.cell? ⟨b, off + i, none⟩ = some (.int .u8 ((x : Nat) : Int)) ∧ x < 256

theorem xor64 (a b : Nat) (ha : a < 2 ^ 62) (hb : b < 2 ^ 62) : bits .xor .i64 (a : Int) (b : Int) = ((a ^^^ b : Nat) : Int) := by
  show IntKind.i64.wrap ((BitVec.ofInt 64 (a : Int) ^^^ BitVec.ofInt 64 (b : Int)).toNat : Int) = _
  rw [BitVec.toNat_xor, BitVec.ofInt_natCast, BitVec.ofInt_natCast, BitVec.toNat_ofNat, BitVec.toNat_ofNat]
  have h1 : a % 2 ^ 64 = a := Nat.mod_eq_of_lt (by omega)
  have h2 : b % 2 ^ 64 = b := Nat.mod_eq_of_lt (by omega)
  rw [h1, h2]
  have hx : a ^^^ b < 2 ^ 62 := Nat.xor_lt_two_pow ha hb
  exact wraps_i64 _ (by omega) (by omega)

theorem picked (w : World) (r : Nat) (v : Value) : Within r (r + 1) w (w.setCell ⟨r, 1, none⟩ v) :=
  Within.of_grown (grown_setCell w r 1 v) (fun k hk => by simp at hk; omega)

set_option maxHeartbeats 1000000 in
theorem pick_any (w : World) (r p n L cap : Nat) (A : Option Addr) (hr : w.heap[r]? = some (.cells (rcells A L cap p) 93 (0, 0))) (hx : Bytes w r A L) (hp : p < 1000000) (hL : L ≤ 2000) (hn : 1 ≤ n) (hn2 : n ≤ 1000) :
    Calls Tryd.prog 51 #[.pointer (some ⟨r, 0, none⟩), .int .i64 n] w fun e w' => ∃ v : Nat, v < n ∧ e = .returned (.int .i64 v) ∧ w'.heap[r]? = some (.cells (rcells A L cap (p + 1)) 93 (0, 0)) ∧ Within r (r + 1) w w' := by
  have HR := Lib.hid hr
  have HX := Lib.hid hx
  have c0 : w.cell? ⟨r, 0, none⟩ = some (.slice A L cap) := by rw [cell_of_row _ _ _ _ _ _ hr]; rfl
  have c1 : w.cell? ⟨r, 1, none⟩ = some (.int .i64 (p : Int)) := by rw [cell_of_row _ _ _ _ _ _ hr]; rfl
  have f0 := frozen_of_row w r 0 _ _ hr
  have f1 := frozen_of_row w r 1 _ _ hr
  have w1 : IntKind.i64.wrap ((p : Int) + 1) = ((p + 1 : Nat) : Int) := by rw [wraps_i64 _ (by omega) (by omega)]; omega
  have w2 : wrap64 ((p : Int) + 1) = ((p + 1 : Nat) : Int) := by rw [← wrap_eq, w1]
  have HN : ((n : Int) < 1) = False := by simp; omega
  clear hr hx
  by_cases h0 : L = 0
  · subst h0
    go_enter Tryd.func51, Tryd.ntmps51
    go_wp2
    go_ret
    exact ⟨0, by omega, rfl, heap_setCell_same w r 1 _ _ _ HR.out, picked w r _⟩
  · by_cases h1 : p < L
    · obtain ⟨b, off, x, rfl, hb, hcell, hx256⟩ := HX.out p h1
      have e1 : ((p : Int) < (L : Int)) = True := by simp; omega
      have e0 : (((L : Nat) : Int) == 0) = false := by rw [beq_eq_false_iff_ne]; omega
      have w3 : IntKind.i64.wrap (p : Int) = (p : Int) := wraps_i64 _ (by omega) (by omega)
      have w4 : wrap64 (p : Int) = (p : Int) := by rw [← wrap_eq, w3]
      have n0 : (((n : Nat) : Int) == 0) = false := by rw [beq_eq_false_iff_ne]; omega
      have w5 : IntKind.i64.wrap (x : Int) = (x : Int) := wraps_i64 _ (by omega) (by omega)
      have w6 : wrap64 (x : Int) = (x : Int) := by rw [← wrap_eq, w5]
      go_enter Tryd.func51, Tryd.ntmps51
      go_wp2
      go_ret
      exact ⟨x % n, Nat.mod_lt _ (by omega), by simp [Int.natCast_emod], heap_setCell_same w r 1 _ _ _ HR.out, picked w r _⟩
    · have e1 : ((p : Int) < (L : Int)) = False := by simp; omega
      have e0 : (((L : Nat) : Int) == 0) = false := by rw [beq_eq_false_iff_ne]; omega
      have w3 : IntKind.i64.wrap (p : Int) = (p : Int) := wraps_i64 _ (by omega) (by omega)
      have w4 : wrap64 (p : Int) = (p : Int) := by rw [← wrap_eq, w3]
      have n0 : (((n : Nat) : Int) == 0) = false := by rw [beq_eq_false_iff_ne]; omega
      obtain ⟨q1, hq1⟩ : ∃ q1, p % L = q1 := ⟨_, rfl⟩
      obtain ⟨q2, hq2⟩ : ∃ q2, (p * 7 + 3) % L = q2 := ⟨_, rfl⟩
      obtain ⟨q3, hq3⟩ : ∃ q3, p / L = q3 := ⟨_, rfl⟩
      have hq1L : q1 < L := by rw [← hq1]; exact Nat.mod_lt _ (by omega)
      have hq2L : q2 < L := by rw [← hq2]; exact Nat.mod_lt _ (by omega)
      have hq3p : q3 ≤ p := by rw [← hq3]; exact Nat.div_le_self _ _
      obtain ⟨b, off, x, rfl, hb, hcell, hx256⟩ := HX.out q1 hq1L
      obtain ⟨b', off', y, hA', _, hcell2, hy256⟩ := HX.out q2 hq2L
      cases hA'
      have m1 : (p : Int) % (L : Int) = (q1 : Int) := by rw [← hq1, Int.natCast_emod]
      have m2 : ((p : Int) * 7 + 3) % (L : Int) = (q2 : Int) := by rw [← hq2]; simp
      have m3 : (p : Int) / (L : Int) = (q3 : Int) := by rw [← hq3]; simp
      have t1 : (p : Int).tmod (L : Int) = (q1 : Int) := by rw [← m1, Int.tmod_eq_emod_of_nonneg (by omega)]
      have t2 : ((p : Int) * 7 + 3).tmod (L : Int) = (q2 : Int) := by rw [← m2, Int.tmod_eq_emod_of_nonneg (by omega)]
      have t3 : (p : Int).tdiv (L : Int) = (q3 : Int) := by rw [← m3, Int.tdiv_eq_ediv_of_nonneg (by omega)]
      have b1 : (0 : Int) ≤ (q1 : Int) ∧ (q1 : Int) < (L : Int) := by omega
      have b2 : (0 : Int) ≤ (q2 : Int) ∧ (q2 : Int) < (L : Int) := by omega
      have u1 : IntKind.i64.wrap ((p : Int) * 7) = (p : Int) * 7 := wraps_i64 _ (by omega) (by omega)
      have u2 : IntKind.i64.wrap ((p : Int) * 7 + 3) = (p : Int) * 7 + 3 := wraps_i64 _ (by omega) (by omega)
      have u3 : IntKind.i64.wrap (x : Int) = (x : Int) := wraps_i64 _ (by omega) (by omega)
      have u4 : IntKind.i64.wrap (y : Int) = (y : Int) := wraps_i64 _ (by omega) (by omega)
      have u5 : IntKind.i64.wrap ((x : Int) * 131) = (x : Int) * 131 := wraps_i64 _ (by omega) (by omega)
      have u6 : IntKind.i64.wrap ((y : Int) * 1117) = (y : Int) * 1117 := wraps_i64 _ (by omega) (by omega)
      have u7 : IntKind.i64.wrap ((x : Int) * 131 + (y : Int) * 1117) = (x : Int) * 131 + (y : Int) * 1117 := wraps_i64 _ (by omega) (by omega)
      have u8 : IntKind.i64.wrap ((p : Int) * 29) = (p : Int) * 29 := wraps_i64 _ (by omega) (by omega)
      have u9 : IntKind.i64.wrap ((x : Int) * 131 + (y : Int) * 1117 + (p : Int) * 29) = (x : Int) * 131 + (y : Int) * 1117 + (p : Int) * 29 := wraps_i64 _ (by omega) (by omega)
      have u10 : IntKind.i64.wrap ((q3 : Int) * 53) = (q3 : Int) * 53 := wraps_i64 _ (by omega) (by omega)
      have u11 : IntKind.i64.wrap ((x : Int) * 131 + (y : Int) * 1117 + (p : Int) * 29 + (q3 : Int) * 53) = (x : Int) * 131 + (y : Int) * 1117 + (p : Int) * 29 + (q3 : Int) * 53 := wraps_i64 _ (by omega) (by omega)
      have u12 : IntKind.i64.wrap (q3 : Int) = (q3 : Int) := wraps_i64 _ (by omega) (by omega)
      have v1 := (wrap_eq _).symm.trans u1
      have v2 := (wrap_eq _).symm.trans u2
      have v3 := (wrap_eq _).symm.trans u3
      have v4 := (wrap_eq _).symm.trans u4
      have v5 := (wrap_eq _).symm.trans u5
      have v6 := (wrap_eq _).symm.trans u6
      have v7 := (wrap_eq _).symm.trans u7
      have v8 := (wrap_eq _).symm.trans u8
      have v9 := (wrap_eq _).symm.trans u9
      have v10 := (wrap_eq _).symm.trans u10
      have v11 := (wrap_eq _).symm.trans u11
      have v12 := (wrap_eq _).symm.trans u12
      have HQ := Lib.hid (And.intro hq1 (And.intro hq2 hq3))
      have HQ3 := Lib.hid hq3p
      clear hq1 hq2 hq3 hq1L hq2L hq3p
      go_enter Tryd.func51, Tryd.ntmps51
      go_wp2
      go_quiet (fail)
      clear u1 u2 u3 u4 u5 u6 u7 u8 u9 u10 u11 u12 v1 v2 v3 v4 v5 v6 v7 v8 v9 v10 v11 v12 m1 m2 m3 t1 t2 t3 b1 b2
      obtain ⟨z, hz, hz40⟩ : ∃ z : Nat, (x : Int) * 131 + (y : Int) * 1117 + (p : Int) * 29 + (q3 : Int) * 53 = (z : Int) ∧ z < 2 ^ 40 :=
        ⟨x * 131 + y * 1117 + p * 29 + q3 * 53, by simp, by have := HQ3.out; omega⟩
      rw [hz]
      clear hz
      obtain ⟨s, hs⟩ : ∃ s : Nat, bits .xor .i64 (z : Int) ((z : Int) / 64) = (s : Int) :=
        ⟨z ^^^ (z / 64), by rw [← xor64 z (z / 64) (by omega) (by omega)]; simp⟩
      have d1 : (z : Int).tdiv 64 = (z : Int) / 64 := Int.tdiv_eq_ediv_of_nonneg (by omega)
      have d2 : IntKind.i64.wrap ((z : Int) / 64) = (z : Int) / 64 := wraps_i64 _ (by omega) (by omega)
      have d3 := (wrap_eq _).symm.trans d2
      have d4 : (0 : Int) ≤ (z : Int) := by omega
      go_wp2
      go_ret
      exact ⟨s % n, Nat.mod_lt _ (by omega), by simp [Int.natCast_emod], heap_setCell_same w r 1 _ _ _ HR.out, (picked w r _).drewN _⟩

end Go.Proofs.YtellghhilcjbnaaDoor

/-
  A drawn number of nodes: the reader is opened, one pick.
-/
namespace Go.Proofs.YtellghhilcjbnaaDoor
set_option linter.unusedVariables false
set_option linter.unusedSimpArgs false
open Go.RowKit

/-- The drawn bytes, as they come in. -/
def Code8 (w : World) (A : Option Addr) (L : Nat) : Prop :=
  ∀ i, i < L → ∃ b off x, A = some ⟨b, off, none⟩ ∧ w.cell? ⟨b, off + i, none⟩ = some (.int .u8 ((x : Nat) : Int)) ∧ x < 256

theorem Code8.bytes {w w' : World} {A : Option Addr} {L : Nat} (h : Code8 w A L) (hb : Below w.heap.size w w') (r : Nat) (hr : w.heap.size ≤ r) : Bytes w' r A L := fun i hi => by
  obtain ⟨b, off, x, hA, hc, hx⟩ := h i hi
  have hlt : b < w.heap.size := World.block_lt_of_cell? w _ hc
  exact ⟨b, off, x, hA, by omega, (hb.cell (p := ⟨b, off + i, none⟩) hlt).trans hc, hx⟩
theorem Code8.below {w w' : World} {A : Option Addr} {L : Nat} (h : Code8 w A L) (hb : Below w.heap.size w w') : Code8 w' A L := fun i hi => by
  obtain ⟨b, off, x, hA, hc, hx⟩ := h i hi
  exact ⟨b, off, x, hA, (hb.cell (p := ⟨b, off + i, none⟩) (World.block_lt_of_cell? w _ hc)).trans hc, hx⟩
theorem Code8.less {w : World} {A : Option Addr} {L M : Nat} (h : Code8 w A L) (hm : M ≤ L) : Code8 w A M := fun i hi => h i (Nat.lt_of_lt_of_le hi hm)

set_option maxHeartbeats 1000000 in
/-- A reader is opened. -/
theorem open_any (w : World) (A : Option Addr) (L cap : Nat) (hc : L ≤ cap) (hm : L ≤ maxLen) :
    Calls Tryd.prog 34 #[.slice A L cap] w fun e w' => ∃ r M cap', e = .returned (.pointer (some ⟨r, 0, none⟩)) ∧ M ≤ 2000 ∧ M ≤ L ∧ w.heap.size ≤ r ∧ w'.heap[r]? = some (.cells (rcells A M cap' 0) 93 (0, 0)) ∧ Below w.heap.size w w' := by
  unfold maxLen at hm
  by_cases h : L ≤ 2000
  · have e1 : ((2000 : Int) < (L : Int)) = False := by simp; omega
    go_enter Tryd.func34, Tryd.ntmps34
    go_wp2
    go_ret
    exact ⟨w.heap.size, L, cap, rfl, h, Nat.le_refl _, Nat.le_refl _, World.alloc_heap_new _ _, (Below.refl _ _).alloc (Nat.le_refl _) _⟩
  · have e1 : ((2000 : Int) < (L : Int)) = True := by simp; omega
    go_enter Tryd.func34, Tryd.ntmps34
    go_wp2
    go_ret
    exact ⟨w.heap.size, 2000, cap, rfl, Nat.le_refl _, by omega, Nat.le_refl _, World.alloc_heap_new _ _, (Below.refl _ _).alloc (Nat.le_refl _) _⟩


end Go.Proofs.YtellghhilcjbnaaDoor

/-
  append in a region that draws, of a source that may be empty.
-/
namespace Go.Proofs.YtellghhilcjbnaaDoor
set_option linter.unusedVariables false
set_option linter.unusedSimpArgs false
open Go.RowKit

theorem form_not_nil {w : World} {base : Nat} {e : TypeId} {size : Nat} {v : Value} {n : Nat} {xs : List Value} (h : w.ownsRow base e size v n xs) (hn : v ≠ .slice none 0 0) :
    ∃ g cap, v = .slice (some ⟨g, 0, none⟩) n cap ∧ g < w.heap.size := by
  rcases h.2 with ⟨h1, h0⟩ | ⟨g, cap, cur, hv, hb, hg, _⟩
  · exact absurd h1 hn
  · refine ⟨g, cap, hv, ?_⟩
    rcases Nat.lt_or_ge g w.heap.size with hlt | hge
    · exact hlt
    · rw [Array.getElem?_eq_none hge] at hg; cases hg

theorem wp_append_any {P : Program} {w : World} {o : Oper} {a : Act} {K : Act → World → Prop} {Q : Exit → Act → World → Prop} (s x : Operand) (t : TypeId)
    (ho : o.op = .call { callee := .builtin .append, args := #[s, x], argTypes := #[t, t] })
    (base : Nat) (e : TypeId) (i : TypeInfo) (z : Value) (size bytes : Nat) (ht : P.underlying t = some (.slice e)) (hi : P.info? e = some i) (hz : i.zero = some z)
    (hsize : i.size = size) (hby : i.bytes = bytes) (hzs : z.cells.size = size) (hsz : 0 < size)
    (v : Value) (n : Nat) (xs : List Value) (hs : a.eval s = v) (hvn : v ≠ .slice none 0 0) (hown : w.ownsRow base e size v n xs)
    (ad : Addr) (m c : Nat) (news : List Value) (hx : a.eval x = .slice (some ad) m c) (hl : news.length = m * size) (hnews : ∀ j u, news[j]? = some u → w.cell? (ad.add j) = some u) (h1 : ∀ u ∈ news, u.oneCell' = true)
    (h63 : n + m ≤ maxLen) (hbytes : (n + m) * bytes ≤ 140737488355328) (hbase : base ≤ w.heap.size)
    (h : ∀ g cap w', w'.ownsRow base e size (.slice (some ⟨g, 0, none⟩) (n + m) cap) (n + m) (xs ++ news) → w.grownBy w' v.ownBlock → g < w'.heap.size → K (a.put o.dst (.slice (some ⟨g, 0, none⟩) (n + m) cap)) w') : o.wp P a w K Q := by
  obtain ⟨v', w', hr, h2, h3, h4, h5⟩ := run_append_own_at (P := P) w base t o.type e i z size bytes ht hi hz hsize hby hzs hsz v n xs hown ad m c news hl hnews h1 h63 hbytes hbase
  obtain ⟨g, cap, rfl, hlt⟩ := form_not_nil h2 (fun e => hvn (h4.1 e).1)
  unfold Oper.wp execOp
  simp only [ho, resolve, invoke, builtin, Sem.run_bind, Sem.run_pure, Result.andThen_ok, List.map_toArray, List.map_cons, List.map_nil, hs, hx, hr]
  exact h g cap w' h2 h3 hlt
theorem step_append_any {P : Program} (w : World) {ops : Array Oper} {o : Oper} {a : Act} {K : Act → World → Prop} {Q : Exit → Act → World → Prop} {E : Prop} (hgd : o.guard = none) (s x : Operand) (t : TypeId)
    (ho : o.op = .call { callee := .builtin .append, args := #[s, x], argTypes := #[t, t] })
    (base : Nat) (e : TypeId) (i : TypeInfo) (z : Value) (size bytes : Nat) (ht : P.underlying t = some (.slice e)) (hi : P.info? e = some i) (hz : i.zero = some z)
    (hsize : i.size = size) (hby : i.bytes = bytes) (hzs : z.cells.size = size) (hsz : 0 < size)
    (v : Value) (n : Nat) (xs : List Value) (hs : a.eval s = v) (hvn : v ≠ .slice none 0 0) (hown : w.ownsRow base e size v n xs)
    (ad : Addr) (m c : Nat) (news : List Value) (hx : a.eval x = .slice (some ad) m c) (hl : news.length = m * size) (hnews : ∀ j u, news[j]? = some u → w.cell? (ad.add j) = some u) (h1 : ∀ u ∈ news, u.oneCell' = true)
    (h63 : n + m ≤ maxLen) (hbytes : (n + m) * bytes ≤ 140737488355328) (hbase : base ≤ w.heap.size) (r : Nat) (hr : n + m = r)
    (h : ∀ g cap w', w'.ownsRow base e size (.slice (some ⟨g, 0, none⟩) r cap) r (xs ++ news) → w.grownBy w' v.ownBlock → g < w'.heap.size → K (a.put o.dst (.slice (some ⟨g, 0, none⟩) r cap)) w') :
    if Region.wanted o (yielded ops a.tmps) = true then Oper.wp P o a w K Q else E := by
  subst hr
  have hw : Region.wanted o (yielded ops a.tmps) = true := by simp [Region.wanted, hgd]
  rw [if_pos hw]
  exact wp_append_any s x t ho base e i z size bytes ht hi hz hsize hby hzs hsz v n xs hs hvn hown ad m c news hx hl hnews h1 h63 hbytes hbase h
/-- An empty slice that was made just now. -/
theorem owns_made {W : World} {b g : Nat} (hg : g = W.heap.size) (hb : b ≤ g) : (W.alloc (.cells #[] 3)).ownsRow b 3 1 (.slice (some ⟨g, 0, none⟩) 0 0) 0 [] := by
  subst hg
  exact World.ownsRow_made (base := b) (e := 3) (size := 1) W #[] 0 hb (Nat.zero_le _) rfl
theorem cells_made {W : World} {g : Nat} {v : Value} {t : TypeId} (hg : g = W.heap.size) : ∀ j u, [v][j]? = some u → (W.alloc (.cells #[v] t)).cell? ((⟨g, 0, none⟩ : Addr).add j) = some u := by
  subst hg
  exact cell_one_new W v t

theorem grown_one {W w3 : World} {g : Nat} {row : Option Nat} {v : Value} (hg : W.grownBy w3 row) (hb : ∀ j u, [v][j]? = some u → W.cell? ((⟨g, 0, none⟩ : Addr).add j) = some u) (hne : some g ≠ row) : ∀ j u, [v][j]? = some u → w3.cell? ((⟨g, 0, none⟩ : Addr).add j) = some u := fun j u hu => by
  have h := hb j u hu
  have hlt := World.block_lt_of_cell? W _ h
  have hadd : (⟨g, 0, none⟩ : Addr).add j = ⟨g, j, none⟩ := by unfold Addr.add; split <;> simp_all
  rw [hadd] at h hlt ⊢
  rw [hg.cell_far _ hlt hne]
  exact h
theorem alloc_one {W : World} {g : Nat} {v : Value} {o : Obj} (hb : ∀ j u, [v][j]? = some u → W.cell? ((⟨g, 0, none⟩ : Addr).add j) = some u) : ∀ j u, [v][j]? = some u → (W.alloc o).cell? ((⟨g, 0, none⟩ : Addr).add j) = some u := fun j u hu => by
  have h := hb j u hu
  have hlt := World.block_lt_of_cell? W _ h
  have hadd : (⟨g, 0, none⟩ : Addr).add j = ⟨g, j, none⟩ := by unfold Addr.add; split <;> simp_all
  rw [hadd] at h hlt ⊢
  rw [World.cell?_alloc_past _ _ _ hlt]
  exact h
/-- What a list's block holds, part by part, in whatever later world. -/
theorem part_cells {w : World} {lo g n cap : Nat} {xs : List Int} (h : w.ownsRow lo 3 1 (.slice (some ⟨g, 0, none⟩) n cap) n (vals xs)) (k : Nat) {W' : World} (hb : Below w.heap.size w W') :
    (∀ j u, (vals (xs.take k))[j]? = some u → W'.cell? ((⟨g, 0, none⟩ : Addr).add j) = some u) ∧ (∀ j u, (vals (xs.drop k))[j]? = some u → W'.cell? ((⟨g, k, none⟩ : Addr).add j) = some u) := by
  have hc : ∀ j u, (vals xs)[j]? = some u → W'.cell? ⟨g, j, none⟩ = some u := fun j u hu => by
    have h1 := h.cells (g := g) rfl j u hu
    have hadd : (⟨g, 0, none⟩ : Addr).add j = ⟨g, j, none⟩ := by unfold Addr.add; split <;> simp_all
    rw [hadd] at h1
    exact (hb.cell (p := ⟨g, j, none⟩) (World.block_lt_of_cell? w _ h1)).trans h1
  refine ⟨fun j u hu => ?_, fun j u hu => ?_⟩
  · have hadd : (⟨g, 0, none⟩ : Addr).add j = ⟨g, j, none⟩ := by unfold Addr.add; split <;> simp_all
    rw [hadd]
    refine hc j u ?_
    simp only [vals, List.getElem?_map, List.getElem?_take] at hu ⊢
    split at hu
    · exact hu
    · simp at hu
  · have hadd : (⟨g, k, none⟩ : Addr).add j = ⟨g, k + j, none⟩ := by unfold Addr.add; split <;> simp_all
    rw [hadd]
    refine hc (k + j) u ?_
    simp only [vals, List.getElem?_map, List.getElem?_drop] at hu ⊢
    exact hu

end Go.Proofs.YtellghhilcjbnaaDoor

/-
  spec.l92Rank: a list is drawn, each member put in at a drawn place.
-/
namespace Go.Proofs.YtellghhilcjbnaaDoor
set_option linter.unusedVariables false
set_option linter.unusedSimpArgs false
open Go.RowKit

theorem Bytes.within {w w' : World} {r M : Nat} {A : Option Addr} (h : Bytes w r A M) (hw : Within r (r + 1) w w') : Bytes w' r A M := fun i hi => by
  obtain ⟨b, off, x, hA, hb, hc, hx⟩ := h i hi
  have hlt : b < w.heap.size := World.block_lt_of_cell? w _ hc
  exact ⟨b, off, x, hA, hb, (World.cell?_of_block (a := ⟨b, off + i, none⟩) (hw.block b hlt (by omega))).trans hc, hx⟩
theorem Within.below {lo hi : Nat} {w w1 w2 : World} (h : Within lo hi w w1) (hb : Below w1.heap.size w1 w2) : Within lo hi w w2 :=
  ⟨hb.os.trans h.os, hb.tape.trans h.tape, hb.output.trans h.output, Nat.le_trans h.size hb.size, fun k hk hr => (hb.block k (Nat.lt_of_lt_of_le hk h.size)).trans (h.block k hk hr)⟩
/-- The list under way. -/
def DRank (w : World) (r M cap : Nat) (A : Option Addr) (p c : Nat) (v : Value) (W : World) : Prop :=
  ∃ xs g cap0, v = .slice (some ⟨g, 0, none⟩) c cap0 ∧ xs.length = c ∧ W.heap[r]? = some (.cells (rcells A M cap p) 93 (0, 0)) ∧ OwnsInts W w.heap.size W.heap.size v xs ∧ Within r (r + 1) w W


end Go.Proofs.YtellghhilcjbnaaDoor

/-
  Two lists of lists in one market, each made longer in turn.
-/
namespace Go.Proofs.YtellghhilcjbnaaDoor
set_option linter.unusedVariables false
set_option linter.unusedSimpArgs false
open Go.RowKit

/-- One list more, that lies above all there was. -/
theorem OwnsRows.push2 {w2 w3 : World} {lo hi : Nat} {v : Value} {us : List Value} {xss : List (List Int)} (h : OwnsRows w2 lo hi v us xss) (hlo : lo ≤ hi) (hhi : hi ≤ w2.heap.size) {u : Value} {xs : List Int} (hu : OwnsInts w2 hi w2.heap.size u xs)
    {v' : Value} (hown : w3.ownsRow lo 24 1 v' (us.length + 1) (us ++ [u])) (hg : w2.grownBy w3 v.ownBlock) : OwnsRows w3 lo w3.heap.size v' (us ++ [u]) (xss ++ [xs]) := by
  have hs3 := hg.size
  have hout2 := h.outer.1
  have hold : ∀ (i : Nat) (hi' : i < us.length), OwnsInts w3 lo w3.heap.size us[i] (xss[i]'(h.len ▸ hi')) := fun i hi' => by
    have h1 := h.inner i hi'
    exact ⟨h1.1.kept hg (rows_apart h1.1 hout2 (by decide)), fun k hk => Nat.lt_of_lt_of_le (h1.2 k hk) (by omega)⟩
  have hnew : OwnsInts w3 lo w3.heap.size u xs :=
    ⟨owns_mono (hu.1.kept hg (rows_apart hu.1 hout2 (by decide))) hlo, fun k hk => by have := (hu.1.lt k hk).2; omega⟩
  refine ⟨by simp [h.len], ?_, fun i hi' => ?_, fun i j hij hj => ?_⟩
  · have e : (xss ++ [xs]).length = us.length + 1 := by simp [h.len]
    rw [e]
    exact OwnsAt.of hown
  · by_cases hi2 : i < us.length
    · have := hold i hi2
      have hx : i < xss.length := h.len ▸ hi2
      simpa [List.getElem_append_left hi2, List.getElem_append_left hx] using this
    · have hi3 : i = us.length := by simp at hi'; omega
      subst hi3
      have e1 : (us ++ [u])[us.length]'hi' = u := by simp
      have e2 : (xss ++ [xs])[us.length]'(by simp [h.len]) = xs := by simp [h.len]
      rw [e1, e2]
      exact hnew
  · have hi2 : i < us.length := by simp at hj; omega
    by_cases hj2 : j < us.length
    · have := h.apart i j hij hj2
      simpa [List.getElem_append_left hi2, List.getElem_append_left hj2] using this
    · have hj3 : j = us.length := by simp at hj; omega
      subst hj3
      simp only [List.getElem_append_left hi2]
      have hx : (us ++ [u])[us.length]'hj = u := by simp
      rw [hx]
      cases hv : us[i].ownBlock with
      | none => exact .inl rfl
      | some b =>
        right
        intro he
        have h1 := (h.inner i hi2).2 b hv
        have h2 := (hu.1.lt b he.symm).1
        omega

/-- The other list of lists stands still. -/
theorem OwnsRows.beside {W W' : World} {lo hi : Nat} {v : Value} {us : List Value} {xss : List (List Int)} {v2 : Value} {lo2 n2 : Nat} {us2 : List Value} (h : OwnsRows W lo hi v us xss) (hg : W.grownBy W' v2.ownBlock) (h2 : W.ownsRow lo2 24 1 v2 n2 us2) (hd : v.ownBlock = none ∨ v.ownBlock ≠ v2.ownBlock) : OwnsRows W' lo hi v us xss :=
  ⟨h.len, ⟨h.outer.1.kept hg hd, h.outer.2⟩, fun i hi' => ⟨(h.inner i hi').1.kept hg (rows_apart (h.inner i hi').1 h2 (by decide)), (h.inner i hi').2⟩, h.apart⟩

/-- What keeps the blocks of lists, whatever else turns. -/
def KT (W W' : World) : Prop := ∀ (k : Nat) (c : Array Value) (t : TypeId) (fr : Nat × Nat), W.heap[k]? = some (.cells c t fr) → t = 24 ∨ t = 3 → W'.heap[k]? = some (.cells c t fr)
theorem KT.refl (W : World) : KT W W := fun _ _ _ _ h _ => h
theorem KT.trans {W W1 W2 : World} (h : KT W W1) (h2 : KT W1 W2) : KT W W2 := fun k c t fr hk ht => h2 k c t fr (h k c t fr hk ht) ht
theorem KT.of_below {W W' : World} (h : Below W.heap.size W W') : KT W W' := fun k c t fr hk _ => (h.block k (Array.getElem?_eq_some_iff.1 hk).1).trans hk
theorem KT.of_grown {W W' : World} {b : Nat} {c0 : Array Value} {t0 : TypeId} {fr0 : Nat × Nat} (hg : W.grownBy W' (some b)) (hb : W.heap[b]? = some (.cells c0 t0 fr0)) (h1 : t0 ≠ 24) (h2 : t0 ≠ 3) : KT W W' := fun k c t fr hk ht =>
  (hg.block k (Array.getElem?_eq_some_iff.1 hk).1 (fun e => by
    have : k = b := by simpa using e
    subst this
    rw [hb] at hk
    simp at hk
    rcases ht with h | h
    · exact h1 (hk.2.1.trans h)
    · exact h2 (hk.2.1.trans h))).trans hk
theorem KT.of_within {W W' : World} {r : Nat} {c0 : Array Value} {t0 : TypeId} {fr0 : Nat × Nat} (hw : Within r (r + 1) W W') (hb : W.heap[r]? = some (.cells c0 t0 fr0)) (h1 : t0 ≠ 24) (h2 : t0 ≠ 3) : KT W W' := fun k c t fr hk ht => by
  by_cases e : k = r
  · subst e
    rw [hb] at hk
    simp at hk
    rcases ht with h | h
    · exact absurd (hk.2.1.trans h) h1
    · exact absurd (hk.2.1.trans h) h2
  · exact (hw.block k (Array.getElem?_eq_some_iff.1 hk).1 (by omega)).trans hk
/-- A cell whose block is of a type. -/
def TCell (W : World) (t : TypeId) (b off : Nat) (u : Value) : Prop := W.cell? ⟨b, off, none⟩ = some u ∧ ∃ c fr, W.heap[b]? = some (.cells c t fr)
theorem TCell.kt {W W' : World} {t : TypeId} {b off : Nat} {u : Value} (h : TCell W t b off u) (ht : t = 24 ∨ t = 3) (hk : KT W W') : TCell W' t b off u := by
  obtain ⟨hc, c, fr, hb⟩ := h
  have hb' := hk b c t fr hb ht
  exact ⟨(World.cell?_of_block (a := ⟨b, off, none⟩) (hb'.trans hb.symm)).trans hc, c, fr, hb'⟩
def TInts (W : World) (v : Value) (xs : List Int) : Prop :=
  ∃ (A : Option Addr) (cap : Nat), v = .slice A xs.length cap ∧ xs.length ≤ maxLen ∧ ∀ (i : Nat) (h : i < xs.length), ∃ b off, A = some ⟨b, off, none⟩ ∧ TCell W 3 b (off + i) (.int .i64 xs[i])
theorem TInts.ints {W : World} {v : Value} {xs : List Int} (h : TInts W v xs) : Ints W v xs := by
  obtain ⟨A, cap, hv, hm, hc⟩ := h
  exact ⟨A, cap, hv, hm, fun i hi => by obtain ⟨b, off, hA, hcell⟩ := hc i hi; exact ⟨b, off, hA, hcell.1⟩⟩
theorem TInts.kt {W W' : World} {v : Value} {xs : List Int} (h : TInts W v xs) (hk : KT W W') : TInts W' v xs := by
  obtain ⟨A, cap, hv, hm, hc⟩ := h
  exact ⟨A, cap, hv, hm, fun i hi => by obtain ⟨b, off, hA, hcell⟩ := hc i hi; exact ⟨b, off, hA, hcell.kt (.inr rfl) hk⟩⟩
theorem tints_of {W : World} {lo : Nat} {v : Value} {xs : List Int} (h : Owns W lo v xs) : TInts W v xs := by
  rcases h.2 with ⟨rfl, hn⟩ | ⟨g, cap, cur, rfl, hb, hg, hnc, hm, hcs, htake⟩
  · have : xs = [] := List.eq_nil_of_length_eq_zero hn
    subst this
    exact ⟨none, 0, rfl, by simp, fun i hi => by simp at hi⟩
  · refine ⟨some ⟨g, 0, none⟩, cap, rfl, by omega, fun i hi => ⟨g, 0, rfl, ?_, _, _, hg⟩⟩
    have := h.cellAt i (by omega)
    rw [Nat.zero_add, this]
    simp [vals, hi]
def TRows (W : World) (v : Value) (xss : List (List Int)) : Prop :=
  ∃ (A : Option Addr) (cap : Nat) (us : List Value), v = .slice A xss.length cap ∧ xss.length ≤ maxLen ∧ us.length = xss.length ∧
    ∀ (i : Nat) (h : i < xss.length) (u : Value), us[i]? = some u → (∃ b off, A = some ⟨b, off, none⟩ ∧ TCell W 24 b (off + i) u) ∧ TInts W u xss[i]
theorem TRows.rows {W : World} {v : Value} {xss : List (List Int)} (h : TRows W v xss) : IntRows W v xss := by
  obtain ⟨A, cap, us, hv, hm, hl, hc⟩ := h
  exact ⟨A, cap, us, hv, hm, hl, fun i hi u hu => by obtain ⟨⟨b, off, hA, hcell⟩, hx⟩ := hc i hi u hu; exact ⟨⟨b, off, hA, hcell.1⟩, hx.ints⟩⟩
theorem TRows.kt {W W' : World} {v : Value} {xss : List (List Int)} (h : TRows W v xss) (hk : KT W W') : TRows W' v xss := by
  obtain ⟨A, cap, us, hv, hm, hl, hc⟩ := h
  exact ⟨A, cap, us, hv, hm, hl, fun i hi u hu => by obtain ⟨⟨b, off, hA, hcell⟩, hx⟩ := hc i hi u hu; exact ⟨⟨b, off, hA, hcell.kt (.inl rfl) hk⟩, hx.kt hk⟩⟩
theorem trows_of {W : World} {lo hi : Nat} {v : Value} {us : List Value} {xss : List (List Int)} (h : OwnsRows W lo hi v us xss) : TRows W v xss := by
  have hl := h.len
  rcases h.outer.1.2 with ⟨rfl, hn⟩ | ⟨g, cap, cur, rfl, hb, hg, hnc, hm, hcs, htake⟩
  · have : xss = [] := List.eq_nil_of_length_eq_zero hn
    subst this
    exact ⟨none, 0, us, rfl, by simp, hl, fun i hi => by simp at hi⟩
  · refine ⟨some ⟨g, 0, none⟩, cap, us, rfl, by omega, hl, fun i hi u hu => ?_⟩
    have hi' : i < us.length := by omega
    have hui : us[i] = u := by rw [List.getElem?_eq_getElem hi'] at hu; simpa using hu
    refine ⟨⟨g, 0, rfl, ?_, _, _, hg⟩, ?_⟩
    · rw [Nat.zero_add, h.outer.1.cellAt i (by omega)]
      exact hu
    · rw [← hui]; exact tints_of (h.inner i hi').1

/-- A list of lists without its first one. -/
theorem rows_drop {w : World} {g n cap : Nat} {rs : List (List Int)} {A : Option Addr} (h : TRows w (.slice (some ⟨g, 0, none⟩) n cap) rs) (h1 : 1 ≤ n) (hA : (if cap = 1 then some (⟨g, 0, none⟩ : Addr) else some ⟨g, 1, none⟩) = A) (hc : n ≤ cap) : TRows w (.slice A (n - 1) (cap - 1)) (rs.drop 1) := by
  obtain ⟨A', cap', us, hv, hm, hl, hr⟩ := h
  obtain ⟨rfl, rfl, rfl⟩ : some ⟨g, 0, none⟩ = A' ∧ n = rs.length ∧ cap = cap' := by simpa using hv
  have hdl : (rs.drop 1).length = rs.length - 1 := by simp
  refine ⟨A, cap - 1, us.drop 1, by rw [hdl], by omega, by simp [hl], fun i hi u hu => ?_⟩
  have hi1 : i + 1 < rs.length := by omega
  have hu' : us[i + 1]? = some u := by rw [List.getElem?_drop, Nat.add_comm] at hu; exact hu
  obtain ⟨⟨b, off, hAA, hcell⟩, hx⟩ := hr (i + 1) hi1 u hu'
  cases hAA
  refine ⟨?_, ?_⟩
  · by_cases hcc : cap = 1
    · omega
    · rw [if_neg hcc] at hA
      subst hA
      exact ⟨g, 1, rfl, by rw [Nat.add_comm 1 i]; rw [Nat.zero_add] at hcell; exact hcell⟩
  · have e : (rs.drop 1)[i] = rs[i + 1] := by simp
    rw [e]
    exact hx

end Go.Proofs.YtellghhilcjbnaaDoor

/-
  spec.l92Costs: costs are drawn.
-/
namespace Go.Proofs.YtellghhilcjbnaaDoor
set_option linter.unusedVariables false
set_option linter.unusedSimpArgs false
open Go.RowKit
set_option maxRecDepth 100000

abbrev sc (g n c : Nat) : Value := .slice (some ⟨g, 0, none⟩) n c
/-- The costs under way. -/
def DCo (w : World) (r M cap : Nat) (A : Option Addr) (p n i : Nat) (v : Value) (W : World) : Prop :=
  ∃ g c us xss q, v = sc g i c ∧ q ≤ p ∧ W.heap[r]? = some (.cells (rcells A M cap q) 93 (0, 0)) ∧ OwnsRows W w.heap.size W.heap.size (sc g i c) us xss ∧ xss.length = i ∧ (∀ xs ∈ xss, xs.length = n) ∧ Within r (r + 1) w W
/-- A row under way. -/
def DRo (wq : World) (r M cap : Nat) (A : Option Addr) (p k : Nat) (v : Value) (W : World) : Prop :=
  ∃ g c xs, v = sc g k c ∧ xs.length = k ∧ OwnsInts W wq.heap.size W.heap.size (sc g k c) xs ∧ W.heap[r]? = some (.cells (rcells A M cap p) 93 (0, 0)) ∧ Within r (r + 1) wq W
def crr3 (x : Nat) : Int := [1000, -1000, 1001].getD x 0
theorem crr3_at (W : World) (x : Nat) (hx : x < 3) : (W.alloc (.cells #[.int .i64 1000, .int .i64 (-1000), .int .i64 1001] 3)).cell? ⟨W.heap.size, x, none⟩ = some (.int .i64 (crr3 x)) := by
  have h : (W.alloc (.cells #[.int .i64 1000, .int .i64 (-1000), .int .i64 1001] 3)).heap[W.heap.size]? = some (.cells #[.int .i64 1000, .int .i64 (-1000), .int .i64 1001] 3 (0, 0)) := World.alloc_heap_new _ _
  simp only [World.cell?, h]
  rcases (show x = 0 ∨ x = 1 ∨ x = 2 by omega) with rfl | rfl | rfl <;> rfl
theorem crr3_lt {x : Nat} (hx : x < 3) : (x : Int) < 3 := by omega
theorem crr3_kept {W w3 : World} {r x : Nat} (h : Within r (r + 1) (W.alloc (.cells #[.int .i64 1000, .int .i64 (-1000), .int .i64 1001] 3)) w3) (hr : r < W.heap.size) (hx : x < 3) : w3.cell? ⟨W.heap.size, x, none⟩ = some (.int .i64 (crr3 x)) :=
  (World.cell?_of_block (a := ⟨W.heap.size, x, none⟩) (h.block W.heap.size (by simp) (by omega))).trans (crr3_at W x hx)

/-- The state at the end, whose first row may be written once. -/
def DCe (w : World) (r M cap : Nat) (A : Option Addr) (p n g c : Nat) (us : List Value) (W : World) : Prop :=
  ∃ xss q, q ≤ p ∧ W.heap[r]? = some (.cells (rcells A M cap q) 93 (0, 0)) ∧ OwnsRows W w.heap.size W.heap.size (sc g n c) us xss ∧ xss.length = n ∧ (∀ xs ∈ xss, xs.length = n) ∧ Within r (r + 1) w W
theorem dce_below {w W W' : World} {r M cap p n g c : Nat} {A : Option Addr} {us : List Value} (h : DCe w r M cap A p n g c us W) (hb : Below W.heap.size W W') : DCe w r M cap A p n g c us W' := by
  obtain ⟨xss, q, hq, hr, ho, hl, hn, hw⟩ := h
  exact ⟨xss, q, hq, (hb.block r (Array.getElem?_eq_some_iff.1 hr).1).trans hr, (ho.below hb).wide (Nat.le_refl _) hb.size, hl, hn, hw.below hb⟩
theorem dce_pick {w W : World} {r M cap p n g c k : Nat} {A : Option Addr} {us : List Value} (h : DCe w r M cap A p n g c us W) (hxr : Bytes w r A M) (hM : M ≤ 2000) (hrl : r < w.heap.size) (hp : p ≤ 90000) (hk : 1 ≤ k) (hk2 : k ≤ 1000) :
    Calls Tryd.prog 51 #[.pointer (some ⟨r, 0, none⟩), .int .i64 k] W fun e W' => ∃ x : Nat, x < k ∧ e = .returned (.int .i64 x) ∧ DCe w r M cap A (p + 1) n g c us W' ∧ Within r (r + 1) W W' := by
  obtain ⟨xss, q, hq, hr, ho, hl, hn, hw⟩ := h
  refine (pick_any W r q k M cap A hr (hxr.within hw) (by omega) hM hk hk2).mono ?_
  rintro e W' ⟨x, hx, rfl, hr4, hw4⟩
  exact ⟨x, hx, rfl, ⟨xss, q + 1, by omega, hr4, (ho.kept hw4 (.inr (by omega))).wide (Nat.le_refl _) hw4.size, hl, hn, hw.trans hw4⟩, hw4⟩
theorem dce_row {w W : World} {r M cap p n g c : Nat} {A : Option Addr} {us : List Value} (h : DCe w r M cap A p n g c us W) (h1 : 1 ≤ n) : ∃ g0 c0, us[0]? = some (sc g0 n c0) ∧ W.cell? ⟨g, 0, none⟩ = some (sc g0 n c0) := by
  obtain ⟨xss, q, hq, hr, ho, hl, hn, hw⟩ := h
  have hu : 0 < us.length := by have := ho.len; omega
  have hx0 : 0 < xss.length := by omega
  have hxl := hn xss[0] (List.getElem_mem hx0)
  have hi := (ho.inner 0 hu).1
  rcases hi.2 with ⟨_, h0⟩ | ⟨g0, cap0, cur, hv, _⟩
  · omega
  · rw [hxl] at hv
    have hout := ho.outer.1
    rw [hl] at hout
    have hcell := hout.cellAt 0 (by omega)
    refine ⟨g0, cap0, by rw [List.getElem?_eq_getElem hu, hv], ?_⟩
    rw [hcell, List.getElem?_eq_getElem hu, hv]
theorem dce_put {w W : World} {r M cap p n g c g0 c0 : Nat} {A : Option Addr} {us : List Value} (h : DCe w r M cap A p n g c us W) (h1 : 1 ≤ n) (hrl : r < w.heap.size) (hu0 : us[0]? = some (sc g0 n c0)) (z : Int) :
    (∃ x, W.cell? ⟨g0, 0, none⟩ = some (.int .i64 x)) ∧ W.frozen? ⟨g0, 0, none⟩ = false ∧ W.cell? ⟨g, 0, none⟩ = some (sc g0 n c0) ∧ DCe w r M cap A p n g c us (W.setCell ⟨g0, 0, none⟩ (.int .i64 z)) := by
  obtain ⟨xss, q, hq, hr, ho, hl, hn, hw⟩ := h
  have hu : 0 < us.length := by have := ho.len; omega
  have hx0 : 0 < xss.length := by omega
  have hxl := hn xss[0] (List.getElem_mem hx0)
  have hue : us[0] = sc g0 n c0 := by rw [List.getElem?_eq_getElem hu] at hu0; simpa using hu0
  have hi := (ho.inner 0 hu)
  rw [hue] at hi
  have hI := hi.1
  rw [hxl] at hI
  have hc := hI.cellAt 0 (by omega)
  have hst := (hI.stored 0 (.int .i64 z)).1
  have hg := grown_setCell W g0 0 (.int .i64 z)
  have hout := ho.outer.1
  rw [hl] at hout
  have hcell := hout.cellAt 0 (by omega)
  have hg0 : w.heap.size ≤ g0 := (hI.lt g0 rfl).1
  have hsz : (W.setCell ⟨g0, 0, none⟩ (.int .i64 z)).heap.size = W.heap.size := by simp [World.setCell]
  have e : (vals xss[0]).set 0 (.int .i64 z) = vals (xss[0].set 0 z) := by simp [vals, List.map_set]
  rw [e] at hst
  refine ⟨⟨xss[0][0]'(by omega), by rw [hc]; simp [vals, show 0 < xss[0].length by omega]⟩, hI.frozenAt 0, by rw [hcell, List.getElem?_eq_getElem hu, hue], xss.set 0 (xss[0].set 0 z), q, hq, ?_, ?_, by simp [hl], ?_, ?_⟩
  · exact (hg.block r (Array.getElem?_eq_some_iff.1 hr).1 (fun e => by (have h9 : r = g0 := by simpa using e); omega)).trans hr
  · have ht := ho.turn 0 hu (by rw [hue]; exact hg) (xss[0].set 0 z) (by
      rw [hue]
      have hlx : (xss[0].set 0 z).length = n := by simp [hxl]
      unfold Owns
      rw [hlx]
      exact hst)
    exact ht.wide (Nat.le_refl _) (by omega)
  · intro xs hx
    rcases List.mem_or_eq_of_mem_set hx with hx | hx
    · exact hn xs hx
    · rw [hx, List.length_set]; exact hxl
  · exact ⟨hg.os.trans hw.os, hg.tape.trans hw.tape, hg.output.trans hw.output, by rw [hsz]; exact hw.size, fun k hk hk2 => (hg.block k (Nat.lt_of_lt_of_le hk hw.size) (fun e => by
      have : k = g0 := by simpa using e
      omega)).trans (hw.block k hk hk2)⟩

/-- What drawing costs leaves. -/
def GivesLC (w : World) (r M cap p0 : Nat) (A : Option Addr) (e : Ending) (w' : World) : Prop :=
  ∃ g c us xss q, e = .returned (sc g xss.length c) ∧ OwnsRows w' w.heap.size w'.heap.size (sc g xss.length c) us xss ∧ 1 ≤ xss.length ∧ xss.length ≤ 4 ∧ q ≤ p0 + 30 ∧ w'.heap[r]? = some (.cells (rcells A M cap q) 93 (0, 0)) ∧ Within r (r + 1) w w'

set_option maxHeartbeats 4000000 in
theorem costs_draw (w : World) (r p0 M cap : Nat) (A : Option Addr) (hr : w.heap[r]? = some (.cells (rcells A M cap p0) 93 (0, 0))) (hxr : Bytes w r A M) (hM : M ≤ 2000) (hp : p0 ≤ 80000) :
    Calls Tryd.prog 33 #[.pointer (some ⟨r, 0, none⟩)] w (GivesLC w r M cap p0 A) := by
  obtain ⟨i0, hi, hz0, hz1, hz2⟩ := info_parts infoRow
  obtain ⟨j0, hj, hy0, hy1, hy2⟩ := info_parts infoInt
  have hrl := (Array.getElem?_eq_some_iff.1 hr).1
  have HXR := Lib.hid hxr
  have HRL := Lib.hid hrl
  have HPK := Lib.hid (pick_any w r p0 4 M cap A hr hxr (by omega) hM (by omega) (by omega))
  clear hxr hr
  go_enter Tryd.func33, Tryd.ntmps33
  go_wp2_with fail
  refine HPK.out.mono ?_
  rintro e w1 ⟨n0, hn0, rfl, hr1, hw1⟩
  obtain ⟨n, hn⟩ : ∃ n, n0 + 1 = n := ⟨_, rfl⟩
  have hn1 : 1 ≤ n := by omega
  have hn4 : n ≤ 4 := by omega
  have hz1' := hw1.size
  have hown : (w1.alloc (.cells #[] 24)).ownsRow w.heap.size 24 1 (sc w1.heap.size 0 0) 0 [] := World.ownsRow_made (base := w.heap.size) (e := 24) (size := 1) w1 #[] 0 hz1' (Nat.zero_le _) rfl
  have HD1 : Hid (DCo w r M cap A (p0 + 1 + n * 0) n 0 (sc w1.heap.size 0 0) (w1.alloc (.cells #[] 24))) := Lib.hid
    ⟨w1.heap.size, 0, [], [], p0 + 1, rfl, by omega, (Below.heap_alloc _ _ _ (by omega)).trans hr1, owns_rows_nil _ _ _ hown, rfl, fun xs hx => by simp at hx, hw1.below ((Below.refl _ _).alloc (Nat.le_refl _) _)⟩
  have hnw : IntKind.i64.wrap (1 + (n0 : Int)) = (n : Int) := by rw [wraps_i64 _ (by omega) (by omega)]; omega
  have hnw2 := (wrap_eq _).symm.trans hnw
  clear hr1 hw1 hz1' hown hrl
  go_wp2_with fail
  clear hnw hnw2 hn0 hn
  go_loopw [4, 5, 6, 7] (fun v iv _ _ wr => ∃ i : Nat, i ≤ n ∧ iv = .int .i64 (i : Int) ∧ DCo w r M cap A (p0 + 1 + n * i) n i v wr) (fun _ iv _ _ _ => n - (intOf iv).toNat)
  case atStart => exact ⟨0, by omega, rfl, HD1.out⟩
  case round =>
    obtain ⟨i, hin, rfl, g, c, us, xss, q, rfl, hq, hrd, ho, hl, hrow, hw⟩ := hrel
    by_cases hlt : i < n
    · have hni : (i : Int) < (n : Int) := by omega
      obtain ⟨wq, hwq⟩ : ∃ wq, wq = wr := ⟨_, rfl⟩
      subst hwq
      have hnq : q + n ≤ 80100 := by
        have h4 : n * i ≤ 4 * 4 := Nat.mul_le_mul hn4 (by omega)
        omega
      have hrq := (Array.getElem?_eq_some_iff.1 hrd).1
      have HX := Lib.hid (And.intro ho (And.intro hw (And.intro hl hrow)))
      have HD2 : Hid (DRo wq r M cap A (q + 0) 0 (sc wq.heap.size 0 0) (wq.alloc (.cells #[] 3))) := Lib.hid
        ⟨wq.heap.size, 0, [], rfl, rfl, OwnsAt.of (owns_empty wq wq.heap.size (Nat.le_refl _)), (Below.heap_alloc _ _ _ hrq).trans hrd, (Within.refl _ _ _).below ((Below.refl _ _).alloc (Nat.le_refl _) _)⟩
      have HQ := Lib.hid hq
      have HWS := Lib.hid (And.intro hw.size hrq)
      clear hrd ho hw hl hrow hq hrq
      go_wp2_with fail
      go_loopw [6, 7] (fun v kv wr => ∃ k : Nat, k ≤ n ∧ kv = .int .i64 (k : Int) ∧ DRo wq r M cap A (q + k) k v wr) (fun _ kv _ => n - (intOf kv).toNat)
      case atStart => exact ⟨0, by omega, rfl, HD2.out⟩
      case round =>
        obtain ⟨k, hkn, rfl, g2, c2, xs, rfl, hxl, hox, hrd2, hw2⟩ := hrel
        by_cases hlt2 : k < n
        · have hni2 : (k : Int) < (n : Int) := by omega
          have hwz := hw2.size
          have HP := Lib.hid (pick_any wr r (q + k) 12 M cap A hrd2 ((HXR.out.within HX.out.2.1).within hw2) (by omega) hM (by omega) (by omega))
          have HO := Lib.hid (And.intro hox (And.intro hw2 hxl))
          clear hrd2 hox hw2 hxl
          go_wp2_with fail
          refine HP.out.mono ?_
          rintro e w3 ⟨x, hx, rfl, hr3, hw3⟩
          have hz3 := hw3.size
          have hrl0 := HWS.out.2
          have ho3 := (HO.out.1.kept hw3 (.inr (by omega))).1
          rw [HO.out.2.2] at ho3
          obtain ⟨z, hz⟩ : ∃ z : Int, (x : Int) - 2 = z := ⟨_, rfl⟩
          have hbz : -10 ≤ z ∧ z ≤ 12 := by omega
          have hzw : IntKind.i64.wrap z = z := by rw [IntKind.wrap_i64]; omega
          have hzw2 := (wrap_eq _).symm.trans hzw
          have HO3 := Lib.hid ho3
          have HR3 := Lib.hid (And.intro hr3 hw3)
          have hs3 : wq.heap.size ≤ w3.heap.size := by clear hzw hzw2; omega
          have hk4 : k ≤ 4 := by clear hzw hzw2; omega
          clear ho3 hr3 hw3 hz3 hx hbz hrl0 hwz
          go_wp2_with (at_builtin; refine wpList_append_lies _ rfl (.tmp 23) (.tmp 27) 24 rfl wq.heap.size 3 j0 (.int .i64 0) 1 8 Tryd.underlying24 hj hy0 hy1 hy2 rfl (by decide) (sc g2 k c2) k (vals xs) rfl (HO3.out.alloc _) ⟨w3.heap.size, 0, none⟩ 1 1 [.int .i64 z] rfl rfl (cell_one_new _ _ _) (by simp [Value.oneCell']) (by decide) (by unfold maxLen; clear hzw hzw2; omega) (by clear hzw hzw2; omega) (by clear hzw hzw2; simp; omega) _ rfl ?_; intro g5 c5 w5 hown5 hgrow5 hor5 hlt5)
          clear hzw hzw2 hz
          have hb5 : Below wq.heap.size w3 w5 := (((Below.refl w3.heap.size w3).mono hs3).alloc hs3 _).grown hgrow5 (by simp; omega) (fun b hb => (HO3.out.lt b hb).1)
          have HD5 : Hid (DRo wq r M cap A (q + (k + 1)) (k + 1) (sc g5 (k + 1) c5) w5) := Lib.hid (by
            have hxl := HO.out.2.2
            have hrl1 := HWS.out.2
            have hw23 := HO.out.2.1.trans HR3.out.2
            refine ⟨g5, c5, xs ++ [z], rfl, by simp [hxl], OwnsAt.of ?_, ?_, ⟨hb5.os.trans hw23.os, hb5.tape.trans hw23.tape, hb5.output.trans hw23.output, Nat.le_trans hw23.size hb5.size, fun j hj hj2 => (hb5.block j hj).trans (hw23.block j hj hj2)⟩⟩
            · have hlx : (xs ++ [z]).length = k + 1 := by simp [hxl]
              rw [hlx]
              simpa [vals] using hown5
            · rw [show q + (k + 1) = q + k + 1 by omega]
              exact (hb5.block r hrl1).trans HR3.out.1)
          clear hown5 hgrow5 hor5 hlt5 hb5
          go_roundw
          case rel => exact ⟨k + 1, by omega, by go_num, HD5.out⟩
          case measure => simp [intOf]; omega
        · obtain rfl : n = k := by omega
          have hwz := hw2.size
          have hrl0 := HWS.out.2
          have hwz0 := HWS.out.1
          have hoW := HX.out.1.kept hw2 (.inr (by have := HRL.out; omega))
          have hul : us.length = i := by rw [HX.out.1.len, HX.out.2.2.1]
          have hro := hoW.outer.1
          rw [HX.out.2.2.1] at hro
          have HRO := Lib.hid hro
          have HFN := Lib.hid (fun (w5 : World) (g5 c5 : Nat) (hown5 : w5.ownsRow w.heap.size 24 1 (sc g5 (i + 1) c5) (i + 1) (us ++ [sc g2 n c2])) (hgrow5 : (wr.alloc (.cells #[sc g2 n c2] 24)).grownBy w5 (some g)) => show DCo w r M cap A (p0 + 1 + n * (i + 1)) n (i + 1) (sc g5 (i + 1) c5) w5 from by
            have hb1 : Below wr.heap.size wr (wr.alloc (.cells #[sc g2 n c2] 24)) := (Below.refl _ _).alloc (Nat.le_refl _) _
            have hps := (hoW.below hb1).push2 (hlo := hwz0) (hhi := by simp; omega) ((hox.below hb1).wide (Nat.le_refl _) hb1.size) (by rw [hul]; exact hown5) hgrow5
            have hgl := (HX.out.1.outer.1.lt g rfl).1
            have hb5 : Below w.heap.size wr w5 := (((Below.refl wr.heap.size wr).mono (by omega)).alloc (by omega) _).grown hgrow5 (by simp; omega) (fun b hb => by cases hb; exact hgl)
            have hww := HX.out.2.1.trans hw2
            refine ⟨g5, c5, us ++ [sc g2 n c2], xss ++ [xs], q + n, rfl, ?_, (hb5.block r HRL.out).trans hrd2, hps, by simp [HX.out.2.2.1], ?_, ⟨hb5.os.trans hww.os, hb5.tape.trans hww.tape, hb5.output.trans hww.output, Nat.le_trans hww.size hb5.size, fun j hj hj2 => (hb5.block j hj).trans (hww.block j hj hj2)⟩⟩
            · have := HQ.out
              rw [Nat.mul_succ]; omega
            · intro ys hy
              rcases List.mem_append.1 hy with hy | hy
              · exact HX.out.2.2.2 ys hy
              · rw [List.mem_singleton] at hy; subst hy; exact hxl)
          have hi4 : i ≤ 4 := by omega
          have hbz : w.heap.size ≤ wr.heap.size := by omega
          clear hox hrd2 hw2 hwz hrl0 hwz0 hoW hul hro hxl
          go_wp2_with (at_builtin; refine wpList_append_lies _ rfl (.tmp 29) (.tmp 31) 22 rfl w.heap.size 24 i0 (.slice none 0 0) 1 24 Tryd.underlying22 hi hz0 hz1 hz2 rfl (by decide) (sc g i c) i us rfl (HRO.out.alloc _) ⟨wr.heap.size, 0, none⟩ 1 1 [sc g2 n c2] rfl rfl (cell_one_new _ _ _) (by simp [Value.oneCell']) (by decide) (by unfold maxLen; omega) (by omega) (by simp; omega) _ rfl ?_; intro g5 c5 w5 hown5 hgrow5 hor5 hlt5)
          have HD5 := Lib.hid (HFN.out w5 g5 c5 hown5 hgrow5)
          clear hown5 hgrow5 hor5 hlt5
          go_roundw
          case rel => exact ⟨i + 1, by omega, by go_num, HD5.out⟩
          case measure => simp [intOf]; omega
    · obtain rfl : n = i := by omega
      have hnn : n * n ≤ 16 := Nat.mul_le_mul hn4 hn4
      have hDE : DCe w r M cap A (p0 + 20) n g c us wr := ⟨xss, q, by omega, hrd, ho, hl, hrow, hw⟩
      have HP := Lib.hid (dce_pick (k := 24) hDE HXR.out hM HRL.out (by omega) (by decide) (by decide))
      clear hDE hrd ho hl hrow hw
      go_wp2_with fail
      refine HP.out.mono ?_
      rintro e w7 ⟨x, hx, rfl, hd7, -⟩
      have HD7 := Lib.hid hd7
      have HFIN := Lib.hid (fun (W : World) (q' : Nat) (hq' : q' ≤ p0 + 30) (hd : DCe w r M cap A q' n g c us W) => show GivesLC w r M cap p0 A (.returned (sc g n c)) W from by
        obtain ⟨xss, q, hq, hr, ho, hl, hn, hw⟩ := hd
        exact ⟨g, c, us, xss, q, by rw [hl], by rw [hl]; exact ho, by omega, by omega, by omega, hr, hw⟩)
      clear hd7
      by_cases hx0 : x = 0
      · have e0 : ((x : Int) == 0) = true := by rw [beq_iff_eq]; omega
        obtain ⟨g0, c0', hu0, hcg⟩ := dce_row HD7.out hn1
        have HPK2 := Lib.hid (fun (W : World) (hd : DCe w r M cap A (p0 + 20 + 1) n g c us W) => dce_pick (k := 3) hd HXR.out hM HRL.out (by omega) (by decide) (by decide))
        have HAFT := Lib.hid (fun (W : World) (q : Nat) (hd : DCe w r M cap A q n g c us W) => show W.cell? ⟨g, 0, none⟩ = some (sc g0 n c0') ∧ W.frozen? ⟨g0, 0, none⟩ = false ∧ ∃ x, W.cell? ⟨g0, 0, none⟩ = some (.int .i64 x) from by
          obtain ⟨a, b, c, _⟩ := dce_put hd hn1 HRL.out hu0 0
          exact ⟨c, b, a⟩)
        have HPUT := Lib.hid (fun (W : World) (q : Nat) (x : Int) (hd : DCe w r M cap A q n g c us W) => (dce_put hd hn1 HRL.out hu0 x).2.2.2)
        have HDW := Lib.hid (dce_below HD7.out (Below.drew (Below.refl _ _)))
        have y0 := (HAFT.out _ _ HDW.out).1
        have HRS : Hid (r < w7.drew.heap.size) := Lib.hid (by
          obtain ⟨xss, q, hq, hr, _⟩ := HD7.out
          exact (Array.getElem?_eq_some_iff.1 hr).1)
        have i3 : (0 : Int) < (n : Int) := by omega
        have i4 : 0 < n := hn1
        have hqq1 : p0 + 20 + 1 + 1 ≤ p0 + 30 := by omega
        clear hx0 hx hcg
        go_wp2_with fail
        refine wp_region_held_drew (S := fun w' => w'.cell? ⟨g, 0, none⟩ = some (sc g0 n c0')) (by kernel_rfl) y0 (fun hHeld => ?_)
        refine wpAnyH_take (i := 0) (v := ?vt0) rfl (by kernel_rfl) (by kernel_rfl) (by kernel_rfl) (fun _ _ _ h => h) (Or.inl ⟨by rfl, ?hyt0⟩) (by assumption) ?_
        case hyt0 =>
          intro w' hSw
          try dsimp only at hSw
          skip
          go_simp
          try with_reducible rfl
        try simp only [Act.put, List.setIfInBounds_toArray, List.set_cons_zero, List.set_cons_succ]
        refine wpAnyH_take (i := 1) (v := ?vt1) rfl (by kernel_rfl) (by kernel_rfl) (by kernel_rfl) (fun _ _ _ h => h) (Or.inl ⟨by rfl, ?hyt1⟩) (by assumption) ?_
        case hyt1 =>
          intro w' hSw
          try dsimp only at hSw
          skip
          go_simp
          try with_reducible rfl
        try simp only [Act.put, List.setIfInBounds_toArray, List.set_cons_zero, List.set_cons_succ]
        refine wpAnyH_take (i := 2) (v := ?vt2) rfl (by kernel_rfl) (by kernel_rfl) (by kernel_rfl) (fun _ _ _ h => h) (Or.inl ⟨by rfl, ?hyt2⟩) (by assumption) ?_
        case hyt2 =>
          intro w' hSw
          try dsimp only at hSw
          skip
          go_simp
          try with_reducible rfl
        try simp only [Act.put, List.setIfInBounds_toArray, List.set_cons_zero, List.set_cons_succ]
        refine wpAnyH_take (i := 4) (v := ?vt4) rfl (by kernel_rfl) (by kernel_rfl) (by kernel_rfl) (fun _ _ _ h => h) (Or.inl ⟨by rfl, ?hyt4⟩) (by assumption) ?_
        case hyt4 =>
          intro w' hSw
          try dsimp only at hSw
          skip
          go_simp
          try with_reducible rfl
        try simp only [Act.put, List.setIfInBounds_toArray, List.set_cons_zero, List.set_cons_succ]
        refine wpAnyH_ready (rs := [3, 5]) (by kernel_rfl) (by simp) (AllReadyH.cons rfl (fun K hK => ?_) (AllReadyH.cons rfl (fun K hK => ?_) AllReadyH.nil))
        · go_simp
          refine hK.out _ _ (HAFT.out _ _ (dce_below HDW.out ((Below.refl _ _).alloc (Nat.le_refl _) _))).1 (fun hHeld2 => ?_)
          clear hK K
          try simp only [Act.put, List.setIfInBounds_toArray, List.set_cons_zero, List.set_cons_succ]
          refine wpAnyH_ready (rs := [5]) (by kernel_rfl) (by simp) (AllReadyH.cons rfl (fun K hK => ?_) AllReadyH.nil)
          go_simp
          go_at_call 51; refine (HPK2.out _ (dce_below HDW.out ((Below.refl _ _).alloc (Nat.le_refl _) _))).mono ?_; rintro e w3 ⟨x, hx, rfl, hd3, hw3⟩; have harr : w3.cell? ⟨w7.heap.size, x, none⟩ = some (.int .i64 (crr3 x)) := (by have harr0 := crr3_kept hw3 HRS.out hx; exact harr0); have hx3 := crr3_lt hx; obtain ⟨-, hf3, v0, hv0⟩ := HAFT.out w3 _ hd3
          refine hK.out _ _ ((HAFT.out w3 _ hd3).1) (fun hHeld2 => ?_)
          clear hK K
          try simp only [Act.put, List.setIfInBounds_toArray, List.set_cons_zero, List.set_cons_succ]
          refine wpAnyH_take (i := 6) (v := ?vta6) rfl (by kernel_rfl) (by kernel_rfl) (by kernel_rfl) (fun _ _ _ h => h) (Or.inl ⟨by rfl, ?hyta6⟩) (by assumption) ?_
          case hyta6 =>
            intro w' hSw
            try dsimp only at hSw
            skip
            go_simp
            try with_reducible rfl
          try simp only [Act.put, List.setIfInBounds_toArray, List.set_cons_zero, List.set_cons_succ]
          refine wpAnyH_ready (rs := [7]) (by kernel_rfl) (by simp) (AllReadyH.cons rfl (fun K hK => ?_) AllReadyH.nil)
          go_simp
          refine hK.out _ _ ((HAFT.out w3 _ hd3).1) (fun hHeld2 => ?_)
          clear hK K
          try simp only [Act.put, List.setIfInBounds_toArray, List.set_cons_zero, List.set_cons_succ]
          refine wpAnyH_take (i := 8) (v := ?vta8) rfl (by kernel_rfl) (by kernel_rfl) (by kernel_rfl) (fun _ _ _ h => h) (Or.inl ⟨by rfl, ?hyta8⟩) (by assumption) ?_
          case hyta8 =>
            intro w' hSw
            try dsimp only at hSw
            skip
            go_simp
            try with_reducible rfl
          try simp only [Act.put, List.setIfInBounds_toArray, List.set_cons_zero, List.set_cons_succ]
          refine wpAnyH_ready (rs := [9]) (by kernel_rfl) (by simp) (AllReadyH.cons rfl (fun K hK => ?_) AllReadyH.nil)
          go_simp
          refine hK.out _ _ ((HAFT.out _ _ (HPUT.out w3 _ _ hd3)).1) (fun hHeld2 => ?_)
          clear hK K
          try simp only [Act.put, List.setIfInBounds_toArray, List.set_cons_zero, List.set_cons_succ]
          refine wpAnyH_done (by kernel_rfl) ?_ _
          go_wp2_with fail
          go_ret
          exact HFIN.out _ _ hqq1 (HPUT.out _ _ _ hd3)
        · go_simp
          go_at_call 51
          refine (HPK2.out _ HDW.out).mono ?_
          rintro e w3 ⟨x, hx, rfl, hd3, hw3⟩
          have harr := crr3_at w3 x hx
          have hx3 := crr3_lt hx
          have hd3' := dce_below hd3 ((Below.refl w3.heap.size w3).alloc (Nat.le_refl _) (.cells #[.int .i64 1000, .int .i64 (-1000), .int .i64 1001] 3))
          obtain ⟨-, hf3, v0, hv0⟩ := HAFT.out (w3.alloc (.cells #[.int .i64 1000, .int .i64 (-1000), .int .i64 1001] 3)) _ hd3'
          refine hK.out _ _ (HAFT.out w3 _ hd3).1 (fun hHeld2 => ?_)
          clear hK K
          try simp only [Act.put, List.setIfInBounds_toArray, List.set_cons_zero, List.set_cons_succ]
          refine wpAnyH_ready (rs := [3]) (by kernel_rfl) (by simp) (AllReadyH.cons rfl (fun K hK => ?_) AllReadyH.nil)
          go_simp
          refine hK.out _ _ ((HAFT.out _ _ hd3').1) (fun hHeld2 => ?_)
          clear hK K
          try simp only [Act.put, List.setIfInBounds_toArray, List.set_cons_zero, List.set_cons_succ]
          refine wpAnyH_take (i := 6) (v := ?vtb6) rfl (by kernel_rfl) (by kernel_rfl) (by kernel_rfl) (fun _ _ _ h => h) (Or.inl ⟨by rfl, ?hytb6⟩) (by assumption) ?_
          case hytb6 =>
            intro w' hSw
            try dsimp only at hSw
            skip
            go_simp
            try with_reducible rfl
          try simp only [Act.put, List.setIfInBounds_toArray, List.set_cons_zero, List.set_cons_succ]
          refine wpAnyH_ready (rs := [7]) (by kernel_rfl) (by simp) (AllReadyH.cons rfl (fun K hK => ?_) AllReadyH.nil)
          go_simp
          refine hK.out _ _ ((HAFT.out _ _ hd3').1) (fun hHeld2 => ?_)
          clear hK K
          try simp only [Act.put, List.setIfInBounds_toArray, List.set_cons_zero, List.set_cons_succ]
          refine wpAnyH_take (i := 8) (v := ?vtb8) rfl (by kernel_rfl) (by kernel_rfl) (by kernel_rfl) (fun _ _ _ h => h) (Or.inl ⟨by rfl, ?hytb8⟩) (by assumption) ?_
          case hytb8 =>
            intro w' hSw
            try dsimp only at hSw
            skip
            go_simp
            try with_reducible rfl
          try simp only [Act.put, List.setIfInBounds_toArray, List.set_cons_zero, List.set_cons_succ]
          refine wpAnyH_ready (rs := [9]) (by kernel_rfl) (by simp) (AllReadyH.cons rfl (fun K hK => ?_) AllReadyH.nil)
          go_simp
          refine hK.out _ _ ((HAFT.out _ _ (HPUT.out _ _ _ hd3')).1) (fun hHeld2 => ?_)
          clear hK K
          try simp only [Act.put, List.setIfInBounds_toArray, List.set_cons_zero, List.set_cons_succ]
          refine wpAnyH_done (by kernel_rfl) ?_ _
          go_wp2_with fail
          go_ret
          exact HFIN.out _ _ hqq1 (HPUT.out _ _ _ hd3')
      · have e0 : ((x : Int) == 0) = false := by rw [beq_eq_false_iff_ne]; omega
        go_wp2_with fail
        go_ret
        exact HFIN.out _ _ (by omega) HD7.out

end Go.Proofs.YtellghhilcjbnaaDoor

/-
  Numbers that are drawn beside costs: what their operations are.
-/
namespace Go.Proofs.YtellghhilcjbnaaDoor
set_option linter.unusedVariables false
set_option linter.unusedSimpArgs false
open Go.RowKit

theorem wrap_in2 (z : Int) (h1 : -1000000 ≤ z) (h2 : z ≤ 1000000) : IntKind.i64.wrap z = z ∧ wrap64 z = z := by
  have h : IntKind.i64.wrap z = z := by rw [IntKind.wrap_i64]; omega
  exact ⟨h, (wrap_eq _).symm.trans h⟩
theorem over23m (n x : Nat) (hn1 : 1 ≤ n) (hn : n ≤ 4) (hx : x < 24) : ∃ d m : Nat, (x : Int).tdiv 23 = (d : Int) ∧ (x : Int) / 23 = (d : Int) ∧ IntKind.i64.wrap ((n : Int) + (d : Int)) = (m : Int) ∧ wrap64 ((n : Int) + (d : Int)) = (m : Int) ∧ (1 ≤ m ∧ m ≤ 5) ∧ IntKind.i64.wrap (d : Int) = (d : Int) ∧ wrap64 (d : Int) = (d : Int) := by
  have e : (x : Int) / 23 = ((x / 23 : Nat) : Int) := by simp
  have hd : x / 23 ≤ 1 := by omega
  obtain ⟨d, hde⟩ : ∃ d, x / 23 = d := ⟨_, rfl⟩
  rw [hde] at e hd
  have e2 : (x : Int).tdiv 23 = (d : Int) := by rw [Int.tdiv_eq_ediv_of_nonneg (by omega), e]
  have es : (n : Int) + (d : Int) = ((n + d : Nat) : Int) := by omega
  have b1 : 1 ≤ n + d ∧ n + d ≤ 5 := by omega
  have w1 := wrap_in2 ((n : Int) + (d : Int)) (by omega) (by omega)
  have w2 := wrap_in2 (d : Int) (by clear w1; omega) (by clear w1; omega)
  exact ⟨d, n + d, e2, e, w1.1.trans es, w1.2.trans es, b1, w2.1, w2.2⟩
theorem last_more (a b : Nat) (ha : a < 21) (hb : b < 24) : ∃ z1 d z2 z3 : Int, (IntKind.i64.wrap ((a : Int) - 10) = z1 ∧ wrap64 ((a : Int) - 10) = z1) ∧ ((b : Int).tdiv 23 = d ∧ (b : Int) / 23 = d ∧ IntKind.i64.wrap d = d ∧ wrap64 d = d) ∧ (IntKind.i64.wrap (d * 1990) = z2 ∧ wrap64 (d * 1990) = z2) ∧ (IntKind.i64.wrap (z1 + z2) = z3 ∧ wrap64 (z1 + z2) = z3) ∧ -3000 ≤ z3 ∧ z3 ≤ 3000 := by
  have e2 : (b : Int).tdiv 23 = (b : Int) / 23 := Int.tdiv_eq_ediv_of_nonneg (by omega)
  obtain ⟨d, hd⟩ : ∃ d, (b : Int) / 23 = d := ⟨_, rfl⟩
  have hd1 : 0 ≤ d ∧ d ≤ 1 := by omega
  rw [hd] at e2
  obtain ⟨z2, hz2⟩ : ∃ z, d * 1990 = z := ⟨_, rfl⟩
  have b2 : 0 ≤ z2 ∧ z2 ≤ 1990 := by omega
  obtain ⟨z1, hz1⟩ : ∃ z, (a : Int) - 10 = z := ⟨_, rfl⟩
  have b1 : -10 ≤ z1 ∧ z1 ≤ 10 := by omega
  obtain ⟨z3, hz3⟩ : ∃ z, z1 + z2 = z := ⟨_, rfl⟩
  have b3 : -3000 ≤ z3 ∧ z3 ≤ 3000 := by omega
  refine ⟨z1, d, z2, z3, ?_, ⟨e2, hd, ?_⟩, ?_, ?_, b3⟩
  · rw [hz1]; exact wrap_in2 z1 (by omega) (by omega)
  · exact wrap_in2 d (by omega) (by omega)
  · rw [hz2]; exact wrap_in2 z2 (by omega) (by omega)
  · rw [hz3]; exact wrap_in2 z3 (by omega) (by omega)

end Go.Proofs.YtellghhilcjbnaaDoor

/-
  Costs are drawn: spec.DrawCostIn and its like.
-/
namespace Go.Proofs.YtellghhilcjbnaaDoor
set_option linter.unusedVariables false
set_option linter.unusedSimpArgs false
open Go.RowKit
set_option maxRecDepth 100000

/-- Costs that were drawn. -/
def GivesC0 (w : World) (e : Ending) (w' : World) : Prop := ∃ v xss, e = .returned v ∧ IntRows w' v xss ∧ Below w.heap.size w w'
def GivesC1 (w : World) (e : Ending) (w' : World) : Prop := ∃ v u xss ps, e = .returned (.tuple #[v, u]) ∧ IntRows w' v xss ∧ Ints w' u ps ∧ Below w.heap.size w w'
def GivesC2 (w : World) (e : Ending) (w' : World) : Prop := ∃ v xss i d, e = .returned (.tuple #[v, .int .i64 i, .int .i64 d]) ∧ IntRows w' v xss ∧ Below w.heap.size w w' ∧ (-10 ≤ i ∧ i ≤ 10) ∧ (-3000 ≤ d ∧ d ≤ 3000)




set_option maxHeartbeats 1000000 in
theorem DrawCostLeast_any (w : World) (A : Option Addr) (L cap : Nat) (hc : L ≤ cap) (hm : L ≤ maxLen) (hx : Code8 w A L) :
    Calls Tryd.prog 19 #[.slice A L cap] w (GivesC0 w) := by
  have HO := Lib.hid (open_any w A L cap hc hm)
  have HX := Lib.hid hx
  clear hx
  go_enter Tryd.func19, Tryd.ntmps19
  go_wp2_with fail
  refine HO.out.mono ?_
  rintro e w1 ⟨r, M, cap', rfl, hM, hML, hrw, hr, hb1⟩
  have HLC := Lib.hid (costs_draw w1 r 0 M cap' A hr ((HX.out.less hML).bytes hb1 r hrw) hM (by omega))
  have HB1 := Lib.hid hb1
  clear hr hb1 hML
  go_wp2_with fail
  refine HLC.out.mono ?_
  rintro e w2 ⟨g, c, us, xss, q, rfl, ho, h1, h4, -, -, hw⟩
  have HF := Lib.hid (And.intro (rows_of_owns ho) (Below.within HB1.out hw hrw))
  clear ho hw
  go_wp2
  go_ret
  exact ⟨_, xss, rfl, HF.out.1, HF.out.2⟩

set_option maxHeartbeats 1000000 in
theorem DrawCostPrices_any (w : World) (A : Option Addr) (L cap : Nat) (hc : L ≤ cap) (hm : L ≤ maxLen) (hx : Code8 w A L) :
    Calls Tryd.prog 16 #[.slice A L cap] w (GivesC0 w) := by
  have HO := Lib.hid (open_any w A L cap hc hm)
  have HX := Lib.hid hx
  clear hx
  go_enter Tryd.func16, Tryd.ntmps16
  go_wp2_with fail
  refine HO.out.mono ?_
  rintro e w1 ⟨r, M, cap', rfl, hM, hML, hrw, hr, hb1⟩
  have HLC := Lib.hid (costs_draw w1 r 0 M cap' A hr ((HX.out.less hML).bytes hb1 r hrw) hM (by omega))
  have HB1 := Lib.hid hb1
  clear hr hb1 hML
  go_wp2_with fail
  refine HLC.out.mono ?_
  rintro e w2 ⟨g, c, us, xss, q, rfl, ho, h1, h4, -, -, hw⟩
  have HF := Lib.hid (And.intro (rows_of_owns ho) (Below.within HB1.out hw hrw))
  clear ho hw
  go_wp2
  go_ret
  exact ⟨_, xss, rfl, HF.out.1, HF.out.2⟩



end Go.Proofs.YtellghhilcjbnaaDoor

