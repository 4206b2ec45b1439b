/-
  Draw1: Pick Draw StepApp DrawRank MktGrow DMk.
-/
import Derived.Deep.WholeRow
import Derived.Deep.QuietTactic
import Derived.BigQuiet
import Derived.IntWalk
import Derived.Test.YtahilcnmjnjcaaaDoorCore1
import Derived.Deep.DeepCutAuto
import Derived.Sort.BigQuietIn
import Derived.Deep.AppendLies
import Derived.Deep.RegionHeld3
import Derived.Test.YtahilcnmjnjcaaaDoorMktL
/-
  The drawn laws' reader: what one pick leaves.
-/
namespace Go.Proofs.YtahilcnmjnjcaaaDoor
set_option linter.unusedVariables false
set_option linter.unusedSimpArgs false
open Go.RowKit

/-- The cells of a reader. -/
abbrev rcells (A : Option Addr) (L cap p : Nat) : Array Value := #[.slice A L cap, .int .i64 (p : Int)]

/-- The drawn bytes lie there, apart from the reader's block. -/
def Bytes (w : World) (r : Nat) (A : Option Addr) (L : Nat) : Prop :=
  ∀ i, i < L → ∃ b off x, A = some ⟨b, off, none⟩ ∧ b ≠ r ∧ w.cell? ⟨b, off + i, none⟩ = some (.int .u8 ((x : Nat) : Int)) ∧ x < 256

theorem xor64 (a b : Nat) (ha : a < 2 ^ 62) (hb : b < 2 ^ 62) : bits .xor .i64 (a : Int) (b : Int) = ((a ^^^ b : Nat) : Int) := by
  show IntKind.i64.wrap ((BitVec.ofInt 64 (a : Int) ^^^ BitVec.ofInt 64 (b : Int)).toNat : Int) = _
  rw [BitVec.toNat_xor, BitVec.ofInt_natCast, BitVec.ofInt_natCast, BitVec.toNat_ofNat, BitVec.toNat_ofNat]
  have h1 : a % 2 ^ 64 = a := Nat.mod_eq_of_lt (by omega)
  have h2 : b % 2 ^ 64 = b := Nat.mod_eq_of_lt (by omega)
  rw [h1, h2]
  have hx : a ^^^ b < 2 ^ 62 := Nat.xor_lt_two_pow ha hb
  exact wraps_i64 _ (by omega) (by omega)

theorem picked (w : World) (r : Nat) (v : Value) : Within r (r + 1) w (w.setCell ⟨r, 1, none⟩ v) :=
  Within.of_grown (grown_setCell w r 1 v) (fun k hk => by simp at hk; omega)

set_option maxHeartbeats 1000000 in
theorem pick_any (w : World) (r p n L cap : Nat) (A : Option Addr) (hr : w.heap[r]? = some (.cells (rcells A L cap p) 97 (0, 0))) (hx : Bytes w r A L) (hp : p < 1000000) (hL : L ≤ 2000) (hn : 1 ≤ n) (hn2 : n ≤ 1000) :
    Calls Tryd.prog 75 #[.pointer (some ⟨r, 0, none⟩), .int .i64 n] w fun e w' => ∃ v : Nat, v < n ∧ e = .returned (.int .i64 v) ∧ w'.heap[r]? = some (.cells (rcells A L cap (p + 1)) 97 (0, 0)) ∧ Within r (r + 1) w w' := by
  have HR := Lib.hid hr
  have HX := Lib.hid hx
  have c0 : w.cell? ⟨r, 0, none⟩ = some (.slice A L cap) := by rw [cell_of_row _ _ _ _ _ _ hr]; rfl
  have c1 : w.cell? ⟨r, 1, none⟩ = some (.int .i64 (p : Int)) := by rw [cell_of_row _ _ _ _ _ _ hr]; rfl
  have f0 := frozen_of_row w r 0 _ _ hr
  have f1 := frozen_of_row w r 1 _ _ hr
  have w1 : IntKind.i64.wrap ((p : Int) + 1) = ((p + 1 : Nat) : Int) := by rw [wraps_i64 _ (by omega) (by omega)]; omega
  have w2 : wrap64 ((p : Int) + 1) = ((p + 1 : Nat) : Int) := by rw [← wrap_eq, w1]
  have HN : ((n : Int) < 1) = False := by simp; omega
  clear hr hx
  by_cases h0 : L = 0
  · subst h0
    go_enter Tryd.func75, Tryd.ntmps75
    go_wp2
    go_ret
    exact ⟨0, by omega, rfl, heap_setCell_same w r 1 _ _ _ HR.out, picked w r _⟩
  · by_cases h1 : p < L
    · obtain ⟨b, off, x, rfl, hb, hcell, hx256⟩ := HX.out p h1
      have e1 : ((p : Int) < (L : Int)) = True := by simp; omega
      have e0 : (((L : Nat) : Int) == 0) = false := by rw [beq_eq_false_iff_ne]; omega
      have w3 : IntKind.i64.wrap (p : Int) = (p : Int) := wraps_i64 _ (by omega) (by omega)
      have w4 : wrap64 (p : Int) = (p : Int) := by rw [← wrap_eq, w3]
      have n0 : (((n : Nat) : Int) == 0) = false := by rw [beq_eq_false_iff_ne]; omega
      have w5 : IntKind.i64.wrap (x : Int) = (x : Int) := wraps_i64 _ (by omega) (by omega)
      have w6 : wrap64 (x : Int) = (x : Int) := by rw [← wrap_eq, w5]
      go_enter Tryd.func75, Tryd.ntmps75
      go_wp2
      go_ret
      exact ⟨x % n, Nat.mod_lt _ (by omega), by simp [Int.natCast_emod], heap_setCell_same w r 1 _ _ _ HR.out, picked w r _⟩
    · have e1 : ((p : Int) < (L : Int)) = False := by simp; omega
      have e0 : (((L : Nat) : Int) == 0) = false := by rw [beq_eq_false_iff_ne]; omega
      have w3 : IntKind.i64.wrap (p : Int) = (p : Int) := wraps_i64 _ (by omega) (by omega)
      have w4 : wrap64 (p : Int) = (p : Int) := by rw [← wrap_eq, w3]
      have n0 : (((n : Nat) : Int) == 0) = false := by rw [beq_eq_false_iff_ne]; omega
      obtain ⟨q1, hq1⟩ : ∃ q1, p % L = q1 := ⟨_, rfl⟩
      obtain ⟨q2, hq2⟩ : ∃ q2, (p * 7 + 3) % L = q2 := ⟨_, rfl⟩
      obtain ⟨q3, hq3⟩ : ∃ q3, p / L = q3 := ⟨_, rfl⟩
      have hq1L : q1 < L := by rw [← hq1]; exact Nat.mod_lt _ (by omega)
      have hq2L : q2 < L := by rw [← hq2]; exact Nat.mod_lt _ (by omega)
      have hq3p : q3 ≤ p := by rw [← hq3]; exact Nat.div_le_self _ _
      obtain ⟨b, off, x, rfl, hb, hcell, hx256⟩ := HX.out q1 hq1L
      obtain ⟨b', off', y, hA', _, hcell2, hy256⟩ := HX.out q2 hq2L
      cases hA'
      have m1 : (p : Int) % (L : Int) = (q1 : Int) := by rw [← hq1, Int.natCast_emod]
      have m2 : ((p : Int) * 7 + 3) % (L : Int) = (q2 : Int) := by rw [← hq2]; simp
      have m3 : (p : Int) / (L : Int) = (q3 : Int) := by rw [← hq3]; simp
      have t1 : (p : Int).tmod (L : Int) = (q1 : Int) := by rw [← m1, Int.tmod_eq_emod_of_nonneg (by omega)]
      have t2 : ((p : Int) * 7 + 3).tmod (L : Int) = (q2 : Int) := by rw [← m2, Int.tmod_eq_emod_of_nonneg (by omega)]
      have t3 : (p : Int).tdiv (L : Int) = (q3 : Int) := by rw [← m3, Int.tdiv_eq_ediv_of_nonneg (by omega)]
      have b1 : (0 : Int) ≤ (q1 : Int) ∧ (q1 : Int) < (L : Int) := by omega
      have b2 : (0 : Int) ≤ (q2 : Int) ∧ (q2 : Int) < (L : Int) := by omega
      have u1 : IntKind.i64.wrap ((p : Int) * 7) = (p : Int) * 7 := wraps_i64 _ (by omega) (by omega)
      have u2 : IntKind.i64.wrap ((p : Int) * 7 + 3) = (p : Int) * 7 + 3 := wraps_i64 _ (by omega) (by omega)
      have u3 : IntKind.i64.wrap (x : Int) = (x : Int) := wraps_i64 _ (by omega) (by omega)
      have u4 : IntKind.i64.wrap (y : Int) = (y : Int) := wraps_i64 _ (by omega) (by omega)
      have u5 : IntKind.i64.wrap ((x : Int) * 131) = (x : Int) * 131 := wraps_i64 _ (by omega) (by omega)
      have u6 : IntKind.i64.wrap ((y : Int) * 1117) = (y : Int) * 1117 := wraps_i64 _ (by omega) (by omega)
      have u7 : IntKind.i64.wrap ((x : Int) * 131 + (y : Int) * 1117) = (x : Int) * 131 + (y : Int) * 1117 := wraps_i64 _ (by omega) (by omega)
      have u8 : IntKind.i64.wrap ((p : Int) * 29) = (p : Int) * 29 := wraps_i64 _ (by omega) (by omega)
      have u9 : IntKind.i64.wrap ((x : Int) * 131 + (y : Int) * 1117 + (p : Int) * 29) = (x : Int) * 131 + (y : Int) * 1117 + (p : Int) * 29 := wraps_i64 _ (by omega) (by omega)
      have u10 : IntKind.i64.wrap ((q3 : Int) * 53) = (q3 : Int) * 53 := wraps_i64 _ (by omega) (by omega)
      have u11 : IntKind.i64.wrap ((x : Int) * 131 + (y : Int) * 1117 + (p : Int) * 29 + (q3 : Int) * 53) = (x : Int) * 131 + (y : Int) * 1117 + (p : Int) * 29 + (q3 : Int) * 53 := wraps_i64 _ (by omega) (by omega)
      have u12 : IntKind.i64.wrap (q3 : Int) = (q3 : Int) := wraps_i64 _ (by omega) (by omega)
      have v1 := (wrap_eq _).symm.trans u1
      have v2 := (wrap_eq _).symm.trans u2
      have v3 := (wrap_eq _).symm.trans u3
      have v4 := (wrap_eq _).symm.trans u4
      have v5 := (wrap_eq _).symm.trans u5
      have v6 := (wrap_eq _).symm.trans u6
      have v7 := (wrap_eq _).symm.trans u7
      have v8 := (wrap_eq _).symm.trans u8
      have v9 := (wrap_eq _).symm.trans u9
      have v10 := (wrap_eq _).symm.trans u10
      have v11 := (wrap_eq _).symm.trans u11
      have v12 := (wrap_eq _).symm.trans u12
      have HQ := Lib.hid (And.intro hq1 (And.intro hq2 hq3))
      have HQ3 := Lib.hid hq3p
      clear hq1 hq2 hq3 hq1L hq2L hq3p
      go_enter Tryd.func75, Tryd.ntmps75
      go_wp2
      go_quiet (fail)
      clear u1 u2 u3 u4 u5 u6 u7 u8 u9 u10 u11 u12 v1 v2 v3 v4 v5 v6 v7 v8 v9 v10 v11 v12 m1 m2 m3 t1 t2 t3 b1 b2
      obtain ⟨z, hz, hz40⟩ : ∃ z : Nat, (x : Int) * 131 + (y : Int) * 1117 + (p : Int) * 29 + (q3 : Int) * 53 = (z : Int) ∧ z < 2 ^ 40 :=
        ⟨x * 131 + y * 1117 + p * 29 + q3 * 53, by simp, by have := HQ3.out; omega⟩
      rw [hz]
      clear hz
      obtain ⟨s, hs⟩ : ∃ s : Nat, bits .xor .i64 (z : Int) ((z : Int) / 64) = (s : Int) :=
        ⟨z ^^^ (z / 64), by rw [← xor64 z (z / 64) (by omega) (by omega)]; simp⟩
      have d1 : (z : Int).tdiv 64 = (z : Int) / 64 := Int.tdiv_eq_ediv_of_nonneg (by omega)
      have d2 : IntKind.i64.wrap ((z : Int) / 64) = (z : Int) / 64 := wraps_i64 _ (by omega) (by omega)
      have d3 := (wrap_eq _).symm.trans d2
      have d4 : (0 : Int) ≤ (z : Int) := by omega
      go_wp2
      go_ret
      exact ⟨s % n, Nat.mod_lt _ (by omega), by simp [Int.natCast_emod], heap_setCell_same w r 1 _ _ _ HR.out, (picked w r _).drewN _⟩

end Go.Proofs.YtahilcnmjnjcaaaDoor

/-
  A drawn number of nodes: the reader is opened, one pick.
-/
namespace Go.Proofs.YtahilcnmjnjcaaaDoor
set_option linter.unusedVariables false
set_option linter.unusedSimpArgs false
open Go.RowKit

/-- The drawn bytes, as they come in. -/
def Code8 (w : World) (A : Option Addr) (L : Nat) : Prop :=
  ∀ i, i < L → ∃ b off x, A = some ⟨b, off, none⟩ ∧ w.cell? ⟨b, off + i, none⟩ = some (.int .u8 ((x : Nat) : Int)) ∧ x < 256

theorem Code8.bytes {w w' : World} {A : Option Addr} {L : Nat} (h : Code8 w A L) (hb : Below w.heap.size w w') (r : Nat) (hr : w.heap.size ≤ r) : Bytes w' r A L := fun i hi => by
  obtain ⟨b, off, x, hA, hc, hx⟩ := h i hi
  have hlt : b < w.heap.size := World.block_lt_of_cell? w _ hc
  exact ⟨b, off, x, hA, by omega, (hb.cell (p := ⟨b, off + i, none⟩) hlt).trans hc, hx⟩
theorem Code8.below {w w' : World} {A : Option Addr} {L : Nat} (h : Code8 w A L) (hb : Below w.heap.size w w') : Code8 w' A L := fun i hi => by
  obtain ⟨b, off, x, hA, hc, hx⟩ := h i hi
  exact ⟨b, off, x, hA, (hb.cell (p := ⟨b, off + i, none⟩) (World.block_lt_of_cell? w _ hc)).trans hc, hx⟩
theorem Code8.less {w : World} {A : Option Addr} {L M : Nat} (h : Code8 w A L) (hm : M ≤ L) : Code8 w A M := fun i hi => h i (Nat.lt_of_lt_of_le hi hm)

set_option maxHeartbeats 1000000 in
/-- A reader is opened. -/
theorem open_any (w : World) (A : Option Addr) (L cap : Nat) (hc : L ≤ cap) (hm : L ≤ maxLen) :
    Calls Tryd.prog 51 #[.slice A L cap] w fun e w' => ∃ r M cap', e = .returned (.pointer (some ⟨r, 0, none⟩)) ∧ M ≤ 2000 ∧ M ≤ L ∧ w.heap.size ≤ r ∧ w'.heap[r]? = some (.cells (rcells A M cap' 0) 97 (0, 0)) ∧ Below w.heap.size w w' := by
  unfold maxLen at hm
  by_cases h : L ≤ 2000
  · have e1 : ((2000 : Int) < (L : Int)) = False := by simp; omega
    go_enter Tryd.func51, Tryd.ntmps51
    go_wp2
    go_ret
    exact ⟨w.heap.size, L, cap, rfl, h, Nat.le_refl _, Nat.le_refl _, World.alloc_heap_new _ _, (Below.refl _ _).alloc (Nat.le_refl _) _⟩
  · have e1 : ((2000 : Int) < (L : Int)) = True := by simp; omega
    go_enter Tryd.func51, Tryd.ntmps51
    go_wp2
    go_ret
    exact ⟨w.heap.size, 2000, cap, rfl, Nat.le_refl _, by omega, Nat.le_refl _, World.alloc_heap_new _ _, (Below.refl _ _).alloc (Nat.le_refl _) _⟩


end Go.Proofs.YtahilcnmjnjcaaaDoor

/-
  append in a region that draws, of a source that may be empty.
-/
namespace Go.Proofs.YtahilcnmjnjcaaaDoor
set_option linter.unusedVariables false
set_option linter.unusedSimpArgs false
open Go.RowKit

theorem form_not_nil {w : World} {base : Nat} {e : TypeId} {size : Nat} {v : Value} {n : Nat} {xs : List Value} (h : w.ownsRow base e size v n xs) (hn : v ≠ .slice none 0 0) :
    ∃ g cap, v = .slice (some ⟨g, 0, none⟩) n cap ∧ g < w.heap.size := by
  rcases h.2 with ⟨h1, h0⟩ | ⟨g, cap, cur, hv, hb, hg, _⟩
  · exact absurd h1 hn
  · refine ⟨g, cap, hv, ?_⟩
    rcases Nat.lt_or_ge g w.heap.size with hlt | hge
    · exact hlt
    · rw [Array.getElem?_eq_none hge] at hg; cases hg

theorem wp_append_any {P : Program} {w : World} {o : Oper} {a : Act} {K : Act → World → Prop} {Q : Exit → Act → World → Prop} (s x : Operand) (t : TypeId)
    (ho : o.op = .call { callee := .builtin .append, args := #[s, x], argTypes := #[t, t] })
    (base : Nat) (e : TypeId) (i : TypeInfo) (z : Value) (size bytes : Nat) (ht : P.underlying t = some (.slice e)) (hi : P.info? e = some i) (hz : i.zero = some z)
    (hsize : i.size = size) (hby : i.bytes = bytes) (hzs : z.cells.size = size) (hsz : 0 < size)
    (v : Value) (n : Nat) (xs : List Value) (hs : a.eval s = v) (hvn : v ≠ .slice none 0 0) (hown : w.ownsRow base e size v n xs)
    (ad : Addr) (m c : Nat) (news : List Value) (hx : a.eval x = .slice (some ad) m c) (hl : news.length = m * size) (hnews : ∀ j u, news[j]? = some u → w.cell? (ad.add j) = some u) (h1 : ∀ u ∈ news, u.oneCell' = true)
    (h63 : n + m ≤ maxLen) (hbytes : (n + m) * bytes ≤ 140737488355328) (hbase : base ≤ w.heap.size)
    (h : ∀ g cap w', w'.ownsRow base e size (.slice (some ⟨g, 0, none⟩) (n + m) cap) (n + m) (xs ++ news) → w.grownBy w' v.ownBlock → g < w'.heap.size → K (a.put o.dst (.slice (some ⟨g, 0, none⟩) (n + m) cap)) w') : o.wp P a w K Q := by
  obtain ⟨v', w', hr, h2, h3, h4, h5⟩ := run_append_own_at (P := P) w base t o.type e i z size bytes ht hi hz hsize hby hzs hsz v n xs hown ad m c news hl hnews h1 h63 hbytes hbase
  obtain ⟨g, cap, rfl, hlt⟩ := form_not_nil h2 (fun e => hvn (h4.1 e).1)
  unfold Oper.wp execOp
  simp only [ho, resolve, invoke, builtin, Sem.run_bind, Sem.run_pure, Result.andThen_ok, List.map_toArray, List.map_cons, List.map_nil, hs, hx, hr]
  exact h g cap w' h2 h3 hlt
theorem step_append_any {P : Program} (w : World) {ops : Array Oper} {o : Oper} {a : Act} {K : Act → World → Prop} {Q : Exit → Act → World → Prop} {E : Prop} (hgd : o.guard = none) (s x : Operand) (t : TypeId)
    (ho : o.op = .call { callee := .builtin .append, args := #[s, x], argTypes := #[t, t] })
    (base : Nat) (e : TypeId) (i : TypeInfo) (z : Value) (size bytes : Nat) (ht : P.underlying t = some (.slice e)) (hi : P.info? e = some i) (hz : i.zero = some z)
    (hsize : i.size = size) (hby : i.bytes = bytes) (hzs : z.cells.size = size) (hsz : 0 < size)
    (v : Value) (n : Nat) (xs : List Value) (hs : a.eval s = v) (hvn : v ≠ .slice none 0 0) (hown : w.ownsRow base e size v n xs)
    (ad : Addr) (m c : Nat) (news : List Value) (hx : a.eval x = .slice (some ad) m c) (hl : news.length = m * size) (hnews : ∀ j u, news[j]? = some u → w.cell? (ad.add j) = some u) (h1 : ∀ u ∈ news, u.oneCell' = true)
    (h63 : n + m ≤ maxLen) (hbytes : (n + m) * bytes ≤ 140737488355328) (hbase : base ≤ w.heap.size) (r : Nat) (hr : n + m = r)
    (h : ∀ g cap w', w'.ownsRow base e size (.slice (some ⟨g, 0, none⟩) r cap) r (xs ++ news) → w.grownBy w' v.ownBlock → g < w'.heap.size → K (a.put o.dst (.slice (some ⟨g, 0, none⟩) r cap)) w') :
    if Region.wanted o (yielded ops a.tmps) = true then Oper.wp P o a w K Q else E := by
  subst hr
  have hw : Region.wanted o (yielded ops a.tmps) = true := by simp [Region.wanted, hgd]
  rw [if_pos hw]
  exact wp_append_any s x t ho base e i z size bytes ht hi hz hsize hby hzs hsz v n xs hs hvn hown ad m c news hx hl hnews h1 h63 hbytes hbase h
/-- An empty slice that was made just now. -/
theorem owns_made {W : World} {b g : Nat} (hg : g = W.heap.size) (hb : b ≤ g) : (W.alloc (.cells #[] 3)).ownsRow b 3 1 (.slice (some ⟨g, 0, none⟩) 0 0) 0 [] := by
  subst hg
  exact World.ownsRow_made (base := b) (e := 3) (size := 1) W #[] 0 hb (Nat.zero_le _) rfl
theorem cells_made {W : World} {g : Nat} {v : Value} {t : TypeId} (hg : g = W.heap.size) : ∀ j u, [v][j]? = some u → (W.alloc (.cells #[v] t)).cell? ((⟨g, 0, none⟩ : Addr).add j) = some u := by
  subst hg
  exact cell_one_new W v t

theorem grown_one {W w3 : World} {g : Nat} {row : Option Nat} {v : Value} (hg : W.grownBy w3 row) (hb : ∀ j u, [v][j]? = some u → W.cell? ((⟨g, 0, none⟩ : Addr).add j) = some u) (hne : some g ≠ row) : ∀ j u, [v][j]? = some u → w3.cell? ((⟨g, 0, none⟩ : Addr).add j) = some u := fun j u hu => by
  have h := hb j u hu
  have hlt := World.block_lt_of_cell? W _ h
  have hadd : (⟨g, 0, none⟩ : Addr).add j = ⟨g, j, none⟩ := by unfold Addr.add; split <;> simp_all
  rw [hadd] at h hlt ⊢
  rw [hg.cell_far _ hlt hne]
  exact h
theorem alloc_one {W : World} {g : Nat} {v : Value} {o : Obj} (hb : ∀ j u, [v][j]? = some u → W.cell? ((⟨g, 0, none⟩ : Addr).add j) = some u) : ∀ j u, [v][j]? = some u → (W.alloc o).cell? ((⟨g, 0, none⟩ : Addr).add j) = some u := fun j u hu => by
  have h := hb j u hu
  have hlt := World.block_lt_of_cell? W _ h
  have hadd : (⟨g, 0, none⟩ : Addr).add j = ⟨g, j, none⟩ := by unfold Addr.add; split <;> simp_all
  rw [hadd] at h hlt ⊢
  rw [World.cell?_alloc_past _ _ _ hlt]
  exact h
/-- What a list's block holds, part by part, in whatever later world. -/
theorem part_cells {w : World} {lo g n cap : Nat} {xs : List Int} (h : w.ownsRow lo 3 1 (.slice (some ⟨g, 0, none⟩) n cap) n (vals xs)) (k : Nat) {W' : World} (hb : Below w.heap.size w W') :
    (∀ j u, (vals (xs.take k))[j]? = some u → W'.cell? ((⟨g, 0, none⟩ : Addr).add j) = some u) ∧ (∀ j u, (vals (xs.drop k))[j]? = some u → W'.cell? ((⟨g, k, none⟩ : Addr).add j) = some u) := by
  have hc : ∀ j u, (vals xs)[j]? = some u → W'.cell? ⟨g, j, none⟩ = some u := fun j u hu => by
    have h1 := h.cells (g := g) rfl j u hu
    have hadd : (⟨g, 0, none⟩ : Addr).add j = ⟨g, j, none⟩ := by unfold Addr.add; split <;> simp_all
    rw [hadd] at h1
    exact (hb.cell (p := ⟨g, j, none⟩) (World.block_lt_of_cell? w _ h1)).trans h1
  refine ⟨fun j u hu => ?_, fun j u hu => ?_⟩
  · have hadd : (⟨g, 0, none⟩ : Addr).add j = ⟨g, j, none⟩ := by unfold Addr.add; split <;> simp_all
    rw [hadd]
    refine hc j u ?_
    simp only [vals, List.getElem?_map, List.getElem?_take] at hu ⊢
    split at hu
    · exact hu
    · simp at hu
  · have hadd : (⟨g, k, none⟩ : Addr).add j = ⟨g, k + j, none⟩ := by unfold Addr.add; split <;> simp_all
    rw [hadd]
    refine hc (k + j) u ?_
    simp only [vals, List.getElem?_map, List.getElem?_drop] at hu ⊢
    exact hu

end Go.Proofs.YtahilcnmjnjcaaaDoor

/-
  spec.l92Rank: a list is drawn, each member put in at a drawn place.
-/
namespace Go.Proofs.YtahilcnmjnjcaaaDoor
set_option linter.unusedVariables false
set_option linter.unusedSimpArgs false
open Go.RowKit

theorem Bytes.within {w w' : World} {r M : Nat} {A : Option Addr} (h : Bytes w r A M) (hw : Within r (r + 1) w w') : Bytes w' r A M := fun i hi => by
  obtain ⟨b, off, x, hA, hb, hc, hx⟩ := h i hi
  have hlt : b < w.heap.size := World.block_lt_of_cell? w _ hc
  exact ⟨b, off, x, hA, hb, (World.cell?_of_block (a := ⟨b, off + i, none⟩) (hw.block b hlt (by omega))).trans hc, hx⟩
theorem Within.below {lo hi : Nat} {w w1 w2 : World} (h : Within lo hi w w1) (hb : Below w1.heap.size w1 w2) : Within lo hi w w2 :=
  ⟨hb.os.trans h.os, hb.tape.trans h.tape, hb.output.trans h.output, Nat.le_trans h.size hb.size, fun k hk hr => (hb.block k (Nat.lt_of_lt_of_le hk h.size)).trans (h.block k hk hr)⟩
/-- The list under way. -/
def DRank (w : World) (r M cap : Nat) (A : Option Addr) (p c : Nat) (v : Value) (W : World) : Prop :=
  ∃ xs g cap0, v = .slice (some ⟨g, 0, none⟩) c cap0 ∧ xs.length = c ∧ W.heap[r]? = some (.cells (rcells A M cap p) 97 (0, 0)) ∧ OwnsInts W w.heap.size W.heap.size v xs ∧ Within r (r + 1) w W

set_option maxRecDepth 100000 in
set_option maxHeartbeats 4000000 in
theorem rank_draw (w : World) (r p n M cap : Nat) (A : Option Addr) (hr : w.heap[r]? = some (.cells (rcells A M cap p) 97 (0, 0))) (hxr : Bytes w r A M) (hM : M ≤ 2000) (hp : p ≤ 90000) (hn : n ≤ 6) :
    Calls Tryd.prog 76 #[.pointer (some ⟨r, 0, none⟩), .int .i64 (n : Int)] w fun e w' => ∃ v xs, e = .returned v ∧ xs.length = n ∧ OwnsInts w' w.heap.size w'.heap.size v xs ∧ w'.heap[r]? = some (.cells (rcells A M cap (p + n)) 97 (0, 0)) ∧ Within r (r + 1) w w' := by
  obtain ⟨j0, hj, hy0, hy1, hy2⟩ := info_parts infoInt
  have hrl := (Array.getElem?_eq_some_iff.1 hr).1
  have HXR := Lib.hid hxr
  have HD0 : Hid (DRank w r M cap A (p + 0) 0 (.slice (some ⟨w.heap.size, 0, none⟩) 0 0) (w.alloc (.cells #[] 3))) := Lib.hid
    ⟨[], w.heap.size, 0, rfl, rfl, (Below.heap_alloc _ _ _ hrl).trans hr, OwnsAt.of (owns_empty w w.heap.size (Nat.le_refl _)), (Within.refl _ _ _).below ((Below.refl _ _).alloc (Nat.le_refl _) _)⟩
  clear hr hxr
  go_enter Tryd.func76, Tryd.ntmps76
  go_wp2_with fail
  go_loopw [5, 6, 7] (fun v i _ wr => ∃ c : Nat, c ≤ n ∧ i = .int .i64 (c : Int) ∧ DRank w r M cap A (p + c) c v wr) (fun _ i _ _ => n - (intOf i).toNat)
  case atStart => exact ⟨0, by omega, rfl, HD0.out⟩
  case round =>
    obtain ⟨c, hcn, rfl, xs, g, cap0, rfl, hl, hr1, ho, hw⟩ := hrel
    by_cases hlt : c < n
    · obtain ⟨c1, hc1⟩ : ∃ c1, c + 1 = c1 := ⟨_, rfl⟩
      have hci : (c : Int) < (n : Int) := by omega
      have HPK := Lib.hid (pick_any wr r (p + c) c1 M cap A hr1 (HXR.out.within hw) (by omega) hM (by omega) (by omega))
      have hcap : c ≤ cap0 := by
        rcases ho.1.2 with ⟨h0, _⟩ | ⟨g', cap', cur, hv, hb', hg', hnc, _⟩
        · cases h0
        · obtain ⟨-, -, rfl⟩ : _ ∧ _ ∧ cap0 = cap' := by simpa using hv
          omega
      have HO := Lib.hid ho
      have HW := Lib.hid hw
      have HL := Lib.hid hl
      clear hr1 ho hw hl
      have hcw : IntKind.i64.wrap ((c : Int) + 1) = (c1 : Int) := by rw [wraps_i64 _ (by omega) (by omega)]; omega
      have hcw2 := (wrap_eq _).symm.trans hcw
      go_wp2_with fail
      refine HPK.out.mono ?_
      rintro e w2 ⟨k, hk, rfl, hr2, hw2⟩
      clear hcw hcw2
      have hlo2 : w.heap.size ≤ w2.heap.size := Nat.le_trans HW.out.size hw2.size
      have ho2 := (HO.out.kept hw2 (.inr (by omega))).1
      rw [HL.out] at ho2
      have HPC := Lib.hid (fun (W' : World) (hb : Below w2.heap.size w2 W') => part_cells ho2 k hb)
      have hw12 := HW.out.trans hw2
      have hkc : k ≤ c := by omega
      have hk1 : (k : Int) ≤ (c : Int) := by omega
      have hk2 : (k : Int) ≤ (cap0 : Int) := by omega
      have hk0 : (0 : Int) ≤ (k : Int) := by omega
      have HT := Lib.hid (show (vals (xs.take k)).length = k * 1 by have := HL.out; simp [vals]; omega)
      have HT2 := Lib.hid (show (vals (xs.drop k)).length = (c - k) * 1 by have := HL.out; simp [vals]; omega)
      have H11 := Lib.hid (show (∀ u ∈ vals (xs.take k), u.oneCell' = true) ∧ (∀ u ∈ vals (xs.drop k), u.oneCell' = true) from
        ⟨fun u hu => by obtain ⟨x, _, rfl⟩ := List.mem_map.1 hu; rfl, fun u hu => by obtain ⟨x, _, rfl⟩ := List.mem_map.1 hu; rfl⟩)
      obtain ⟨off, hoff, hcel⟩ : ∃ off, (if cap0 = k then some (⟨g, 0, none⟩ : Addr) else some ⟨g, k, none⟩) = some ⟨g, off, none⟩ ∧ ∀ (W' : World), Below w2.heap.size w2 W' → ∀ j u, (vals (xs.drop k))[j]? = some u → W'.cell? ((⟨g, off, none⟩ : Addr).add j) = some u := by
        by_cases hck : cap0 = k
        · have hd : xs.drop k = [] := List.drop_eq_nil_of_le (by have := HL.out; omega)
          exact ⟨0, if_pos hck, fun W' _ j u hu => by rw [hd] at hu; simp at hu⟩
        · exact ⟨k, if_neg hck, fun W' hb => (HPC.out W' hb).2⟩
      have HCL := Lib.hid hcel
      have hlen3 : (xs.take k ++ [(c : Int)] ++ xs.drop k).length = c1 := by have := HL.out; simp; omega
      have HDN := Lib.hid (fun (w4 w5 : World) (g2 cap2 : Nat) (g3 cap3 : Nat) (hb4 : Below w2.heap.size w2 w4) (hgrow3 : w4.grownBy w5 (some g2)) (hown2 : w4.ownsRow w2.heap.size 3 1 (.slice (some ⟨g2, 0, none⟩) (k + 1) cap2) (k + 1) (vals (xs.take k ++ [(c : Int)]))) (hown3 : w5.ownsRow w2.heap.size 3 1 (.slice (some ⟨g3, 0, none⟩) c1 cap3) c1 (vals (xs.take k ++ [(c : Int)]) ++ vals (xs.drop k))) => show DRank w r M cap A (p + c1) c1 (.slice (some ⟨g3, 0, none⟩) c1 cap3) w5 from by
        have hb5 : Below w2.heap.size w2 w5 := hb4.grown hgrow3 hb4.size (fun b hb => (hown2.lt b hb).1)
        refine ⟨xs.take k ++ [(c : Int)] ++ xs.drop k, g3, cap3, rfl, hlen3, ?_, ?_, hw12.below hb5⟩
        · rw [← hc1, show p + (c + 1) = p + c + 1 by omega]
          exact (hb5.block r (Array.getElem?_eq_some_iff.1 hr2).1).trans hr2
        · refine OwnsAt.of ?_
          rw [hlen3]
          have := owns_mono hown3 hlo2
          simpa [vals] using this)
      have HLO := Lib.hid hrl
      clear hcel hlen3
      clear hr2 hw2 hw12 ho2 hlo2 hk hrl
      go_wp2_with fail
      go_region_held3 (fun _ => True) (trivial) (first | (refine step_append_any _ (by rfl) (.tmp 19) (.tmp 22) 39 (by rfl) w2.heap.size 3 j0 (.int .i64 0) 1 8 Tryd.underlying39 hj hy0 hy1 hy2 rfl (by decide) (.slice (some ⟨w2.heap.size, 0, none⟩) 0 0) 0 [] (by rfl) (by simp) (by first | exact owns_made rfl (Nat.le_refl _) | exact (owns_made rfl (Nat.le_refl _)).alloc _) ⟨g, 0, none⟩ k cap0 (vals (xs.take k)) (by rfl) HT.out (by refine (HPC.out _ ?_).1; first | exact (Below.drew (Below.refl _ _)).alloc (Nat.le_refl _) _ | exact ((Below.drew (Below.refl _ _)).alloc (Nat.le_refl _) _).alloc (by simp) _) H11.out.1 (by unfold maxLen; omega) (by omega) (by simp <;> omega) k (Nat.zero_add k) ?_; intro g1 cap1 w3 hown1 hgrow1 hlt1; replace hown1 : w3.ownsRow w2.heap.size 3 1 (.slice (some ⟨g1, 0, none⟩) k cap1) k (vals (xs.take k)) := (by simpa using hown1); have hb3 : Below w2.heap.size w2 w3 := (by first | exact ((Below.drew (Below.refl _ _)).alloc (Nat.le_refl _) _).grown hgrow1 (by simp) (fun b hb => by cases hb; simp) | exact (((Below.drew (Below.refl _ _)).alloc (Nat.le_refl _) _).alloc (by simp) _).grown hgrow1 (by simp <;> omega) (fun b hb => by cases hb; simp))) | (refine step_append_any _ (by rfl) (.tmp 19) (.tmp 22) 39 (by rfl) w2.heap.size 3 j0 (.int .i64 0) 1 8 Tryd.underlying39 hj hy0 hy1 hy2 rfl (by decide) (.slice (some ⟨w2.heap.size + 1, 0, none⟩) 0 0) 0 [] (by rfl) (by simp) (owns_made (by simp) (by simp)) ⟨g, 0, none⟩ k cap0 (vals (xs.take k)) (by rfl) HT.out (by refine (HPC.out _ ?_).1; first | exact (Below.drew (Below.refl _ _)).alloc (Nat.le_refl _) _ | exact ((Below.drew (Below.refl _ _)).alloc (Nat.le_refl _) _).alloc (by simp) _) H11.out.1 (by unfold maxLen; omega) (by omega) (by simp <;> omega) k (Nat.zero_add k) ?_; intro g1 cap1 w3 hown1 hgrow1 hlt1; replace hown1 : w3.ownsRow w2.heap.size 3 1 (.slice (some ⟨g1, 0, none⟩) k cap1) k (vals (xs.take k)) := (by simpa using hown1); have hb3 : Below w2.heap.size w2 w3 := (by first | exact ((Below.drew (Below.refl _ _)).alloc (Nat.le_refl _) _).grown hgrow1 (by simp) (fun b hb => by cases hb; simp) | exact (((Below.drew (Below.refl _ _)).alloc (Nat.le_refl _) _).alloc (by simp) _).grown hgrow1 (by simp <;> omega) (fun b hb => by cases hb; simp))) | (refine step_append_any _ (by rfl) (.tmp 23) (.tmp 25) 39 (by rfl) w2.heap.size 3 j0 (.int .i64 0) 1 8 Tryd.underlying39 hj hy0 hy1 hy2 rfl (by decide) (.slice (some ⟨g1, 0, none⟩) k cap1) k (vals (xs.take k)) (by rfl) (by simp) (hown1.alloc _) ⟨w3.heap.size, 0, none⟩ 1 1 [.int .i64 (c : Int)] (by rfl) (by rfl) (cells_made rfl) (by simp [Value.oneCell']) (by unfold maxLen; omega) (by omega) (by have := hb3.size; simp <;> omega) (k + 1) rfl ?_; intro g2 cap2 w4 hown2 hgrow2 hlt2; replace hown2 : w4.ownsRow w2.heap.size 3 1 (.slice (some ⟨g2, 0, none⟩) (k + 1) cap2) (k + 1) (vals (xs.take k ++ [(c : Int)])) := (by simpa [vals] using hown2); have hb4 : Below w2.heap.size w2 w4 := (hb3.alloc hb3.size _).grown hgrow2 (by have := hb3.size; simp <;> omega) (fun b hb => (hown1.lt b hb).1)) | (refine step_append_any _ (by rfl) (.tmp 23) (.tmp 25) 39 (by rfl) w2.heap.size 3 j0 (.int .i64 0) 1 8 Tryd.underlying39 hj hy0 hy1 hy2 rfl (by decide) (.slice (some ⟨g1, 0, none⟩) k cap1) k (vals (xs.take k)) (by rfl) (by simp) (hown1) ⟨w2.heap.size + 1, 0, none⟩ 1 1 [.int .i64 (c : Int)] (by rfl) (by rfl) (grown_one hgrow1 (cells_made (by simp)) (by simp [Value.ownBlock])) (by simp [Value.oneCell']) (by unfold maxLen; omega) (by omega) (by have := hb3.size; simp <;> omega) (k + 1) rfl ?_; intro g2 cap2 w4 hown2 hgrow2 hlt2; replace hown2 : w4.ownsRow w2.heap.size 3 1 (.slice (some ⟨g2, 0, none⟩) (k + 1) cap2) (k + 1) (vals (xs.take k ++ [(c : Int)])) := (by simpa [vals] using hown2); have hb4 : Below w2.heap.size w2 w4 := hb3.grown hgrow2 (by have := hb3.size; simp <;> omega) (fun b hb => (hown1.lt b hb).1)) | (refine step_append_any _ (by rfl) (.tmp 23) (.tmp 25) 39 (by rfl) w2.heap.size 3 j0 (.int .i64 0) 1 8 Tryd.underlying39 hj hy0 hy1 hy2 rfl (by decide) (.slice (some ⟨g1, 0, none⟩) k cap1) k (vals (xs.take k)) (by rfl) (by simp) (hown1) ⟨w2.heap.size, 0, none⟩ 1 1 [.int .i64 (c : Int)] (by rfl) (by rfl) (grown_one hgrow1 (alloc_one (cells_made rfl)) (by simp [Value.ownBlock])) (by simp [Value.oneCell']) (by unfold maxLen; omega) (by omega) (by have := hb3.size; simp <;> omega) (k + 1) rfl ?_; intro g2 cap2 w4 hown2 hgrow2 hlt2; replace hown2 : w4.ownsRow w2.heap.size 3 1 (.slice (some ⟨g2, 0, none⟩) (k + 1) cap2) (k + 1) (vals (xs.take k ++ [(c : Int)])) := (by simpa [vals] using hown2); have hb4 : Below w2.heap.size w2 w4 := hb3.grown hgrow2 (by have := hb3.size; simp <;> omega) (fun b hb => (hown1.lt b hb).1)) | (refine step_append_any _ (by rfl) (.tmp 26) (.tmp 29) 39 (by rfl) w2.heap.size 3 j0 (.int .i64 0) 1 8 Tryd.underlying39 hj hy0 hy1 hy2 rfl (by decide) (.slice (some ⟨g2, 0, none⟩) (k + 1) cap2) (k + 1) (vals (xs.take k ++ [(c : Int)])) (by rfl) (by simp) hown2 ⟨g, off, none⟩ (c - k) (cap0 - k) (vals (xs.drop k)) (by rfl) HT2.out (HCL.out _ hb4) H11.out.2 (by unfold maxLen; omega) (by omega) hb4.size c1 (by omega) ?_; intro g3 cap3 w5 hown3 hgrow3 hlt3))
      all_goals
        have HD' := Lib.hid (HDN.out _ _ _ _ _ _ hb4 hgrow3 hown2 hown3)
        clear hb3 hb4 hown1 hown2 hown3 hgrow1 hgrow2 hgrow3 hlt1 hlt2 hlt3 hoff
        go_wp2_with fail
        go_roundw
        case rel => exact ⟨c1, by omega, by go_num, HD'.out⟩
        case measure => simp [intOf]; omega
    · obtain rfl : c = n := by omega
      have HF := Lib.hid (And.intro ho (And.intro hr1 hw))
      clear hr1 ho hw
      go_wp2
      go_ret
      exact ⟨_, xs, rfl, hl, HF.out.1, HF.out.2.1, HF.out.2.2⟩

end Go.Proofs.YtahilcnmjnjcaaaDoor

/-
  Two lists of lists in one market, each made longer in turn.
-/
namespace Go.Proofs.YtahilcnmjnjcaaaDoor
set_option linter.unusedVariables false
set_option linter.unusedSimpArgs false
open Go.RowKit

/-- One list more, that lies above all there was. -/
theorem OwnsRows.push2 {w2 w3 : World} {lo hi : Nat} {v : Value} {us : List Value} {xss : List (List Int)} (h : OwnsRows w2 lo hi v us xss) (hlo : lo ≤ hi) (hhi : hi ≤ w2.heap.size) {u : Value} {xs : List Int} (hu : OwnsInts w2 hi w2.heap.size u xs)
    {v' : Value} (hown : w3.ownsRow lo 39 1 v' (us.length + 1) (us ++ [u])) (hg : w2.grownBy w3 v.ownBlock) : OwnsRows w3 lo w3.heap.size v' (us ++ [u]) (xss ++ [xs]) := by
  have hs3 := hg.size
  have hout2 := h.outer.1
  have hold : ∀ (i : Nat) (hi' : i < us.length), OwnsInts w3 lo w3.heap.size us[i] (xss[i]'(h.len ▸ hi')) := fun i hi' => by
    have h1 := h.inner i hi'
    exact ⟨h1.1.kept hg (rows_apart h1.1 hout2 (by decide)), fun k hk => Nat.lt_of_lt_of_le (h1.2 k hk) (by omega)⟩
  have hnew : OwnsInts w3 lo w3.heap.size u xs :=
    ⟨owns_mono (hu.1.kept hg (rows_apart hu.1 hout2 (by decide))) hlo, fun k hk => by have := (hu.1.lt k hk).2; omega⟩
  refine ⟨by simp [h.len], ?_, fun i hi' => ?_, fun i j hij hj => ?_⟩
  · have e : (xss ++ [xs]).length = us.length + 1 := by simp [h.len]
    rw [e]
    exact OwnsAt.of hown
  · by_cases hi2 : i < us.length
    · have := hold i hi2
      have hx : i < xss.length := h.len ▸ hi2
      simpa [List.getElem_append_left hi2, List.getElem_append_left hx] using this
    · have hi3 : i = us.length := by simp at hi'; omega
      subst hi3
      have e1 : (us ++ [u])[us.length]'hi' = u := by simp
      have e2 : (xss ++ [xs])[us.length]'(by simp [h.len]) = xs := by simp [h.len]
      rw [e1, e2]
      exact hnew
  · have hi2 : i < us.length := by simp at hj; omega
    by_cases hj2 : j < us.length
    · have := h.apart i j hij hj2
      simpa [List.getElem_append_left hi2, List.getElem_append_left hj2] using this
    · have hj3 : j = us.length := by simp at hj; omega
      subst hj3
      simp only [List.getElem_append_left hi2]
      have hx : (us ++ [u])[us.length]'hj = u := by simp
      rw [hx]
      cases hv : us[i].ownBlock with
      | none => exact .inl rfl
      | some b =>
        right
        intro he
        have h1 := (h.inner i hi2).2 b hv
        have h2 := (hu.1.lt b he.symm).1
        omega

/-- The other list of lists stands still. -/
theorem OwnsRows.beside {W W' : World} {lo hi : Nat} {v : Value} {us : List Value} {xss : List (List Int)} {v2 : Value} {lo2 n2 : Nat} {us2 : List Value} (h : OwnsRows W lo hi v us xss) (hg : W.grownBy W' v2.ownBlock) (h2 : W.ownsRow lo2 39 1 v2 n2 us2) (hd : v.ownBlock = none ∨ v.ownBlock ≠ v2.ownBlock) : OwnsRows W' lo hi v us xss :=
  ⟨h.len, ⟨h.outer.1.kept hg hd, h.outer.2⟩, fun i hi' => ⟨(h.inner i hi').1.kept hg (rows_apart (h.inner i hi').1 h2 (by decide)), (h.inner i hi').2⟩, h.apart⟩

/-- What keeps the blocks of lists, whatever else turns. -/
def KT (W W' : World) : Prop := ∀ (k : Nat) (c : Array Value) (t : TypeId) (fr : Nat × Nat), W.heap[k]? = some (.cells c t fr) → t = 39 ∨ t = 3 → W'.heap[k]? = some (.cells c t fr)
theorem KT.refl (W : World) : KT W W := fun _ _ _ _ h _ => h
theorem KT.trans {W W1 W2 : World} (h : KT W W1) (h2 : KT W1 W2) : KT W W2 := fun k c t fr hk ht => h2 k c t fr (h k c t fr hk ht) ht
theorem KT.of_below {W W' : World} (h : Below W.heap.size W W') : KT W W' := fun k c t fr hk _ => (h.block k (Array.getElem?_eq_some_iff.1 hk).1).trans hk
theorem KT.of_grown {W W' : World} {b : Nat} {c0 : Array Value} {t0 : TypeId} {fr0 : Nat × Nat} (hg : W.grownBy W' (some b)) (hb : W.heap[b]? = some (.cells c0 t0 fr0)) (h1 : t0 ≠ 39) (h2 : t0 ≠ 3) : KT W W' := fun k c t fr hk ht =>
  (hg.block k (Array.getElem?_eq_some_iff.1 hk).1 (fun e => by
    have : k = b := by simpa using e
    subst this
    rw [hb] at hk
    simp at hk
    rcases ht with h | h
    · exact h1 (hk.2.1.trans h)
    · exact h2 (hk.2.1.trans h))).trans hk
theorem KT.of_within {W W' : World} {r : Nat} {c0 : Array Value} {t0 : TypeId} {fr0 : Nat × Nat} (hw : Within r (r + 1) W W') (hb : W.heap[r]? = some (.cells c0 t0 fr0)) (h1 : t0 ≠ 39) (h2 : t0 ≠ 3) : KT W W' := fun k c t fr hk ht => by
  by_cases e : k = r
  · subst e
    rw [hb] at hk
    simp at hk
    rcases ht with h | h
    · exact absurd (hk.2.1.trans h) h1
    · exact absurd (hk.2.1.trans h) h2
  · exact (hw.block k (Array.getElem?_eq_some_iff.1 hk).1 (by omega)).trans hk
/-- A cell whose block is of a type. -/
def TCell (W : World) (t : TypeId) (b off : Nat) (u : Value) : Prop := W.cell? ⟨b, off, none⟩ = some u ∧ ∃ c fr, W.heap[b]? = some (.cells c t fr)
theorem TCell.kt {W W' : World} {t : TypeId} {b off : Nat} {u : Value} (h : TCell W t b off u) (ht : t = 39 ∨ t = 3) (hk : KT W W') : TCell W' t b off u := by
  obtain ⟨hc, c, fr, hb⟩ := h
  have hb' := hk b c t fr hb ht
  exact ⟨(World.cell?_of_block (a := ⟨b, off, none⟩) (hb'.trans hb.symm)).trans hc, c, fr, hb'⟩
def TInts (W : World) (v : Value) (xs : List Int) : Prop :=
  ∃ (A : Option Addr) (cap : Nat), v = .slice A xs.length cap ∧ xs.length ≤ maxLen ∧ ∀ (i : Nat) (h : i < xs.length), ∃ b off, A = some ⟨b, off, none⟩ ∧ TCell W 3 b (off + i) (.int .i64 xs[i])
theorem TInts.ints {W : World} {v : Value} {xs : List Int} (h : TInts W v xs) : Ints W v xs := by
  obtain ⟨A, cap, hv, hm, hc⟩ := h
  exact ⟨A, cap, hv, hm, fun i hi => by obtain ⟨b, off, hA, hcell⟩ := hc i hi; exact ⟨b, off, hA, hcell.1⟩⟩
theorem TInts.kt {W W' : World} {v : Value} {xs : List Int} (h : TInts W v xs) (hk : KT W W') : TInts W' v xs := by
  obtain ⟨A, cap, hv, hm, hc⟩ := h
  exact ⟨A, cap, hv, hm, fun i hi => by obtain ⟨b, off, hA, hcell⟩ := hc i hi; exact ⟨b, off, hA, hcell.kt (.inr rfl) hk⟩⟩
theorem tints_of {W : World} {lo : Nat} {v : Value} {xs : List Int} (h : Owns W lo v xs) : TInts W v xs := by
  rcases h.2 with ⟨rfl, hn⟩ | ⟨g, cap, cur, rfl, hb, hg, hnc, hm, hcs, htake⟩
  · have : xs = [] := List.eq_nil_of_length_eq_zero hn
    subst this
    exact ⟨none, 0, rfl, by simp, fun i hi => by simp at hi⟩
  · refine ⟨some ⟨g, 0, none⟩, cap, rfl, by omega, fun i hi => ⟨g, 0, rfl, ?_, _, _, hg⟩⟩
    have := h.cellAt i (by omega)
    rw [Nat.zero_add, this]
    simp [vals, hi]
def TRows (W : World) (v : Value) (xss : List (List Int)) : Prop :=
  ∃ (A : Option Addr) (cap : Nat) (us : List Value), v = .slice A xss.length cap ∧ xss.length ≤ maxLen ∧ us.length = xss.length ∧
    ∀ (i : Nat) (h : i < xss.length) (u : Value), us[i]? = some u → (∃ b off, A = some ⟨b, off, none⟩ ∧ TCell W 39 b (off + i) u) ∧ TInts W u xss[i]
theorem TRows.rows {W : World} {v : Value} {xss : List (List Int)} (h : TRows W v xss) : IntRows W v xss := by
  obtain ⟨A, cap, us, hv, hm, hl, hc⟩ := h
  exact ⟨A, cap, us, hv, hm, hl, fun i hi u hu => by obtain ⟨⟨b, off, hA, hcell⟩, hx⟩ := hc i hi u hu; exact ⟨⟨b, off, hA, hcell.1⟩, hx.ints⟩⟩
theorem TRows.kt {W W' : World} {v : Value} {xss : List (List Int)} (h : TRows W v xss) (hk : KT W W') : TRows W' v xss := by
  obtain ⟨A, cap, us, hv, hm, hl, hc⟩ := h
  exact ⟨A, cap, us, hv, hm, hl, fun i hi u hu => by obtain ⟨⟨b, off, hA, hcell⟩, hx⟩ := hc i hi u hu; exact ⟨⟨b, off, hA, hcell.kt (.inl rfl) hk⟩, hx.kt hk⟩⟩
theorem trows_of {W : World} {lo hi : Nat} {v : Value} {us : List Value} {xss : List (List Int)} (h : OwnsRows W lo hi v us xss) : TRows W v xss := by
  have hl := h.len
  rcases h.outer.1.2 with ⟨rfl, hn⟩ | ⟨g, cap, cur, rfl, hb, hg, hnc, hm, hcs, htake⟩
  · have : xss = [] := List.eq_nil_of_length_eq_zero hn
    subst this
    exact ⟨none, 0, us, rfl, by simp, hl, fun i hi => by simp at hi⟩
  · refine ⟨some ⟨g, 0, none⟩, cap, us, rfl, by omega, hl, fun i hi u hu => ?_⟩
    have hi' : i < us.length := by omega
    have hui : us[i] = u := by rw [List.getElem?_eq_getElem hi'] at hu; simpa using hu
    refine ⟨⟨g, 0, rfl, ?_, _, _, hg⟩, ?_⟩
    · rw [Nat.zero_add, h.outer.1.cellAt i (by omega)]
      exact hu
    · rw [← hui]; exact tints_of (h.inner i hi').1

/-- A list of lists without its first one. -/
theorem rows_drop {w : World} {g n cap : Nat} {rs : List (List Int)} {A : Option Addr} (h : TRows w (.slice (some ⟨g, 0, none⟩) n cap) rs) (h1 : 1 ≤ n) (hA : (if cap = 1 then some (⟨g, 0, none⟩ : Addr) else some ⟨g, 1, none⟩) = A) (hc : n ≤ cap) : TRows w (.slice A (n - 1) (cap - 1)) (rs.drop 1) := by
  obtain ⟨A', cap', us, hv, hm, hl, hr⟩ := h
  obtain ⟨rfl, rfl, rfl⟩ : some ⟨g, 0, none⟩ = A' ∧ n = rs.length ∧ cap = cap' := by simpa using hv
  have hdl : (rs.drop 1).length = rs.length - 1 := by simp
  refine ⟨A, cap - 1, us.drop 1, by rw [hdl], by omega, by simp [hl], fun i hi u hu => ?_⟩
  have hi1 : i + 1 < rs.length := by omega
  have hu' : us[i + 1]? = some u := by rw [List.getElem?_drop, Nat.add_comm] at hu; exact hu
  obtain ⟨⟨b, off, hAA, hcell⟩, hx⟩ := hr (i + 1) hi1 u hu'
  cases hAA
  refine ⟨?_, ?_⟩
  · by_cases hcc : cap = 1
    · omega
    · rw [if_neg hcc] at hA
      subst hA
      exact ⟨g, 1, rfl, by rw [Nat.add_comm 1 i]; rw [Nat.zero_add] at hcell; exact hcell⟩
  · have e : (rs.drop 1)[i] = rs[i + 1] := by simp
    rw [e]
    exact hx

end Go.Proofs.YtahilcnmjnjcaaaDoor

/-
  A market under way: what one round makes of it.
-/
namespace Go.Proofs.YtahilcnmjnjcaaaDoor
set_option linter.unusedVariables false
set_option linter.unusedSimpArgs false
open Go.RowKit

abbrev sl (g n c : Nat) : Value := .slice (some ⟨g, 0, none⟩) n c
def DMk (w : World) (r M cap : Nat) (A : Option Addr) (p Bm i : Nat) (W : World) : Prop :=
  ∃ gL cL gR cR us us' ls rs q, q ≤ p ∧ W.heap[Bm]? = some (.cells (two (sl gL i cL) (sl gR i cR)) 28 (0, 0)) ∧ W.heap[r]? = some (.cells (rcells A M cap q) 97 (0, 0)) ∧
    OwnsRows W w.heap.size W.heap.size (sl gL i cL) us ls ∧ OwnsRows W w.heap.size W.heap.size (sl gR i cR) us' rs ∧ ls.length = i ∧ rs.length = i ∧ gL ≠ gR ∧ Within r (r + 1) w W

theorem ints_other {W W' : World} {lo hi b : Nat} {v : Value} {xs : List Int} {c : Array Value} {t : TypeId} {fr : Nat × Nat} (h : OwnsInts W lo hi v xs) (hg : W.grownBy W' (some b)) (hb : W.heap[b]? = some (.cells c t fr)) (ht : t ≠ 3) : OwnsInts W' lo hi v xs := by
  refine ⟨h.1.kept hg ?_, h.2⟩
  cases hv : v.ownBlock with
  | none => exact .inl rfl
  | some k =>
    right
    intro e
    obtain ⟨c1, f1, hc1⟩ := row_cells h.1 hv
    cases e
    rw [hb] at hc1
    simp at hc1
    exact ht hc1.2.1

theorem some_ne {a b : Nat} (h : a ≠ b) : some a ≠ some b := fun e => h (by simpa using e)
theorem dmk_step {w W : World} {r M cap p q s1 Bm i gL cL gR cR : Nat} {A : Option Addr} {us us' : List Value} {ls rs : List (List Int)} {a b : Value} {xs ys : List Int} (hq : q ≤ p) (hrw : r < w.heap.size) (hBw : w.heap.size ≤ Bm) (hw1 : w.heap.size ≤ s1) (hs1 : s1 ≤ W.heap.size) (hBs : Bm < s1)
    (hbx : W.heap[Bm]? = some (.cells (two (sl gL i cL) (sl gR i cR)) 28 (0, 0))) (hrd : W.heap[r]? = some (.cells (rcells A M cap q) 97 (0, 0)))
    (hL : OwnsRows W w.heap.size s1 (sl gL i cL) us ls) (hR : OwnsRows W w.heap.size s1 (sl gR i cR) us' rs) (hll : ls.length = i) (hrl : rs.length = i) (hne : gL ≠ gR) (hwi : Within r (r + 1) w W)
    (ha : OwnsInts W s1 W.heap.size a xs) (hb : OwnsInts W s1 W.heap.size b ys)
    {w5 : World} {g5 c5 : Nat} (hown5 : w5.ownsRow w.heap.size 39 1 (sl g5 (i + 1) c5) (i + 1) (us ++ [a])) (hgrow5 : (W.alloc (.cells #[a] 39)).grownBy w5 (some gL)) (hor5 : some gL = some g5 ∨ g5 = (W.alloc (.cells #[a] 39)).heap.size)
    {w7 : World} {g7 c7 : Nat} (hown7 : w7.ownsRow w.heap.size 39 1 (sl g7 (i + 1) c7) (i + 1) (us' ++ [b])) (hgrow7 : ((w5.setCell ⟨Bm, 0, none⟩ (sl g5 (i + 1) c5)).alloc (.cells #[b] 39)).grownBy w7 (some gR)) (hor7 : some gR = some g7 ∨ g7 = ((w5.setCell ⟨Bm, 0, none⟩ (sl g5 (i + 1) c5)).alloc (.cells #[b] 39)).heap.size) :
    DMk w r M cap A p Bm (i + 1) (w7.setCell ⟨Bm, 1, none⟩ (sl g7 (i + 1) c7)) := by
  have hul : us.length = i := by rw [hL.len, hll]
  have hul' : us'.length = i := by rw [hR.len, hrl]
  have hbA : Below W.heap.size W (W.alloc (.cells #[a] 39)) := (Below.refl _ _).alloc (Nat.le_refl _) _
  have hL1 := hL.below hbA
  have hR1 := hR.below hbA
  have ha1 : OwnsInts (W.alloc (.cells #[a] 39)) s1 (W.alloc (.cells #[a] 39)).heap.size a xs := (ha.below hbA).wide (Nat.le_refl _) hbA.size
  have hb1 : OwnsInts (W.alloc (.cells #[a] 39)) s1 (W.alloc (.cells #[a] 39)).heap.size b ys := (hb.below hbA).wide (Nat.le_refl _) hbA.size
  have hszA : (W.alloc (.cells #[a] 39)).heap.size = W.heap.size + 1 := by simp
  have hz5 := hgrow5.size
  obtain ⟨gLlo, gLhi⟩ : w.heap.size ≤ gL ∧ gL < s1 := ⟨(hL.outer.1.lt gL rfl).1, hL.outer.2 gL rfl⟩
  obtain ⟨gRlo, gRhi⟩ : w.heap.size ≤ gR ∧ gR < s1 := ⟨(hR.outer.1.lt gR rfl).1, hR.outer.2 gR rfl⟩
  have hBL : Bm ≠ gL := fun e => by
    obtain ⟨c, f, h⟩ := row_cells hL.outer.1 (b := gL) rfl
    rw [← e, hbx] at h
    simp at h
  have hBR : Bm ≠ gR := fun e => by
    obtain ⟨c, f, h⟩ := row_cells hR.outer.1 (b := gR) rfl
    rw [← e, hbx] at h
    simp at h
  have hL5 := hL1.push2 hw1 (by omega) ha1 (by rw [hul]; exact hown5) hgrow5
  have hR5 : OwnsRows w5 w.heap.size s1 (sl gR i cR) us' rs := hR1.beside (v2 := sl gL i cL) hgrow5 hL1.outer.1 (.inr (by simp [Value.ownBlock]; omega))
  have hb5 : OwnsInts w5 s1 w5.heap.size b ys := ⟨hb1.1.kept hgrow5 (rows_apart hb1.1 hL1.outer.1 (by decide)), fun k hk => Nat.lt_of_lt_of_le (hb1.2 k hk) hz5⟩
  have hbx5 : w5.heap[Bm]? = some (.cells (two (sl gL i cL) (sl gR i cR)) 28 (0, 0)) := (hgrow5.block Bm (by omega) (fun e => hBL (by simpa using e))).trans ((Below.heap_alloc _ _ _ (by omega)).trans hbx)
  have hrd5 : w5.heap[r]? = some (.cells (rcells A M cap q) 97 (0, 0)) := (hgrow5.block r (by omega) (some_ne (by omega))).trans ((Below.heap_alloc _ _ _ (by omega)).trans hrd)
  have hB5 : Below w.heap.size W w5 := (((Below.refl W.heap.size W).mono (Nat.le_trans hw1 hs1)).alloc (Nat.le_trans hw1 hs1) _).grown hgrow5 (by omega) (fun k hk => by cases hk; exact gLlo)
  obtain ⟨W6, hW6⟩ : ∃ W6, w5.setCell ⟨Bm, 0, none⟩ (sl g5 (i + 1) c5) = W6 := ⟨_, rfl⟩
  have hg6 : w5.grownBy W6 (some Bm) := by rw [← hW6]; exact grown_setCell _ _ _ _
  have hz6 : W6.heap.size = w5.heap.size := by rw [← hW6]; simp [World.setCell]
  have hbx6 : W6.heap[Bm]? = some (.cells (two (sl g5 (i + 1) c5) (sl gR i cR)) 28 (0, 0)) := by rw [← hW6, heap_setCell_same _ _ 0 _ _ _ hbx5]; rfl
  have hL6 := hL5.other hg6 hbx5 (by decide) (by decide)
  have hR6 := hR5.other hg6 hbx5 (by decide) (by decide)
  have hb6 := ints_other hb5 hg6 hbx5 (by decide)
  have hrd6 : W6.heap[r]? = some (.cells (rcells A M cap q) 97 (0, 0)) := (hg6.block r (by omega) (some_ne (by omega))).trans hrd5
  have hB6 : Below w.heap.size W W6 := hB5.grown hg6 (by omega) (fun k hk => by cases hk; exact hBw)
  rw [hW6] at hgrow7 hor7
  have hbB : Below W6.heap.size W6 (W6.alloc (.cells #[b] 39)) := (Below.refl _ _).alloc (Nat.le_refl _) _
  have hszB : (W6.alloc (.cells #[b] 39)).heap.size = W6.heap.size + 1 := by simp
  have hz7 := hgrow7.size
  have hL6' := hL6.below hbB
  have hR6' := hR6.below hbB
  have hb6' : OwnsInts (W6.alloc (.cells #[b] 39)) s1 (W6.alloc (.cells #[b] 39)).heap.size b ys := (hb6.below hbB).wide (Nat.le_refl _) (by omega)
  have hg5R : g5 ≠ gR := by
    rcases hor5 with h | h
    · have : gL = g5 := by simpa using h
      omega
    · omega
  have hR7 := hR6'.push2 hw1 (by omega) hb6' (by rw [hul']; exact hown7) hgrow7
  have hL7 : OwnsRows w7 w.heap.size w5.heap.size (sl g5 (i + 1) c5) (us ++ [a]) (ls ++ [xs]) := by
    exact hL6'.beside (v2 := sl gR i cR) hgrow7 hR6'.outer.1 (.inr (by simp [Value.ownBlock]; omega))
  have hbx7 : w7.heap[Bm]? = some (.cells (two (sl g5 (i + 1) c5) (sl gR i cR)) 28 (0, 0)) := (hgrow7.block Bm (by omega) (fun e => hBR (by simpa using e))).trans ((Below.heap_alloc _ _ _ (by omega)).trans hbx6)
  have hrd7 : w7.heap[r]? = some (.cells (rcells A M cap q) 97 (0, 0)) := (hgrow7.block r (by omega) (some_ne (by omega))).trans ((Below.heap_alloc _ _ _ (by omega)).trans hrd6)
  have hB7 : Below w.heap.size W w7 := (hB6.alloc (by omega) _).grown hgrow7 (by omega) (fun k hk => by cases hk; exact gRlo)
  have hg8 : w7.grownBy (w7.setCell ⟨Bm, 1, none⟩ (sl g7 (i + 1) c7)) (some Bm) := grown_setCell _ _ _ _
  have hz8 : (w7.setCell ⟨Bm, 1, none⟩ (sl g7 (i + 1) c7)).heap.size = w7.heap.size := by simp [World.setCell]
  have hB8 := hB7.grown hg8 (by omega) (fun k hk => by cases hk; exact hBw)
  have hg57 : g5 ≠ g7 := by
    have h5 := hL7.outer.2 g5 rfl
    rcases hor7 with h | h
    · have : gR = g7 := by simpa using h
      omega
    · omega
  have hR8 := hR7.other hg8 hbx7 (by decide) (by decide)
  refine ⟨g5, c5, g7, c7, us ++ [a], us' ++ [b], ls ++ [xs], rs ++ [ys], q, hq, ?_, ?_, ?_, ?_, by simp [hll], by simp [hrl], hg57, ?_⟩
  · rw [heap_setCell_same _ _ 1 _ _ _ hbx7]; rfl
  · exact (hg8.block r (by omega) (some_ne (by omega))).trans hrd7
  · exact (hL7.other hg8 hbx7 (by decide) (by decide)).wide (Nat.le_refl _) (by omega)
  · exact hR8.wide (Nat.le_refl _) (by omega)
  · exact ⟨hB8.os.trans hwi.os, hB8.tape.trans hwi.tape, hB8.output.trans hwi.output, Nat.le_trans hwi.size hB8.size, fun k hk hk2 => (hB8.block k hk).trans (hwi.block k hk hk2)⟩

end Go.Proofs.YtahilcnmjnjcaaaDoor

