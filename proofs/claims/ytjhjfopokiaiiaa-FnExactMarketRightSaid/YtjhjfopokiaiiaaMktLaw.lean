/-
  THE LAWS' SMALL FUNCTIONS ON MARKETS: sizes, copies, comparison.
-/
import Derived.Test.YtjhjfopokiaiiaaRows2
import Derived.Test.YtjhjfopokiaiiaaSideFrom
namespace Go.Proofs.Ytjhjfopokiaiiaa
set_option linter.unusedVariables false
set_option linter.unusedSimpArgs false
open Go.RowKit

theorem sizeMI : (Try.prog.info? 29).map (·.size) = some 2 := by kernel_rfl
theorem sizeML : (Try.prog.info? 24).map (·.size) = some 2 := by kernel_rfl
theorem load_mi {ops : Array Oper} {rest : List Oper} {o : Oper} {a : Act} {w : World} {Q : Exit → Act → World → Prop} (hgd : o.guard = none) (x : Operand) (ho : o.op = .load 29 x)
    (g : Nat) (p q : Value) (hx : a.eval x = .pointer (some ⟨g, 0, none⟩)) (hg : w.heap[g]? = some (.cells (two p q) 29 (0, 0)))
    (h : wpList Try.prog ops Q rest (a.put o.dst (.agg (two p q))) w) : wpList Try.prog ops Q (o :: rest) a w :=
  wpList_load_row hgd 29 x ho g hx 29 (two p q) (0, 0) _ hg Try.underlying29 rfl sizeMI h
theorem load_ml {ops : Array Oper} {rest : List Oper} {o : Oper} {a : Act} {w : World} {Q : Exit → Act → World → Prop} (hgd : o.guard = none) (x : Operand) (ho : o.op = .load 24 x)
    (g : Nat) (p q : Value) (hx : a.eval x = .pointer (some ⟨g, 0, none⟩)) (hg : w.heap[g]? = some (.cells (two p q) 24 (0, 0)))
    (h : wpList Try.prog ops Q rest (a.put o.dst (.agg (two p q))) w) : wpList Try.prog ops Q (o :: rest) a w :=
  wpList_load_row hgd 24 x ho g hx 24 (two p q) (0, 0) _ hg Try.underlying24 rfl sizeML h
theorem store_mi {ops : Array Oper} {rest : List Oper} {o : Oper} {a : Act} {w : World} {Q : Exit → Act → World → Prop} (hgd : o.guard = none) (x y : Operand) (ho : o.op = .store 29 x y)
    (g : Nat) (p q : Value) (hx : a.eval x = .pointer (some ⟨g, 0, none⟩)) (hy : a.eval y = .agg (two p q)) (p0 q0 : Value) (h1 : p.oneCell' = true) (h2 : q.oneCell' = true)
    (hg : w.heap[g]? = some (.cells (two p0 q0) 29 (0, 0)))
    (h : wpList Try.prog ops Q rest (a.put o.dst undef) (w.setRow g (two p q))) : wpList Try.prog ops Q (o :: rest) a w :=
  wpList_store_row hgd 29 x y ho g (two p q) hx hy 29 (two p0 q0) hg sizeMI rfl (by simp [two, h1, h2]) h
theorem ret_mi {fn : Func} {p : Tmp} (h : fn.results = #[.cell p 29]) (tmps : Array Value) (w : World) (g : Nat) (a b : Value)
    (hp : tmps.getD p undef = .pointer (some ⟨g, 0, none⟩)) (hg : w.heap[g]? = some (.cells (two a b) 29 (0, 0))) :
    (results fn tmps).run Try.prog w = .ok (.agg (two a b)) w :=
  results_cell_row h tmps w g 29 (two a b) (0, 0) _ hp hg Try.underlying29 rfl sizeMI

/-- What is left of a number when a market is counted off. -/
def szM (ls rs : List (List Int)) : Int := if ls.length + total ls + (rs.length + total rs) ≤ 1048576 then ((1048576 - (ls.length + total ls + (rs.length + total rs)) : Nat) : Int) else -1
def FitsM (ls rs : List (List Int)) : Prop := ls.length + total ls + (rs.length + total rs) ≤ 1048576
theorem szM_yes {ls rs : List (List Int)} (h : FitsM ls rs) : szM ls rs = ((1048576 - (ls.length + total ls + (rs.length + total rs)) : Nat) : Int) := if_pos h
theorem szM_no {ls rs : List (List Int)} (h : ¬ FitsM ls rs) : szM ls rs = -1 := if_neg h

set_option maxRecDepth 100000 in
set_option maxHeartbeats 2000000 in
theorem szMkt_any (w : World) (L R : Value) (ls rs : List (List Int)) (hL : IntRows w L ls) (hR : IntRows w R rs) :
    Calls Try.prog 10 #[.agg (two L R), .int .i64 1048576] w fun e w' => e = .returned (.int .i64 (szM ls rs)) ∧ Below w.heap.size w w' := by
  have hb0 : Below w.heap.size w (w.alloc (.cells (two L R) 24)) := (Below.refl _ _).alloc (Nat.le_refl _) _
  have hbox := World.alloc_heap_new w (.cells (two L R) 24)
  obtain ⟨W0, hW0⟩ : ∃ W0, w.alloc (.cells (two L R) 24) = W0 := ⟨_, rfl⟩
  rw [hW0] at hb0 hbox
  obtain ⟨x0, x1, xf, xl⟩ := two_cells hbox
  have HL := Lib.hid (szIntSS_any W0 L ls (hL.below hb0) 1048576 (by omega))
  have HB := Lib.hid hb0
  clear hb0 hbox
  by_cases h1 : ls.length + total ls ≤ 1048576
  · rw [szOf_yes h1] at HL
    obtain ⟨l, hl⟩ : ∃ l, 1048576 - (ls.length + total ls) = l := ⟨_, rfl⟩
    rw [hl] at HL
    have hll : l ≤ 1048576 := by omega
    have HR := Lib.hid (szIntSS_any W0 R rs (hR.below HB.out) l hll)
    by_cases h2 : rs.length + total rs ≤ l
    · rw [szOf_yes h2] at HR
      obtain ⟨r, hr⟩ : ∃ r, l - (rs.length + total rs) = r := ⟨_, rfl⟩
      rw [hr] at HR
      have hy : szM ls rs = (r : Int) := by rw [szM_yes (by unfold FitsM; omega)]; omega
      have HY := Lib.hid hy
      have hrr : r ≤ 1048576 := by omega
      clear hy hr hl h1 h2 hL hR
      go_enter Try.func10, Try.ntmps10
      go_wp2_with fail
      refine HL.out.mono ?_
      rintro e w1 ⟨rfl, rfl⟩
      go_wp2_with fail
      refine HR.out.mono ?_
      rintro e w1 ⟨rfl, rfl⟩
      go_wp2
      go_ret
      exact ⟨by rw [HY.out]; rfl, HB.out⟩
    · rw [szOf_no h2] at HR
      have hy : szM ls rs = -1 := szM_no (by unfold FitsM; omega)
      have HY := Lib.hid hy
      clear hy hl h1 h2 hL hR
      go_enter Try.func10, Try.ntmps10
      go_wp2_with fail
      refine HL.out.mono ?_
      rintro e w1 ⟨rfl, rfl⟩
      go_wp2_with fail
      refine HR.out.mono ?_
      rintro e w1 ⟨rfl, rfl⟩
      go_wp2
      go_ret
      exact ⟨by rw [HY.out]; rfl, HB.out⟩
  · rw [szOf_no h1] at HL
    have hy : szM ls rs = -1 := szM_no (by unfold FitsM; omega)
    have HY := Lib.hid hy
    clear hy h1 hL hR
    go_enter Try.func10, Try.ntmps10
    go_wp2_with fail
    refine HL.out.mono ?_
    rintro e w1 ⟨rfl, rfl⟩
    go_wp2
    go_ret
    exact ⟨by rw [HY.out]; rfl, HB.out⟩

/-- A market in memory of its own, the left side's lists ahead of the right side's. -/
def OwnsMkt (w : World) (lo hi : Nat) (L R : Value) (ls rs : List (List Int)) : Prop := ∃ mid us us', lo ≤ mid ∧ mid ≤ hi ∧ OwnsRows w lo mid L us ls ∧ OwnsRows w mid hi R us' rs
theorem OwnsMkt.below {w w' : World} {lo hi : Nat} {L R : Value} {ls rs : List (List Int)} (h : OwnsMkt w lo hi L R ls rs) (hb : Below w.heap.size w w') : OwnsMkt w' lo hi L R ls rs := by
  obtain ⟨mid, us, us', h1, h2, h3, h4⟩ := h
  exact ⟨mid, us, us', h1, h2, h3.below hb, h4.below hb⟩
theorem OwnsMkt.left {w : World} {lo hi : Nat} {L R : Value} {ls rs : List (List Int)} (h : OwnsMkt w lo hi L R ls rs) : IntRows w L ls := by obtain ⟨_, _, _, _, _, h, _⟩ := h; exact rows_of_owns h
theorem OwnsMkt.right {w : World} {lo hi : Nat} {L R : Value} {ls rs : List (List Int)} (h : OwnsMkt w lo hi L R ls rs) : IntRows w R rs := by obtain ⟨_, _, _, _, _, _, h⟩ := h; exact rows_of_owns h

def GivesTo (w : World) (ls rs : List (List Int)) (e : Ending) (w' : World) : Prop :=
  ∃ A1 n1 c1 A2 n2 c2, e = .returned (.agg (two (.slice A1 n1 c1) (.slice A2 n2 c2))) ∧ Below w.heap.size w w' ∧ OwnsMkt w' w.heap.size w'.heap.size (.slice A1 n1 c1) (.slice A2 n2 c2) ls rs

set_option maxRecDepth 100000 in
set_option maxHeartbeats 2000000 in
theorem toMkt_any (w : World) (L R : Value) (ls rs : List (List Int)) (hL : IntRows w L ls) (hR : IntRows w R rs) (hf : FitsM ls rs) :
    Calls Try.prog 12 #[.agg (two L R)] w (GivesTo w ls rs) := by
  unfold FitsM at hf
  obtain ⟨W0, hW0⟩ : ∃ W0, ((w.alloc (.cells (two L R) 24)).alloc (.cells (two nilS nilS) 29)).alloc (.cells (two nilS nilS) 29) = W0 := ⟨_, rfl⟩
  have hb0 : Below w.heap.size w W0 := by rw [← hW0]; exact (((Below.refl _ _).alloc (Nat.le_refl _) _).alloc (by simp) _).alloc (by simp; omega) _
  have hbox : W0.heap[w.heap.size]? = some (.cells (two L R) 24 (0, 0)) := by rw [← hW0]; exact (Below.heap_alloc _ _ _ (by simp; omega)).trans (heap_two_old _ _ _)
  have hres : W0.heap[w.heap.size + 1]? = some (.cells (two nilS nilS) 29 (0, 0)) := by rw [← hW0]; exact (Below.heap_alloc _ _ _ (by simp)).trans (heap_two_new _ _ _)
  have hout : W0.heap[w.heap.size + 1 + 1]? = some (.cells (two nilS nilS) 29 (0, 0)) := by
    rw [← hW0]
    have := World.alloc_heap_new ((w.alloc (.cells (two L R) 24)).alloc (.cells (two nilS nilS) 29)) (.cells (two nilS nilS) 29)
    rwa [World.size_alloc, World.size_alloc] at this
  have hsz0 : W0.heap.size = w.heap.size + 3 := by rw [← hW0]; simp
  have HT := Lib.hid (toIntSS_any W0 L ls (hL.below hb0) (by omega))
  have HTR := Lib.hid (fun (W : World) (hW : Below w.heap.size w W) => toIntSS_any W R rs (hR.below hW) (by omega))
  obtain ⟨x0, x1, xf, xl⟩ := two_cells hbox
  have HB0 := Lib.hid hb0
  have HSZ := Lib.hid hsz0
  clear hb0 hL hR hf hsz0
  go_enter Try.func12, Try.ntmps12
  go_wp2_with fail
  clear hW0
  refine HT.out.mono ?_
  rintro e w1 ⟨us, rfl, hb1, ho1⟩
  have hs0 : w.heap.size + 3 ≤ W0.heap.size := by have := HSZ.out; omega
  have hs1 := hb1.size
  have hout1 := (hb1.block _ (by omega)).trans hout
  have hres1 := (hb1.block _ (by omega)).trans hres
  have hbox1 := (hb1.block _ (by omega)).trans hbox
  obtain ⟨y0, y1, yf, yl⟩ := two_cells hout1
  have HB1 := Lib.hid hb1
  have HO1 := Lib.hid ho1
  obtain ⟨W2, hW2⟩ : ∃ W2, w1.setCell ⟨w.heap.size + 1 + 1, 0, none⟩ (.slice (some ⟨W0.heap.size, 0, none⟩) ls.length ls.length) = W2 := ⟨_, rfl⟩
  have hg2 : w1.grownBy W2 (some (w.heap.size + 1 + 1)) := by rw [← hW2]; exact grown_setCell _ _ _ _
  have hsz2 : w1.heap.size ≤ W2.heap.size ∧ W2.heap.size ≤ w1.heap.size := by rw [← hW2]; simp [World.setCell]
  have hout2 : W2.heap[w.heap.size + 1 + 1]? = some (.cells (two (.slice (some ⟨W0.heap.size, 0, none⟩) ls.length ls.length) nilS) 29 (0, 0)) := by rw [← hW2, heap_setCell_same _ _ 0 _ _ _ hout1]; rfl
  have hbox2 : W2.heap[w.heap.size]? = some (.cells (two L R) 24 (0, 0)) := by rw [← hW2, heap_setCell_other _ _ _ _ (by show _ ≠ w.heap.size + 1 + 1; omega)]; exact hbox1
  have hres2 : W2.heap[w.heap.size + 1]? = some (.cells (two nilS nilS) 29 (0, 0)) := by rw [← hW2, heap_setCell_other _ _ _ _ (by show _ ≠ w.heap.size + 1 + 1; omega)]; exact hres1
  have hb2 : Below w.heap.size w W2 := by rw [← hW2]; exact (step_below HB0.out HB1.out).setCell (p := ⟨w.heap.size + 1 + 1, 0, none⟩) (by show _ ≤ w.heap.size + 1 + 1; omega) _
  obtain ⟨z0, z1, zf, zl⟩ := two_cells hbox2
  clear x0 x1 xf xl ho1 hb1
  go_wp2_with fail
  clear hW2 y0 y1 yf yl
  refine (HTR.out _ hb2).mono ?_
  rintro e w3 ⟨us', rfl, hb3, ho3⟩
  have hs3 := hb3.size
  have hout3 := (hb3.block _ (by omega)).trans hout2
  have hres3 := (hb3.block _ (by omega)).trans hres2
  obtain ⟨y0, y1, yf, yl⟩ := two_cells hout3
  obtain ⟨W4, hW4⟩ : ∃ W4, w3.setCell ⟨w.heap.size + 1 + 1, 1, none⟩ (.slice (some ⟨W2.heap.size, 0, none⟩) rs.length rs.length) = W4 := ⟨_, rfl⟩
  have hg4 : w3.grownBy W4 (some (w.heap.size + 1 + 1)) := by rw [← hW4]; exact grown_setCell _ _ _ _
  have hsz4 : w3.heap.size ≤ W4.heap.size ∧ W4.heap.size ≤ w3.heap.size := by rw [← hW4]; simp [World.setCell]
  have hout4 : W4.heap[w.heap.size + 1 + 1]? = some (.cells (two (.slice (some ⟨W0.heap.size, 0, none⟩) ls.length ls.length) (.slice (some ⟨W2.heap.size, 0, none⟩) rs.length rs.length)) 29 (0, 0)) := by rw [← hW4, heap_setCell_same _ _ 1 _ _ _ hout3]; rfl
  have hres4 : W4.heap[w.heap.size + 1]? = some (.cells (two nilS nilS) 29 (0, 0)) := by rw [← hW4, heap_setCell_other _ _ _ _ (by show _ ≠ w.heap.size + 1 + 1; omega)]; exact hres3
  have hb4 : Below w.heap.size w W4 := by rw [← hW4]; exact (step_below hb2 hb3).setCell (p := ⟨w.heap.size + 1 + 1, 1, none⟩) (by show _ ≤ w.heap.size + 1 + 1; omega) _
  have HX := Lib.hid (And.intro hb3 (And.intro ho3 hb4))
  clear z0 z1 zf zl hb2 hb3 ho3 hb4
  go_wp2_with (first
    | (refine load_mi rfl _ rfl (w.heap.size + 1 + 1) _ _ rfl hout4 ?_)
    | (refine store_mi rfl _ _ rfl (w.heap.size + 1) _ _ rfl rfl nilS nilS rfl rfl hres4 ?_))
  obtain ⟨hb3, ho3, hb4⟩ := HX.out
  refine bodyPost_ret (ret_mi rfl _ _ (w.heap.size + 1) _ _ rfl (heap_setRow2 hres4)) rfl ?_
  have hg5 := grown_setRow2 W4 (w.heap.size + 1) (two (.slice (some ⟨W0.heap.size, 0, none⟩) ls.length ls.length) (.slice (some ⟨W2.heap.size, 0, none⟩) rs.length rs.length))
  have hsz5 : (W4.setRow (w.heap.size + 1) (two (.slice (some ⟨W0.heap.size, 0, none⟩) ls.length ls.length) (.slice (some ⟨W2.heap.size, 0, none⟩) rs.length rs.length))).heap.size = W4.heap.size := by simp [World.setRow]
  have o1 := ((((HO1.out.other hg2 hout1 (by decide) (by decide)).below hb3).other hg4 hout3 (by decide) (by decide)).other hg5 hres4 (by decide) (by decide))
  have o3 := ((ho3.other hg4 hout3 (by decide) (by decide)).other hg5 hres4 (by decide) (by decide))
  exact ⟨_, _, _, _, _, _, rfl, below_setRow2 hb4 (by omega) _, w1.heap.size, us, us', by omega, by omega, o1.wide (by omega) (by omega), o3.wide (by omega) (by omega)⟩

end Go.Proofs.Ytjhjfopokiaiiaa
