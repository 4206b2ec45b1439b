/-
  MktL: MktLaw MktEq MktMark MktApart LawKTurned.
-/
import Derived.Test.YtahilcnmjnjcaaaDoorCore1
import Derived.Test.YtahilcnmjnjcaaaDoorSide1
/-
  THE LAWS' SMALL FUNCTIONS ON MARKETS: sizes, copies, comparison.
-/
namespace Go.Proofs.YtahilcnmjnjcaaaDoor
set_option linter.unusedVariables false
set_option linter.unusedSimpArgs false
open Go.RowKit

theorem sizeMI : (Tryd.prog.info? 28).map (·.size) = some 2 := by kernel_rfl
theorem sizeML : (Tryd.prog.info? 24).map (·.size) = some 2 := by kernel_rfl

theorem load_mi {ops : Array Oper} {rest : List Oper} {o : Oper} {a : Act} {w : World} {Q : Exit → Act → World → Prop} (hgd : o.guard = none) (x : Operand) (ho : o.op = .load 28 x)
    (g : Nat) (p q : Value) (hx : a.eval x = .pointer (some ⟨g, 0, none⟩)) (hg : w.heap[g]? = some (.cells (two p q) 28 (0, 0)))
    (h : wpList Tryd.prog ops Q rest (a.put o.dst (.agg (two p q))) w) : wpList Tryd.prog ops Q (o :: rest) a w :=
  wpList_load_row hgd 28 x ho g hx 28 (two p q) (0, 0) _ hg Tryd.underlying28 rfl sizeMI h
theorem load_ml {ops : Array Oper} {rest : List Oper} {o : Oper} {a : Act} {w : World} {Q : Exit → Act → World → Prop} (hgd : o.guard = none) (x : Operand) (ho : o.op = .load 24 x)
    (g : Nat) (p q : Value) (hx : a.eval x = .pointer (some ⟨g, 0, none⟩)) (hg : w.heap[g]? = some (.cells (two p q) 24 (0, 0)))
    (h : wpList Tryd.prog ops Q rest (a.put o.dst (.agg (two p q))) w) : wpList Tryd.prog ops Q (o :: rest) a w :=
  wpList_load_row hgd 24 x ho g hx 24 (two p q) (0, 0) _ hg Tryd.underlying24 rfl sizeML h

theorem store_mi {ops : Array Oper} {rest : List Oper} {o : Oper} {a : Act} {w : World} {Q : Exit → Act → World → Prop} (hgd : o.guard = none) (x y : Operand) (ho : o.op = .store 28 x y)
    (g : Nat) (p q : Value) (hx : a.eval x = .pointer (some ⟨g, 0, none⟩)) (hy : a.eval y = .agg (two p q)) (p0 q0 : Value) (h1 : p.oneCell' = true) (h2 : q.oneCell' = true)
    (hg : w.heap[g]? = some (.cells (two p0 q0) 28 (0, 0)))
    (h : wpList Tryd.prog ops Q rest (a.put o.dst undef) (w.setRow g (two p q))) : wpList Tryd.prog ops Q (o :: rest) a w :=
  wpList_store_row hgd 28 x y ho g (two p q) hx hy 28 (two p0 q0) hg sizeMI rfl (by simp [two, h1, h2]) h
theorem ret_mi {fn : Func} {p : Tmp} (h : fn.results = #[.cell p 28]) (tmps : Array Value) (w : World) (g : Nat) (a b : Value)
    (hp : tmps.getD p undef = .pointer (some ⟨g, 0, none⟩)) (hg : w.heap[g]? = some (.cells (two a b) 28 (0, 0))) :
    (results fn tmps).run Tryd.prog w = .ok (.agg (two a b)) w :=
  results_cell_row h tmps w g 28 (two a b) (0, 0) _ hp hg Tryd.underlying28 rfl sizeMI

/-- What is left of a number when a market is counted off. -/
def szM (ls rs : List (List Int)) : Int := if ls.length + total ls + (rs.length + total rs) ≤ 1048576 then ((1048576 - (ls.length + total ls + (rs.length + total rs)) : Nat) : Int) else -1
def FitsM (ls rs : List (List Int)) : Prop := ls.length + total ls + (rs.length + total rs) ≤ 1048576
theorem szM_yes {ls rs : List (List Int)} (h : FitsM ls rs) : szM ls rs = ((1048576 - (ls.length + total ls + (rs.length + total rs)) : Nat) : Int) := if_pos h
theorem szM_no {ls rs : List (List Int)} (h : ¬ FitsM ls rs) : szM ls rs = -1 := if_neg h

set_option maxRecDepth 100000 in
set_option maxHeartbeats 2000000 in
theorem szMkt_any (w : World) (L R : Value) (ls rs : List (List Int)) (hL : IntRows w L ls) (hR : IntRows w R rs) :
    Calls Tryd.prog 10 #[.agg (two L R), .int .i64 1048576] w fun e w' => e = .returned (.int .i64 (szM ls rs)) ∧ Below w.heap.size w w' := by
  have hb0 : Below w.heap.size w (w.alloc (.cells (two L R) 24)) := (Below.refl _ _).alloc (Nat.le_refl _) _
  have hbox := World.alloc_heap_new w (.cells (two L R) 24)
  obtain ⟨W0, hW0⟩ : ∃ W0, w.alloc (.cells (two L R) 24) = W0 := ⟨_, rfl⟩
  rw [hW0] at hb0 hbox
  obtain ⟨x0, x1, xf, xl⟩ := two_cells hbox
  have HL := Lib.hid (szIntSS_any W0 L ls (hL.below hb0) 1048576 (by omega))
  have HB := Lib.hid hb0
  clear hb0 hbox
  by_cases h1 : ls.length + total ls ≤ 1048576
  · rw [szOf_yes h1] at HL
    obtain ⟨l, hl⟩ : ∃ l, 1048576 - (ls.length + total ls) = l := ⟨_, rfl⟩
    rw [hl] at HL
    have hll : l ≤ 1048576 := by omega
    have HR := Lib.hid (szIntSS_any W0 R rs (hR.below HB.out) l hll)
    by_cases h2 : rs.length + total rs ≤ l
    · rw [szOf_yes h2] at HR
      obtain ⟨r, hr⟩ : ∃ r, l - (rs.length + total rs) = r := ⟨_, rfl⟩
      rw [hr] at HR
      have hy : szM ls rs = (r : Int) := by rw [szM_yes (by unfold FitsM; omega)]; omega
      have HY := Lib.hid hy
      have hrr : r ≤ 1048576 := by omega
      clear hy hr hl h1 h2 hL hR
      go_enter Tryd.func10, Tryd.ntmps10
      go_wp2_with fail
      refine HL.out.mono ?_
      rintro e w1 ⟨rfl, rfl⟩
      go_wp2_with fail
      refine HR.out.mono ?_
      rintro e w1 ⟨rfl, rfl⟩
      go_wp2
      go_ret
      exact ⟨by rw [HY.out]; rfl, HB.out⟩
    · rw [szOf_no h2] at HR
      have hy : szM ls rs = -1 := szM_no (by unfold FitsM; omega)
      have HY := Lib.hid hy
      clear hy hl h1 h2 hL hR
      go_enter Tryd.func10, Tryd.ntmps10
      go_wp2_with fail
      refine HL.out.mono ?_
      rintro e w1 ⟨rfl, rfl⟩
      go_wp2_with fail
      refine HR.out.mono ?_
      rintro e w1 ⟨rfl, rfl⟩
      go_wp2
      go_ret
      exact ⟨by rw [HY.out]; rfl, HB.out⟩
  · rw [szOf_no h1] at HL
    have hy : szM ls rs = -1 := szM_no (by unfold FitsM; omega)
    have HY := Lib.hid hy
    clear hy h1 hL hR
    go_enter Tryd.func10, Tryd.ntmps10
    go_wp2_with fail
    refine HL.out.mono ?_
    rintro e w1 ⟨rfl, rfl⟩
    go_wp2
    go_ret
    exact ⟨by rw [HY.out]; rfl, HB.out⟩

/-- A market in memory of its own, the left side's lists ahead of the right side's. -/
def OwnsMkt (w : World) (lo hi : Nat) (L R : Value) (ls rs : List (List Int)) : Prop := ∃ mid us us', lo ≤ mid ∧ mid ≤ hi ∧ OwnsRows w lo mid L us ls ∧ OwnsRows w mid hi R us' rs
theorem OwnsMkt.below {w w' : World} {lo hi : Nat} {L R : Value} {ls rs : List (List Int)} (h : OwnsMkt w lo hi L R ls rs) (hb : Below w.heap.size w w') : OwnsMkt w' lo hi L R ls rs := by
  obtain ⟨mid, us, us', h1, h2, h3, h4⟩ := h
  exact ⟨mid, us, us', h1, h2, h3.below hb, h4.below hb⟩
theorem OwnsMkt.left {w : World} {lo hi : Nat} {L R : Value} {ls rs : List (List Int)} (h : OwnsMkt w lo hi L R ls rs) : IntRows w L ls := by obtain ⟨_, _, _, _, _, h, _⟩ := h; exact rows_of_owns h
theorem OwnsMkt.right {w : World} {lo hi : Nat} {L R : Value} {ls rs : List (List Int)} (h : OwnsMkt w lo hi L R ls rs) : IntRows w R rs := by obtain ⟨_, _, _, _, _, _, h⟩ := h; exact rows_of_owns h

def GivesTo (w : World) (ls rs : List (List Int)) (e : Ending) (w' : World) : Prop :=
  ∃ A1 n1 c1 A2 n2 c2, e = .returned (.agg (two (.slice A1 n1 c1) (.slice A2 n2 c2))) ∧ Below w.heap.size w w' ∧ OwnsMkt w' w.heap.size w'.heap.size (.slice A1 n1 c1) (.slice A2 n2 c2) ls rs

set_option maxRecDepth 100000 in
set_option maxHeartbeats 2000000 in
theorem toMkt_any (w : World) (L R : Value) (ls rs : List (List Int)) (hL : IntRows w L ls) (hR : IntRows w R rs) (hf : FitsM ls rs) :
    Calls Tryd.prog 12 #[.agg (two L R)] w (GivesTo w ls rs) := by
  unfold FitsM at hf
  obtain ⟨W0, hW0⟩ : ∃ W0, ((w.alloc (.cells (two L R) 24)).alloc (.cells (two nilS nilS) 28)).alloc (.cells (two nilS nilS) 28) = W0 := ⟨_, rfl⟩
  have hb0 : Below w.heap.size w W0 := by rw [← hW0]; exact (((Below.refl _ _).alloc (Nat.le_refl _) _).alloc (by simp) _).alloc (by simp; omega) _
  have hbox : W0.heap[w.heap.size]? = some (.cells (two L R) 24 (0, 0)) := by rw [← hW0]; exact (Below.heap_alloc _ _ _ (by simp; omega)).trans (heap_two_old _ _ _)
  have hres : W0.heap[w.heap.size + 1]? = some (.cells (two nilS nilS) 28 (0, 0)) := by rw [← hW0]; exact (Below.heap_alloc _ _ _ (by simp)).trans (heap_two_new _ _ _)
  have hout : W0.heap[w.heap.size + 1 + 1]? = some (.cells (two nilS nilS) 28 (0, 0)) := by
    rw [← hW0]
    have := World.alloc_heap_new ((w.alloc (.cells (two L R) 24)).alloc (.cells (two nilS nilS) 28)) (.cells (two nilS nilS) 28)
    rwa [World.size_alloc, World.size_alloc] at this
  have hsz0 : W0.heap.size = w.heap.size + 3 := by rw [← hW0]; simp
  have HT := Lib.hid (toIntSS_any W0 L ls (hL.below hb0) (by omega))
  have HTR := Lib.hid (fun (W : World) (hW : Below w.heap.size w W) => toIntSS_any W R rs (hR.below hW) (by omega))
  obtain ⟨x0, x1, xf, xl⟩ := two_cells hbox
  have HB0 := Lib.hid hb0
  have HSZ := Lib.hid hsz0
  clear hb0 hL hR hf hsz0
  go_enter Tryd.func12, Tryd.ntmps12
  go_wp2_with fail
  clear hW0
  refine HT.out.mono ?_
  rintro e w1 ⟨us, rfl, hb1, ho1⟩
  have hs0 : w.heap.size + 3 ≤ W0.heap.size := by have := HSZ.out; omega
  have hs1 := hb1.size
  have hout1 := (hb1.block _ (by omega)).trans hout
  have hres1 := (hb1.block _ (by omega)).trans hres
  have hbox1 := (hb1.block _ (by omega)).trans hbox
  obtain ⟨y0, y1, yf, yl⟩ := two_cells hout1
  have HB1 := Lib.hid hb1
  have HO1 := Lib.hid ho1
  obtain ⟨W2, hW2⟩ : ∃ W2, w1.setCell ⟨w.heap.size + 1 + 1, 0, none⟩ (.slice (some ⟨W0.heap.size, 0, none⟩) ls.length ls.length) = W2 := ⟨_, rfl⟩
  have hg2 : w1.grownBy W2 (some (w.heap.size + 1 + 1)) := by rw [← hW2]; exact grown_setCell _ _ _ _
  have hsz2 : w1.heap.size ≤ W2.heap.size ∧ W2.heap.size ≤ w1.heap.size := by rw [← hW2]; simp [World.setCell]
  have hout2 : W2.heap[w.heap.size + 1 + 1]? = some (.cells (two (.slice (some ⟨W0.heap.size, 0, none⟩) ls.length ls.length) nilS) 28 (0, 0)) := by rw [← hW2, heap_setCell_same _ _ 0 _ _ _ hout1]; rfl
  have hbox2 : W2.heap[w.heap.size]? = some (.cells (two L R) 24 (0, 0)) := by rw [← hW2, heap_setCell_other _ _ _ _ (by show _ ≠ w.heap.size + 1 + 1; omega)]; exact hbox1
  have hres2 : W2.heap[w.heap.size + 1]? = some (.cells (two nilS nilS) 28 (0, 0)) := by rw [← hW2, heap_setCell_other _ _ _ _ (by show _ ≠ w.heap.size + 1 + 1; omega)]; exact hres1
  have hb2 : Below w.heap.size w W2 := by rw [← hW2]; exact (step_below HB0.out HB1.out).setCell (p := ⟨w.heap.size + 1 + 1, 0, none⟩) (by show _ ≤ w.heap.size + 1 + 1; omega) _
  obtain ⟨z0, z1, zf, zl⟩ := two_cells hbox2
  clear x0 x1 xf xl ho1 hb1
  go_wp2_with fail
  clear hW2 y0 y1 yf yl
  refine (HTR.out _ hb2).mono ?_
  rintro e w3 ⟨us', rfl, hb3, ho3⟩
  have hs3 := hb3.size
  have hout3 := (hb3.block _ (by omega)).trans hout2
  have hres3 := (hb3.block _ (by omega)).trans hres2
  obtain ⟨y0, y1, yf, yl⟩ := two_cells hout3
  obtain ⟨W4, hW4⟩ : ∃ W4, w3.setCell ⟨w.heap.size + 1 + 1, 1, none⟩ (.slice (some ⟨W2.heap.size, 0, none⟩) rs.length rs.length) = W4 := ⟨_, rfl⟩
  have hg4 : w3.grownBy W4 (some (w.heap.size + 1 + 1)) := by rw [← hW4]; exact grown_setCell _ _ _ _
  have hsz4 : w3.heap.size ≤ W4.heap.size ∧ W4.heap.size ≤ w3.heap.size := by rw [← hW4]; simp [World.setCell]
  have hout4 : W4.heap[w.heap.size + 1 + 1]? = some (.cells (two (.slice (some ⟨W0.heap.size, 0, none⟩) ls.length ls.length) (.slice (some ⟨W2.heap.size, 0, none⟩) rs.length rs.length)) 28 (0, 0)) := by rw [← hW4, heap_setCell_same _ _ 1 _ _ _ hout3]; rfl
  have hres4 : W4.heap[w.heap.size + 1]? = some (.cells (two nilS nilS) 28 (0, 0)) := by rw [← hW4, heap_setCell_other _ _ _ _ (by show _ ≠ w.heap.size + 1 + 1; omega)]; exact hres3
  have hb4 : Below w.heap.size w W4 := by rw [← hW4]; exact (step_below hb2 hb3).setCell (p := ⟨w.heap.size + 1 + 1, 1, none⟩) (by show _ ≤ w.heap.size + 1 + 1; omega) _
  have HX := Lib.hid (And.intro hb3 (And.intro ho3 hb4))
  clear z0 z1 zf zl hb2 hb3 ho3 hb4
  go_wp2_with (first
    | (refine load_mi rfl _ rfl (w.heap.size + 1 + 1) _ _ rfl hout4 ?_)
    | (refine store_mi rfl _ _ rfl (w.heap.size + 1) _ _ rfl rfl nilS nilS rfl rfl hres4 ?_))
  obtain ⟨hb3, ho3, hb4⟩ := HX.out
  refine bodyPost_ret (ret_mi rfl _ _ (w.heap.size + 1) _ _ rfl (heap_setRow2 hres4)) rfl ?_
  have hg5 := grown_setRow2 W4 (w.heap.size + 1) (two (.slice (some ⟨W0.heap.size, 0, none⟩) ls.length ls.length) (.slice (some ⟨W2.heap.size, 0, none⟩) rs.length rs.length))
  have hsz5 : (W4.setRow (w.heap.size + 1) (two (.slice (some ⟨W0.heap.size, 0, none⟩) ls.length ls.length) (.slice (some ⟨W2.heap.size, 0, none⟩) rs.length rs.length))).heap.size = W4.heap.size := by simp [World.setRow]
  have o1 := ((((HO1.out.other hg2 hout1 (by decide) (by decide)).below hb3).other hg4 hout3 (by decide) (by decide)).other hg5 hres4 (by decide) (by decide))
  have o3 := ((ho3.other hg4 hout3 (by decide) (by decide)).other hg5 hres4 (by decide) (by decide))
  exact ⟨_, _, _, _, _, _, rfl, below_setRow2 hb4 (by omega) _, w1.heap.size, us, us', by omega, by omega, o1.wide (by omega) (by omega), o3.wide (by omega) (by omega)⟩

end Go.Proofs.YtahilcnmjnjcaaaDoor

/-
  laws.eqMarket.
-/
namespace Go.Proofs.YtahilcnmjnjcaaaDoor
set_option linter.unusedVariables false
set_option linter.unusedSimpArgs false
open Go.RowKit

theorem below_drew_of {w W W' : World} (h : Below w.heap.size w W) (q : Nat) (e : W' = W.drewN q) : Below w.heap.size w W' := by rw [e]; exact below_drewN h q

set_option maxRecDepth 100000 in
set_option maxHeartbeats 2000000 in
theorem eqMkt_same (w : World) (L R L' R' : Value) (ls rs : List (List Int)) (hL : IntRows w L ls) (hR : IntRows w R rs) (hL' : IntRows w L' ls) (hR' : IntRows w R' rs) :
    Calls Tryd.prog 15 #[.agg (two L R), .agg (two L' R')] w fun e w' => e = .returned (.bool true) ∧ Below w.heap.size w w' := by
  obtain ⟨W0, hW0⟩ : ∃ W0, (w.alloc (.cells (two L R) 28)).alloc (.cells (two L' R') 28) = W0 := ⟨_, rfl⟩
  have hb0 : Below w.heap.size w W0 := by rw [← hW0]; exact ((Below.refl _ _).alloc (Nat.le_refl _) _).alloc (by simp) _
  obtain ⟨x0, x1, xf, _⟩ := two_cells (show W0.heap[w.heap.size]? = some (.cells (two L R) 28 (0, 0)) by rw [← hW0]; exact heap_two_old _ _ _)
  obtain ⟨y0, y1, yf, _⟩ := two_cells (show W0.heap[w.heap.size + 1]? = some (.cells (two L' R') 28 (0, 0)) by rw [← hW0]; exact heap_two_new _ _ _)
  have h1 := Lib.hid (eqIntSS_same W0 L L' ls (hL.below hb0) (hL'.below hb0))
  have h2 := Lib.hid (fun q => eqIntSS_same (W0.drewN q) R R' rs ((hR.below hb0).drewN q) ((hR'.below hb0).drewN q))
  have HB0 := Lib.hid hb0
  have z1 : ∀ q, (W0.drewN q).cell? ⟨w.heap.size, 1, none⟩ = some R := fun _ => x1
  have z2 : ∀ q, (W0.drewN q).cell? ⟨w.heap.size + 1, 1, none⟩ = some R' := fun _ => y1
  clear hb0 hL hR hL' hR'
  go_enter Tryd.func15, Tryd.ntmps15
  go_wp2_with fail
  clear hW0
  refine h1.out.mono ?_
  rintro e w1 ⟨rfl, q, rfl⟩
  go_wp2_with fail
  refine (h2.out q).mono ?_
  rintro e w2 ⟨rfl, q2, rfl⟩
  go_wp2
  go_ret
  exact ⟨rfl, by simpa using below_drewN HB0.out (q + q2)⟩

/-- A value that is a market and can be read. -/
def ReadsM (w : World) (v : Value) (ls rs : List (List Int)) : Prop := ∃ L R, v = .agg (two L R) ∧ IntRows w L ls ∧ IntRows w R rs
theorem ReadsM.below {w w' : World} {v : Value} {ls rs : List (List Int)} (h : ReadsM w v ls rs) (hb : Below w.heap.size w w') : ReadsM w' v ls rs := by
  obtain ⟨L, R, hv, h1, h2⟩ := h
  exact ⟨L, R, hv, h1.below hb, h2.below hb⟩
theorem toMkt_v (w : World) (L R : Value) (ls rs : List (List Int)) (hL : IntRows w L ls) (hR : IntRows w R rs) (hf : FitsM ls rs) :
    Calls Tryd.prog 12 #[.agg (two L R)] w fun e w' => ∃ v, e = .returned v ∧ Below w.heap.size w w' ∧ ReadsM w' v ls rs := by
  refine (toMkt_any w L R ls rs hL hR hf).mono ?_
  rintro e w' ⟨A1, n1, c1, A2, n2, c2, rfl, hb, ho⟩
  exact ⟨_, rfl, hb, _, _, rfl, ho.left, ho.right⟩

theorem eqMkt_v (w : World) (L R v : Value) (ls rs : List (List Int)) (hL : IntRows w L ls) (hR : IntRows w R rs) (hv : ReadsM w v ls rs) :
    Calls Tryd.prog 15 #[.agg (two L R), v] w fun e w' => e = .returned (.bool true) ∧ Below w.heap.size w w' := by
  obtain ⟨L', R', rfl, h1, h2⟩ := hv
  exact eqMkt_same w L R L' R' ls rs hL hR h1 h2

theorem szMkt_yes (ls rs : List (List Int)) (hf : FitsM ls rs) : ∃ l : Nat, l ≤ 1048576 ∧ ∀ (w : World) (L R : Value), IntRows w L ls → IntRows w R rs →
    Calls Tryd.prog 10 #[.agg (two L R), .int .i64 1048576] w fun e w' => e = .returned (.int .i64 (l : Int)) ∧ Below w.heap.size w w' :=
  ⟨_, Nat.sub_le _ _, fun w L R hL hR => by have := szMkt_any w L R ls rs hL hR; rwa [szM_yes hf] at this⟩
theorem szMkt_no (ls rs : List (List Int)) (hf : ¬ FitsM ls rs) (w : World) (L R : Value) (hL : IntRows w L ls) (hR : IntRows w R rs) :
    Calls Tryd.prog 10 #[.agg (two L R), .int .i64 1048576] w fun e w' => e = .returned (.int .i64 (-1)) ∧ Below w.heap.size w w' := by
  have := szMkt_any w L R ls rs hL hR
  rwa [szM_no hf] at this

end Go.Proofs.YtahilcnmjnjcaaaDoor

/-
  laws.markMarket, laws.heldMarket.
-/
namespace Go.Proofs.YtahilcnmjnjcaaaDoor
set_option linter.unusedVariables false
set_option linter.unusedSimpArgs false
open Go.RowKit

theorem OwnsMkt.kept {w w' : World} {lo hi a b : Nat} {L R : Value} {ls rs : List (List Int)} (h : OwnsMkt w lo hi L R ls rs) (hw : Within a b w w') (hd : hi ≤ a ∨ b ≤ lo) : OwnsMkt w' lo hi L R ls rs := by
  obtain ⟨mid, us, us', h1, h2, h3, h4⟩ := h
  exact ⟨mid, us, us', h1, h2, h3.kept hw (by omega), h4.kept hw (by omega)⟩
theorem Within.alloc {lo hi : Nat} {w w' : World} (h : Within lo hi w w') (o : Obj) : Within lo hi w (w'.alloc o) :=
  h.trans (within_alloc lo hi w' o)
where within_alloc (lo hi : Nat) (w : World) (o : Obj) : Within lo hi w (w.alloc o) := ⟨rfl, rfl, rfl, by simp, fun k hk _ => Below.heap_alloc _ _ _ hk⟩
theorem Within.wider {lo hi lo' hi' : Nat} {w w' : World} (h : Within lo hi w w') (hl : lo' ≤ lo) (hh : hi ≤ hi') : Within lo' hi' w w' :=
  ⟨h.os, h.tape, h.output, h.size, fun k hk ho => h.block k hk (by omega)⟩

set_option maxRecDepth 100000 in
set_option maxHeartbeats 2000000 in
theorem markMkt_any (w : World) (lo hi : Nat) (L R : Value) (ls rs : List (List Int)) (k0 : Int) (h : OwnsMkt w lo hi L R ls rs) (hhi : hi ≤ w.heap.size) (hk0 : 0 ≤ k0) (hkt : k0 + total ls + total rs ≤ 1000000000000) :
    Calls Tryd.prog 16 #[.agg (two L R), .int .i64 k0] w fun e w' => e = .returned (.int .i64 (k0 + total ls + total rs)) ∧ Within lo hi w w' ∧ OwnsMkt w' lo hi L R (markRows k0 ls) (markRows (k0 + total ls) rs) := by
  obtain ⟨mid, us, us', h1, h2, h3, h4⟩ := h
  obtain ⟨W0, hW0⟩ : ∃ W0, w.alloc (.cells (two L R) 28) = W0 := ⟨_, rfl⟩
  have hb0 : Below w.heap.size w W0 := by rw [← hW0]; exact (Below.refl _ _).alloc (Nat.le_refl _) _
  have hbox : W0.heap[w.heap.size]? = some (.cells (two L R) 28 (0, 0)) := by rw [← hW0]; exact World.alloc_heap_new _ _
  have hw0 : Within lo hi w W0 := by rw [← hW0]; exact (Within.refl _ _ _).alloc _
  obtain ⟨x0, x1, xf, _⟩ := two_cells hbox
  have HM1 := Lib.hid (markIntSS_any W0 lo mid L us ls k0 (h3.below hb0) hk0 (by omega))
  obtain ⟨k1, hk1⟩ : ∃ k1 : Int, k0 + total ls = k1 := ⟨_, rfl⟩
  obtain ⟨k2, hk2⟩ : ∃ k2 : Int, k1 + total rs = k2 := ⟨_, rfl⟩
  rw [hk1] at HM1 ⊢
  rw [hk2]
  have HM2 := Lib.hid (fun (W : World) (h : OwnsRows W mid hi R us' rs) => markIntSS_any W mid hi R us' rs k1 h (by omega) (by omega))
  rw [hk2] at HM2
  have HX := Lib.hid (And.intro hw0 (And.intro (h4.below hb0) (And.intro h1 (And.intro h2 hhi))))
  clear hb0 hw0 h3 h4 h1 h2 hhi hk1 hk2
  go_enter Tryd.func16, Tryd.ntmps16
  go_wp2_with fail
  clear hW0
  refine HM1.out.mono ?_
  rintro e w1 ⟨rfl, hw1, ho1⟩
  obtain ⟨hw0, h4, h1, h2, hhi⟩ := HX.out
  have hbox1 := (hw1.block _ (Array.getElem?_eq_some_iff.1 hbox).1 (.inr (by omega))).trans hbox
  obtain ⟨y0, y1, _, _⟩ := two_cells hbox1
  have HM3 := Lib.hid (HM2.out w1 (h4.kept hw1 (.inr (Nat.le_refl _))))
  have HY := Lib.hid (And.intro hw0 (And.intro hw1 ho1))
  clear x0 x1 xf hbox hbox1 hw0 h4 hw1 ho1
  go_wp2_with fail
  refine HM3.out.mono ?_
  rintro e w2 ⟨rfl, hw2, ho2⟩
  obtain ⟨hw0, hw1, ho1⟩ := HY.out
  have HZ := Lib.hid (And.intro ((hw0.trans (hw1.wider (Nat.le_refl _) h2)).trans (hw2.wider h1 (Nat.le_refl _))) (And.intro (ho1.kept hw2 (.inl (Nat.le_refl _))) ho2))
  clear hw0 hw1 ho1 hw2 ho2 y0 y1
  go_wp2
  go_ret
  exact ⟨rfl, HZ.out.1, mid, us, us', h1, h2, HZ.out.2.1, HZ.out.2.2⟩


end Go.Proofs.YtahilcnmjnjcaaaDoor

/-
  A MARKET WHOSE LISTS LIE APART, though not one behind the other: laws.markMarket on it.
-/
namespace Go.Proofs.YtahilcnmjnjcaaaDoor
set_option linter.unusedVariables false
set_option linter.unusedSimpArgs false
open Go.RowKit

def Outside (v : Value) (p q : Nat) : Prop := ∀ k, v.ownBlock = some k → k < p ∨ q ≤ k
def Inside (us : List Value) (p q : Nat) : Prop := ∀ (i : Nat) (h : i < us.length) (k : Nat), us[i].ownBlock = some k → p ≤ k ∧ k < q
theorem OwnsAt.far {w w' : World} {lo hi p q : Nat} {e : TypeId} {v : Value} {n : Nat} {cs : List Value} (h : OwnsAt w lo hi e v n cs) (hw : Within p q w w') (ho : Outside v p q) : OwnsAt w' lo hi e v n cs := by
  refine ⟨⟨h.1.1, ?_⟩, h.2⟩
  rcases h.1.2 with hn | ⟨g, cap, cur, rfl, hb, hgg, rest⟩
  · exact .inl hn
  · refine .inr ⟨g, cap, cur, rfl, hb, ?_, rest⟩
    have := ho g rfl
    rw [hw.block g (Array.getElem?_eq_some_iff.1 hgg).1 this]
    exact hgg
theorem OwnsRows.far {w w' : World} {lo hi p q p' q' : Nat} {v : Value} {us : List Value} {xss : List (List Int)} (h : OwnsRows w lo hi v us xss) (hw : Within p q w w') (ho : Outside v p q) (hi' : Inside us p' q') (hd : q ≤ p' ∨ q' ≤ p) : OwnsRows w' lo hi v us xss :=
  ⟨h.len, h.outer.far hw ho, fun i hi2 => (h.inner i hi2).far hw (fun k hk => by have := hi' i hi2 k hk; omega), h.apart⟩
structure Apart (L R : Value) (us us' : List Value) (lo hi p q p' q' : Nat) : Prop where
  one : Inside us p q
  two : Inside us' p' q'
  left : Outside L p' q'
  right : Outside R p q
  far : q ≤ p' ∨ q' ≤ p
  lo1 : lo ≤ p
  hi1 : q ≤ hi
  lo2 : lo ≤ p'
  hi2 : q' ≤ hi
def OwnsMktX (w : World) (lo hi : Nat) (L R : Value) (ls rs : List (List Int)) : Prop := ∃ us us' p q p' q', OwnsRows w lo hi L us ls ∧ OwnsRows w lo hi R us' rs ∧ Apart L R us us' lo hi p q p' q'
theorem OwnsMktX.below {w w' : World} {lo hi : Nat} {L R : Value} {ls rs : List (List Int)} (h : OwnsMktX w lo hi L R ls rs) (hb : Below w.heap.size w w') : OwnsMktX w' lo hi L R ls rs := by
  obtain ⟨us, us', p, q, p', q', h1, h2, h3⟩ := h
  exact ⟨us, us', p, q, p', q', h1.below hb, h2.below hb, h3⟩
theorem OwnsMktX.kept {w w' : World} {lo hi a b : Nat} {L R : Value} {ls rs : List (List Int)} (h : OwnsMktX w lo hi L R ls rs) (hw : Within a b w w') (hd : hi ≤ a ∨ b ≤ lo) : OwnsMktX w' lo hi L R ls rs := by
  obtain ⟨us, us', p, q, p', q', h1, h2, h3⟩ := h
  exact ⟨us, us', p, q, p', q', h1.kept hw hd, h2.kept hw hd, h3⟩
theorem OwnsMktX.left {w : World} {lo hi : Nat} {L R : Value} {ls rs : List (List Int)} (h : OwnsMktX w lo hi L R ls rs) : IntRows w L ls := by obtain ⟨_, _, _, _, _, _, h, _⟩ := h; exact rows_of_owns h
theorem OwnsMktX.right {w : World} {lo hi : Nat} {L R : Value} {ls rs : List (List Int)} (h : OwnsMktX w lo hi L R ls rs) : IntRows w R rs := by obtain ⟨_, _, _, _, _, _, _, h, _⟩ := h; exact rows_of_owns h
theorem inside_of_owns {w : World} {lo hi : Nat} {v : Value} {us : List Value} {xss : List (List Int)} (h : OwnsRows w lo hi v us xss) : Inside us lo hi := fun i hi' k hk => ⟨((h.inner i hi').1.lt k hk).1, (h.inner i hi').2 k hk⟩
theorem outer_range {w : World} {lo hi : Nat} {v : Value} {us : List Value} {xss : List (List Int)} (h : OwnsRows w lo hi v us xss) (k : Nat) (hk : v.ownBlock = some k) : lo ≤ k ∧ k < hi := ⟨(h.outer.1.lt k hk).1, h.outer.2 k hk⟩
theorem OwnsMkt.x {w : World} {lo hi : Nat} {L R : Value} {ls rs : List (List Int)} (h : OwnsMkt w lo hi L R ls rs) : OwnsMktX w lo hi L R ls rs := by
  obtain ⟨mid, us, us', h1, h2, h3, h4⟩ := h
  exact ⟨us, us', lo, mid, mid, hi, h3.wide (Nat.le_refl _) h2, h4.wide h1 (Nat.le_refl _), inside_of_owns h3, inside_of_owns h4, fun k hk => .inl (outer_range h3 k hk).2, fun k hk => .inr (outer_range h4 k hk).1, .inl (Nat.le_refl _), Nat.le_refl _, h2, h1, Nat.le_refl _⟩

set_option maxHeartbeats 1000000 in
theorem markIntSS_in (w : World) (lo hi p q : Nat) (v : Value) (us : List Value) (xss : List (List Int)) (k0 : Int) (h : OwnsRows w lo hi v us xss) (hpq : Inside us p q) (hk0 : 0 ≤ k0) (hkt : k0 + total xss ≤ 1000000000000) :
    Calls Tryd.prog 17 #[v, .int .i64 k0] w fun e w' => e = .returned (.int .i64 (k0 + total xss)) ∧ Within p q w w' ∧ OwnsRows w' lo hi v us (markRows k0 xss) := by
  obtain ⟨A, cap, rfl, hm, hc⟩ := (rows_of_owns h).at
  have hlen := h.len
  have HLE := Lib.hid hlen
  have HH := Lib.hid h
  have HPQ := Lib.hid hpq
  clear hpq
  clear hc h hlen
  unfold maxLen at hm
  go_enter Tryd.func17, Tryd.ntmps17
  go_wp2
  go_loopw [1, 5] (fun kv i wr => ∃ j : Nat, j ≤ xss.length ∧ i = .int .i64 (j : Int) ∧ kv = .int .i64 (k0 + total (xss.take j)) ∧ Within p q w wr ∧ OwnsRows wr lo hi (.slice A xss.length cap) us (markTo k0 xss j)) (fun _ i _ => xss.length - (intOf i).toNat)
  case atStart => exact ⟨0, by omega, rfl, by simp [total], Within.refl _ _ _, by rw [markTo_zero]; exact HH.out⟩
  case round =>
    obtain ⟨j, hj, rfl, rfl, hW, hR⟩ := hrel
    have htt := total_take_le xss j
    obtain ⟨kj, hkj⟩ : ∃ kj : Int, k0 + total (xss.take j) = kj := ⟨_, rfl⟩
    have hkj0 : 0 ≤ kj := by omega
    have hkj1 : kj ≤ 1000000000000 := by omega
    rw [hkj]
    by_cases hlt : j < xss.length
    · have hju : j < us.length := by rw [HLE.out]; exact hlt
      obtain ⟨A2, cap2, hv2, _, hc2⟩ := (rows_of_owns hR).at
      have hml := markTo_len k0 xss j
      have hat := markTo_at k0 xss j hlt
      have hin := hR.inner j hju
      have hzj : (markTo k0 xss j)[j]'(by rw [hml]; exact hlt) = xss[j] := by
        rw [List.getElem?_eq_getElem (by rw [hml]; exact hlt)] at hat
        simpa using hat
      rw [hzj] at hin
      obtain ⟨b, off, hAe, hcell⟩ : ∃ b off, A = some ⟨b, off, none⟩ ∧ wr.cell? ⟨b, off + j, none⟩ = some us[j] := by
        rcases hR.outer.1.2 with ⟨hz, hn⟩ | ⟨g, c2, cur, hz, _, hgb, _⟩
        · rw [hml] at hn; omega
        · injection hz with h1 h2 h3
          subst h1
          have hc := hR.outer.1.cells (g := g) rfl j us[j] (List.getElem?_eq_getElem hju)
          rw [addr_add] at hc
          exact ⟨g, 0, rfl, hc⟩
      subst hAe
      have htk := total_take_succ xss j hlt
      have htl := total_take_le xss (j + 1)
      obtain ⟨u, hu⟩ : ∃ u, us[j] = u := ⟨_, rfl⟩
      have hji : (j : Int) < (xss.length : Int) := by omega
      have HM := Lib.hid (markIntS_any wr lo us[j] xss[j] kj hin.1 hkj0 (by omega))
      rw [hu] at hcell HM
      have HR := Lib.hid hR
      have HU := Lib.hid hu
      have HKJ := Lib.hid hkj
      have HTK := Lib.hid htk
      have hnext : kj + xss[j].length = k0 + total (xss.take (j + 1)) := by omega
      have HN := Lib.hid hnext
      clear hc2 hv2 hml hat hin hzj htk htl hR hu hkj htt hnext
      go_wp2_with (go_at_call 48; refine HM.out.mono ?_; rintro e w2 ⟨rfl, hgr, hnew⟩)
      go_roundw
      case rel =>
        have hgr2 : wr.grownBy w2 us[j].ownBlock := by rw [HU.out]; exact hgr
        have hnew2 : Owns w2 lo us[j] (marks kj xss[j].length) := by
          rw [HU.out]; exact hnew
        have hR2 := HR.out.turn j hju hgr2 (marks kj xss[j].length) hnew2
        have em : marks kj xss[j].length = (List.range xss[j].length).map (fun (i : Nat) => k0 + total (xss.take j) + i) := by rw [HKJ.out]; rfl
        rw [em, markTo_step k0 xss j hlt] at hR2
        refine ⟨j + 1, by omega, by go_num, by rw [HN.out], ?_, hR2⟩
        exact hW.trans (Within.of_grown hgr2 (fun k hk => HPQ.out j hju k hk))
      case measure => simp [intOf]; omega
    · obtain rfl : j = xss.length := by omega
      rw [List.take_length] at hkj
      rw [markTo_all] at hR
      have HR := Lib.hid hR
      have HK := Lib.hid hkj
      clear hR hkj htt
      go_wp2
      go_ret
      exact ⟨by rw [HK.out]; rfl, hW, HR.out⟩

set_option maxRecDepth 100000 in
set_option maxHeartbeats 2000000 in
theorem markMktX_any (w : World) (lo hi : Nat) (L R : Value) (ls rs : List (List Int)) (k0 : Int) (h : OwnsMktX w lo hi L R ls rs) (hhi : hi ≤ w.heap.size) (hk0 : 0 ≤ k0) (hkt : k0 + total ls + total rs ≤ 1000000000000) :
    Calls Tryd.prog 16 #[.agg (two L R), .int .i64 k0] w fun e w' => e = .returned (.int .i64 (k0 + total ls + total rs)) ∧ Within lo hi w w' ∧ OwnsMktX w' lo hi L R (markRows k0 ls) (markRows (k0 + total ls) rs) := by
  obtain ⟨us, us', p, q, p', q', h3, h4, hap⟩ := h
  obtain ⟨W0, hW0⟩ : ∃ W0, w.alloc (.cells (two L R) 28) = W0 := ⟨_, rfl⟩
  have hb0 : Below w.heap.size w W0 := by rw [← hW0]; exact (Below.refl _ _).alloc (Nat.le_refl _) _
  have hbox : W0.heap[w.heap.size]? = some (.cells (two L R) 28 (0, 0)) := by rw [← hW0]; exact World.alloc_heap_new _ _
  have hw0 : Within lo hi w W0 := by rw [← hW0]; exact (Within.refl _ _ _).alloc _
  obtain ⟨x0, x1, xf, _⟩ := two_cells hbox
  have HM1 := Lib.hid (markIntSS_in W0 lo hi p q L us ls k0 (h3.below hb0) hap.one hk0 (by omega))
  obtain ⟨k1, hk1⟩ : ∃ k1 : Int, k0 + total ls = k1 := ⟨_, rfl⟩
  obtain ⟨k2, hk2⟩ : ∃ k2 : Int, k1 + total rs = k2 := ⟨_, rfl⟩
  rw [hk1] at HM1 ⊢
  rw [hk2]
  have HM2 := Lib.hid (fun (W : World) (h : OwnsRows W lo hi R us' rs) => markIntSS_in W lo hi p' q' R us' rs k1 h hap.two (by omega) (by omega))
  rw [hk2] at HM2
  have HX := Lib.hid (And.intro hw0 (And.intro (h4.below hb0) (And.intro hap hhi)))
  clear hb0 hw0 h3 h4 hap hhi hk1 hk2
  go_enter Tryd.func16, Tryd.ntmps16
  go_wp2_with fail
  clear hW0
  refine HM1.out.mono ?_
  rintro e w1 ⟨rfl, hw1, ho1⟩
  obtain ⟨hw0, h4, hap, hhi⟩ := HX.out
  have hbox1 := (hw1.block _ (Array.getElem?_eq_some_iff.1 hbox).1 (.inr (by have := hap.hi1; omega))).trans hbox
  obtain ⟨y0, y1, _, _⟩ := two_cells hbox1
  have HM3 := Lib.hid (HM2.out w1 (h4.far hw1 hap.right hap.two hap.far))
  have HY := Lib.hid (And.intro hw0 (And.intro hw1 ho1))
  clear x0 x1 xf hbox hbox1 hw0 h4 hw1 ho1 hap
  go_wp2_with fail
  refine HM3.out.mono ?_
  rintro e w2 ⟨rfl, hw2, ho2⟩
  obtain ⟨hw0, hw1, ho1⟩ := HY.out
  have hap := HX.out.2.2.1
  have HZ := Lib.hid (And.intro ((hw0.trans (hw1.wider hap.lo1 hap.hi1)).trans (hw2.wider hap.lo2 hap.hi2)) (And.intro (ho1.far hw2 hap.left hap.one hap.far.symm) (And.intro ho2 hap)))
  clear hw0 hw1 ho1 hw2 ho2 y0 y1 hap
  go_wp2
  go_ret
  exact ⟨rfl, HZ.out.1, us, us', p, q, p', q', HZ.out.2.1, HZ.out.2.2.1, HZ.out.2.2.2⟩

end Go.Proofs.YtahilcnmjnjcaaaDoor

/-
  FnExactMarketTurned: at every input what the program hands back is what the specification does, in memory of its own; the arguments stay as they were.
-/
namespace Go.Proofs.YtahilcnmjnjcaaaDoor
set_option linter.unusedVariables false
set_option linter.unusedSimpArgs false
open Go.RowKit

def GivesMkt2 (w : World) (ok : Bool) (ys zs : List (List Int)) (e : Ending) (w' : World) : Prop :=
  ∃ A1 n1 c1 A2 n2 c2, e = .returned (.tuple #[.agg (two (.slice A1 n1 c1) (.slice A2 n2 c2)), .bool ok]) ∧ Below w.heap.size w w' ∧ OwnsMktX w' w.heap.size w'.heap.size (.slice A1 n1 c1) (.slice A2 n2 c2) ys zs


end Go.Proofs.YtahilcnmjnjcaaaDoor

