/-
  impl.marketFrom reads a market.
-/
import Derived.Test.YtjhjfopokiaiiaaSideFrom
namespace Go.Proofs.Ytjhjfopokiaiiaa
set_option linter.unusedVariables false
set_option linter.unusedSimpArgs false
open Go.RowKit

abbrev four (a b c d : Value) : Array Value := #[a, b, c, d]
theorem sizeMK : (Try.prog.info? 57).map (·.size) = some 4 := by kernel_rfl
theorem size_four (a b c d : Value) : (Try.prog.info? 57).map (·.size) = some (four a b c d).size := sizeMK
theorem load_mkt {ops : Array Oper} {rest : List Oper} {o : Oper} {a : Act} {w : World} {Q : Exit → Act → World → Prop} (hgd : o.guard = none) (x : Operand) (ho : o.op = .load 57 x)
    (g : Nat) (p q r s : Value) (hx : a.eval x = .pointer (some ⟨g, 0, none⟩)) (hg : w.heap[g]? = some (.cells (four p q r s) 57 (0, 0)))
    (h : wpList Try.prog ops Q rest (a.put o.dst (.agg (four p q r s))) w) : wpList Try.prog ops Q (o :: rest) a w :=
  wpList_load_row hgd 57 x ho g hx 57 (four p q r s) (0, 0) _ hg Try.underlying57 rfl (size_four p q r s) h
theorem store_mkt {ops : Array Oper} {rest : List Oper} {o : Oper} {a : Act} {w : World} {Q : Exit → Act → World → Prop} (hgd : o.guard = none) (x y : Operand) (ho : o.op = .store 57 x y)
    (g : Nat) (p q r s : Value) (hx : a.eval x = .pointer (some ⟨g, 0, none⟩)) (hy : a.eval y = .agg (four p q r s)) (p0 q0 r0 s0 : Value) (h1 : p.oneCell' = true) (h2 : q.oneCell' = true) (h3 : r.oneCell' = true) (h4 : s.oneCell' = true)
    (hg : w.heap[g]? = some (.cells (four p0 q0 r0 s0) 57 (0, 0)))
    (h : wpList Try.prog ops Q rest (a.put o.dst undef) (w.setRow g (four p q r s))) : wpList Try.prog ops Q (o :: rest) a w :=
  wpList_store_row hgd 57 x y ho g (four p q r s) hx hy 57 (four p0 q0 r0 s0) hg (size_four p q r s) rfl (by simp [four, h1, h2, h3, h4]) h
theorem ret_mkt2 {fn : Func} {p u : Tmp} (h : fn.results = #[.cell p 57, .tmp u]) (tmps : Array Value) (w : World) (g : Nat) (a b c d : Value) (v : Value)
    (hp : tmps.getD p undef = .pointer (some ⟨g, 0, none⟩)) (hv : tmps.getD u undef = v) (hg : w.heap[g]? = some (.cells (four a b c d) 57 (0, 0))) :
    (results fn tmps).run Try.prog w = .ok (.tuple #[.agg (four a b c d), v]) w := by
  subst hv
  rw [results_cell_tmp h tmps Try.prog w, hp]
  simp only [asAddr, Sem.run_pure, Result.andThen]
  rw [run_loadVar_row w g 57 57 (four a b c d) (0, 0) _ hg Try.underlying57 rfl (size_four a b c d)]

/-- Is it a market? -/
def mktOk (ls rs : List (List Int)) : Bool := decide (1 ≤ ls.length ∧ ls.length ≤ 5 ∧ rs.length = ls.length) && (sideOk ls && sideOk rs)
theorem mktOk_size {ls rs : List (List Int)} (h : ¬ (1 ≤ ls.length ∧ ls.length ≤ 5 ∧ rs.length = ls.length)) : mktOk ls rs = false := by unfold mktOk; rw [decide_eq_false h]; rfl
theorem mktOk_sides {ls rs : List (List Int)} (h1 : 1 ≤ ls.length) (h5 : ls.length ≤ 5) (h : rs.length = ls.length) : mktOk ls rs = (sideOk ls && sideOk rs) := by unfold mktOk; rw [decide_eq_true ⟨h1, h5, h⟩]; rfl
theorem mktOk_parts {ls rs : List (List Int)} (h : mktOk ls rs = true) : (1 ≤ ls.length ∧ ls.length ≤ 5 ∧ rs.length = ls.length) ∧ sideOk ls = true ∧ sideOk rs = true := by
  unfold mktOk at h
  rw [Bool.and_eq_true, Bool.and_eq_true, decide_eq_true_iff] at h
  exact h

def IsSl (v : Value) : Prop := ∃ A n c, v = .slice A n c
theorem IsSl.one {v : Value} (h : IsSl v) : v.oneCell' = true := by obtain ⟨A, n, c, rfl⟩ := h; rfl

/-- A market that was read, in memory of its own. -/
structure MktAt (w : World) (lo : Nat) (a1 a2 a3 a4 : Value) (ls rs : List (List Int)) : Prop where
  own : ∃ mid us us', lo ≤ mid ∧ mid ≤ w.heap.size ∧ OwnsOrd w lo mid a1 us ls ∧ OwnsOrd w mid w.heap.size a3 us' rs
  two : ∃ us, OwnsOrd w lo w.heap.size a2 us (ls.map backOf)
  four : ∃ us, OwnsOrd w lo w.heap.size a4 us (rs.map backOf)
theorem MktAt.below {w w' : World} {lo : Nat} {a1 a2 a3 a4 : Value} {ls rs : List (List Int)} (h : MktAt w lo a1 a2 a3 a4 ls rs) (hb : Below w.heap.size w w') : MktAt w' lo a1 a2 a3 a4 ls rs := by
  obtain ⟨⟨mid, us, us', h1, h2, h3, h4⟩, ⟨u5, h5⟩, ⟨u6, h6⟩⟩ := h
  exact ⟨⟨mid, us, us', h1, Nat.le_trans h2 hb.size, h3.below hb, (h4.below hb).wide (Nat.le_refl _) hb.size⟩, ⟨u5, (h5.below hb).wide (Nat.le_refl _) hb.size⟩, ⟨u6, (h6.below hb).wide (Nat.le_refl _) hb.size⟩⟩
theorem MktAt.other {w w' : World} {lo lo' b : Nat} {a1 a2 a3 a4 : Value} {ls rs : List (List Int)} {c : Array Value} {t : TypeId} {fr : Nat × Nat} (h : MktAt w lo a1 a2 a3 a4 ls rs) (hl : lo' ≤ lo) (hg : w.grownBy w' (some b)) (hb : w.heap[b]? = some (.cells c t fr)) (ht : t ≠ 60) (ht2 : t ≠ 3) : MktAt w' lo' a1 a2 a3 a4 ls rs := by
  obtain ⟨⟨mid, us, us', h1, h2, h3, h4⟩, ⟨u5, h5⟩, ⟨u6, h6⟩⟩ := h
  exact ⟨⟨mid, us, us', Nat.le_trans hl h1, Nat.le_trans h2 hg.size, (h3.other hg hb ht ht2).wide hl (Nat.le_refl _), (h4.other hg hb ht ht2).wide (Nat.le_refl _) hg.size⟩, ⟨u5, (h5.other hg hb ht ht2).wide hl hg.size⟩, ⟨u6, (h6.other hg hb ht ht2).wide hl hg.size⟩⟩
theorem MktAt.left {w : World} {lo : Nat} {a1 a2 a3 a4 : Value} {ls rs : List (List Int)} (h : MktAt w lo a1 a2 a3 a4 ls rs) : IntRows w a2 (ls.map backOf) := by obtain ⟨_, h2⟩ := h.two; exact h2.rows
theorem MktAt.right {w : World} {lo : Nat} {a1 a2 a3 a4 : Value} {ls rs : List (List Int)} (h : MktAt w lo a1 a2 a3 a4 ls rs) : IntRows w a4 (rs.map backOf) := by obtain ⟨_, h2⟩ := h.four; exact h2.rows
theorem MktAt.one {w : World} {lo : Nat} {a1 a2 a3 a4 : Value} {ls rs : List (List Int)} (h : MktAt w lo a1 a2 a3 a4 ls rs) : IntRows w a1 ls := by obtain ⟨_, _, _, _, _, h3, _⟩ := h.own; exact h3.rows
theorem MktAt.three {w : World} {lo : Nat} {a1 a2 a3 a4 : Value} {ls rs : List (List Int)} (h : MktAt w lo a1 a2 a3 a4 ls rs) : IntRows w a3 rs := by obtain ⟨_, _, _, _, _, _, h3⟩ := h.own; exact h3.rows

def GivesMkt (w : World) (ls rs : List (List Int)) (e : Ending) (w' : World) : Prop :=
  ∃ a1 a2 a3 a4, e = .returned (.tuple #[.agg (four a1 a2 a3 a4), .bool (mktOk ls rs)]) ∧ Below w.heap.size w w' ∧ (IsSl a1 ∧ IsSl a2 ∧ IsSl a3 ∧ IsSl a4) ∧ (mktOk ls rs = true → MktAt w' w.heap.size a1 a2 a3 a4 ls rs)

theorem gives_mkt_no {w W : World} {ls rs : List (List Int)} (h : mktOk ls rs = false) (hb : Below w.heap.size w W) : GivesMkt w ls rs (.returned (.tuple #[.agg (four nilS nilS nilS nilS), .bool false])) W :=
  ⟨nilS, nilS, nilS, nilS, by rw [h], hb, ⟨⟨_, _, _, rfl⟩, ⟨_, _, _, rfl⟩, ⟨_, _, _, rfl⟩, ⟨_, _, _, rfl⟩⟩, fun e => by rw [h] at e; cases e⟩

set_option maxRecDepth 100000 in
set_option maxHeartbeats 4000000 in
theorem mktFrom_any (w : World) (L R : Value) (ls rs : List (List Int)) (hL : IntRows w L ls) (hR : IntRows w R rs) :
    Calls Try.prog 39 #[.agg (two L R)] w (GivesMkt w ls rs) := by
  have hL' := hL
  have hR' := hR
  obtain ⟨A1, cap1, rfl, hm1, _⟩ := hL.at
  obtain ⟨A2, cap2, rfl, hm2, _⟩ := hR.at
  have HIL := Lib.hid hL'
  have HIR := Lib.hid hR'
  clear hL hR hL' hR'
  unfold maxLen at hm1 hm2
  by_cases hs : 1 ≤ ls.length ∧ ls.length ≤ 5 ∧ rs.length = ls.length
  · obtain ⟨h1, h5, hl⟩ := hs
    have e1 : ((rs.length : Int) != (ls.length : Int)) = false := by simp; omega
    obtain ⟨W0, hW0⟩ : ∃ W0, (w.alloc (.cells (two (.slice A1 ls.length cap1) (.slice A2 rs.length cap2)) 29)).alloc (.cells (four nilS nilS nilS nilS) 57) = W0 := ⟨_, rfl⟩
    have hb0 : Below w.heap.size w W0 := by rw [← hW0]; exact ((Below.refl _ _).alloc (Nat.le_refl _) _).alloc (by simp) _
    have hbox : W0.heap[w.heap.size]? = some (.cells (two (.slice A1 ls.length cap1) (.slice A2 rs.length cap2)) 29 (0, 0)) := by rw [← hW0]; exact heap_two_old _ _ _
    have hres : W0.heap[w.heap.size + 1]? = some (.cells (four nilS nilS nilS nilS) 57 (0, 0)) := by rw [← hW0]; exact heap_two_new _ _ _
    have hsz0 : W0.heap.size = w.heap.size + 2 := by rw [← hW0]; simp
    have hok := mktOk_sides h1 h5 hl
    have HOK := Lib.hid hok
    have HSL := Lib.hid (fun (W : World) (hW : Below w.heap.size w W) => sideFrom_any W _ ls (HIL.out.below hW) h1 h5)
    have HSR := Lib.hid (fun (W : World) (hW : Below w.heap.size w W) => sideFrom_any W _ rs (HIR.out.below hW) (by omega) (by omega))
    obtain ⟨x0, x1, xf, xl⟩ := two_cells hbox
    have HBOX := Lib.hid hbox
    have HRES := Lib.hid hres
    have HB0 := Lib.hid hb0
    have HLEN := Lib.hid hl
    clear hok hbox hres hb0 hl
    go_enter Try.func39, Try.ntmps39
    go_wp2_with fail
    clear hW0
    refine (HSL.out _ HB0.out).mono ?_
    rintro e w1 ⟨B1, m1, c1, B2, m2, c2, us, rfl, hb1, ho1⟩
    have HO1 := Lib.hid ho1
    have hs1 := hb1.size
    have HB1 := Lib.hid hb1
    have hnew1 := World.alloc_heap_new w1 (.cells (two nilS nilS) 52)
    have x1' := (two_cells ((hb1.block _ (by omega)).trans HBOX.out)).2.1
    obtain ⟨y0, y1, yf, yl⟩ := two_cells ((Below.heap_alloc w1 (.cells (two nilS nilS) 52) w.heap.size (by omega)).trans ((hb1.block _ (by omega)).trans HBOX.out))
    clear ho1 hb1 x0 x1 xf
    obtain ⟨W2, hW2⟩ : ∃ W2, (w1.alloc (.cells (two nilS nilS) 52)).setRow w1.heap.size (two (.slice B1 m1 c1) (.slice B2 m2 c2)) = W2 := ⟨_, rfl⟩
    have hcur2 : W2.heap[w1.heap.size]? = some (.cells (two (.slice B1 m1 c1) (.slice B2 m2 c2)) 52 (0, 0)) := by rw [← hW2]; exact heap_setRow2 hnew1
    have hb12 : Below w1.heap.size w1 W2 := by rw [← hW2]; exact below_setRow2 ((Below.refl _ _).alloc (Nat.le_refl _) _) (Nat.le_refl _) _
    have hsz2 : W2.heap.size = w1.heap.size + 1 := by rw [← hW2]; simp [World.setRow]
    have hb02 : Below w.heap.size w W2 := step_below (step_below HB0.out HB1.out) hb12
    have z1 : W2.cell? ⟨w.heap.size, 1, none⟩ = some (.slice A2 rs.length cap2) := (two_cells ((hb12.block _ (by omega)).trans ((HB1.out.block _ (by omega)).trans HBOX.out))).2.1
    go_wp2_with (first
      | (refine store_side rfl _ _ rfl w1.heap.size (.slice B1 m1 c1) (.slice B2 m2 c2) rfl rfl nilS nilS rfl rfl hnew1 ?_; try rw [hW2]))
    clear hW2 y0 y1 yf yl hnew1 x1'
    refine (HSR.out _ hb02).mono ?_
    rintro e w3 ⟨D1, q1, d1, D2, q2, d2, vs, rfl, hb3, ho3⟩
    have HO3 := Lib.hid ho3
    have hs3 := hb3.size
    have hnew3 := World.alloc_heap_new w3 (.cells (two nilS nilS) 52)
    obtain ⟨W4, hW4⟩ : ∃ W4, (w3.alloc (.cells (two nilS nilS) 52)).setRow w3.heap.size (two (.slice D1 q1 d1) (.slice D2 q2 d2)) = W4 := ⟨_, rfl⟩
    have hcur4 : W4.heap[w3.heap.size]? = some (.cells (two (.slice D1 q1 d1) (.slice D2 q2 d2)) 52 (0, 0)) := by rw [← hW4]; exact heap_setRow2 hnew3
    have hb34 : Below w3.heap.size w3 W4 := by rw [← hW4]; exact below_setRow2 ((Below.refl _ _).alloc (Nat.le_refl _) _) (Nat.le_refl _) _
    have hsz4 : W4.heap.size = w3.heap.size + 1 := by rw [← hW4]; simp [World.setRow]
    have hold4 : W4.heap[w1.heap.size]? = some (.cells (two (.slice B1 m1 c1) (.slice B2 m2 c2)) 52 (0, 0)) := (hb34.block _ (by omega)).trans ((hb3.block _ (by omega)).trans hcur2)
    have hres4 : W4.heap[w.heap.size + 1]? = some (.cells (four nilS nilS nilS nilS) 57 (0, 0)) := (hb34.block _ (by omega)).trans ((hb3.block _ (by omega)).trans ((hb12.block _ (by omega)).trans ((HB1.out.block _ (by omega)).trans HRES.out)))
    have hb04 : Below w.heap.size w W4 := step_below (step_below hb02 hb3) hb34
    have HB34 := Lib.hid (And.intro hb12 (And.intro hb3 (And.intro hb34 hb04)))
    clear ho3 hb12 hb3 hb34 hb04 hb02 z1 hcur2
    cases hok1 : sideOk ls with
    | false =>
      have HNO : Hid (mktOk ls rs = false) := Lib.hid (by rw [HOK.out, hok1]; rfl)
      clear hok1
      go_wp2_with (first
        | (refine store_side rfl _ _ rfl w3.heap.size (.slice D1 q1 d1) (.slice D2 q2 d2) rfl rfl nilS nilS rfl rfl hnew3 ?_; try rw [hW4])
        | (refine store_mkt rfl _ _ rfl (w.heap.size + 1) nilS nilS nilS nilS rfl rfl nilS nilS nilS nilS rfl rfl rfl rfl hres4 ?_))
      refine bodyPost_ret (v := .tuple #[.agg (four nilS nilS nilS nilS), .bool false]) (ret_mkt2 rfl _ _ (w.heap.size + 1) nilS nilS nilS nilS (.bool false) rfl rfl (heap_setRow2 hres4)) rfl ?_
      exact gives_mkt_no HNO.out (below_setRow2 HB34.out.2.2.2 (Nat.le_succ _) _)
    | true =>
      cases hok2 : sideOk rs with
      | false =>
        have HNO : Hid (mktOk ls rs = false) := Lib.hid (by rw [HOK.out, hok1, hok2]; rfl)
        clear hok1 hok2
        go_wp2_with (first
          | (refine store_side rfl _ _ rfl w3.heap.size (.slice D1 q1 d1) (.slice D2 q2 d2) rfl rfl nilS nilS rfl rfl hnew3 ?_; try rw [hW4])
          | (refine store_mkt rfl _ _ rfl (w.heap.size + 1) nilS nilS nilS nilS rfl rfl nilS nilS nilS nilS rfl rfl rfl rfl hres4 ?_))
        refine bodyPost_ret (v := .tuple #[.agg (four nilS nilS nilS nilS), .bool false]) (ret_mkt2 rfl _ _ (w.heap.size + 1) nilS nilS nilS nilS (.bool false) rfl rfl (heap_setRow2 hres4)) rfl ?_
        exact gives_mkt_no HNO.out (below_setRow2 HB34.out.2.2.2 (Nat.le_succ _) _)
      | true =>
        have HYES : Hid (mktOk ls rs = true) := Lib.hid (by rw [HOK.out, hok1, hok2]; rfl)
        have HO1' := Lib.hid (HO1.out hok1)
        have HO3' := Lib.hid (HO3.out hok2)
        clear hok1 hok2
        go_wp2_with (first
          | (refine store_side rfl _ _ rfl w3.heap.size (.slice D1 q1 d1) (.slice D2 q2 d2) rfl rfl nilS nilS rfl rfl hnew3 ?_; try rw [hW4])
          | (refine load_side rfl _ rfl w1.heap.size (.slice B1 m1 c1) (.slice B2 m2 c2) rfl hold4 ?_)
          | (refine load_side rfl _ rfl w3.heap.size (.slice D1 q1 d1) (.slice D2 q2 d2) rfl hcur4 ?_)
          | (refine store_mkt rfl _ _ rfl (w.heap.size + 1) (.slice B1 m1 c1) (.slice B2 m2 c2) (.slice D1 q1 d1) (.slice D2 q2 d2) rfl rfl nilS nilS nilS nilS rfl rfl rfl rfl hres4 ?_))
        refine bodyPost_ret (v := .tuple #[.agg (four (.slice B1 m1 c1) (.slice B2 m2 c2) (.slice D1 q1 d1) (.slice D2 q2 d2)), .bool true]) (ret_mkt2 rfl _ _ (w.heap.size + 1) _ _ _ _ (.bool true) rfl rfl (heap_setRow2 hres4)) rfl ?_
        obtain ⟨hb12, hb3, hb34, hb04⟩ := HB34.out
        obtain ⟨o1, us2, o2⟩ := HO1'.out
        obtain ⟨o3, vs2, o4⟩ := HO3'.out
        have g1 : Below w1.heap.size w1 W4 := step_below (step_below hb12 hb3) hb34
        have hg := grown_setRow2 W4 (w.heap.size + 1) (four (.slice B1 m1 c1) (.slice B2 m2 c2) (.slice D1 q1 d1) (.slice D2 q2 d2))
        have hsz : (W4.setRow (w.heap.size + 1) (four (.slice B1 m1 c1) (.slice B2 m2 c2) (.slice D1 q1 d1) (.slice D2 q2 d2))).heap.size = W4.heap.size := by simp [World.setRow]
        have hk1 := (o1.below g1).other hg hres4 (by decide) (by decide)
        have hk2 := (o2.below g1).other hg hres4 (by decide) (by decide)
        have hk3 := (o3.below hb34).other hg hres4 (by decide) (by decide)
        have hk4 := (o4.below hb34).other hg hres4 (by decide) (by decide)
        refine ⟨_, _, _, _, by rw [HYES.out], below_setRow2 hb04 (Nat.le_succ _) _, ⟨⟨_, _, _, rfl⟩, ⟨_, _, _, rfl⟩, ⟨_, _, _, rfl⟩, ⟨_, _, _, rfl⟩⟩, fun _ => ⟨⟨w1.heap.size, us, vs, by omega, by omega, hk1.wide (by omega) (Nat.le_refl _), hk3.wide (by omega) (by omega)⟩, ⟨us2, hk2.wide (by omega) (by omega)⟩, ⟨vs2, hk4.wide (by omega) (by omega)⟩⟩⟩
  · have HNO := Lib.hid (mktOk_size hs)
    have hres := heap_two_new w (.cells (two (.slice A1 ls.length cap1) (.slice A2 rs.length cap2)) 29) (.cells (four nilS nilS nilS nilS) 57)
    have hbox := heap_two_old w (.cells (two (.slice A1 ls.length cap1) (.slice A2 rs.length cap2)) 29) (.cells (four nilS nilS nilS nilS) 57)
    obtain ⟨x0, x1, xf, xl⟩ := two_cells hbox
    have hb0 : Below w.heap.size w ((w.alloc (.cells (two (.slice A1 ls.length cap1) (.slice A2 rs.length cap2)) 29)).alloc (.cells (four nilS nilS nilS nilS) 57)) := ((Below.refl _ _).alloc (Nat.le_refl _) _).alloc (by simp) _
    have HB0 := Lib.hid hb0
    clear hbox hb0
    have key : (ls.length : Int) < 1 ∨ (5 : Int) < ls.length ∧ ¬ (ls.length : Int) < 1 ∨ ¬ (ls.length : Int) < 1 ∧ ¬ (5 : Int) < ls.length ∧ ((rs.length : Int) != (ls.length : Int)) = true := by
      by_cases k1 : (ls.length : Int) < 1
      · exact .inl k1
      · by_cases k5 : (5 : Int) < ls.length
        · exact .inr (.inl ⟨k5, k1⟩)
        · exact .inr (.inr ⟨k1, k5, by simp; omega⟩)
    clear hs
    rcases key with k1 | ⟨k5, k1⟩ | ⟨k1, k5, e1⟩
    all_goals
      go_enter Try.func39, Try.ntmps39
      go_wp2_with (refine store_mkt rfl _ _ rfl (w.heap.size + 1) nilS nilS nilS nilS rfl rfl nilS nilS nilS nilS rfl rfl rfl rfl hres ?_)
      refine bodyPost_ret (v := .tuple #[.agg (four nilS nilS nilS nilS), .bool false]) (ret_mkt2 rfl _ _ (w.heap.size + 1) nilS nilS nilS nilS (.bool false) rfl rfl (heap_setRow2 hres)) rfl ?_
      exact gives_mkt_no HNO.out (below_setRow2 HB0.out (Nat.le_succ _) _)

end Go.Proofs.Ytjhjfopokiaiiaa
