/-
  spec.l92Pairing: a market and a pairing are drawn.
-/
import Derived.Test.YtahilcnmjnjcaaaDoorDrawMkt
import Derived.Test.YtahilcnmjnjcaaaDoorSpecMA
namespace Go.Proofs.YtahilcnmjnjcaaaDoor
set_option linter.unusedVariables false
set_option linter.unusedSimpArgs false
open Go.RowKit
set_option maxRecDepth 100000

/-- A market in a block of its own, a reader, an empty result: what the last steps of a draw read. -/
structure PSt (w : World) (r M cap q Bm b0 : Nat) (A : Option Addr) (L R : Value) (ls rs : List (List Int)) (W : World) : Prop where
  rd : W.heap[r]? = some (.cells (rcells A M cap q) 97 (0, 0))
  wi : Within r (r + 1) w W
  bx : W.heap[Bm]? = some (.cells (two L R) 28 (0, 0))
  res : ∃ x y, W.heap[b0]? = some (.cells (two x y) 28 (0, 0))
  l : TRows W L ls
  r' : TRows W R rs
theorem PSt.below {w W W' : World} {r M cap q Bm b0 : Nat} {A : Option Addr} {L R : Value} {ls rs : List (List Int)} (h : PSt w r M cap q Bm b0 A L R ls rs W) (hb : Below W.heap.size W W') : PSt w r M cap q Bm b0 A L R ls rs W' := by
  obtain ⟨x, y, hr⟩ := h.res
  exact ⟨kept_obj hb h.rd, h.wi.below hb, kept_obj hb h.bx, ⟨x, y, kept_obj hb hr⟩, h.l.kt (KT.of_below hb), h.r'.kt (KT.of_below hb)⟩
theorem PSt.drew {w W : World} {r M cap q Bm b0 : Nat} {A : Option Addr} {L R : Value} {ls rs : List (List Int)} (h : PSt w r M cap q Bm b0 A L R ls rs W) : PSt w r M cap q Bm b0 A L R ls rs W.drew := h.below (Below.drew (Below.refl _ _))
theorem PSt.reads {w W W' : World} {r M cap q q' Bm b0 : Nat} {A : Option Addr} {L R : Value} {ls rs : List (List Int)} (h : PSt w r M cap q Bm b0 A L R ls rs W) (hw : Within r (r + 1) W W') (hr : W'.heap[r]? = some (.cells (rcells A M cap q') 97 (0, 0))) (h1 : Bm ≠ r) (h2 : b0 ≠ r) : PSt w r M cap q' Bm b0 A L R ls rs W' := by
  obtain ⟨x, y, hb⟩ := h.res
  have hk := KT.of_within hw h.rd (by decide) (by decide)
  exact ⟨hr, h.wi.trans hw, (hw.block Bm (Array.getElem?_eq_some_iff.1 h.bx).1 (by omega)).trans h.bx, ⟨x, y, (hw.block b0 (Array.getElem?_eq_some_iff.1 hb).1 (by omega)).trans hb⟩, h.l.kt hk, h.r'.kt hk⟩
/-- The result is laid. -/
theorem PSt.laid {w W : World} {r M cap q Bm b0 : Nat} {A : Option Addr} {L R : Value} {ls rs : List (List Int)} (h : PSt w r M cap q Bm b0 A L R ls rs W) (h1 : b0 ≠ r) (h2 : Bm ≠ b0) (h3 : w.heap.size ≤ b0) (x y : Value) : PSt w r M cap q Bm b0 A L R ls rs ((W.setCell ⟨b0, 0, none⟩ x).setCell ⟨b0, 1, none⟩ y) ∧ ((W.setCell ⟨b0, 0, none⟩ x).setCell ⟨b0, 1, none⟩ y).heap[b0]? = some (.cells (two x y) 28 (0, 0)) := by
  obtain ⟨x0, y0, hb⟩ := h.res
  have hg1 := grown_setCell W b0 0 x
  have hb1 : (W.setCell ⟨b0, 0, none⟩ x).heap[b0]? = some (.cells (two x y0) 28 (0, 0)) := by rw [heap_setCell_same _ _ 0 _ _ _ hb]; rfl
  have hg2 := grown_setCell (W.setCell ⟨b0, 0, none⟩ x) b0 1 y
  have hb2 : ((W.setCell ⟨b0, 0, none⟩ x).setCell ⟨b0, 1, none⟩ y).heap[b0]? = some (.cells (two x y) 28 (0, 0)) := by rw [heap_setCell_same _ _ 1 _ _ _ hb1]; rfl
  have hs : (W.setCell ⟨b0, 0, none⟩ x).heap.size = W.heap.size := by simp [World.setCell]
  have hs2 : ((W.setCell ⟨b0, 0, none⟩ x).setCell ⟨b0, 1, none⟩ y).heap.size = W.heap.size := by simp [World.setCell]
  have hk : KT W ((W.setCell ⟨b0, 0, none⟩ x).setCell ⟨b0, 1, none⟩ y) := (KT.of_grown hg1 hb (by decide) (by decide)).trans (KT.of_grown hg2 hb1 (by decide) (by decide))
  have blk : ∀ k, k < W.heap.size → k ≠ b0 → ((W.setCell ⟨b0, 0, none⟩ x).setCell ⟨b0, 1, none⟩ y).heap[k]? = W.heap[k]? := fun k hk hne =>
    (hg2.block k (by omega) (some_ne hne)).trans (hg1.block k hk (some_ne hne))
  have hrl := (Array.getElem?_eq_some_iff.1 h.rd).1
  have hbl := (Array.getElem?_eq_some_iff.1 h.bx).1
  exact ⟨⟨(blk r hrl (Ne.symm h1)).trans h.rd, ⟨h.wi.os, h.wi.tape, h.wi.output, by rw [hs2]; exact h.wi.size, fun k hk2 hk3 => (blk k (Nat.lt_of_lt_of_le hk2 h.wi.size) (by omega)).trans (h.wi.block k hk2 hk3)⟩, (blk Bm hbl h2).trans h.bx, ⟨x, y, hb2⟩, h.l.kt hk, h.r'.kt hk⟩, hb2⟩

/-- The rows of a list that was made, each read by its number. -/
def LRow (g N : Nat) (uf : Nat → Value) (xf : Nat → List Int) (W : World) : Prop := ∀ j, j < N → TCell W 39 g j (uf j) ∧ TInts W (uf j) (xf j)
theorem LRow.kt {g N : Nat} {uf : Nat → Value} {xf : Nat → List Int} {W W' : World} (h : LRow g N uf xf W) (hk : KT W W') : LRow g N uf xf W' := fun j hj => ⟨(h j hj).1.kt (.inl rfl) hk, (h j hj).2.kt hk⟩
theorem lrow_of {W : World} {lo hi g N c : Nat} {us : List Value} {xss : List (List Int)} (h : OwnsRows W lo hi (.slice (some ⟨g, 0, none⟩) N c) us xss) (hN : xss.length = N) : LRow g N (fun j => us.getD j undef) (fun j => xss.getD j []) W := fun j hj => by
  subst hN
  have hju : j < us.length := by have := h.len; omega
  have hjx : j < xss.length := by omega
  have ho := h.outer.1
  obtain ⟨cc, fr, hb⟩ := row_cells ho (b := g) rfl
  have hcell := ho.cellAt j (show j < xss.length * 1 by omega)
  refine ⟨⟨?_, cc, fr, hb⟩, ?_⟩
  · rw [hcell]; simp [List.getD, hju]
  · have := tints_of (h.inner j hju).1
    simpa [List.getD, hju, hjx] using this
/-- The held state of a draw's end: the market, the reader and a list. -/
def LSt (w : World) (r M cap q Bm b0 : Nat) (A : Option Addr) (L R : Value) (ls rs : List (List Int)) (g N : Nat) (uf : Nat → Value) (xf : Nat → List Int) (W : World) : Prop := PSt w r M cap q Bm b0 A L R ls rs W ∧ LRow g N uf xf W
theorem PSt.kt_laid {w W : World} {r M cap q Bm b0 : Nat} {A : Option Addr} {L R : Value} {ls rs : List (List Int)} (h : PSt w r M cap q Bm b0 A L R ls rs W) (x y : Value) : KT W ((W.setCell ⟨b0, 0, none⟩ x).setCell ⟨b0, 1, none⟩ y) := by
  obtain ⟨x0, y0, hb⟩ := h.res
  have hg1 := grown_setCell W b0 0 x
  have hb1 : (W.setCell ⟨b0, 0, none⟩ x).heap[b0]? = some (.cells (two x y0) 28 (0, 0)) := by rw [heap_setCell_same _ _ 0 _ _ _ hb]; rfl
  exact (KT.of_grown hg1 hb (by decide) (by decide)).trans (KT.of_grown (grown_setCell (W.setCell ⟨b0, 0, none⟩ x) b0 1 y) hb1 (by decide) (by decide))
theorem pst_pick {w W : World} {r M cap q Bm b0 k : Nat} {A : Option Addr} {L R : Value} {ls rs : List (List Int)} (h : PSt w r M cap q Bm b0 A L R ls rs W) (hxr : Bytes w r A M) (hM : M ≤ 2000) (hq : q ≤ 90000) (hk : 1 ≤ k) (hk2 : k ≤ 1000) (h1 : Bm ≠ r) (h2 : b0 ≠ r) :
    Calls Tryd.prog 75 #[.pointer (some ⟨r, 0, none⟩), .int .i64 k] W fun e W' => ∃ x : Nat, x < k ∧ e = .returned (.int .i64 x) ∧ PSt w r M cap (q + 1) Bm b0 A L R ls rs W' ∧ KT W W' ∧ (W'.heap[b0]? = W.heap[b0]?) := by
  refine (pick_any W r q k M cap A h.rd (hxr.within h.wi) (by omega) hM hk hk2).mono ?_
  rintro e W' ⟨x, hx, rfl, hr4, hw4⟩
  obtain ⟨_, _, hb⟩ := h.res
  exact ⟨x, hx, rfl, h.reads hw4 hr4 h1 h2, KT.of_within hw4 h.rd (by decide) (by decide), hw4.block b0 (Array.getElem?_eq_some_iff.1 hb).1 (by omega)⟩
theorem pst_rank {w W : World} {r M cap q Bm b0 k : Nat} {A : Option Addr} {L R : Value} {ls rs : List (List Int)} (h : PSt w r M cap q Bm b0 A L R ls rs W) (hxr : Bytes w r A M) (hM : M ≤ 2000) (hq : q ≤ 90000) (hk2 : k ≤ 6) (h1 : Bm ≠ r) (h2 : b0 ≠ r) :
    Calls Tryd.prog 76 #[.pointer (some ⟨r, 0, none⟩), .int .i64 (k : Int)] W fun e W' => ∃ v xs, e = .returned v ∧ TInts W' v xs ∧ PSt w r M cap (q + k) Bm b0 A L R ls rs W' ∧ KT W W' ∧ (W'.heap[b0]? = W.heap[b0]?) := by
  refine (rank_draw W r q k M cap A h.rd (hxr.within h.wi) hM hq hk2).mono ?_
  rintro e W' ⟨v, xs, rfl, hxl, ho, hr4, hw4⟩
  obtain ⟨_, _, hb⟩ := h.res
  exact ⟨v, xs, rfl, tints_of ho.1, h.reads hw4 hr4 h1 h2, KT.of_within hw4 h.rd (by decide) (by decide), hw4.block b0 (Array.getElem?_eq_some_iff.1 hb).1 (by omega)⟩
/-- One more, or none: a pick of 24 that is divided by 23. -/
theorem over23 (n x : Nat) (hn : n ≤ 4) (hx : x < 24) : ∃ d m : Nat, (x : Int).tdiv 23 = (d : Int) ∧ (x : Int) / 23 = (d : Int) ∧ IntKind.i64.wrap ((n : Int) + (d : Int)) = (m : Int) ∧ wrap64 ((n : Int) + (d : Int)) = (m : Int) ∧ m ≤ 6 ∧ IntKind.i64.wrap (d : Int) = (d : Int) ∧ wrap64 (d : Int) = (d : Int) := by
  have e : (x : Int) / 23 = ((x / 23 : Nat) : Int) := by simp
  have hd : x / 23 ≤ 1 := by omega
  have hw : IntKind.i64.wrap ((n : Int) + ((x / 23 : Nat) : Int)) = ((n + x / 23 : Nat) : Int) := by rw [wraps_i64 _ (by omega) (by omega)]; omega
  have hw2 : IntKind.i64.wrap ((x / 23 : Nat) : Int) = ((x / 23 : Nat) : Int) := wraps_i64 _ (by clear hw; omega) (by clear hw; omega)
  exact ⟨x / 23, n + x / 23, by rw [Int.tdiv_eq_ediv_of_nonneg (by clear hw hw2; omega), e], e, hw, (wrap_eq _).symm.trans hw, by clear hw hw2; omega, hw2, (wrap_eq _).symm.trans hw2⟩

/-- What drawing a market and a pairing leaves. -/
def GivesLP (w : World) (r M cap p0 : Nat) (A : Option Addr) (e : Ending) (w' : World) : Prop :=
  ∃ A1 c1 R v ls rs xs q, e = .returned (.tuple #[.agg (two (.slice A1 ls.length c1) R), v]) ∧ TRows w' (.slice A1 ls.length c1) ls ∧ TRows w' R rs ∧ TInts w' v xs ∧ 1 ≤ ls.length ∧ ls.length ≤ 4 ∧ q ≤ p0 + 80 ∧ w'.heap[r]? = some (.cells (rcells A M cap q) 97 (0, 0)) ∧ Within r (r + 1) w w'

theorem ret_mi_s {fn : Func} {p u : Tmp} (h : fn.results = #[.cell p 28, .tmp u]) (tmps : Array Value) (w : World) (g : Nat) (a b : Value) (v : Value)
    (hp : tmps.getD p undef = .pointer (some ⟨g, 0, none⟩)) (hv : tmps.getD u undef = v) (hg : w.heap[g]? = some (.cells (two a b) 28 (0, 0))) :
    (results fn tmps).run Tryd.prog w = .ok (.tuple #[.agg (two a b), v]) w := by
  subst hv
  rw [results_cell_tmp h tmps Tryd.prog w, hp]
  simp only [asAddr, Sem.run_pure, Result.andThen]
  rw [run_loadVar_row w g 28 28 (two a b) (0, 0) _ hg Tryd.underlying28 rfl sizeMI]

set_option maxHeartbeats 4000000 in
theorem pairing_draw (w : World) (r p0 M cap : Nat) (A : Option Addr) (hr : w.heap[r]? = some (.cells (rcells A M cap p0) 97 (0, 0))) (hxr : Bytes w r A M) (hM : M ≤ 2000) (hp : p0 ≤ 70000) :
    Calls Tryd.prog 54 #[.pointer (some ⟨r, 0, none⟩)] w (GivesLP w r M cap p0 A) := by
  have hrl := (Array.getElem?_eq_some_iff.1 hr).1
  have HXR := Lib.hid hxr
  have HRL := Lib.hid hrl
  obtain ⟨W0, hW0⟩ : ∃ W0, w.alloc (.cells (two nilS nilS) 28) = W0 := ⟨_, rfl⟩
  have hb0 : Below w.heap.size w W0 := by rw [← hW0]; exact (Below.refl _ _).alloc (Nat.le_refl _) _
  have hres0 : W0.heap[w.heap.size]? = some (.cells (two nilS nilS) 28 (0, 0)) := by rw [← hW0]; exact World.alloc_heap_new _ _
  have hsz0 : W0.heap.size = w.heap.size + 1 := by rw [← hW0]; simp
  have hwi0 : Within r (r + 1) w W0 := (Within.refl _ _ _).below hb0
  have HMK := Lib.hid (market_draw W0 r p0 M cap A ((hb0.block r hrl).trans hr) (HXR.out.within hwi0) hM (by omega))
  have HS0 := Lib.hid (And.intro hsz0 (And.intro hwi0 hres0))
  clear hxr hr hb0 hres0 hsz0 hwi0 hrl
  go_enter Tryd.func54, Tryd.ntmps54
  go_wp2_with fail
  clear hW0
  refine HMK.out.mono ?_
  rintro e w1 ⟨A1, c1, A2, n2, c2, ls, rs, q, rfl, hl, hr', h1, h4, hq, hrd, hw1⟩
  have hsz0 := HS0.out.1
  have hz1 := hw1.size
  have hrl := HRL.out
  obtain ⟨W2, hW2⟩ : ∃ W2, w1.alloc (.cells (two nilS nilS) 28) = W2 := ⟨_, rfl⟩
  have hb12 : Below w1.heap.size w1 W2 := by rw [← hW2]; exact (Below.refl _ _).alloc (Nat.le_refl _) _
  have hbx2 : W2.heap[w1.heap.size]? = some (.cells (two nilS nilS) 28 (0, 0)) := by rw [← hW2]; exact World.alloc_heap_new _ _
  obtain ⟨W3, hW3⟩ : ∃ W3, W2.setRow w1.heap.size (two (.slice A1 ls.length c1) (.slice A2 n2 c2)) = W3 := ⟨_, rfl⟩
  have hb23 : Below w1.heap.size w1 W3 := by rw [← hW3]; exact below_setRow2 hb12 (Nat.le_refl _) _
  have hbx3 : W3.heap[w1.heap.size]? = some (.cells (two (.slice A1 ls.length c1) (.slice A2 n2 c2)) 28 (0, 0)) := by rw [← hW3]; exact heap_setRow2 hbx2
  have hP3 : PSt w r M cap q w1.heap.size w.heap.size A (.slice A1 ls.length c1) (.slice A2 n2 c2) ls rs W3 :=
    ⟨kept_obj hb23 hrd, (HS0.out.2.1.trans hw1).below hb23, hbx3, ⟨nilS, nilS, kept_obj hb23 ((hw1.block w.heap.size (by omega) (by omega)).trans HS0.out.2.2)⟩, hl.kt (KT.of_below hb23), hr'.kt (KT.of_below hb23)⟩
  have HP3 := Lib.hid hP3
  have HMA := Lib.hid (specMAll_any W3 (.slice A1 ls.length c1) (.slice A2 n2 c2) ls rs hP3.l.rows hP3.r'.rows)
  have HNE : Hid (w1.heap.size ≠ r ∧ w.heap.size ≠ r ∧ w1.heap.size ≠ w.heap.size) := Lib.hid ⟨by omega, by omega, by omega⟩
  have HL4 := Lib.hid (And.intro h1 (And.intro h4 hq))
  clear hl hr' hrd hw1 hb12 hb23 hP3 h1 h4 hq hz1 hsz0 hrl
  go_wp2_with (first
    | (refine store_mi rfl _ _ rfl w1.heap.size _ _ rfl rfl nilS nilS rfl rfl hbx2 ?_; try rw [hW3])
    | (refine load_mi rfl _ rfl w1.heap.size _ _ rfl hbx3 ?_))
  clear hW2 hW3
  refine HMA.out.mono ?_
  rintro e w4 ⟨v4, us, rfl, hb4, ho4⟩
  have hPS := HP3.out.below hb4
  have HP4 := Lib.hid hPS
  obtain ⟨Bm, hBm⟩ : ∃ Bm, w1.heap.size = Bm := ⟨_, rfl⟩
  simp only [hBm] at HP4 HNE ⊢
  clear hbx2 hbx3 hPS
  cases hok : mktOk ls rs with
  | false =>
    clear ho4 hb4 hBm hok
    go_wp2_with fail
    obtain ⟨y0, y1, yf, yl⟩ := two_cells (HP4.out.drew.bx)
    obtain ⟨r0, r1, hres⟩ := HP4.out.drew.res
    obtain ⟨k0, k1, kf, kl⟩ := two_cells hres
    have HTC := Lib.hid (fun (W : World) (Q : Nat) (h : PSt w r M cap Q Bm w.heap.size A (.slice A1 ls.length c1) (.slice A2 n2 c2) ls rs W) => two_cells h.bx)
    have HTR := Lib.hid (fun (W : World) (Q : Nat) (h : PSt w r M cap Q Bm w.heap.size A (.slice A1 ls.length c1) (.slice A2 n2 c2) ls rs W) => show ∃ x y, W.cell? ⟨w.heap.size, 0, none⟩ = some x ∧ W.cell? ⟨w.heap.size, 1, none⟩ = some y ∧ (∀ i, W.frozen? ⟨w.heap.size, i, none⟩ = false) from by
      obtain ⟨x, y, hb⟩ := h.res
      obtain ⟨a, b, c, _⟩ := two_cells hb
      exact ⟨x, y, a, b, c⟩)
    have HLD := Lib.hid (fun (W : World) (Q : Nat) (h : PSt w r M cap Q Bm w.heap.size A (.slice A1 ls.length c1) (.slice A2 n2 c2) ls rs W) => h.laid HNE.out.2.1 HNE.out.2.2 (Nat.le_refl _) (.slice A1 ls.length c1) (.slice A2 n2 c2))
    have HO := Lib.hid (fun x (hx : x < 24) => over23 ls.length x HL4.out.2.1 hx)
    have HPKK := Lib.hid (fun (W : World) (Q : Nat) (hQ : Q ≤ 90000) (h : PSt w r M cap Q Bm w.heap.size A (.slice A1 ls.length c1) (.slice A2 n2 c2) ls rs W) => show Calls Tryd.prog 75 #[.pointer (some ⟨r, 0, none⟩), .int .i64 24] W fun e W' => ∃ x : Nat, x < 24 ∧ e = .returned (.int .i64 x) ∧ PSt w r M cap (Q + 1) Bm w.heap.size A (.slice A1 ls.length c1) (.slice A2 n2 c2) ls rs W' ∧ KT W W' ∧ (W'.heap[w.heap.size]? = W.heap[w.heap.size]?) from pst_pick (k := 24) h HXR.out hM hQ (by decide) (by decide) HNE.out.1 HNE.out.2.1)
    have HRKK := Lib.hid (fun (W : World) (Q m : Nat) (hQ : Q ≤ 90000) (hm : m ≤ 6) (h : PSt w r M cap Q Bm w.heap.size A (.slice A1 ls.length c1) (.slice A2 n2 c2) ls rs W) => pst_rank (k := m) h HXR.out hM hQ hm HNE.out.1 HNE.out.2.1)
    have hqq : q ≤ 80000 := by have := HL4.out.2.2; omega
    have HQB := Lib.hid (fun (m : Nat) (hm : m ≤ 6) => show q + 1 + m ≤ p0 + 80 from by have := HL4.out.2.2; omega)
    clear hres
    go_region_held3 (fun W => W.cell? ⟨Bm, 0, none⟩ = some (.slice A1 ls.length c1) ∧ W.cell? ⟨Bm, 1, none⟩ = some (.slice A2 n2 c2))
      (first | exact ⟨y0, y1⟩ | exact ⟨(HTC.out _ _ hP6).1, (HTC.out _ _ hP6).2.1⟩ | exact ⟨(HTC.out _ _ (HLD.out _ _ hP6).1).1, (HTC.out _ _ (HLD.out _ _ hP6).1).2.1⟩ | exact ⟨(HTC.out _ _ hP5).1, (HTC.out _ _ hP5).2.1⟩ | exact ⟨(HTC.out _ _ (HLD.out _ _ hP5).1).1, (HTC.out _ _ (HLD.out _ _ hP5).1).2.1⟩ | exact ⟨(HTC.out _ _ (HLD.out _ _ HP4.out.drew).1).1, (HTC.out _ _ (HLD.out _ _ HP4.out.drew).1).2.1⟩)
      (first
        | (go_at_call 75; (first | (with_reducible refine (HPKK.out _ (q) (by omega) HP4.out.drew).mono ?_) | (with_reducible refine (HPKK.out _ (q) (by omega) (HLD.out _ _ HP4.out.drew).1).mono ?_)); rintro e w5 ⟨x, hx, rfl, hP5, hk5, hb5⟩; obtain ⟨d, m, o1, o2, o3, o4, hm6, o5, o6⟩ := HO.out x hx; obtain ⟨p0', p1', p2', p3', p4'⟩ := HTR.out _ _ hP5)
        | (go_at_call 76; (first | (with_reducible refine (HRKK.out _ (q + 1) m (by omega) hm6 hP5).mono ?_) | (with_reducible refine (HRKK.out _ (q + 1) m (by omega) hm6 (HLD.out _ _ hP5).1).mono ?_)); rintro e w6 ⟨v6, xs6, rfl, hx6, hP6, hk6, hb6⟩; obtain ⟨q0', q1', q2', q3', q4'⟩ := HTR.out _ _ hP6))
    all_goals
      go_wp2_with fail
      refine bodyPost_ret (ret_mi_s rfl _ _ w.heap.size (.slice A1 ls.length c1) (.slice A2 n2 c2) v6 rfl rfl ?hb) rfl ?fin
      case hb => first | exact (HLD.out _ _ hP6).2 | exact hb6.trans (HLD.out _ _ hP5).2 | exact hb6.trans (hb5.trans (HLD.out _ _ HP4.out.drew).2)
      case fin =>
        first
          | exact ⟨A1, c1, .slice A2 n2 c2, v6, ls, rs, xs6, q + 1 + m, rfl, hP6.l, hP6.r', hx6, HL4.out.1, HL4.out.2.1, HQB.out m hm6, hP6.rd, hP6.wi⟩
          | exact ⟨A1, c1, .slice A2 n2 c2, v6, ls, rs, xs6, q + 1 + m, rfl, (HLD.out _ _ hP6).1.l, (HLD.out _ _ hP6).1.r', hx6.kt (hP6.kt_laid _ _), HL4.out.1, HL4.out.2.1, HQB.out m hm6, (HLD.out _ _ hP6).1.rd, (HLD.out _ _ hP6).1.wi⟩
  | true =>
    have hlen := allL_some hok
    have hlen2 : (allL ls rs).length ≤ 1000 := by
      have h := allL_len ls rs
      have h4 := HL4.out.2.1
      have h1 := HL4.out.1
      exact Nat.le_trans h (Nat.le_trans (Nat.pow_le_pow_right h1 h4) (Nat.le_trans (Nat.pow_le_pow_left h4 4) (by decide)))
    obtain ⟨g, cg, rfl⟩ : ∃ g c, v4 = .slice (some ⟨g, 0, none⟩) (allL ls rs).length c := by
      rcases ho4.outer.1.2 with ⟨_, hz⟩ | ⟨g, c, cur, hs, _⟩
      · omega
      · exact ⟨g, c, hs⟩
    obtain ⟨N, hN⟩ : ∃ N, (allL ls rs).length = N := ⟨_, rfl⟩
    have hLR := lrow_of ho4 rfl
    obtain ⟨uf, huf⟩ : ∃ uf : Nat → Value, (fun j => us.getD j undef) = uf := ⟨_, rfl⟩
    obtain ⟨xf, hxf⟩ : ∃ xf : Nat → List Int, (fun j => (allL ls rs).getD j []) = xf := ⟨_, rfl⟩
    rw [huf, hxf] at hLR
    rw [hN] at hlen hlen2 hLR ⊢
    have HLR4 := Lib.hid hLR
    have HPK3 := Lib.hid (show Calls Tryd.prog 75 #[.pointer (some ⟨r, 0, none⟩), .int .i64 3] w4 _ from pst_pick (k := 3) HP4.out HXR.out hM (by have := HL4.out.2.2; omega) (by decide) (by decide) HNE.out.1 HNE.out.2.1)
    clear ho4 hb4 hBm hok huf hxf hN hLR
    go_wp2_with fail
    refine HPK3.out.mono ?_
    rintro e w4' ⟨x3, hx3, rfl, hP4', hk4', -⟩
    have HP4' := Lib.hid hP4'
    have HLR := Lib.hid (HLR4.out.kt hk4')
    clear hP4' hk4'
    by_cases hx0 : x3 = 0
    · have e0 : (0 < x3) = False := eq_false (by omega)
      clear hx0 hx3
      go_wp2_with fail
      obtain ⟨y0, y1, yf, yl⟩ := two_cells (HP4'.out.drew.bx)
      obtain ⟨r0, r1, hres⟩ := HP4'.out.drew.res
      obtain ⟨k0, k1, kf, kl⟩ := two_cells hres
      have HTC := Lib.hid (fun (W : World) (Q : Nat) (h : PSt w r M cap Q Bm w.heap.size A (.slice A1 ls.length c1) (.slice A2 n2 c2) ls rs W) => two_cells h.bx)
      have HTR := Lib.hid (fun (W : World) (Q : Nat) (h : PSt w r M cap Q Bm w.heap.size A (.slice A1 ls.length c1) (.slice A2 n2 c2) ls rs W) => show ∃ x y, W.cell? ⟨w.heap.size, 0, none⟩ = some x ∧ W.cell? ⟨w.heap.size, 1, none⟩ = some y ∧ (∀ i, W.frozen? ⟨w.heap.size, i, none⟩ = false) from by
        obtain ⟨x, y, hb⟩ := h.res
        obtain ⟨a, b, c, _⟩ := two_cells hb
        exact ⟨x, y, a, b, c⟩)
      have HLD := Lib.hid (fun (W : World) (Q : Nat) (h : PSt w r M cap Q Bm w.heap.size A (.slice A1 ls.length c1) (.slice A2 n2 c2) ls rs W) => h.laid HNE.out.2.1 HNE.out.2.2 (Nat.le_refl _) (.slice A1 ls.length c1) (.slice A2 n2 c2))
      have HO := Lib.hid (fun x (hx : x < 24) => over23 ls.length x HL4.out.2.1 hx)
      have HPKK := Lib.hid (fun (W : World) (Q : Nat) (hQ : Q ≤ 90000) (h : PSt w r M cap Q Bm w.heap.size A (.slice A1 ls.length c1) (.slice A2 n2 c2) ls rs W) => show Calls Tryd.prog 75 #[.pointer (some ⟨r, 0, none⟩), .int .i64 24] W fun e W' => ∃ x : Nat, x < 24 ∧ e = .returned (.int .i64 x) ∧ PSt w r M cap (Q + 1) Bm w.heap.size A (.slice A1 ls.length c1) (.slice A2 n2 c2) ls rs W' ∧ KT W W' ∧ (W'.heap[w.heap.size]? = W.heap[w.heap.size]?) from pst_pick (k := 24) h HXR.out hM hQ (by decide) (by decide) HNE.out.1 HNE.out.2.1)
      have HRKK := Lib.hid (fun (W : World) (Q m : Nat) (hQ : Q ≤ 90000) (hm : m ≤ 6) (h : PSt w r M cap Q Bm w.heap.size A (.slice A1 ls.length c1) (.slice A2 n2 c2) ls rs W) => pst_rank (k := m) h HXR.out hM hQ hm HNE.out.1 HNE.out.2.1)
      have hqq : q + 1 ≤ 80000 := by have := HL4.out.2.2; omega
      have HQB := Lib.hid (fun (m : Nat) (hm : m ≤ 6) => show q + 1 + 1 + m ≤ p0 + 80 from by have := HL4.out.2.2; omega)
      clear hres
      go_region_held3 (fun W => W.cell? ⟨Bm, 0, none⟩ = some (.slice A1 ls.length c1) ∧ W.cell? ⟨Bm, 1, none⟩ = some (.slice A2 n2 c2))
        (first | exact ⟨y0, y1⟩ | exact ⟨(HTC.out _ _ hP6).1, (HTC.out _ _ hP6).2.1⟩ | exact ⟨(HTC.out _ _ (HLD.out _ _ hP6).1).1, (HTC.out _ _ (HLD.out _ _ hP6).1).2.1⟩ | exact ⟨(HTC.out _ _ hP5).1, (HTC.out _ _ hP5).2.1⟩ | exact ⟨(HTC.out _ _ (HLD.out _ _ hP5).1).1, (HTC.out _ _ (HLD.out _ _ hP5).1).2.1⟩ | exact ⟨(HTC.out _ _ (HLD.out _ _ HP4'.out.drew).1).1, (HTC.out _ _ (HLD.out _ _ HP4'.out.drew).1).2.1⟩)
        (first
          | (go_at_call 75; (first | (with_reducible refine (HPKK.out _ (q + 1) (by omega) HP4'.out.drew).mono ?_) | (with_reducible refine (HPKK.out _ (q + 1) (by omega) (HLD.out _ _ HP4'.out.drew).1).mono ?_)); rintro e w5 ⟨x, hx, rfl, hP5, hk5, hb5⟩; obtain ⟨d, m, o1, o2, o3, o4, hm6, o5, o6⟩ := HO.out x hx; obtain ⟨p0', p1', p2', p3', p4'⟩ := HTR.out _ _ hP5)
          | (go_at_call 76; (first | (with_reducible refine (HRKK.out _ (q + 1 + 1) m (by omega) hm6 hP5).mono ?_) | (with_reducible refine (HRKK.out _ (q + 1 + 1) m (by omega) hm6 (HLD.out _ _ hP5).1).mono ?_)); rintro e w6 ⟨v6, xs6, rfl, hx6, hP6, hk6, hb6⟩; obtain ⟨q0', q1', q2', q3', q4'⟩ := HTR.out _ _ hP6))
      all_goals
        go_wp2_with fail
        refine bodyPost_ret (ret_mi_s rfl _ _ w.heap.size (.slice A1 ls.length c1) (.slice A2 n2 c2) v6 rfl rfl ?hb) rfl ?fin
        case hb => first | exact (HLD.out _ _ hP6).2 | exact hb6.trans (HLD.out _ _ hP5).2 | exact hb6.trans (hb5.trans (HLD.out _ _ HP4'.out.drew).2)
        case fin =>
          first
            | exact ⟨A1, c1, .slice A2 n2 c2, v6, ls, rs, xs6, q + 1 + 1 + m, rfl, hP6.l, hP6.r', hx6, HL4.out.1, HL4.out.2.1, HQB.out m hm6, hP6.rd, hP6.wi⟩
            | exact ⟨A1, c1, .slice A2 n2 c2, v6, ls, rs, xs6, q + 1 + 1 + m, rfl, (HLD.out _ _ hP6).1.l, (HLD.out _ _ hP6).1.r', hx6.kt (hP6.kt_laid _ _), HL4.out.1, HL4.out.2.1, HQB.out m hm6, (HLD.out _ _ hP6).1.rd, (HLD.out _ _ hP6).1.wi⟩
    · have e0 : (0 < x3) = True := eq_true (by omega)
      clear hx0 hx3
      obtain ⟨y0, y1, yf, yl⟩ := two_cells (HP4'.out.drew.bx)
      obtain ⟨r0, r1, hres⟩ := HP4'.out.drew.res
      obtain ⟨k0, k1, kf, kl⟩ := two_cells hres
      have HTC := Lib.hid (fun (W : World) (Q : Nat) (h : PSt w r M cap Q Bm w.heap.size A (.slice A1 ls.length c1) (.slice A2 n2 c2) ls rs W) => two_cells h.bx)
      have HTR := Lib.hid (fun (W : World) (Q : Nat) (h : PSt w r M cap Q Bm w.heap.size A (.slice A1 ls.length c1) (.slice A2 n2 c2) ls rs W) => show ∃ x y, W.cell? ⟨w.heap.size, 0, none⟩ = some x ∧ W.cell? ⟨w.heap.size, 1, none⟩ = some y ∧ (∀ i, W.frozen? ⟨w.heap.size, i, none⟩ = false) from by
        obtain ⟨x, y, hb⟩ := h.res
        obtain ⟨a, b, c, _⟩ := two_cells hb
        exact ⟨x, y, a, b, c⟩)
      have HLD := Lib.hid (fun (W : World) (Q : Nat) (h : PSt w r M cap Q Bm w.heap.size A (.slice A1 ls.length c1) (.slice A2 n2 c2) ls rs W) => h.laid HNE.out.2.1 HNE.out.2.2 (Nat.le_refl _) (.slice A1 ls.length c1) (.slice A2 n2 c2))
      have HPKN := Lib.hid (fun (W : World) (Q : Nat) (hQ : Q ≤ 90000) (h : PSt w r M cap Q Bm w.heap.size A (.slice A1 ls.length c1) (.slice A2 n2 c2) ls rs W) => pst_pick (k := N) h HXR.out hM hQ hlen hlen2 HNE.out.1 HNE.out.2.1)
      have HCE := Lib.hid (fun (W : World) (h : LRow g N uf xf W) => show ∀ j, j < N → W.cell? ⟨g, j, none⟩ = some (uf j) from fun j hj => (h j hj).1.1)
      have l0 := HCE.out _ (HLR.out.kt (KT.of_below (Below.drew (Below.refl _ _))))
      have hqq : q + 1 ≤ 80000 := by have := HL4.out.2.2; omega
      have HQ2 : Hid (q + 1 + 1 ≤ p0 + 80) := Lib.hid (by have := HL4.out.2.2; omega)
      clear hres
      go_wp2_with fail
      go_region_held3 (fun W => W.cell? ⟨Bm, 0, none⟩ = some (.slice A1 ls.length c1) ∧ W.cell? ⟨Bm, 1, none⟩ = some (.slice A2 n2 c2) ∧ ∀ j, j < N → W.cell? ⟨g, j, none⟩ = some (uf j))
        (first | exact ⟨y0, y1, l0⟩ | exact ⟨(HTC.out _ _ hP5).1, (HTC.out _ _ hP5).2.1, HCE.out _ (HLR.out.kt hk5)⟩ | exact ⟨(HTC.out _ _ hP5).1, (HTC.out _ _ hP5).2.1, HCE.out _ ((HLR.out.kt (HP4'.out.drew.kt_laid _ _)).kt hk5)⟩ | exact ⟨(HTC.out _ _ (HLD.out _ _ hP5).1).1, (HTC.out _ _ (HLD.out _ _ hP5).1).2.1, HCE.out _ ((HLR.out.kt hk5).kt (hP5.kt_laid _ _))⟩ | exact ⟨(HTC.out _ _ (HLD.out _ _ HP4'.out.drew).1).1, (HTC.out _ _ (HLD.out _ _ HP4'.out.drew).1).2.1, HCE.out _ (HLR.out.kt (HP4'.out.drew.kt_laid _ _))⟩)
        (first
          | (go_at_call 75; (first | (with_reducible refine (HPKN.out _ (q + 1) (by omega) HP4'.out.drew).mono ?_) | (with_reducible refine (HPKN.out _ (q + 1) (by omega) (HLD.out _ _ HP4'.out.drew).1).mono ?_)); rintro e w5 ⟨x, hx, rfl, hP5, hk5, hb5⟩; obtain ⟨p0', p1', p2', p3', p4'⟩ := HTR.out _ _ hP5; have hxi : (x : Int) < (N : Int) := (by omega); have hxn : (0 : Int) ≤ (x : Int) := (by omega)))
      all_goals
        go_wp2_with fail
        refine bodyPost_ret (ret_mi_s rfl _ _ w.heap.size (.slice A1 ls.length c1) (.slice A2 n2 c2) (uf x) rfl rfl ?hb) rfl ?fin
        case hb => first | exact (HLD.out _ _ hP5).2 | exact hb5.trans (HLD.out _ _ HP4'.out.drew).2
        case fin =>
          first
            | exact ⟨A1, c1, .slice A2 n2 c2, uf x, ls, rs, xf x, q + 1 + 1, rfl, hP5.l, hP5.r', (((HLR.out.kt (HP4'.out.drew.kt_laid _ _)).kt hk5) x hx).2, HL4.out.1, HL4.out.2.1, HQ2.out, hP5.rd, hP5.wi⟩
            | exact ⟨A1, c1, .slice A2 n2 c2, uf x, ls, rs, xf x, q + 1 + 1, rfl, (HLD.out _ _ hP5).1.l, (HLD.out _ _ hP5).1.r', (((HLR.out.kt hk5).kt (hP5.kt_laid _ _)) x hx).2, HL4.out.1, HL4.out.2.1, HQ2.out, (HLD.out _ _ hP5).1.rd, (HLD.out _ _ hP5).1.wi⟩

end Go.Proofs.YtahilcnmjnjcaaaDoor
