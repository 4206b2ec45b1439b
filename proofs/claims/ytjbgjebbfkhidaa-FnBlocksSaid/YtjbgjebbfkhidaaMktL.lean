/-
  MktL: MktLaw MktEq MktMark MktApart LawKTurned.
-/
import Derived.Test.YtjbgjebbfkhidaaCore1
import Derived.Test.YtjbgjebbfkhidaaSide1
/-
  THE LAWS' SMALL FUNCTIONS ON MARKETS: sizes, copies, comparison.
-/
namespace Go.Proofs.Ytjbgjebbfkhidaa
set_option linter.unusedVariables false
set_option linter.unusedSimpArgs false
open Go.RowKit

theorem sizeMI : (Try.prog.info? 25).map (·.size) = some 2 := by kernel_rfl

theorem load_mi {ops : Array Oper} {rest : List Oper} {o : Oper} {a : Act} {w : World} {Q : Exit → Act → World → Prop} (hgd : o.guard = none) (x : Operand) (ho : o.op = .load 25 x)
    (g : Nat) (p q : Value) (hx : a.eval x = .pointer (some ⟨g, 0, none⟩)) (hg : w.heap[g]? = some (.cells (two p q) 25 (0, 0)))
    (h : wpList Try.prog ops Q rest (a.put o.dst (.agg (two p q))) w) : wpList Try.prog ops Q (o :: rest) a w :=
  wpList_load_row hgd 25 x ho g hx 25 (two p q) (0, 0) _ hg Try.underlying25 rfl sizeMI h

theorem store_mi {ops : Array Oper} {rest : List Oper} {o : Oper} {a : Act} {w : World} {Q : Exit → Act → World → Prop} (hgd : o.guard = none) (x y : Operand) (ho : o.op = .store 25 x y)
    (g : Nat) (p q : Value) (hx : a.eval x = .pointer (some ⟨g, 0, none⟩)) (hy : a.eval y = .agg (two p q)) (p0 q0 : Value) (h1 : p.oneCell' = true) (h2 : q.oneCell' = true)
    (hg : w.heap[g]? = some (.cells (two p0 q0) 25 (0, 0)))
    (h : wpList Try.prog ops Q rest (a.put o.dst undef) (w.setRow g (two p q))) : wpList Try.prog ops Q (o :: rest) a w :=
  wpList_store_row hgd 25 x y ho g (two p q) hx hy 25 (two p0 q0) hg sizeMI rfl (by simp [two, h1, h2]) h
theorem ret_mi {fn : Func} {p : Tmp} (h : fn.results = #[.cell p 25]) (tmps : Array Value) (w : World) (g : Nat) (a b : Value)
    (hp : tmps.getD p undef = .pointer (some ⟨g, 0, none⟩)) (hg : w.heap[g]? = some (.cells (two a b) 25 (0, 0))) :
    (results fn tmps).run Try.prog w = .ok (.agg (two a b)) w :=
  results_cell_row h tmps w g 25 (two a b) (0, 0) _ hp hg Try.underlying25 rfl sizeMI

/-- What is left of a number when a market is counted off. -/
def szM (ls rs : List (List Int)) : Int := if ls.length + total ls + (rs.length + total rs) ≤ 1048576 then ((1048576 - (ls.length + total ls + (rs.length + total rs)) : Nat) : Int) else -1
def FitsM (ls rs : List (List Int)) : Prop := ls.length + total ls + (rs.length + total rs) ≤ 1048576
theorem szM_yes {ls rs : List (List Int)} (h : FitsM ls rs) : szM ls rs = ((1048576 - (ls.length + total ls + (rs.length + total rs)) : Nat) : Int) := if_pos h
theorem szM_no {ls rs : List (List Int)} (h : ¬ FitsM ls rs) : szM ls rs = -1 := if_neg h


/-- A market in memory of its own, the left side's lists ahead of the right side's. -/
def OwnsMkt (w : World) (lo hi : Nat) (L R : Value) (ls rs : List (List Int)) : Prop := ∃ mid us us', lo ≤ mid ∧ mid ≤ hi ∧ OwnsRows w lo mid L us ls ∧ OwnsRows w mid hi R us' rs
theorem OwnsMkt.below {w w' : World} {lo hi : Nat} {L R : Value} {ls rs : List (List Int)} (h : OwnsMkt w lo hi L R ls rs) (hb : Below w.heap.size w w') : OwnsMkt w' lo hi L R ls rs := by
  obtain ⟨mid, us, us', h1, h2, h3, h4⟩ := h
  exact ⟨mid, us, us', h1, h2, h3.below hb, h4.below hb⟩
theorem OwnsMkt.left {w : World} {lo hi : Nat} {L R : Value} {ls rs : List (List Int)} (h : OwnsMkt w lo hi L R ls rs) : IntRows w L ls := by obtain ⟨_, _, _, _, _, h, _⟩ := h; exact rows_of_owns h
theorem OwnsMkt.right {w : World} {lo hi : Nat} {L R : Value} {ls rs : List (List Int)} (h : OwnsMkt w lo hi L R ls rs) : IntRows w R rs := by obtain ⟨_, _, _, _, _, _, h⟩ := h; exact rows_of_owns h

def GivesTo (w : World) (ls rs : List (List Int)) (e : Ending) (w' : World) : Prop :=
  ∃ A1 n1 c1 A2 n2 c2, e = .returned (.agg (two (.slice A1 n1 c1) (.slice A2 n2 c2))) ∧ Below w.heap.size w w' ∧ OwnsMkt w' w.heap.size w'.heap.size (.slice A1 n1 c1) (.slice A2 n2 c2) ls rs


end Go.Proofs.Ytjbgjebbfkhidaa

/-
  laws.eqMarket.
-/
namespace Go.Proofs.Ytjbgjebbfkhidaa
set_option linter.unusedVariables false
set_option linter.unusedSimpArgs false
open Go.RowKit

theorem below_drew_of {w W W' : World} (h : Below w.heap.size w W) (q : Nat) (e : W' = W.drewN q) : Below w.heap.size w W' := by rw [e]; exact below_drewN h q


/-- A value that is a market and can be read. -/
def ReadsM (w : World) (v : Value) (ls rs : List (List Int)) : Prop := ∃ L R, v = .agg (two L R) ∧ IntRows w L ls ∧ IntRows w R rs
theorem ReadsM.below {w w' : World} {v : Value} {ls rs : List (List Int)} (h : ReadsM w v ls rs) (hb : Below w.heap.size w w') : ReadsM w' v ls rs := by
  obtain ⟨L, R, hv, h1, h2⟩ := h
  exact ⟨L, R, hv, h1.below hb, h2.below hb⟩



end Go.Proofs.Ytjbgjebbfkhidaa

/-
  laws.markMarket, laws.heldMarket.
-/
namespace Go.Proofs.Ytjbgjebbfkhidaa
set_option linter.unusedVariables false
set_option linter.unusedSimpArgs false
open Go.RowKit

theorem OwnsMkt.kept {w w' : World} {lo hi a b : Nat} {L R : Value} {ls rs : List (List Int)} (h : OwnsMkt w lo hi L R ls rs) (hw : Within a b w w') (hd : hi ≤ a ∨ b ≤ lo) : OwnsMkt w' lo hi L R ls rs := by
  obtain ⟨mid, us, us', h1, h2, h3, h4⟩ := h
  exact ⟨mid, us, us', h1, h2, h3.kept hw (by omega), h4.kept hw (by omega)⟩
theorem Within.alloc {lo hi : Nat} {w w' : World} (h : Within lo hi w w') (o : Obj) : Within lo hi w (w'.alloc o) :=
  h.trans (within_alloc lo hi w' o)
where within_alloc (lo hi : Nat) (w : World) (o : Obj) : Within lo hi w (w.alloc o) := ⟨rfl, rfl, rfl, by simp, fun k hk _ => Below.heap_alloc _ _ _ hk⟩
theorem Within.wider {lo hi lo' hi' : Nat} {w w' : World} (h : Within lo hi w w') (hl : lo' ≤ lo) (hh : hi ≤ hi') : Within lo' hi' w w' :=
  ⟨h.os, h.tape, h.output, h.size, fun k hk ho => h.block k hk (by omega)⟩



end Go.Proofs.Ytjbgjebbfkhidaa

/-
  A MARKET WHOSE LISTS LIE APART, though not one behind the other: laws.markMarket on it.
-/
namespace Go.Proofs.Ytjbgjebbfkhidaa
set_option linter.unusedVariables false
set_option linter.unusedSimpArgs false
open Go.RowKit

def Outside (v : Value) (p q : Nat) : Prop := ∀ k, v.ownBlock = some k → k < p ∨ q ≤ k
def Inside (us : List Value) (p q : Nat) : Prop := ∀ (i : Nat) (h : i < us.length) (k : Nat), us[i].ownBlock = some k → p ≤ k ∧ k < q
theorem OwnsAt.far {w w' : World} {lo hi p q : Nat} {e : TypeId} {v : Value} {n : Nat} {cs : List Value} (h : OwnsAt w lo hi e v n cs) (hw : Within p q w w') (ho : Outside v p q) : OwnsAt w' lo hi e v n cs := by
  refine ⟨⟨h.1.1, ?_⟩, h.2⟩
  rcases h.1.2 with hn | ⟨g, cap, cur, rfl, hb, hgg, rest⟩
  · exact .inl hn
  · refine .inr ⟨g, cap, cur, rfl, hb, ?_, rest⟩
    have := ho g rfl
    rw [hw.block g (Array.getElem?_eq_some_iff.1 hgg).1 this]
    exact hgg
theorem OwnsRows.far {w w' : World} {lo hi p q p' q' : Nat} {v : Value} {us : List Value} {xss : List (List Int)} (h : OwnsRows w lo hi v us xss) (hw : Within p q w w') (ho : Outside v p q) (hi' : Inside us p' q') (hd : q ≤ p' ∨ q' ≤ p) : OwnsRows w' lo hi v us xss :=
  ⟨h.len, h.outer.far hw ho, fun i hi2 => (h.inner i hi2).far hw (fun k hk => by have := hi' i hi2 k hk; omega), h.apart⟩
structure Apart (L R : Value) (us us' : List Value) (lo hi p q p' q' : Nat) : Prop where
  one : Inside us p q
  two : Inside us' p' q'
  left : Outside L p' q'
  right : Outside R p q
  far : q ≤ p' ∨ q' ≤ p
  lo1 : lo ≤ p
  hi1 : q ≤ hi
  lo2 : lo ≤ p'
  hi2 : q' ≤ hi
def OwnsMktX (w : World) (lo hi : Nat) (L R : Value) (ls rs : List (List Int)) : Prop := ∃ us us' p q p' q', OwnsRows w lo hi L us ls ∧ OwnsRows w lo hi R us' rs ∧ Apart L R us us' lo hi p q p' q'
theorem OwnsMktX.below {w w' : World} {lo hi : Nat} {L R : Value} {ls rs : List (List Int)} (h : OwnsMktX w lo hi L R ls rs) (hb : Below w.heap.size w w') : OwnsMktX w' lo hi L R ls rs := by
  obtain ⟨us, us', p, q, p', q', h1, h2, h3⟩ := h
  exact ⟨us, us', p, q, p', q', h1.below hb, h2.below hb, h3⟩
theorem OwnsMktX.kept {w w' : World} {lo hi a b : Nat} {L R : Value} {ls rs : List (List Int)} (h : OwnsMktX w lo hi L R ls rs) (hw : Within a b w w') (hd : hi ≤ a ∨ b ≤ lo) : OwnsMktX w' lo hi L R ls rs := by
  obtain ⟨us, us', p, q, p', q', h1, h2, h3⟩ := h
  exact ⟨us, us', p, q, p', q', h1.kept hw hd, h2.kept hw hd, h3⟩
theorem OwnsMktX.left {w : World} {lo hi : Nat} {L R : Value} {ls rs : List (List Int)} (h : OwnsMktX w lo hi L R ls rs) : IntRows w L ls := by obtain ⟨_, _, _, _, _, _, h, _⟩ := h; exact rows_of_owns h
theorem OwnsMktX.right {w : World} {lo hi : Nat} {L R : Value} {ls rs : List (List Int)} (h : OwnsMktX w lo hi L R ls rs) : IntRows w R rs := by obtain ⟨_, _, _, _, _, _, _, h, _⟩ := h; exact rows_of_owns h
theorem inside_of_owns {w : World} {lo hi : Nat} {v : Value} {us : List Value} {xss : List (List Int)} (h : OwnsRows w lo hi v us xss) : Inside us lo hi := fun i hi' k hk => ⟨((h.inner i hi').1.lt k hk).1, (h.inner i hi').2 k hk⟩
theorem outer_range {w : World} {lo hi : Nat} {v : Value} {us : List Value} {xss : List (List Int)} (h : OwnsRows w lo hi v us xss) (k : Nat) (hk : v.ownBlock = some k) : lo ≤ k ∧ k < hi := ⟨(h.outer.1.lt k hk).1, h.outer.2 k hk⟩
theorem OwnsMkt.x {w : World} {lo hi : Nat} {L R : Value} {ls rs : List (List Int)} (h : OwnsMkt w lo hi L R ls rs) : OwnsMktX w lo hi L R ls rs := by
  obtain ⟨mid, us, us', h1, h2, h3, h4⟩ := h
  exact ⟨us, us', lo, mid, mid, hi, h3.wide (Nat.le_refl _) h2, h4.wide h1 (Nat.le_refl _), inside_of_owns h3, inside_of_owns h4, fun k hk => .inl (outer_range h3 k hk).2, fun k hk => .inr (outer_range h4 k hk).1, .inl (Nat.le_refl _), Nat.le_refl _, h2, h1, Nat.le_refl _⟩



end Go.Proofs.Ytjbgjebbfkhidaa

/-
  FnExactMarketTurned: at every input what the program hands back is what the specification does, in memory of its own; the arguments stay as they were.
-/
namespace Go.Proofs.Ytjbgjebbfkhidaa
set_option linter.unusedVariables false
set_option linter.unusedSimpArgs false
open Go.RowKit

def GivesMkt2 (w : World) (ok : Bool) (ys zs : List (List Int)) (e : Ending) (w' : World) : Prop :=
  ∃ A1 n1 c1 A2 n2 c2, e = .returned (.tuple #[.agg (two (.slice A1 n1 c1) (.slice A2 n2 c2)), .bool ok]) ∧ Below w.heap.size w w' ∧ OwnsMktX w' w.heap.size w'.heap.size (.slice A1 n1 c1) (.slice A2 n2 c2) ys zs


end Go.Proofs.Ytjbgjebbfkhidaa

