/-
  FnExactMarketLeft: the law's walk with both contracts.
-/
import Derived.Test.YtjhjfopokiaiiaaLawKLeft
import Derived.Test.YtjhjfopokiaiiaaImplMLeft
namespace Go.Proofs.Ytjhjfopokiaiiaa
set_option linter.unusedVariables false
set_option linter.unusedSimpArgs false
open Go.RowKit

theorem leftL_len (ls rs : List (List Int)) : (leftL ls rs).length ≤ 1048576 := by
  cases h : mktOk ls rs with
  | false => rw [leftL_no h]; simp
  | true =>
    obtain ⟨⟨h1, h5, hl⟩, hs1, hs2⟩ := mktOk_parts h
    rw [leftL_yes h]
    have hrk := settled_rank (rs := rs) (ranks_of (ls := ls) (n := ls.length) h1 h5 rfl (List.all_eq_true.1 hs1))
    rw [backOf_len, (rank_parts hrk).1]; omega

theorem FnExactMarketLeft_final (w : World) (L R : Value) (ls rs : List (List Int)) (hL : IntRows w L ls) (hR : IntRows w R rs) :
    Calls Try.prog 3 #[.agg (two L R)] w fun e w' => e = .returned (.bool true) ∧ Below w.heap.size w w' :=
  FnExactMarketLeft_walk w L R ls rs hL hR (mktOk ls rs) _ (leftL_len ls rs) (fun W L R h1 h2 => specMLeft_any W L R ls rs h1 h2) (fun W L R h1 h2 => implMLeft_any W L R ls rs h1 h2)

end Go.Proofs.Ytjhjfopokiaiiaa
