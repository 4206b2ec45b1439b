/-
  FnExactMarketRight: the law's walk with both contracts.
-/
import Derived.Test.YtjhjfopokiaiiaaLawKRight
import Derived.Test.YtjhjfopokiaiiaaImplMLeft
namespace Go.Proofs.Ytjhjfopokiaiiaa
set_option linter.unusedVariables false
set_option linter.unusedSimpArgs false
open Go.RowKit

theorem rightL_len (ls rs : List (List Int)) : (rightL ls rs).length ≤ 1048576 := by
  cases h : mktOk ls rs with
  | false => rw [rightL_no h]; simp
  | true =>
    obtain ⟨⟨h1, h5, hl⟩, hs1, hs2⟩ := mktOk_parts h
    rw [rightL_yes h]
    have hrk := settled_rank (rs := ls) (ranks_of (ls := rs) (n := rs.length) (by omega) (by omega) rfl (List.all_eq_true.1 hs2))
    rw [backOf_len, backOf_len, (rank_parts hrk).1]; omega

theorem FnExactMarketRight_final (w : World) (L R : Value) (ls rs : List (List Int)) (hL : IntRows w L ls) (hR : IntRows w R rs) :
    Calls Try.prog 4 #[.agg (two L R)] w fun e w' => e = .returned (.bool true) ∧ Below w.heap.size w w' :=
  FnExactMarketRight_walk w L R ls rs hL hR (mktOk ls rs) _ (rightL_len ls rs) (fun W L R h1 h2 => specMRight_any W L R ls rs h1 h2) (fun W L R h1 h2 => implMRight_any W L R ls rs h1 h2)

end Go.Proofs.Ytjhjfopokiaiiaa
