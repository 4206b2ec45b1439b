/-
  The exact laws of PolyIn, PolyAdd, PolyTimes, PolyDerive, PolyAt, both sides put together.
-/
import Derived.Test.YtldnipbpjohikaaSpecDer
import Derived.Test.YtldnipbpjohikaaLawPIn
import Derived.Test.YtldnipbpjohikaaLawPAdd
import Derived.Test.YtldnipbpjohikaaLawPTimes
import Derived.Test.YtldnipbpjohikaaLawPDerive
import Derived.Test.YtldnipbpjohikaaLawPAt
namespace Go.Proofs.Ytldnipbpjohikaa
open Go.RowKit

theorem madeList_len (c : Bool) (p : List Int) : (madeList c p).length ≤ 1048576 := by
  unfold madeList toldList
  split
  · split
    · rename_i h; have := (okPoly_iff.1 h).1; omega
    · simp
  · simp

theorem FnExactPolyIn_final (w : World) (v : Value) (xs : List Int) (h : Ints w v xs) :
    Calls Try.prog 3 #[v] w fun e w' => e = .returned (.bool true) ∧ Below w.heap.size w w' :=
  FnExactPolyIn_walk w v xs h (okPoly xs)
    (fun W p hp => (specPIn_any W p xs hp).mono fun e w' ⟨he, hw⟩ => ⟨he, hw ▸ Below.refl _ _⟩)
    (fun W p hp => (polyIn_any W p xs hp).mono fun e w' ⟨he, hw⟩ => ⟨he, hw ▸ Below.refl _ _⟩)

theorem FnExactPolyAdd_final (w : World) (v0 : Value) (xs0 : List Int) (v1 : Value) (xs1 : List Int) (h0 : Ints w v0 xs0) (h1 : Ints w v1 xs1) :
    Calls Try.prog 4 #[v0, v1] w fun e w' => e = .returned (.bool true) ∧ Below w.heap.size w w' :=
  FnExactPolyAdd_walk w v0 xs0 v1 xs1 h0 h1 _ _ (madeList_len _ _) (fun W p q hp hq => specAdd_any W p q xs0 xs1 hp hq) (fun W p q hp hq => implAdd_any W p q xs0 xs1 hp hq)

theorem FnExactPolyTimes_final (w : World) (v0 : Value) (xs0 : List Int) (v1 : Value) (xs1 : List Int) (h0 : Ints w v0 xs0) (h1 : Ints w v1 xs1) :
    Calls Try.prog 5 #[v0, v1] w fun e w' => e = .returned (.bool true) ∧ Below w.heap.size w w' :=
  FnExactPolyTimes_walk w v0 xs0 v1 xs1 h0 h1 _ _ (madeList_len _ _) (fun W p q hp hq => specTimes_any W p q xs0 xs1 hp hq) (fun W p q hp hq => implTimes_any W p q xs0 xs1 hp hq)

theorem FnExactPolyDerive_final (w : World) (v0 : Value) (xs0 : List Int) (h0 : Ints w v0 xs0) :
    Calls Try.prog 6 #[v0] w fun e w' => e = .returned (.bool true) ∧ Below w.heap.size w w' :=
  FnExactPolyDerive_walk w v0 xs0 h0 _ _ (madeList_len _ _) (fun W p hp => specDerive_any W p xs0 hp) (fun W p hp => implDerive_any W p xs0 hp)

theorem FnExactPolyAt_final (w : World) (v0 : Value) (xs0 : List Int) (a1 : Int) (h0 : Ints w v0 xs0) :
    Calls Try.prog 7 #[v0, .int .i64 a1] w fun e w' => e = .returned (.bool true) ∧ Below w.heap.size w w' :=
  FnExactPolyAt_walk w v0 xs0 a1 h0 _ _ (fun W p hp => specAt_any W p xs0 a1 hp) (fun W p hp => implAt_any W p xs0 a1 hp)

end Go.Proofs.Ytldnipbpjohikaa
