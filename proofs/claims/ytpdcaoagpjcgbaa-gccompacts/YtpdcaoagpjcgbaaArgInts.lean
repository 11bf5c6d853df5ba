/-
  An argument that is a list of integers. It proves no statement by itself.
-/
import Derived.Test.YtpdcaoagpjcgbaaBase
namespace Go.Proofs.Ytpdcaoagpjcgbaa
open Go.ChangeShapes Go.WideShapes Go.ChangeAt Go.RowKit Go.Joins

theorem open_intsArg {H : Type} {enc : TypeId × Value → H} {W : World} {base : Nat} {v : Value} {d : DataW H} {p : List MemPlace}
    (hv : Value.okWide Try.prog W .any base 22 v) (h : DataW.Trod enc Try.prog W 0 (fun _ => true) true 22 v d p) (hw : ∀ n ∈ d.weights Try.prog 22, n ≤ reachBytes) :
    ∃ (a : Option Addr) (cap : Nat) (xs : List Int), v = .slice a xs.length cap ∧ xs.length ≤ cap ∧ cap * 8 ≤ 140737488351232 ∧ Ints W a xs ∧ (∀ n ∈ xs, Fits n) ∧ (a = none → cap = 0) := by
  obtain ⟨a, len, cap, rfl⟩ := okWide_slice Try.underlying22 hv
  obtain ⟨fuel, hf⟩ := h
  exact ints_of_trod (x := (d, p)) (by simpa [Value.cells] using hf) hw

end Go.Proofs.Ytpdcaoagpjcgbaa
