/- syllogistref.Words and syllogistref.Ints: are two lists the same? -/
import Derived.Test.YtlpjpnlfmjehnaaW1
namespace Go.Proofs.Ytlpjpnlfmjehnaa
open Go.RowKit

theorem take_same_succ {α : Type} {xs ys : List α} {k : Nat} {x y : α} (h : xs.take k = ys.take k) (hx : xs[k]? = some x) (hy : ys[k]? = some y) (he : x = y) : xs.take (k + 1) = ys.take (k + 1) := by
  rw [List.take_add_one, List.take_add_one, h, hx, hy, he]
theorem ne_of_at {α : Type} {xs ys : List α} {k : Nat} {x y : α} (hx : xs[k]? = some x) (hy : ys[k]? = some y) (he : ¬ x = y) : ¬ xs = ys := by
  rintro rfl
  rw [hx] at hy
  injection hy with hy
  exact he hy


end Go.Proofs.Ytlpjpnlfmjehnaa
