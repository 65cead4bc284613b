/- Arguments opened: a slice of numbers. -/
import Derived.Test.YtdiaglaokgehbaaFrameG
import Derived.Test.YtdiaglaokgehbaaBase
namespace Go.Proofs.Ytdiaglaokgehbaa
open Go.ChangeShapes Go.WideShapes Go.ChangeAt Go.RowKit Go.Deep

theorem flat_ints (l : List Int) : (l.flatMap fun x => [Value.int .i64 x]) = ints l := flat_one (Value.int .i64) l
theorem open_ints' {H : Type} {enc : TypeId × Value → H} {P : Program} {w : World} {base : Nat} {held : Bool} {t e : TypeId} {A : Option Addr} {len cap fuel : Nat} {x : DataW H × List MemPlace}
    (ht : P.underlying t = some (.slice e)) (he : P.underlying e = some (.int .i64)) (hc : P.cellsOf e = 1)
    (h : DataW.trod enc P w base (fun _ => true) held fuel t (Value.slice A len cap).cells.toList = some x) :
    ∃ xs : List Int, xs.length = len ∧ len ≤ maxLen ∧ (∀ x ∈ xs, (Lit.int .i64 x).wf = true) ∧ Row w A (ints xs) := by
  obtain ⟨ys, h1, h2, h3, h4⟩ := open_list 1 (by decide) (fun b : Int => [Value.int .i64 b]) (fun _ => rfl) (fun x => (Lit.int .i64 x).wf = true) ht hc (fun m cs D hd _ => by
    obtain ⟨z, hz, _, hw⟩ := DataW.trod_int he hd
    exact ⟨z, hw, hz⟩) h
  exact ⟨ys, h1, h2, h3, by rw [← flat_ints]; exact h4⟩

end Go.Proofs.Ytdiaglaokgehbaa
