/- Arguments opened: a slice of truth values. -/
import Derived.Test.YtcebbhfpnkhlmaaFrameG
import Derived.Test.YtcebbhfpnkhlmaaTB
namespace Go.Proofs.Ytcebbhfpnkhlmaa
open Go.ChangeShapes Go.WideShapes Go.ChangeAt Go.RowKit Go.Deep

theorem flat_bools (l : List Bool) : (l.flatMap fun b => [Value.bool b]) = boolsC l := flat_one Value.bool l
theorem open_bools {H : Type} {enc : TypeId × Value → H} {P : Program} {w : World} {base : Nat} {held : Bool} {t e : TypeId} {A : Option Addr} {len cap fuel : Nat} {x : DataW H × List MemPlace}
    (ht : P.underlying t = some (.slice e)) (he : P.underlying e = some .bool) (hc : P.cellsOf e = 1)
    (h : DataW.trod enc P w base (fun _ => true) held fuel t (Value.slice A len cap).cells.toList = some x) :
    ∃ xs : List Bool, xs.length = len ∧ len ≤ maxLen ∧ Row w A (boolsC xs) := by
  obtain ⟨ys, h1, h2, _, h4⟩ := open_list 1 (by decide) (fun b : Bool => [Value.bool b]) (fun _ => rfl) (fun _ => True) ht hc (fun m cs D hd _ => by
    obtain ⟨b, hb, _⟩ := DataW.trod_bool he hd
    exact ⟨b, trivial, hb⟩) h
  exact ⟨ys, h1, h2, by rw [← flat_bools]; exact h4⟩

end Go.Proofs.Ytcebbhfpnkhlmaa
