/- Arguments opened: a slice of nodes of a diagram. -/
import Derived.Test.YtnoehmokaeegeaaFrameG
import Derived.Test.YtnoehmokaeegeaaCh
import Derived.Lib.SmallJoins
namespace Go.Proofs.Ytnoehmokaeegeaa
open Go.ChangeShapes Go.WideShapes Go.ChangeAt Go.RowKit Go.Deep

theorem open_nodes {H : Type} {enc : TypeId × Value → H} {P : Program} {w : World} {base : Nat} {held : Bool} {t e : TypeId} {f0 f1 f2 : Field} {A : Option Addr} {len cap fuel : Nat} {x : DataW H × List MemPlace}
    (ht : P.underlying t = some (.slice e)) (he : P.underlying e = some (.struct #[f0, f1, f2])) (hone : oneCellFields P #[f0, f1, f2] = true) (hi0 : P.underlying f0.type = some (.int .i64)) (hi1 : P.underlying f1.type = some (.int .i64)) (hi2 : P.underlying f2.type = some (.int .i64)) (hc : P.cellsOf e = 3)
    (h : DataW.trod enc P w base (fun _ => true) held fuel t (Value.slice A len cap).cells.toList = some x) :
    ∃ l : List Nd, l.length = len ∧ len ≤ maxLen ∧ Row w A (nodesC l) := by
  obtain ⟨ys, h1, h2, _, h4⟩ := open_list 3 (by decide) ndC (fun _ => rfl) (fun _ => True) ht hc (fun m cs D hd hl => by
    obtain ⟨xs, n, _, _, _, hlen, hf⟩ := DataW.trod_struct he hd
    obtain ⟨o0, k0⟩ := hone_of hone 0 f0 rfl
    obtain ⟨o1, k1⟩ := hone_of hone 1 f1 rfl
    obtain ⟨o2, k2⟩ := hone_of hone 2 f2 rfl
    have g0 := hf 0 f0 rfl
    have g1 := hf 1 f1 rfl
    have g2 := hf 2 f2 rfl
    rw [o0, k0, List.getElem?_eq_getElem (by rw [hlen]; simp)] at g0
    rw [o1, k1, List.getElem?_eq_getElem (by rw [hlen]; simp)] at g1
    rw [o2, k2, List.getElem?_eq_getElem (by rw [hlen]; simp)] at g2
    match cs, hl with
    | [c0, c1, c2], _ =>
      simp at g0 g1 g2
      obtain ⟨z0, e0, _, _⟩ := DataW.trod_int hi0 g0
      obtain ⟨z1, e1, _, _⟩ := DataW.trod_int hi1 g1
      obtain ⟨z2, e2, _, _⟩ := DataW.trod_int hi2 g2
      simp at e0 e1 e2
      subst e0 e1 e2
      exact ⟨(z0, z1, z2), trivial, rfl⟩) h
  exact ⟨ys, h1, h2, h4⟩

end Go.Proofs.Ytnoehmokaeegeaa
