/- Arguments opened: a slice of labels, a slice of deeds. -/
import Derived.Test.YtlpjpnlfmjehnaaFrameG
import Derived.Test.YtlpjpnlfmjehnaaMk
import Derived.Lib.SmallJoins
import Derived.SizedLaws
namespace Go.Proofs.Ytlpjpnlfmjehnaa
open Go.ChangeShapes Go.WideShapes Go.ChangeAt Go.RowKit Go.Deep

section
variable {H : Type} {enc : TypeId × Value → H} {P : Program} {w : World} {base : Nat} {held : Bool}
/-- A label that came in. -/
theorem open_lab1 {e : TypeId} {f0 f1 : Field} {fuel : Nat} {cs : List Value} {x : DataW H × List MemPlace} (he : P.underlying e = some (.struct #[f0, f1])) (hi0 : P.underlying f0.type = some (.int .i64)) (hi1 : P.underlying f1.type = some (.int .u32))
    (p0 : f0.offset = 0 ∧ P.cellsOf f0.type = 1) (p1 : f1.offset = 1 ∧ P.cellsOf f1.type = 1) (hl : cs.length = 2)
    (h : DataW.trod enc P w base (fun _ => true) held fuel e cs = some x) : ∃ a : Lab, a.2 < 4294967296 ∧ cs = labC a := by
  obtain ⟨y0, y1, n, _, _, g0, g1⟩ := trod_struct2 he h
  match cs, hl with
  | [c0, c1], _ =>
    rw [p0.1, p0.2] at g0
    rw [p1.1, p1.2] at g1
    simp at g0 g1
    obtain ⟨z0, e0, _, _⟩ := DataW.trod_int hi0 g0
    obtain ⟨z1, e1, _, w1⟩ := DataW.trod_int hi1 g1
    simp at e0 e1
    subst e0 e1
    obtain ⟨b1, c1⟩ := bounds_u32 w1
    obtain ⟨k1, rfl⟩ := Int.eq_ofNat_of_zero_le b1
    exact ⟨(z0, k1), by simp only; omega, rfl⟩
theorem open_labs {t e : TypeId} {f0 f1 : Field} {A : Option Addr} {len cap fuel : Nat} {x : DataW H × List MemPlace}
    (ht : P.underlying t = some (.slice e)) (he : P.underlying e = some (.struct #[f0, f1])) (hi0 : P.underlying f0.type = some (.int .i64)) (hi1 : P.underlying f1.type = some (.int .u32))
    (p0 : f0.offset = 0 ∧ P.cellsOf f0.type = 1) (p1 : f1.offset = 1 ∧ P.cellsOf f1.type = 1) (hc : P.cellsOf e = 2)
    (h : DataW.trod enc P w base (fun _ => true) held fuel t (Value.slice A len cap).cells.toList = some x) :
    ∃ l : List Lab, l.length = len ∧ len ≤ maxLen ∧ L32 l ∧ Row w A (labsC l) := by
  obtain ⟨ys, h1, h2, h3, h4⟩ := open_list 2 (by decide) labC (fun _ => rfl) (fun a => a.2 < 4294967296) ht hc (fun m cs D hd hl => open_lab1 he hi0 hi1 p0 p1 hl hd) h
  exact ⟨ys, h1, h2, h3, h4⟩
theorem open_deeds {t e el : TypeId} {f0 f1 f2 f3 f4 g0 g1 : Field} {A : Option Addr} {len cap fuel : Nat} {x : DataW H × List MemPlace}
    (ht : P.underlying t = some (.slice e)) (he : P.underlying e = some (.struct #[f0, f1, f2, f3, f4])) (hel : f3.type = el) (hl' : P.underlying el = some (.struct #[g0, g1]))
    (hi0 : P.underlying f0.type = some (.int .i64)) (hi1 : P.underlying f1.type = some (.int .i64)) (hi2 : P.underlying f2.type = some (.int .i64)) (hi4 : P.underlying f4.type = some (.int .i64))
    (hj0 : P.underlying g0.type = some (.int .i64)) (hj1 : P.underlying g1.type = some (.int .u32))
    (p0 : f0.offset = 0 ∧ P.cellsOf f0.type = 1) (p1 : f1.offset = 1 ∧ P.cellsOf f1.type = 1) (p2 : f2.offset = 2 ∧ P.cellsOf f2.type = 1) (p3 : f3.offset = 3 ∧ P.cellsOf f3.type = 2) (p4 : f4.offset = 5 ∧ P.cellsOf f4.type = 1)
    (q0 : g0.offset = 0 ∧ P.cellsOf g0.type = 1) (q1 : g1.offset = 1 ∧ P.cellsOf g1.type = 1) (hc : P.cellsOf e = 6)
    (h : DataW.trod enc P w base (fun _ => true) held fuel t (Value.slice A len cap).cells.toList = some x) :
    ∃ l : List Dd, l.length = len ∧ len ≤ maxLen ∧ Row w A (deedsC l) := by
  haveI : Inhabited Dd := ⟨⟨0, 0, 0, 0, 0, 0⟩⟩
  obtain ⟨ys, h1, h2, _, h4⟩ := open_list 6 (by decide) ddC (fun _ => rfl) (fun _ => True) ht hc (fun m cs D hd hl => by
    obtain ⟨xs, n, _, _, _, hlen, hf⟩ := DataW.trod_struct he hd
    have k0 := hf 0 f0 rfl
    have k1 := hf 1 f1 rfl
    have k2 := hf 2 f2 rfl
    have k3 := hf 3 f3 rfl
    have k4 := hf 4 f4 rfl
    rw [p0.1, p0.2, List.getElem?_eq_getElem (by rw [hlen]; simp)] at k0
    rw [p1.1, p1.2, List.getElem?_eq_getElem (by rw [hlen]; simp)] at k1
    rw [p2.1, p2.2, List.getElem?_eq_getElem (by rw [hlen]; simp)] at k2
    rw [p3.1, p3.2, List.getElem?_eq_getElem (by rw [hlen]; simp)] at k3
    rw [p4.1, p4.2, List.getElem?_eq_getElem (by rw [hlen]; simp)] at k4
    match cs, hl with
    | [c0, c1, c2, c3, c4, c5], _ =>
      simp at k0 k1 k2 k3 k4
      obtain ⟨z0, e0, _, _⟩ := DataW.trod_int hi0 k0
      obtain ⟨z1, e1, _, _⟩ := DataW.trod_int hi1 k1
      obtain ⟨z2, e2, _, _⟩ := DataW.trod_int hi2 k2
      obtain ⟨z4, e4, _, _⟩ := DataW.trod_int hi4 k4
      rw [hel] at k3
      obtain ⟨a, _, e3⟩ := open_lab1 hl' hj0 hj1 q0 q1 rfl k3
      simp [labC] at e0 e1 e2 e3 e4
      obtain ⟨e3, e5⟩ := e3
      subst e0 e1 e2 e3 e4 e5
      exact ⟨⟨z0, z1, z2, a.1, a.2, z4⟩, trivial, rfl⟩) h
  exact ⟨ys, h1, h2, h4⟩
/-- A slice of labels that came in is within the reach. -/
theorem labs_sized {t e : TypeId} {A : Option Addr} {len cap fuel : Nat} {d : DataW H} {ps : List MemPlace} (ht : P.underlying t = some (.slice e)) (hby : P.bytesOf e = 16)
    (h : DataW.trod enc P w base (fun _ => true) held fuel t (Value.slice A len cap).cells.toList = some (d, ps)) (hs : ∀ elems spare, d = .slice elems spare → (elems.length + spare.length) * P.bytesOf e ≤ reachBytes) : len * 16 ≤ 140737488355328 := by
  rcases DataW.trod_slice ht h with ⟨hcs, _⟩ | ⟨a, l, c, elems, rest, n, _, hcs, hx, _, _, _, hlen, _⟩
  · simp [Value.cells] at hcs
    obtain ⟨_, rfl, _⟩ := hcs
    omega
  · simp [Value.cells] at hcs
    obtain ⟨_, rfl, _⟩ := hcs
    have h1 := hs _ _ (congrArg Prod.fst hx)
    rw [hby, List.length_map, hlen] at h1
    have h2 := reachBytes_lt
    omega
end

end Go.Proofs.Ytlpjpnlfmjehnaa
