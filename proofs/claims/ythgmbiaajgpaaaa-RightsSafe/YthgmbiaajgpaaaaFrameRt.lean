/- Arguments opened: a matrix of rights; a slice of rules. -/
import Derived.Test.YthgmbiaajgpaaaaFrameG
import Derived.Test.YthgmbiaajgpaaaaFrameU
import Derived.Test.YthgmbiaajgpaaaaMx
namespace Go.Proofs.Ythgmbiaajgpaaaa
open Go.ChangeShapes Go.WideShapes Go.ChangeAt Go.RowKit Go.Deep

section
variable {H : Type} {enc : TypeId × Value → H} {P : Program} {w : World} {base : Nat} {held : Bool}
theorem open_mats {t e b : TypeId} {A : Option Addr} {len cap fuel : Nat} {x : DataW H × List MemPlace}
    (ht : P.underlying t = some (.slice e)) (he : P.underlying e = some (.slice b)) (hb : P.underlying b = some (.int .u32)) (hc : P.cellsOf e = 1) (hcb : P.cellsOf b = 1)
    (h : DataW.trod enc P w base (fun _ => true) held fuel t (Value.slice A len cap).cells.toList = some x) :
    ∃ m : Mat, m.length = len ∧ len ≤ maxLen ∧ Mats w A m := by
  obtain ⟨ys, h1, h2, h3, h4⟩ := open_list (α := MRow) 1 (by decide) (fun y => [rowV y]) (fun _ => rfl) (fun y => y.at w) ht hc (fun m cs D hd _ => by
    rcases open_slice he hd with ⟨hcs, _⟩ | ⟨a, l, c, m', n', D', Pl', hcs, _⟩
    · exact ⟨([], none, 0), ⟨by simp, by simp [maxLen], by simp, .inl rfl⟩, hcs⟩
    · have hd2 := hd
      rw [hcs] at hd2
      obtain ⟨xs, k1, k2, k3, k4⟩ := open_words (A := some a) (len := l) (cap := c) he hb hcb hd2
      have k5 := open_cap (A := some a) (len := l) (cap := c) he hd2
      exact ⟨(xs, some a, c), ⟨k3, by rw [k1]; exact k2, by rw [k1]; exact k5, k4⟩, by rw [hcs, ← k1]; rfl⟩) h
  exact ⟨ys.map (·.1), by simpa using h1, h2, ys, rfl, by rw [← flat_one]; exact h4, h3⟩
theorem open_chns {t e : TypeId} {f0 f1 f2 : Field} {A : Option Addr} {len cap fuel : Nat} {x : DataW H × List MemPlace}
    (ht : P.underlying t = some (.slice e)) (he : P.underlying e = some (.struct #[f0, f1, f2]))
    (hi0 : P.underlying f0.type = some (.int .u32)) (hi1 : P.underlying f1.type = some (.int .u32)) (hi2 : P.underlying f2.type = some (.int .u32))
    (p0 : f0.offset = 0 ∧ P.cellsOf f0.type = 1) (p1 : f1.offset = 1 ∧ P.cellsOf f1.type = 1) (p2 : f2.offset = 2 ∧ P.cellsOf f2.type = 1) (hc : P.cellsOf e = 3)
    (h : DataW.trod enc P w base (fun _ => true) held fuel t (Value.slice A len cap).cells.toList = some x) :
    ∃ l : List Chn, l.length = len ∧ len ≤ maxLen ∧ C32 l ∧ Row w A (chnsC l) := by
  haveI : Inhabited Chn := ⟨⟨0, 0, 0⟩⟩
  obtain ⟨ys, h1, h2, h3, h4⟩ := open_list 3 (by decide) chC (fun _ => rfl) (fun e => e.a < 4294967296 ∧ e.b < 4294967296 ∧ e.c < 4294967296) ht hc (fun m cs D hd hl => by
    obtain ⟨xs, n, _, _, _, hlen, hf⟩ := DataW.trod_struct he hd
    have k0 := hf 0 f0 rfl
    have k1 := hf 1 f1 rfl
    have k2 := hf 2 f2 rfl
    rw [p0.1, p0.2, List.getElem?_eq_getElem (by rw [hlen]; simp)] at k0
    rw [p1.1, p1.2, List.getElem?_eq_getElem (by rw [hlen]; simp)] at k1
    rw [p2.1, p2.2, List.getElem?_eq_getElem (by rw [hlen]; simp)] at k2
    match cs, hl with
    | [c0, c1, c2], _ =>
      simp at k0 k1 k2
      obtain ⟨z0, e0, _, w0⟩ := DataW.trod_int hi0 k0
      obtain ⟨z1, e1, _, w1⟩ := DataW.trod_int hi1 k1
      obtain ⟨z2, e2, _, w2⟩ := DataW.trod_int hi2 k2
      simp at e0 e1 e2
      subst e0 e1 e2
      obtain ⟨b0, c0⟩ := bounds_u32 w0
      obtain ⟨b1, c1⟩ := bounds_u32 w1
      obtain ⟨b2, c2⟩ := bounds_u32 w2
      obtain ⟨r0, rfl⟩ := Int.eq_ofNat_of_zero_le b0
      obtain ⟨r1, rfl⟩ := Int.eq_ofNat_of_zero_le b1
      obtain ⟨r2, rfl⟩ := Int.eq_ofNat_of_zero_le b2
      exact ⟨⟨r0, r1, r2⟩, ⟨by simp only; omega, by simp only; omega, by simp only; omega⟩, rfl⟩) h
  exact ⟨ys, h1, h2, h3, h4⟩
end

end Go.Proofs.Ythgmbiaajgpaaaa
