/- A struct that is built with a whole struct in front. -/
import Derived.Test.YtlpjpnlfmjehnaaWGo3
namespace Go.Proofs.Ytlpjpnlfmjehnaa
open Go.RowKit

theorem fold_set (off : Nat) : ∀ (l : List Value) (k : Nat) (z : Array Value), off + k + l.length ≤ z.size →
    ((l.zipIdx k).foldl (fun cs p => cs.setIfInBounds (off + p.2) p.1) z).toList = z.toList.take (off + k) ++ l ++ z.toList.drop (off + k + l.length)
  | [], k, z, _ => by simp
  | a :: l, k, z, h => by
    rw [List.length_cons] at h
    rw [List.zipIdx_cons, List.foldl_cons, fold_set off l (k + 1) _ (by rw [Array.size_setIfInBounds]; omega), Array.toList_setIfInBounds]
    rw [show off + (k + 1) = off + k + 1 by omega, List.take_set, List.drop_set_of_lt (by omega), List.length_cons]
    have hk : off + k < z.toList.length := by simpa using (by omega : off + k < z.size)
    rw [List.take_add_one, List.getElem?_eq_getElem hk, Option.toList, List.set_append_right _ _ (by rw [List.length_take]; exact Nat.min_le_left _ _), show off + k - (List.take (off + k) z.toList).length = 0 by rw [List.length_take]; omega]
    simp
    congr 1; omega
theorem infoPl : (Try.prog.info? 59).map (fun i => (i.zero, i.size)) = some (some (.agg (gA zG)), 197) := by kernel_rfl
theorem sizeGr : (Try.prog.info? 55).map (·.size) = some 197 := (zero_of_info infoGr).2
theorem build_pl (zs : Array Value) (h : zs.size = 197) (w : World) : (Instr.build 59 #[(0, .agg zs)]).run Try.prog w = .ok (.agg zs) w := by
  have hz := (zero_of_info infoPl).1
  have hu := Try.underlying59
  have hs : ∀ w, (sizeOf 55).run Try.prog w = .ok 197 w := fun w => by
    have := sizeGr
    unfold sizeOf typeInfo
    cases hq : Try.prog.info? 55 with
    | none => rw [hq] at this; cases this
    | some i => rw [hq] at this; simp at this; simp [hq, this]
  have hf : (zs.zipIdx.foldl (fun (cs : Array Value) (p : Value × Nat) => cs.setIfInBounds p.2 p.1) (gA zG) 0 197) = zs := by
    have := fold_set 0 zs.toList 0 (gA zG) (by rw [gA_size]; simp [h])
    apply Array.toList_inj.1
    simp only [Nat.zero_add, List.take_zero, List.nil_append] at this
    rw [List.drop_of_length_le (by have := gA_size zG; simp [h, this]), List.append_nil] at this
    rw [← this, ← h]
    simp [Array.foldl_toList, ← Array.toList_zipIdx]
  simp [Instr.build, hz, Sem.run_bind, run_underlying hu, hs, Value.cells, Instr.fill, h, gA_size, hf]

end Go.Proofs.Ytlpjpnlfmjehnaa
