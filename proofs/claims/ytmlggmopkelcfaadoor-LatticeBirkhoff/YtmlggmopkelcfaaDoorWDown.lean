/- syllogistref.Down, and the law's code. -/
import Derived.Test.YtmlggmopkelcfaaDoorDowns
namespace Go.Proofs.YtmlggmopkelcfaaDoor
open Go.RowKit

/-- The code that the errors give of functions of an order and a set. -/
noncomputable def codeS (n : Int) (ps : List (Int × Int)) (s : Nat) : Int := if code n ps = 0 then (if s < one n.toNat then 0 else 4) else code n ps
theorem codeS_err {n : Int} {ps : List (Int × Int)} {s : Nat} (h : code n ps ≠ 0) : codeS n ps s = code n ps := by simp [codeS, h]
theorem codeS_no {n : Nat} {ps : List (Int × Int)} {s : Nat} (h : code n ps = 0) (k : ¬ s < one n) : codeS n ps s = 4 := by simp [codeS, h, k]
theorem codeS_ok {n : Nat} {ps : List (Int × Int)} {s : Nat} (h : code n ps = 0) (k : s < one n) : codeS n ps s = 0 := by simp [codeS, h, k]
end Go.Proofs.YtmlggmopkelcfaaDoor
