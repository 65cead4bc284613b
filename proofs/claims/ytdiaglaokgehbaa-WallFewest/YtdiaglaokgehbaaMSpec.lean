/- What mark.Play and low.Play are to answer. -/
import Derived.Test.YtdiaglaokgehbaaWM1b
import Derived.Test.YtdiaglaokgehbaaMk2
namespace Go.Proofs.Ytdiaglaokgehbaa
open Go.RowKit

/-- What a play comes to: the codes, the marks, what the things have; nothing where there is an error. -/
def MRes (up : Bool) (cs ts : List Lab) (ds : List Dd) (codes : List Int) (marks : List Lab) (fr : List Nat) : Prop :=
  if codeM cs ts ds.length = 0 then codes = (runM up (atL cs) (atL ts) cs.length ts.length ds).1 ∧ marks = tabA cs.length (runM up (atL cs) (atL ts) cs.length ts.length ds).2.mar ∧ fr = tabA ts.length (runM up (atL cs) (atL ts) cs.length ts.length ds).2.fr
  else codes = [] ∧ marks = [] ∧ fr = []
/-- The contract of Play. -/
def MPlayOk (fn : Nat) (up : Bool) : Prop :=
  ∀ (cs : List Lab) (A : Option Addr) (c : Nat) (ts : List Lab) (A2 : Option Addr) (c2 : Nat) (ds : List Dd) (A3 : Option Addr) (c3 : Nat) (w : World),
    cs.length ≤ maxLen → cs.length ≤ c → L32 cs → Row w A (labsC cs) → ts.length ≤ maxLen → ts.length ≤ c2 → L32 ts → Row w A2 (labsC ts) → ds.length ≤ maxLen → ds.length ≤ c3 → Row w A3 (deedsC ds) → Laid w →
    Calls Try.prog fn #[.slice A cs.length c, .slice A2 ts.length c2, .slice A3 ds.length c3] w fun e w' => ∃ (B1 : Option Addr) (k1 : Nat) (codes : List Int) (B2 : Option Addr) (k2 : Nat) (marks : List Lab) (B3 : Option Addr) (k3 : Nat) (fr : List Nat),
      e = .returned (.tuple #[.agg #[.slice B1 codes.length k1, .slice B2 marks.length k2, .slice B3 fr.length k3], .int .i64 (codeM cs ts ds.length)]) ∧ MRes up cs ts ds codes marks fr ∧ codes.length ≤ k1 ∧
      Row w' B1 (ints codes) ∧ Row w' B2 (labsC marks) ∧ Row w' B3 (words fr) ∧ Below w.heap.size w w'

end Go.Proofs.Ytdiaglaokgehbaa
