/- What the functions of package between are to answer. -/
import Derived.Test.YtcebbhfpnkhlmaaBt
import Derived.Test.YtcebbhfpnkhlmaaExt
namespace Go.Proofs.Ytcebbhfpnkhlmaa
open Go.RowKit

/-- The answers of Least and Most. -/
def leastL (f : List Bool) (keep : Nat) : List Bool := tabB f.length fun s => someP (atB f) keep s f.length
def mostL (f : List Bool) (keep : Nat) : List Bool := tabB f.length fun s => allP (atB f) keep s f.length
/-- The code of Between. -/
noncomputable def codeB (n : Int) (f g : List Bool) (sh : Nat) : Int := if codeK n f.length g.length sh = 0 then (if folB (fun s => someP (atB f) sh s f.length) (atB g) f.length = true then 0 else 5) else codeK n f.length g.length sh

/-- The contract of Follows. -/
def KFollowsOk (fn : Nat) : Prop :=
  ∀ (n : Int) (f : List Bool) (A : Option Addr) (c : Nat) (g : List Bool) (A2 : Option Addr) (c2 : Nat) (w : World), f.length ≤ maxLen → Row w A (boolsC f) → g.length ≤ maxLen → Row w A2 (boolsC g) → Laid w →
    Calls Try.prog fn #[.int .i64 n, .slice A f.length c, .slice A2 g.length c2] w fun e w' => e = .returned (.tuple #[.bool (codeK n f.length g.length 0 == 0 && folB (atB f) (atB g) f.length), .int .i64 (codeK n f.length g.length 0)]) ∧ Below w.heap.size w w'
/-- The contract of Least, and of Most. -/
def KListOk (fn : Nat) (L : List Bool → Nat → List Bool) : Prop :=
  ∀ (n : Int) (f : List Bool) (A : Option Addr) (c keep : Nat) (w : World), keep < 4294967296 → f.length ≤ maxLen → Row w A (boolsC f) → Laid w →
    Calls Try.prog fn #[.int .i64 n, .slice A f.length c, .int .u32 keep] w fun e w' => ∃ (A2 : Option Addr) (c2 : Nat) (l : List Bool), e = .returned (.tuple #[.slice A2 l.length c2, .int .i64 (codeK n f.length f.length keep)]) ∧ l = (if codeK n f.length f.length keep = 0 then L f keep else []) ∧ Row w' A2 (boolsC l) ∧ Below w.heap.size w w'
def KLeastOk (fn : Nat) : Prop := KListOk fn leastL
def KMostOk (fn : Nat) : Prop := KListOk fn mostL
/-- The contract of Between. -/
def KBetweenOk (fn : Nat) : Prop :=
  ∀ (n : Int) (f : List Bool) (A : Option Addr) (c : Nat) (g : List Bool) (A2 : Option Addr) (c2 sh : Nat) (w : World), sh < 4294967296 → f.length ≤ maxLen → Row w A (boolsC f) → g.length ≤ maxLen → Row w A2 (boolsC g) → Laid w →
    Calls Try.prog fn #[.int .i64 n, .slice A f.length c, .slice A2 g.length c2, .int .u32 sh] w fun e w' => ∃ (A3 : Option Addr) (c3 : Nat) (l : List Bool), e = .returned (.tuple #[.slice A3 l.length c3, .int .i64 (codeB n f g sh)]) ∧ l = (if codeB n f g sh = 0 then leastL f sh else []) ∧ Row w' A3 (boolsC l) ∧ Below w.heap.size w w'
/-- The contract of Told. -/
def KToldOk (fn : Nat) : Prop :=
  ∀ (n : Int) (f : List Bool) (A : Option Addr) (c : Nat) (v : Int) (w : World), f.length ≤ maxLen → Row w A (boolsC f) → Laid w →
    Calls Try.prog fn #[.int .i64 n, .slice A f.length c, .int .i64 v] w fun e w' => e = .returned (.tuple #[.bool (codeV n f.length v == 0 && toldP (atB f) v.toNat f.length), .int .i64 (codeV n f.length v)]) ∧ Below w.heap.size w w'

end Go.Proofs.Ytcebbhfpnkhlmaa
