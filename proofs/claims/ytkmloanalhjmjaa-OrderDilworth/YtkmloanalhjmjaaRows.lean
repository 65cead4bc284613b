/-
  No cell of these rows narrows 'for every input' (looked for: loops, veiled, ifaces, maps, wideKeys, modest, calm, conditions, laid).
  DERIVED. THE GIVEN ROWS OF THIS SEAT. 11 by the template 'for every input the law returns true; each argument reads behind the call as it read before'; 0 by the template 'total and deterministic' (their statements: YtkmloanalhjmjaaTotals.lean).
  GIVEN WITH THE SEED: the statements are not yours to turn. If you find one false, say at which input.
  Laid BY PROGRAM, IN A SANDBOX (cutbox-rows.mjs): the forced cells as the released guide's own fill.sh prints them over the translation 62dffed592be3c31… (all of the seat's roots in one cut). By AI agents, Wed Nov 11 2026. No macro, syntax, notation, axiom, sorry.
-/
import Derived.Test.YtkmloanalhjmjaaChecked
import GoSem.Claim
import GoSem.ClaimJoined
import GoSem.ClaimMapViews
import Derived.JoinedTies
import Derived.KernelRfl
namespace Go.Proofs.Ytkmloanalhjmjaa
/- THE CELL 'sum', in the pinned program and in every row, IS THE sha256 OF THE DUMP (.gsa) THAT YtkmloanalhjmjaaProg.lean LOADS. Nothing in Lean hashes anything: it is a label: what it is worth is what the hold of that sum in a sandbox is worth. -/
noncomputable def Try.pinned : Pinned := { name := "ytkmloanalhjmjaa", sum := "62dffed592be3c314ba1102af1c132a21e660ceb46481e10656f52650298c0f7", checked := Try.checked }
namespace Rows
def none {H : Type} : Left H := { results := [], args := [] }

/-- 'syllogistlaw.OrderTables': WHATEVER THE INPUT: true; the input reads as it did. -/
def orderTablesSpec : ChangeSpec := { name := "orderTables", fn := fun _ => fun
  | [d1, d2] => { results := [.lit (.bool true)], args := [d1, d2] }
  | _ => none }
def orderTablesRow : OpenClaim := { program := "ytkmloanalhjmjaa", sum := "62dffed592be3c314ba1102af1c132a21e660ceb46481e10656f52650298c0f7", func := "syllogist/syllogistlaw.OrderTables", spec := "orderTables", apart := false }
def OrderTablesSaid : Prop := orderTablesRow.holds Try.pinned (OpenSpec.ofChange orderTablesSpec)

/-- ITS FALSE NEIGHBOUR: 'it returns false'. Refute it at one input. -/
def orderTablesWrong : ChangeSpec := { name := "orderTables", fn := fun _ => fun
  | [d1, d2] => { results := [.lit (.bool false)], args := [d1, d2] }
  | _ => none }
def OrderTablesWrongFalsely : Prop := orderTablesRow.holds Try.pinned (OpenSpec.ofChange orderTablesWrong)

/-- 'syllogistlaw.OrderCovers': WHATEVER THE INPUT: true; the input reads as it did. -/
def orderCoversSpec : ChangeSpec := { name := "orderCovers", fn := fun _ => fun
  | [d1, d2] => { results := [.lit (.bool true)], args := [d1, d2] }
  | _ => none }
def orderCoversRow : OpenClaim := { program := "ytkmloanalhjmjaa", sum := "62dffed592be3c314ba1102af1c132a21e660ceb46481e10656f52650298c0f7", func := "syllogist/syllogistlaw.OrderCovers", spec := "orderCovers", apart := false }
def OrderCoversSaid : Prop := orderCoversRow.holds Try.pinned (OpenSpec.ofChange orderCoversSpec)

/-- ITS FALSE NEIGHBOUR: 'it returns false'. Refute it at one input. -/
def orderCoversWrong : ChangeSpec := { name := "orderCovers", fn := fun _ => fun
  | [d1, d2] => { results := [.lit (.bool false)], args := [d1, d2] }
  | _ => none }
def OrderCoversWrongFalsely : Prop := orderCoversRow.holds Try.pinned (OpenSpec.ofChange orderCoversWrong)

/-- 'syllogistlaw.OrderLines': WHATEVER THE INPUT: true; the input reads as it did. -/
def orderLinesSpec : ChangeSpec := { name := "orderLines", fn := fun _ => fun
  | [d1, d2] => { results := [.lit (.bool true)], args := [d1, d2] }
  | _ => none }
def orderLinesRow : OpenClaim := { program := "ytkmloanalhjmjaa", sum := "62dffed592be3c314ba1102af1c132a21e660ceb46481e10656f52650298c0f7", func := "syllogist/syllogistlaw.OrderLines", spec := "orderLines", recurses := true, apart := false }
def OrderLinesSaid : Prop := orderLinesRow.holds Try.pinned (OpenSpec.ofChange orderLinesSpec)

/-- ITS FALSE NEIGHBOUR: 'it returns false'. Refute it at one input. -/
def orderLinesWrong : ChangeSpec := { name := "orderLines", fn := fun _ => fun
  | [d1, d2] => { results := [.lit (.bool false)], args := [d1, d2] }
  | _ => none }
def OrderLinesWrongFalsely : Prop := orderLinesRow.holds Try.pinned (OpenSpec.ofChange orderLinesWrong)

/-- 'syllogistlaw.OrderChains': WHATEVER THE INPUT: true; the input reads as it did. -/
def orderChainsSpec : ChangeSpec := { name := "orderChains", fn := fun _ => fun
  | [d1, d2] => { results := [.lit (.bool true)], args := [d1, d2] }
  | _ => none }
def orderChainsRow : OpenClaim := { program := "ytkmloanalhjmjaa", sum := "62dffed592be3c314ba1102af1c132a21e660ceb46481e10656f52650298c0f7", func := "syllogist/syllogistlaw.OrderChains", spec := "orderChains", recurses := true, apart := false }
def OrderChainsSaid : Prop := orderChainsRow.holds Try.pinned (OpenSpec.ofChange orderChainsSpec)

/-- ITS FALSE NEIGHBOUR: 'it returns false'. Refute it at one input. -/
def orderChainsWrong : ChangeSpec := { name := "orderChains", fn := fun _ => fun
  | [d1, d2] => { results := [.lit (.bool false)], args := [d1, d2] }
  | _ => none }
def OrderChainsWrongFalsely : Prop := orderChainsRow.holds Try.pinned (OpenSpec.ofChange orderChainsWrong)

/-- 'syllogistlaw.OrderAparts': WHATEVER THE INPUT: true; the input reads as it did. -/
def orderApartsSpec : ChangeSpec := { name := "orderAparts", fn := fun _ => fun
  | [d1, d2] => { results := [.lit (.bool true)], args := [d1, d2] }
  | _ => none }
def orderApartsRow : OpenClaim := { program := "ytkmloanalhjmjaa", sum := "62dffed592be3c314ba1102af1c132a21e660ceb46481e10656f52650298c0f7", func := "syllogist/syllogistlaw.OrderAparts", spec := "orderAparts", apart := false }
def OrderApartsSaid : Prop := orderApartsRow.holds Try.pinned (OpenSpec.ofChange orderApartsSpec)

/-- ITS FALSE NEIGHBOUR: 'it returns false'. Refute it at one input. -/
def orderApartsWrong : ChangeSpec := { name := "orderAparts", fn := fun _ => fun
  | [d1, d2] => { results := [.lit (.bool false)], args := [d1, d2] }
  | _ => none }
def OrderApartsWrongFalsely : Prop := orderApartsRow.holds Try.pinned (OpenSpec.ofChange orderApartsWrong)

/-- 'syllogistlaw.OrderSplits': WHATEVER THE INPUT: true; the input reads as it did. -/
def orderSplitsSpec : ChangeSpec := { name := "orderSplits", fn := fun _ => fun
  | [d1, d2] => { results := [.lit (.bool true)], args := [d1, d2] }
  | _ => none }
def orderSplitsRow : OpenClaim := { program := "ytkmloanalhjmjaa", sum := "62dffed592be3c314ba1102af1c132a21e660ceb46481e10656f52650298c0f7", func := "syllogist/syllogistlaw.OrderSplits", spec := "orderSplits", recurses := true, apart := false }
def OrderSplitsSaid : Prop := orderSplitsRow.holds Try.pinned (OpenSpec.ofChange orderSplitsSpec)

/-- ITS FALSE NEIGHBOUR: 'it returns false'. Refute it at one input. -/
def orderSplitsWrong : ChangeSpec := { name := "orderSplits", fn := fun _ => fun
  | [d1, d2] => { results := [.lit (.bool false)], args := [d1, d2] }
  | _ => none }
def OrderSplitsWrongFalsely : Prop := orderSplitsRow.holds Try.pinned (OpenSpec.ofChange orderSplitsWrong)

/-- 'syllogistkeep.OrderTable': WHATEVER THE INPUT: true; the input reads as it did. -/
def orderTableSpec : ChangeSpec := { name := "orderTable", fn := fun _ => fun
  | [d1, d2] => { results := [.lit (.bool true)], args := [d1, d2] }
  | _ => none }
def orderTableRow : OpenClaim := { program := "ytkmloanalhjmjaa", sum := "62dffed592be3c314ba1102af1c132a21e660ceb46481e10656f52650298c0f7", func := "syllogist/syllogistkeep.OrderTable", spec := "orderTable", apart := false }
def OrderTableSaid : Prop := orderTableRow.holds Try.pinned (OpenSpec.ofChange orderTableSpec)

/-- ITS FALSE NEIGHBOUR: 'it returns false'. Refute it at one input. -/
def orderTableWrong : ChangeSpec := { name := "orderTable", fn := fun _ => fun
  | [d1, d2] => { results := [.lit (.bool false)], args := [d1, d2] }
  | _ => none }
def OrderTableWrongFalsely : Prop := orderTableRow.holds Try.pinned (OpenSpec.ofChange orderTableWrong)

/-- 'syllogistkeep.OrderCover': WHATEVER THE INPUT: true; the input reads as it did. -/
def orderCoverSpec : ChangeSpec := { name := "orderCover", fn := fun _ => fun
  | [d1, d2] => { results := [.lit (.bool true)], args := [d1, d2] }
  | _ => none }
def orderCoverRow : OpenClaim := { program := "ytkmloanalhjmjaa", sum := "62dffed592be3c314ba1102af1c132a21e660ceb46481e10656f52650298c0f7", func := "syllogist/syllogistkeep.OrderCover", spec := "orderCover", apart := false }
def OrderCoverSaid : Prop := orderCoverRow.holds Try.pinned (OpenSpec.ofChange orderCoverSpec)

/-- ITS FALSE NEIGHBOUR: 'it returns false'. Refute it at one input. -/
def orderCoverWrong : ChangeSpec := { name := "orderCover", fn := fun _ => fun
  | [d1, d2] => { results := [.lit (.bool false)], args := [d1, d2] }
  | _ => none }
def OrderCoverWrongFalsely : Prop := orderCoverRow.holds Try.pinned (OpenSpec.ofChange orderCoverWrong)

/-- 'syllogistkeep.OrderLine': WHATEVER THE INPUT: true; the input reads as it did. -/
def orderLineSpec : ChangeSpec := { name := "orderLine", fn := fun _ => fun
  | [d1, d2] => { results := [.lit (.bool true)], args := [d1, d2] }
  | _ => none }
def orderLineRow : OpenClaim := { program := "ytkmloanalhjmjaa", sum := "62dffed592be3c314ba1102af1c132a21e660ceb46481e10656f52650298c0f7", func := "syllogist/syllogistkeep.OrderLine", spec := "orderLine", apart := false }
def OrderLineSaid : Prop := orderLineRow.holds Try.pinned (OpenSpec.ofChange orderLineSpec)

/-- ITS FALSE NEIGHBOUR: 'it returns false'. Refute it at one input. -/
def orderLineWrong : ChangeSpec := { name := "orderLine", fn := fun _ => fun
  | [d1, d2] => { results := [.lit (.bool false)], args := [d1, d2] }
  | _ => none }
def OrderLineWrongFalsely : Prop := orderLineRow.holds Try.pinned (OpenSpec.ofChange orderLineWrong)

/-- 'syllogistkeep.OrderDilworth': WHATEVER THE INPUT: true; the input reads as it did. -/
def orderDilworthSpec : ChangeSpec := { name := "orderDilworth", fn := fun _ => fun
  | [d1, d2] => { results := [.lit (.bool true)], args := [d1, d2] }
  | _ => none }
def orderDilworthRow : OpenClaim := { program := "ytkmloanalhjmjaa", sum := "62dffed592be3c314ba1102af1c132a21e660ceb46481e10656f52650298c0f7", func := "syllogist/syllogistkeep.OrderDilworth", spec := "orderDilworth", recurses := true, apart := false }
def OrderDilworthSaid : Prop := orderDilworthRow.holds Try.pinned (OpenSpec.ofChange orderDilworthSpec)

/-- ITS FALSE NEIGHBOUR: 'it returns false'. Refute it at one input. -/
def orderDilworthWrong : ChangeSpec := { name := "orderDilworth", fn := fun _ => fun
  | [d1, d2] => { results := [.lit (.bool false)], args := [d1, d2] }
  | _ => none }
def OrderDilworthWrongFalsely : Prop := orderDilworthRow.holds Try.pinned (OpenSpec.ofChange orderDilworthWrong)

/-- 'syllogistkeep.OrderLong': WHATEVER THE INPUT: true; the input reads as it did. -/
def orderLongSpec : ChangeSpec := { name := "orderLong", fn := fun _ => fun
  | [d1, d2] => { results := [.lit (.bool true)], args := [d1, d2] }
  | _ => none }
def orderLongRow : OpenClaim := { program := "ytkmloanalhjmjaa", sum := "62dffed592be3c314ba1102af1c132a21e660ceb46481e10656f52650298c0f7", func := "syllogist/syllogistkeep.OrderLong", spec := "orderLong", apart := false }
def OrderLongSaid : Prop := orderLongRow.holds Try.pinned (OpenSpec.ofChange orderLongSpec)

/-- ITS FALSE NEIGHBOUR: 'it returns false'. Refute it at one input. -/
def orderLongWrong : ChangeSpec := { name := "orderLong", fn := fun _ => fun
  | [d1, d2] => { results := [.lit (.bool false)], args := [d1, d2] }
  | _ => none }
def OrderLongWrongFalsely : Prop := orderLongRow.holds Try.pinned (OpenSpec.ofChange orderLongWrong)

/- THE SECOND FORM. 'bulk': how many values and letters a reading holds, each counted each time it is reached (what is shared counts as often as it is met; a slice's spare places count too). A statement '..UptoSaid' is the law's where the arguments, and the package variables that the reading takes, are together of bulk at most 1048576: NARROWER than '..Said'. Prove '..Said' where nothing that the law and all that it calls make is longer than what came in: it says more and counts as full. Else prove '..UptoSaid'. A law counts once. -/
mutual
def uptoBulk {H : Type} : DataW H → Nat
  | .lit (.string bytes) => bytes.length + 1
  | .lit _ => 1
  | .nil => 1
  | .ptr d => uptoBulk d + 1
  | .slice elems spare => uptoBulkAll elems + uptoBulkAll spare + 1
  | .agg parts => uptoBulkAll parts + 1
  | .iface _ d => uptoBulk d + 1
  | .map entries => uptoBulkEntries entries + 1
  | .held _ => 1
def uptoBulkAll {H : Type} : List (DataW H) → Nat
  | [] => 0
  | d :: r => uptoBulk d + uptoBulkAll r
def uptoBulkEntries {H : Type} : List (Lit × DataW H) → Nat
  | [] => 0
  | x :: r => uptoBulkEntry x + uptoBulkEntries r
def uptoBulkEntry {H : Type} : Lit × DataW H → Nat
  | (.string bytes, d) => bytes.length + uptoBulk d + 1
  | (_, d) => uptoBulk d + 1
 end
def uptoSmall : (H : Type) → List (DataW H) → Bool := fun _ ds => decide (uptoBulkAll ds ≤ 1048576)
def OpenSpec.upto (s : _root_.Go.ChangeSpec) : _root_.Go.OpenSpec := { _root_.Go.OpenSpec.ofChange s with cond := some uptoSmall }

/-- 'syllogistlaw.OrderTables', WHERE WHAT IT READS IS OF BULK AT MOST 1048576: true; the input reads as it did. -/
def orderTablesUptoRow : OpenClaim := { program := "ytkmloanalhjmjaa", sum := "62dffed592be3c314ba1102af1c132a21e660ceb46481e10656f52650298c0f7", func := "syllogist/syllogistlaw.OrderTables", spec := "orderTables", apart := false, narrowed := true }
def OrderTablesUptoSaid : Prop := orderTablesUptoRow.holds Try.pinned (OpenSpec.upto orderTablesSpec)

/-- 'syllogistlaw.OrderCovers', WHERE WHAT IT READS IS OF BULK AT MOST 1048576: true; the input reads as it did. -/
def orderCoversUptoRow : OpenClaim := { program := "ytkmloanalhjmjaa", sum := "62dffed592be3c314ba1102af1c132a21e660ceb46481e10656f52650298c0f7", func := "syllogist/syllogistlaw.OrderCovers", spec := "orderCovers", apart := false, narrowed := true }
def OrderCoversUptoSaid : Prop := orderCoversUptoRow.holds Try.pinned (OpenSpec.upto orderCoversSpec)

/-- 'syllogistlaw.OrderLines', WHERE WHAT IT READS IS OF BULK AT MOST 1048576: true; the input reads as it did. -/
def orderLinesUptoRow : OpenClaim := { program := "ytkmloanalhjmjaa", sum := "62dffed592be3c314ba1102af1c132a21e660ceb46481e10656f52650298c0f7", func := "syllogist/syllogistlaw.OrderLines", spec := "orderLines", recurses := true, apart := false, narrowed := true }
def OrderLinesUptoSaid : Prop := orderLinesUptoRow.holds Try.pinned (OpenSpec.upto orderLinesSpec)

/-- 'syllogistlaw.OrderChains', WHERE WHAT IT READS IS OF BULK AT MOST 1048576: true; the input reads as it did. -/
def orderChainsUptoRow : OpenClaim := { program := "ytkmloanalhjmjaa", sum := "62dffed592be3c314ba1102af1c132a21e660ceb46481e10656f52650298c0f7", func := "syllogist/syllogistlaw.OrderChains", spec := "orderChains", recurses := true, apart := false, narrowed := true }
def OrderChainsUptoSaid : Prop := orderChainsUptoRow.holds Try.pinned (OpenSpec.upto orderChainsSpec)

/-- 'syllogistlaw.OrderAparts', WHERE WHAT IT READS IS OF BULK AT MOST 1048576: true; the input reads as it did. -/
def orderApartsUptoRow : OpenClaim := { program := "ytkmloanalhjmjaa", sum := "62dffed592be3c314ba1102af1c132a21e660ceb46481e10656f52650298c0f7", func := "syllogist/syllogistlaw.OrderAparts", spec := "orderAparts", apart := false, narrowed := true }
def OrderApartsUptoSaid : Prop := orderApartsUptoRow.holds Try.pinned (OpenSpec.upto orderApartsSpec)

/-- 'syllogistlaw.OrderSplits', WHERE WHAT IT READS IS OF BULK AT MOST 1048576: true; the input reads as it did. -/
def orderSplitsUptoRow : OpenClaim := { program := "ytkmloanalhjmjaa", sum := "62dffed592be3c314ba1102af1c132a21e660ceb46481e10656f52650298c0f7", func := "syllogist/syllogistlaw.OrderSplits", spec := "orderSplits", recurses := true, apart := false, narrowed := true }
def OrderSplitsUptoSaid : Prop := orderSplitsUptoRow.holds Try.pinned (OpenSpec.upto orderSplitsSpec)

/-- 'syllogistkeep.OrderTable', WHERE WHAT IT READS IS OF BULK AT MOST 1048576: true; the input reads as it did. -/
def orderTableUptoRow : OpenClaim := { program := "ytkmloanalhjmjaa", sum := "62dffed592be3c314ba1102af1c132a21e660ceb46481e10656f52650298c0f7", func := "syllogist/syllogistkeep.OrderTable", spec := "orderTable", apart := false, narrowed := true }
def OrderTableUptoSaid : Prop := orderTableUptoRow.holds Try.pinned (OpenSpec.upto orderTableSpec)

/-- 'syllogistkeep.OrderCover', WHERE WHAT IT READS IS OF BULK AT MOST 1048576: true; the input reads as it did. -/
def orderCoverUptoRow : OpenClaim := { program := "ytkmloanalhjmjaa", sum := "62dffed592be3c314ba1102af1c132a21e660ceb46481e10656f52650298c0f7", func := "syllogist/syllogistkeep.OrderCover", spec := "orderCover", apart := false, narrowed := true }
def OrderCoverUptoSaid : Prop := orderCoverUptoRow.holds Try.pinned (OpenSpec.upto orderCoverSpec)

/-- 'syllogistkeep.OrderLine', WHERE WHAT IT READS IS OF BULK AT MOST 1048576: true; the input reads as it did. -/
def orderLineUptoRow : OpenClaim := { program := "ytkmloanalhjmjaa", sum := "62dffed592be3c314ba1102af1c132a21e660ceb46481e10656f52650298c0f7", func := "syllogist/syllogistkeep.OrderLine", spec := "orderLine", apart := false, narrowed := true }
def OrderLineUptoSaid : Prop := orderLineUptoRow.holds Try.pinned (OpenSpec.upto orderLineSpec)

/-- 'syllogistkeep.OrderDilworth', WHERE WHAT IT READS IS OF BULK AT MOST 1048576: true; the input reads as it did. -/
def orderDilworthUptoRow : OpenClaim := { program := "ytkmloanalhjmjaa", sum := "62dffed592be3c314ba1102af1c132a21e660ceb46481e10656f52650298c0f7", func := "syllogist/syllogistkeep.OrderDilworth", spec := "orderDilworth", recurses := true, apart := false, narrowed := true }
def OrderDilworthUptoSaid : Prop := orderDilworthUptoRow.holds Try.pinned (OpenSpec.upto orderDilworthSpec)

/-- 'syllogistkeep.OrderLong', WHERE WHAT IT READS IS OF BULK AT MOST 1048576: true; the input reads as it did. -/
def orderLongUptoRow : OpenClaim := { program := "ytkmloanalhjmjaa", sum := "62dffed592be3c314ba1102af1c132a21e660ceb46481e10656f52650298c0f7", func := "syllogist/syllogistkeep.OrderLong", spec := "orderLong", apart := false, narrowed := true }
def OrderLongUptoSaid : Prop := orderLongUptoRow.holds Try.pinned (OpenSpec.upto orderLongSpec)

end Rows
end Go.Proofs.Ytkmloanalhjmjaa
