/-
  No cell of these rows narrows 'for every input' (looked for: loops, veiled, ifaces, maps, wideKeys, modest, calm, conditions, laid).
  DERIVED. THE GIVEN ROWS OF THIS SEAT. 6 by the template 'for every input the law returns true; each argument reads behind the call as it read before'; 0 by the template 'total and deterministic' (their statements: YtgnfiakbcogdlajTotals.lean).
  GIVEN WITH THE SEED: the statements are not yours to turn. If you find one false, say at which input.
  Laid BY PROGRAM, IN A SANDBOX (cutbox-rows.mjs): the forced cells as the released guide's own fill.sh prints them over the translation e31f0410fde68cce… (all of the seat's roots in one cut). By AI agents, Wed Nov 11 2026. No macro, syntax, notation, axiom, sorry.
-/
import Derived.Test.YtgnfiakbcogdlajChecked
import GoSem.Claim
import GoSem.ClaimJoined
import GoSem.ClaimMapViews
import Derived.JoinedTies
import Derived.KernelRfl
namespace Go.Proofs.Ytgnfiakbcogdlaj
/- THE CELL 'sum', in the pinned program and in every row, IS THE sha256 OF THE DUMP (.gsa) THAT YtgnfiakbcogdlajProg.lean LOADS. Nothing in Lean hashes anything: it is a label: what it is worth is what the hold of that sum in a sandbox is worth. -/
noncomputable def Try.pinned : Pinned := { name := "ytgnfiakbcogdlaj", sum := "e31f0410fde68cceee45ae4e26bbbca465f535f9cb390694eebc130fafd3d6b2", checked := Try.checked }
namespace Rows
def none {H : Type} : Left H := { results := [], args := [] }

/-- 'laws.FnExactLastAt': WHATEVER THE INPUT: true; the input reads as it did. -/
def fnExactLastAtSpec : ChangeSpec := { name := "fnExactLastAt", fn := fun _ => fun
  | [d1, d2] => { results := [.lit (.bool true)], args := [d1, d2] }
  | _ => none }
def fnExactLastAtRow : OpenClaim := { program := "ytgnfiakbcogdlaj", sum := "e31f0410fde68cceee45ae4e26bbbca465f535f9cb390694eebc130fafd3d6b2", func := "loop.example/g00689/laws.FnExactLastAt", spec := "fnExactLastAt", plainKeys := false, apart := false }
def FnExactLastAtSaid : Prop := fnExactLastAtRow.holds Try.pinned (OpenSpec.ofChange fnExactLastAtSpec)

/-- ITS FALSE NEIGHBOUR: 'it returns false'. Refute it at one input. -/
def fnExactLastAtWrong : ChangeSpec := { name := "fnExactLastAt", fn := fun _ => fun
  | [d1, d2] => { results := [.lit (.bool false)], args := [d1, d2] }
  | _ => none }
def FnExactLastAtWrongFalsely : Prop := fnExactLastAtRow.holds Try.pinned (OpenSpec.ofChange fnExactLastAtWrong)

/-- 'laws.FnExactInstall': WHATEVER THE INPUT: true; the input reads as it did. -/
def fnExactInstallSpec : ChangeSpec := { name := "fnExactInstall", fn := fun _ => fun
  | [d1, d2, d3] => { results := [.lit (.bool true)], args := [d1, d2, d3] }
  | _ => none }
def fnExactInstallRow : OpenClaim := { program := "ytgnfiakbcogdlaj", sum := "e31f0410fde68cceee45ae4e26bbbca465f535f9cb390694eebc130fafd3d6b2", func := "loop.example/g00689/laws.FnExactInstall", spec := "fnExactInstall", unfollowed := true, recurses := true, plainKeys := false, apart := false }
def FnExactInstallSaid : Prop := fnExactInstallRow.holds Try.pinned (OpenSpec.ofChange fnExactInstallSpec)

/-- ITS FALSE NEIGHBOUR: 'it returns false'. Refute it at one input. -/
def fnExactInstallWrong : ChangeSpec := { name := "fnExactInstall", fn := fun _ => fun
  | [d1, d2, d3] => { results := [.lit (.bool false)], args := [d1, d2, d3] }
  | _ => none }
def FnExactInstallWrongFalsely : Prop := fnExactInstallRow.holds Try.pinned (OpenSpec.ofChange fnExactInstallWrong)

/-- 'laws.FnExactPrune': WHATEVER THE INPUT: true; the input reads as it did. -/
def fnExactPruneSpec : ChangeSpec := { name := "fnExactPrune", fn := fun _ => fun
  | [d1, d2] => { results := [.lit (.bool true)], args := [d1, d2] }
  | _ => none }
def fnExactPruneRow : OpenClaim := { program := "ytgnfiakbcogdlaj", sum := "e31f0410fde68cceee45ae4e26bbbca465f535f9cb390694eebc130fafd3d6b2", func := "loop.example/g00689/laws.FnExactPrune", spec := "fnExactPrune", unfollowed := true, recurses := true, plainKeys := false, apart := false }
def FnExactPruneSaid : Prop := fnExactPruneRow.holds Try.pinned (OpenSpec.ofChange fnExactPruneSpec)

/-- ITS FALSE NEIGHBOUR: 'it returns false'. Refute it at one input. -/
def fnExactPruneWrong : ChangeSpec := { name := "fnExactPrune", fn := fun _ => fun
  | [d1, d2] => { results := [.lit (.bool false)], args := [d1, d2] }
  | _ => none }
def FnExactPruneWrongFalsely : Prop := fnExactPruneRow.holds Try.pinned (OpenSpec.ofChange fnExactPruneWrong)

/-- 'laws.FnExactStateAt': WHATEVER THE INPUT: true; the input reads as it did. -/
def fnExactStateAtSpec : ChangeSpec := { name := "fnExactStateAt", fn := fun _ => fun
  | [d1, d2] => { results := [.lit (.bool true)], args := [d1, d2] }
  | _ => none }
def fnExactStateAtRow : OpenClaim := { program := "ytgnfiakbcogdlaj", sum := "e31f0410fde68cceee45ae4e26bbbca465f535f9cb390694eebc130fafd3d6b2", func := "loop.example/g00689/laws.FnExactStateAt", spec := "fnExactStateAt", plainKeys := false, apart := false }
def FnExactStateAtSaid : Prop := fnExactStateAtRow.holds Try.pinned (OpenSpec.ofChange fnExactStateAtSpec)

/-- ITS FALSE NEIGHBOUR: 'it returns false'. Refute it at one input. -/
def fnExactStateAtWrong : ChangeSpec := { name := "fnExactStateAt", fn := fun _ => fun
  | [d1, d2] => { results := [.lit (.bool false)], args := [d1, d2] }
  | _ => none }
def FnExactStateAtWrongFalsely : Prop := fnExactStateAtRow.holds Try.pinned (OpenSpec.ofChange fnExactStateAtWrong)

/-- 'laws.FnExactMgrOk': WHATEVER THE INPUT: true; the input reads as it did. -/
def fnExactMgrOkSpec : ChangeSpec := { name := "fnExactMgrOk", fn := fun _ => fun
  | [d] => { results := [.lit (.bool true)], args := [d] }
  | _ => none }
def fnExactMgrOkRow : OpenClaim := { program := "ytgnfiakbcogdlaj", sum := "e31f0410fde68cceee45ae4e26bbbca465f535f9cb390694eebc130fafd3d6b2", func := "loop.example/g00689/laws.FnExactMgrOk", spec := "fnExactMgrOk", plainKeys := false, apart := false }
def FnExactMgrOkSaid : Prop := fnExactMgrOkRow.holds Try.pinned (OpenSpec.ofChange fnExactMgrOkSpec)

/-- ITS FALSE NEIGHBOUR: 'it returns false'. Refute it at one input. -/
def fnExactMgrOkWrong : ChangeSpec := { name := "fnExactMgrOk", fn := fun _ => fun
  | [d] => { results := [.lit (.bool false)], args := [d] }
  | _ => none }
def FnExactMgrOkWrongFalsely : Prop := fnExactMgrOkRow.holds Try.pinned (OpenSpec.ofChange fnExactMgrOkWrong)

/-- 'laws.FnExactMgrNew': WHATEVER THE INPUT: true; the input reads as it did. -/
def fnExactMgrNewSpec : ChangeSpec := { name := "fnExactMgrNew", fn := fun _ => fun
  | [] => { results := [.lit (.bool true)], args := [] }
  | _ => none }
def fnExactMgrNewRow : OpenClaim := { program := "ytgnfiakbcogdlaj", sum := "e31f0410fde68cceee45ae4e26bbbca465f535f9cb390694eebc130fafd3d6b2", func := "loop.example/g00689/laws.FnExactMgrNew", spec := "fnExactMgrNew", plainKeys := false, apart := false }
def FnExactMgrNewSaid : Prop := fnExactMgrNewRow.holds Try.pinned (OpenSpec.ofChange fnExactMgrNewSpec)

/-- ITS FALSE NEIGHBOUR: 'it returns false'. Refute it at one input. -/
def fnExactMgrNewWrong : ChangeSpec := { name := "fnExactMgrNew", fn := fun _ => fun
  | [] => { results := [.lit (.bool false)], args := [] }
  | _ => none }
def FnExactMgrNewWrongFalsely : Prop := fnExactMgrNewRow.holds Try.pinned (OpenSpec.ofChange fnExactMgrNewWrong)

/- THE SECOND FORM. 'bulk': how many values and letters a reading holds, each counted each time it is reached (what is shared counts as often as it is met; a slice's spare places count too). A statement '..UptoSaid' is the law's where the arguments, and the package variables that the reading takes, are together of bulk at most 1048576: NARROWER than '..Said'. Prove '..Said' where nothing that the law and all that it calls make is longer than what came in: it says more and counts as full. Else prove '..UptoSaid'. A law counts once. -/
mutual
def uptoBulk {H : Type} : DataW H → Nat
  | .lit (.string bytes) => bytes.length + 1
  | .lit _ => 1
  | .nil => 1
  | .ptr d => uptoBulk d + 1
  | .slice elems spare => uptoBulkAll elems + uptoBulkAll spare + 1
  | .agg parts => uptoBulkAll parts + 1
  | .iface _ d => uptoBulk d + 1
  | .map entries => uptoBulkEntries entries + 1
  | .held _ => 1
def uptoBulkAll {H : Type} : List (DataW H) → Nat
  | [] => 0
  | d :: r => uptoBulk d + uptoBulkAll r
def uptoBulkEntries {H : Type} : List (Lit × DataW H) → Nat
  | [] => 0
  | x :: r => uptoBulkEntry x + uptoBulkEntries r
def uptoBulkEntry {H : Type} : Lit × DataW H → Nat
  | (.string bytes, d) => bytes.length + uptoBulk d + 1
  | (_, d) => uptoBulk d + 1
 end
def uptoSmall : (H : Type) → List (DataW H) → Bool := fun _ ds => decide (uptoBulkAll ds ≤ 1048576)
def OpenSpec.upto (s : _root_.Go.ChangeSpec) : _root_.Go.OpenSpec := { _root_.Go.OpenSpec.ofChange s with cond := some uptoSmall }

/-- 'laws.FnExactLastAt', WHERE WHAT IT READS IS OF BULK AT MOST 1048576: true; the input reads as it did. -/
def fnExactLastAtUptoRow : OpenClaim := { program := "ytgnfiakbcogdlaj", sum := "e31f0410fde68cceee45ae4e26bbbca465f535f9cb390694eebc130fafd3d6b2", func := "loop.example/g00689/laws.FnExactLastAt", spec := "fnExactLastAt", plainKeys := false, apart := false, narrowed := true }
def FnExactLastAtUptoSaid : Prop := fnExactLastAtUptoRow.holds Try.pinned (OpenSpec.upto fnExactLastAtSpec)

/-- 'laws.FnExactInstall', WHERE WHAT IT READS IS OF BULK AT MOST 1048576: true; the input reads as it did. -/
def fnExactInstallUptoRow : OpenClaim := { program := "ytgnfiakbcogdlaj", sum := "e31f0410fde68cceee45ae4e26bbbca465f535f9cb390694eebc130fafd3d6b2", func := "loop.example/g00689/laws.FnExactInstall", spec := "fnExactInstall", unfollowed := true, recurses := true, plainKeys := false, apart := false, narrowed := true }
def FnExactInstallUptoSaid : Prop := fnExactInstallUptoRow.holds Try.pinned (OpenSpec.upto fnExactInstallSpec)

/-- 'laws.FnExactPrune', WHERE WHAT IT READS IS OF BULK AT MOST 1048576: true; the input reads as it did. -/
def fnExactPruneUptoRow : OpenClaim := { program := "ytgnfiakbcogdlaj", sum := "e31f0410fde68cceee45ae4e26bbbca465f535f9cb390694eebc130fafd3d6b2", func := "loop.example/g00689/laws.FnExactPrune", spec := "fnExactPrune", unfollowed := true, recurses := true, plainKeys := false, apart := false, narrowed := true }
def FnExactPruneUptoSaid : Prop := fnExactPruneUptoRow.holds Try.pinned (OpenSpec.upto fnExactPruneSpec)

/-- 'laws.FnExactStateAt', WHERE WHAT IT READS IS OF BULK AT MOST 1048576: true; the input reads as it did. -/
def fnExactStateAtUptoRow : OpenClaim := { program := "ytgnfiakbcogdlaj", sum := "e31f0410fde68cceee45ae4e26bbbca465f535f9cb390694eebc130fafd3d6b2", func := "loop.example/g00689/laws.FnExactStateAt", spec := "fnExactStateAt", plainKeys := false, apart := false, narrowed := true }
def FnExactStateAtUptoSaid : Prop := fnExactStateAtUptoRow.holds Try.pinned (OpenSpec.upto fnExactStateAtSpec)

/-- 'laws.FnExactMgrOk', WHERE WHAT IT READS IS OF BULK AT MOST 1048576: true; the input reads as it did. -/
def fnExactMgrOkUptoRow : OpenClaim := { program := "ytgnfiakbcogdlaj", sum := "e31f0410fde68cceee45ae4e26bbbca465f535f9cb390694eebc130fafd3d6b2", func := "loop.example/g00689/laws.FnExactMgrOk", spec := "fnExactMgrOk", plainKeys := false, apart := false, narrowed := true }
def FnExactMgrOkUptoSaid : Prop := fnExactMgrOkUptoRow.holds Try.pinned (OpenSpec.upto fnExactMgrOkSpec)

/-- 'laws.FnExactMgrNew', WHERE WHAT IT READS IS OF BULK AT MOST 1048576: true; the input reads as it did. -/
def fnExactMgrNewUptoRow : OpenClaim := { program := "ytgnfiakbcogdlaj", sum := "e31f0410fde68cceee45ae4e26bbbca465f535f9cb390694eebc130fafd3d6b2", func := "loop.example/g00689/laws.FnExactMgrNew", spec := "fnExactMgrNew", plainKeys := false, apart := false, narrowed := true }
def FnExactMgrNewUptoSaid : Prop := fnExactMgrNewUptoRow.holds Try.pinned (OpenSpec.upto fnExactMgrNewSpec)

end Rows
end Go.Proofs.Ytgnfiakbcogdlaj
