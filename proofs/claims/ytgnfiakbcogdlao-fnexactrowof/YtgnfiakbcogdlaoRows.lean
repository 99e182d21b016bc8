/-
  No cell of these rows narrows 'for every input' (looked for: loops, veiled, ifaces, maps, wideKeys, modest, calm, conditions, laid).
  DERIVED. THE GIVEN ROWS OF THIS SEAT. 5 by the template 'for every input the law returns true; each argument reads behind the call as it read before'; 0 by the template 'total and deterministic' (their statements: YtgnfiakbcogdlaoTotals.lean).
  GIVEN WITH THE SEED: the statements are not yours to turn. If you find one false, say at which input.
  Laid BY PROGRAM, IN A SANDBOX (cutbox-rows.mjs): the forced cells as the released guide's own fill.sh prints them over the translation 288a1bcd620d7450… (all of the seat's roots in one cut). By AI agents, Wed Nov 11 2026. No macro, syntax, notation, axiom, sorry.
-/
import Derived.Test.YtgnfiakbcogdlaoChecked
import GoSem.Claim
import GoSem.ClaimJoined
import GoSem.ClaimMapViews
import Derived.JoinedTies
import Derived.KernelRfl
namespace Go.Proofs.Ytgnfiakbcogdlao
/- THE CELL 'sum', in the pinned program and in every row, IS THE sha256 OF THE DUMP (.gsa) THAT YtgnfiakbcogdlaoProg.lean LOADS. Nothing in Lean hashes anything: it is a label: what it is worth is what the hold of that sum in a sandbox is worth. -/
noncomputable def Try.pinned : Pinned := { name := "ytgnfiakbcogdlao", sum := "288a1bcd620d74509309452e44be5afdf7d37e552e1c3cffdb2b11fb5abf7c42", checked := Try.checked }
namespace Rows
def none {H : Type} : Left H := { results := [], args := [] }

/-- 'laws.FnExactPutRow': WHATEVER THE INPUT: true; the input reads as it did. -/
def fnExactPutRowSpec : ChangeSpec := { name := "fnExactPutRow", fn := fun _ => fun
  | [d1, d2, d3] => { results := [.lit (.bool true)], args := [d1, d2, d3] }
  | _ => none }
def fnExactPutRowRow : OpenClaim := { program := "ytgnfiakbcogdlao", sum := "288a1bcd620d74509309452e44be5afdf7d37e552e1c3cffdb2b11fb5abf7c42", func := "loop.example/g00689/laws.FnExactPutRow", spec := "fnExactPutRow", unfollowed := true, recurses := true, plainKeys := false, apart := false }
def FnExactPutRowSaid : Prop := fnExactPutRowRow.holds Try.pinned (OpenSpec.ofChange fnExactPutRowSpec)

/-- ITS FALSE NEIGHBOUR: 'it returns false'. Refute it at one input. -/
def fnExactPutRowWrong : ChangeSpec := { name := "fnExactPutRow", fn := fun _ => fun
  | [d1, d2, d3] => { results := [.lit (.bool false)], args := [d1, d2, d3] }
  | _ => none }
def FnExactPutRowWrongFalsely : Prop := fnExactPutRowRow.holds Try.pinned (OpenSpec.ofChange fnExactPutRowWrong)

/-- 'laws.FnExactRowOf': WHATEVER THE INPUT: true; the input reads as it did. -/
def fnExactRowOfSpec : ChangeSpec := { name := "fnExactRowOf", fn := fun _ => fun
  | [d1, d2] => { results := [.lit (.bool true)], args := [d1, d2] }
  | _ => none }
def fnExactRowOfRow : OpenClaim := { program := "ytgnfiakbcogdlao", sum := "288a1bcd620d74509309452e44be5afdf7d37e552e1c3cffdb2b11fb5abf7c42", func := "loop.example/g00689/laws.FnExactRowOf", spec := "fnExactRowOf", plainKeys := false, apart := false }
def FnExactRowOfSaid : Prop := fnExactRowOfRow.holds Try.pinned (OpenSpec.ofChange fnExactRowOfSpec)

/-- ITS FALSE NEIGHBOUR: 'it returns false'. Refute it at one input. -/
def fnExactRowOfWrong : ChangeSpec := { name := "fnExactRowOf", fn := fun _ => fun
  | [d1, d2] => { results := [.lit (.bool false)], args := [d1, d2] }
  | _ => none }
def FnExactRowOfWrongFalsely : Prop := fnExactRowOfRow.holds Try.pinned (OpenSpec.ofChange fnExactRowOfWrong)

/-- 'laws.FnExactUserRows': WHATEVER THE INPUT: true; the input reads as it did. -/
def fnExactUserRowsSpec : ChangeSpec := { name := "fnExactUserRows", fn := fun _ => fun
  | [d] => { results := [.lit (.bool true)], args := [d] }
  | _ => none }
def fnExactUserRowsRow : OpenClaim := { program := "ytgnfiakbcogdlao", sum := "288a1bcd620d74509309452e44be5afdf7d37e552e1c3cffdb2b11fb5abf7c42", func := "loop.example/g00689/laws.FnExactUserRows", spec := "fnExactUserRows", unfollowed := true, recurses := true, plainKeys := false, apart := false }
def FnExactUserRowsSaid : Prop := fnExactUserRowsRow.holds Try.pinned (OpenSpec.ofChange fnExactUserRowsSpec)

/-- ITS FALSE NEIGHBOUR: 'it returns false'. Refute it at one input. -/
def fnExactUserRowsWrong : ChangeSpec := { name := "fnExactUserRows", fn := fun _ => fun
  | [d] => { results := [.lit (.bool false)], args := [d] }
  | _ => none }
def FnExactUserRowsWrongFalsely : Prop := fnExactUserRowsRow.holds Try.pinned (OpenSpec.ofChange fnExactUserRowsWrong)

/-- 'laws.FnExactCurOk': WHATEVER THE INPUT: true; the input reads as it did. -/
def fnExactCurOkSpec : ChangeSpec := { name := "fnExactCurOk", fn := fun _ => fun
  | [d1, d2] => { results := [.lit (.bool true)], args := [d1, d2] }
  | _ => none }
def fnExactCurOkRow : OpenClaim := { program := "ytgnfiakbcogdlao", sum := "288a1bcd620d74509309452e44be5afdf7d37e552e1c3cffdb2b11fb5abf7c42", func := "loop.example/g00689/laws.FnExactCurOk", spec := "fnExactCurOk", recurses := true, plainKeys := false, apart := false }
def FnExactCurOkSaid : Prop := fnExactCurOkRow.holds Try.pinned (OpenSpec.ofChange fnExactCurOkSpec)

/-- ITS FALSE NEIGHBOUR: 'it returns false'. Refute it at one input. -/
def fnExactCurOkWrong : ChangeSpec := { name := "fnExactCurOk", fn := fun _ => fun
  | [d1, d2] => { results := [.lit (.bool false)], args := [d1, d2] }
  | _ => none }
def FnExactCurOkWrongFalsely : Prop := fnExactCurOkRow.holds Try.pinned (OpenSpec.ofChange fnExactCurOkWrong)

/-- 'laws.FnExactCurNew': WHATEVER THE INPUT: true; the input reads as it did. -/
def fnExactCurNewSpec : ChangeSpec := { name := "fnExactCurNew", fn := fun _ => fun
  | [d1, d2, d3] => { results := [.lit (.bool true)], args := [d1, d2, d3] }
  | _ => none }
def fnExactCurNewRow : OpenClaim := { program := "ytgnfiakbcogdlao", sum := "288a1bcd620d74509309452e44be5afdf7d37e552e1c3cffdb2b11fb5abf7c42", func := "loop.example/g00689/laws.FnExactCurNew", spec := "fnExactCurNew", recurses := true, plainKeys := false, apart := false }
def FnExactCurNewSaid : Prop := fnExactCurNewRow.holds Try.pinned (OpenSpec.ofChange fnExactCurNewSpec)

/-- ITS FALSE NEIGHBOUR: 'it returns false'. Refute it at one input. -/
def fnExactCurNewWrong : ChangeSpec := { name := "fnExactCurNew", fn := fun _ => fun
  | [d1, d2, d3] => { results := [.lit (.bool false)], args := [d1, d2, d3] }
  | _ => none }
def FnExactCurNewWrongFalsely : Prop := fnExactCurNewRow.holds Try.pinned (OpenSpec.ofChange fnExactCurNewWrong)

/- THE SECOND FORM. 'bulk': how many values and letters a reading holds, each counted each time it is reached (what is shared counts as often as it is met; a slice's spare places count too). A statement '..UptoSaid' is the law's where the arguments, and the package variables that the reading takes, are together of bulk at most 1048576: NARROWER than '..Said'. Prove '..Said' where nothing that the law and all that it calls make is longer than what came in: it says more and counts as full. Else prove '..UptoSaid'. A law counts once. -/
mutual
def uptoBulk {H : Type} : DataW H → Nat
  | .lit (.string bytes) => bytes.length + 1
  | .lit _ => 1
  | .nil => 1
  | .ptr d => uptoBulk d + 1
  | .slice elems spare => uptoBulkAll elems + uptoBulkAll spare + 1
  | .agg parts => uptoBulkAll parts + 1
  | .iface _ d => uptoBulk d + 1
  | .map entries => uptoBulkEntries entries + 1
  | .held _ => 1
def uptoBulkAll {H : Type} : List (DataW H) → Nat
  | [] => 0
  | d :: r => uptoBulk d + uptoBulkAll r
def uptoBulkEntries {H : Type} : List (Lit × DataW H) → Nat
  | [] => 0
  | x :: r => uptoBulkEntry x + uptoBulkEntries r
def uptoBulkEntry {H : Type} : Lit × DataW H → Nat
  | (.string bytes, d) => bytes.length + uptoBulk d + 1
  | (_, d) => uptoBulk d + 1
 end
def uptoSmall : (H : Type) → List (DataW H) → Bool := fun _ ds => decide (uptoBulkAll ds ≤ 1048576)
def OpenSpec.upto (s : _root_.Go.ChangeSpec) : _root_.Go.OpenSpec := { _root_.Go.OpenSpec.ofChange s with cond := some uptoSmall }

/-- 'laws.FnExactPutRow', WHERE WHAT IT READS IS OF BULK AT MOST 1048576: true; the input reads as it did. -/
def fnExactPutRowUptoRow : OpenClaim := { program := "ytgnfiakbcogdlao", sum := "288a1bcd620d74509309452e44be5afdf7d37e552e1c3cffdb2b11fb5abf7c42", func := "loop.example/g00689/laws.FnExactPutRow", spec := "fnExactPutRow", unfollowed := true, recurses := true, plainKeys := false, apart := false, narrowed := true }
def FnExactPutRowUptoSaid : Prop := fnExactPutRowUptoRow.holds Try.pinned (OpenSpec.upto fnExactPutRowSpec)

/-- 'laws.FnExactRowOf', WHERE WHAT IT READS IS OF BULK AT MOST 1048576: true; the input reads as it did. -/
def fnExactRowOfUptoRow : OpenClaim := { program := "ytgnfiakbcogdlao", sum := "288a1bcd620d74509309452e44be5afdf7d37e552e1c3cffdb2b11fb5abf7c42", func := "loop.example/g00689/laws.FnExactRowOf", spec := "fnExactRowOf", plainKeys := false, apart := false, narrowed := true }
def FnExactRowOfUptoSaid : Prop := fnExactRowOfUptoRow.holds Try.pinned (OpenSpec.upto fnExactRowOfSpec)

/-- 'laws.FnExactUserRows', WHERE WHAT IT READS IS OF BULK AT MOST 1048576: true; the input reads as it did. -/
def fnExactUserRowsUptoRow : OpenClaim := { program := "ytgnfiakbcogdlao", sum := "288a1bcd620d74509309452e44be5afdf7d37e552e1c3cffdb2b11fb5abf7c42", func := "loop.example/g00689/laws.FnExactUserRows", spec := "fnExactUserRows", unfollowed := true, recurses := true, plainKeys := false, apart := false, narrowed := true }
def FnExactUserRowsUptoSaid : Prop := fnExactUserRowsUptoRow.holds Try.pinned (OpenSpec.upto fnExactUserRowsSpec)

/-- 'laws.FnExactCurOk', WHERE WHAT IT READS IS OF BULK AT MOST 1048576: true; the input reads as it did. -/
def fnExactCurOkUptoRow : OpenClaim := { program := "ytgnfiakbcogdlao", sum := "288a1bcd620d74509309452e44be5afdf7d37e552e1c3cffdb2b11fb5abf7c42", func := "loop.example/g00689/laws.FnExactCurOk", spec := "fnExactCurOk", recurses := true, plainKeys := false, apart := false, narrowed := true }
def FnExactCurOkUptoSaid : Prop := fnExactCurOkUptoRow.holds Try.pinned (OpenSpec.upto fnExactCurOkSpec)

/-- 'laws.FnExactCurNew', WHERE WHAT IT READS IS OF BULK AT MOST 1048576: true; the input reads as it did. -/
def fnExactCurNewUptoRow : OpenClaim := { program := "ytgnfiakbcogdlao", sum := "288a1bcd620d74509309452e44be5afdf7d37e552e1c3cffdb2b11fb5abf7c42", func := "loop.example/g00689/laws.FnExactCurNew", spec := "fnExactCurNew", recurses := true, plainKeys := false, apart := false, narrowed := true }
def FnExactCurNewUptoSaid : Prop := fnExactCurNewUptoRow.holds Try.pinned (OpenSpec.upto fnExactCurNewSpec)

end Rows
end Go.Proofs.Ytgnfiakbcogdlao
