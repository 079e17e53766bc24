/-
  No cell of these rows narrows 'for every input' (looked for: loops, veiled, ifaces, maps, wideKeys, modest, calm, conditions, laid).
  DERIVED. THE GIVEN ROWS OF THIS SEAT. 10 by the template 'for every input the law returns true; each argument reads behind the call as it read before'; 0 by the template 'total and deterministic' (their statements: YtlogpbejfifgdaaTotals.lean).
  GIVEN WITH THE SEED: the statements are not yours to turn. If you find one false, say at which input.
  Laid BY PROGRAM, IN A SANDBOX (cutbox-rows.mjs): the forced cells as the released guide's own fill.sh prints them over the translation ecf013c9a7fc2687… (all of the seat's roots in one cut). By AI agents, Wed Nov 11 2026. No macro, syntax, notation, axiom, sorry.
-/
import Derived.Test.YtlogpbejfifgdaaChecked
import GoSem.Claim
import GoSem.ClaimJoined
import GoSem.ClaimMapViews
import Derived.JoinedTies
import Derived.KernelRfl
namespace Go.Proofs.Ytlogpbejfifgdaa
/- THE CELL 'sum', in the pinned program and in every row, IS THE sha256 OF THE DUMP (.gsa) THAT YtlogpbejfifgdaaProg.lean LOADS. Nothing in Lean hashes anything: it is a label: what it is worth is what the hold of that sum in a sandbox is worth. -/
noncomputable def Try.pinned : Pinned := { name := "ytlogpbejfifgdaa", sum := "ecf013c9a7fc2687d6827ee7d66ba87feaa4239779bc6c4a34a5ade9d7e1b5cd", checked := Try.checked }
namespace Rows
def none {H : Type} : Left H := { results := [], args := [] }

/-- 'laws.FnLogInsert': WHATEVER THE INPUT: true; the input reads as it did. -/
def fnLogInsertSpec : ChangeSpec := { name := "fnLogInsert", fn := fun _ => fun
  | [d] => { results := [.lit (.bool true)], args := [d] }
  | _ => none }
def fnLogInsertRow : OpenClaim := { program := "ytlogpbejfifgdaa", sum := "ecf013c9a7fc2687d6827ee7d66ba87feaa4239779bc6c4a34a5ade9d7e1b5cd", func := "loop.example/collabdoc/laws.FnLogInsert", spec := "fnLogInsert", unfollowed := true, recurses := true, plainKeys := false, apart := false }
def FnLogInsertSaid : Prop := fnLogInsertRow.holds Try.pinned (OpenSpec.ofChange fnLogInsertSpec)

/-- ITS FALSE NEIGHBOUR: 'it returns false'. Refute it at one input. -/
def fnLogInsertWrong : ChangeSpec := { name := "fnLogInsert", fn := fun _ => fun
  | [d] => { results := [.lit (.bool false)], args := [d] }
  | _ => none }
def FnLogInsertWrongFalsely : Prop := fnLogInsertRow.holds Try.pinned (OpenSpec.ofChange fnLogInsertWrong)

/-- 'laws.FnUndoTarget': WHATEVER THE INPUT: true; the input reads as it did. -/
def fnUndoTargetSpec : ChangeSpec := { name := "fnUndoTarget", fn := fun _ => fun
  | [d] => { results := [.lit (.bool true)], args := [d] }
  | _ => none }
def fnUndoTargetRow : OpenClaim := { program := "ytlogpbejfifgdaa", sum := "ecf013c9a7fc2687d6827ee7d66ba87feaa4239779bc6c4a34a5ade9d7e1b5cd", func := "loop.example/collabdoc/laws.FnUndoTarget", spec := "fnUndoTarget", unfollowed := true, recurses := true, plainKeys := false, apart := false }
def FnUndoTargetSaid : Prop := fnUndoTargetRow.holds Try.pinned (OpenSpec.ofChange fnUndoTargetSpec)

/-- ITS FALSE NEIGHBOUR: 'it returns false'. Refute it at one input. -/
def fnUndoTargetWrong : ChangeSpec := { name := "fnUndoTarget", fn := fun _ => fun
  | [d] => { results := [.lit (.bool false)], args := [d] }
  | _ => none }
def FnUndoTargetWrongFalsely : Prop := fnUndoTargetRow.holds Try.pinned (OpenSpec.ofChange fnUndoTargetWrong)

/-- 'laws.FnLogWithout': WHATEVER THE INPUT: true; the input reads as it did. -/
def fnLogWithoutSpec : ChangeSpec := { name := "fnLogWithout", fn := fun _ => fun
  | [d] => { results := [.lit (.bool true)], args := [d] }
  | _ => none }
def fnLogWithoutRow : OpenClaim := { program := "ytlogpbejfifgdaa", sum := "ecf013c9a7fc2687d6827ee7d66ba87feaa4239779bc6c4a34a5ade9d7e1b5cd", func := "loop.example/collabdoc/laws.FnLogWithout", spec := "fnLogWithout", unfollowed := true, recurses := true, plainKeys := false, apart := false }
def FnLogWithoutSaid : Prop := fnLogWithoutRow.holds Try.pinned (OpenSpec.ofChange fnLogWithoutSpec)

/-- ITS FALSE NEIGHBOUR: 'it returns false'. Refute it at one input. -/
def fnLogWithoutWrong : ChangeSpec := { name := "fnLogWithout", fn := fun _ => fun
  | [d] => { results := [.lit (.bool false)], args := [d] }
  | _ => none }
def FnLogWithoutWrongFalsely : Prop := fnLogWithoutRow.holds Try.pinned (OpenSpec.ofChange fnLogWithoutWrong)

/-- 'laws.FnExactUndoTarget': WHATEVER THE INPUT: true; the input reads as it did. -/
def fnExactUndoTargetSpec : ChangeSpec := { name := "fnExactUndoTarget", fn := fun _ => fun
  | [d1, d2] => { results := [.lit (.bool true)], args := [d1, d2] }
  | _ => none }
def fnExactUndoTargetRow : OpenClaim := { program := "ytlogpbejfifgdaa", sum := "ecf013c9a7fc2687d6827ee7d66ba87feaa4239779bc6c4a34a5ade9d7e1b5cd", func := "loop.example/collabdoc/laws.FnExactUndoTarget", spec := "fnExactUndoTarget", unfollowed := true, recurses := true, plainKeys := false, apart := false }
def FnExactUndoTargetSaid : Prop := fnExactUndoTargetRow.holds Try.pinned (OpenSpec.ofChange fnExactUndoTargetSpec)

/-- ITS FALSE NEIGHBOUR: 'it returns false'. Refute it at one input. -/
def fnExactUndoTargetWrong : ChangeSpec := { name := "fnExactUndoTarget", fn := fun _ => fun
  | [d1, d2] => { results := [.lit (.bool false)], args := [d1, d2] }
  | _ => none }
def FnExactUndoTargetWrongFalsely : Prop := fnExactUndoTargetRow.holds Try.pinned (OpenSpec.ofChange fnExactUndoTargetWrong)

/-- 'laws.FnExactLogWithout': WHATEVER THE INPUT: true; the input reads as it did. -/
def fnExactLogWithoutSpec : ChangeSpec := { name := "fnExactLogWithout", fn := fun _ => fun
  | [d1, d2] => { results := [.lit (.bool true)], args := [d1, d2] }
  | _ => none }
def fnExactLogWithoutRow : OpenClaim := { program := "ytlogpbejfifgdaa", sum := "ecf013c9a7fc2687d6827ee7d66ba87feaa4239779bc6c4a34a5ade9d7e1b5cd", func := "loop.example/collabdoc/laws.FnExactLogWithout", spec := "fnExactLogWithout", unfollowed := true, recurses := true, plainKeys := false, apart := false }
def FnExactLogWithoutSaid : Prop := fnExactLogWithoutRow.holds Try.pinned (OpenSpec.ofChange fnExactLogWithoutSpec)

/-- ITS FALSE NEIGHBOUR: 'it returns false'. Refute it at one input. -/
def fnExactLogWithoutWrong : ChangeSpec := { name := "fnExactLogWithout", fn := fun _ => fun
  | [d1, d2] => { results := [.lit (.bool false)], args := [d1, d2] }
  | _ => none }
def FnExactLogWithoutWrongFalsely : Prop := fnExactLogWithoutRow.holds Try.pinned (OpenSpec.ofChange fnExactLogWithoutWrong)

/-- 'laws.FnExactMakeUndo': WHATEVER THE INPUT: true; the input reads as it did. -/
def fnExactMakeUndoSpec : ChangeSpec := { name := "fnExactMakeUndo", fn := fun _ => fun
  | [d1, d2, d3] => { results := [.lit (.bool true)], args := [d1, d2, d3] }
  | _ => none }
def fnExactMakeUndoRow : OpenClaim := { program := "ytlogpbejfifgdaa", sum := "ecf013c9a7fc2687d6827ee7d66ba87feaa4239779bc6c4a34a5ade9d7e1b5cd", func := "loop.example/collabdoc/laws.FnExactMakeUndo", spec := "fnExactMakeUndo", unfollowed := true, recurses := true, plainKeys := false, apart := false }
def FnExactMakeUndoSaid : Prop := fnExactMakeUndoRow.holds Try.pinned (OpenSpec.ofChange fnExactMakeUndoSpec)

/-- ITS FALSE NEIGHBOUR: 'it returns false'. Refute it at one input. -/
def fnExactMakeUndoWrong : ChangeSpec := { name := "fnExactMakeUndo", fn := fun _ => fun
  | [d1, d2, d3] => { results := [.lit (.bool false)], args := [d1, d2, d3] }
  | _ => none }
def FnExactMakeUndoWrongFalsely : Prop := fnExactMakeUndoRow.holds Try.pinned (OpenSpec.ofChange fnExactMakeUndoWrong)

/-- 'laws.FnVectorLattice': WHATEVER THE INPUT: true; the input reads as it did. -/
def fnVectorLatticeSpec : ChangeSpec := { name := "fnVectorLattice", fn := fun _ => fun
  | [d1, d2] => { results := [.lit (.bool true)], args := [d1, d2] }
  | _ => none }
def fnVectorLatticeRow : OpenClaim := { program := "ytlogpbejfifgdaa", sum := "ecf013c9a7fc2687d6827ee7d66ba87feaa4239779bc6c4a34a5ade9d7e1b5cd", func := "loop.example/collabdoc/laws.FnVectorLattice", spec := "fnVectorLattice", plainKeys := false, apart := false }
def FnVectorLatticeSaid : Prop := fnVectorLatticeRow.holds Try.pinned (OpenSpec.ofChange fnVectorLatticeSpec)

/-- ITS FALSE NEIGHBOUR: 'it returns false'. Refute it at one input. -/
def fnVectorLatticeWrong : ChangeSpec := { name := "fnVectorLattice", fn := fun _ => fun
  | [d1, d2] => { results := [.lit (.bool false)], args := [d1, d2] }
  | _ => none }
def FnVectorLatticeWrongFalsely : Prop := fnVectorLatticeRow.holds Try.pinned (OpenSpec.ofChange fnVectorLatticeWrong)

/-- 'laws.FnVectorOrder': WHATEVER THE INPUT: true; the input reads as it did. -/
def fnVectorOrderSpec : ChangeSpec := { name := "fnVectorOrder", fn := fun _ => fun
  | [d1, d2] => { results := [.lit (.bool true)], args := [d1, d2] }
  | _ => none }
def fnVectorOrderRow : OpenClaim := { program := "ytlogpbejfifgdaa", sum := "ecf013c9a7fc2687d6827ee7d66ba87feaa4239779bc6c4a34a5ade9d7e1b5cd", func := "loop.example/collabdoc/laws.FnVectorOrder", spec := "fnVectorOrder", plainKeys := false, apart := false }
def FnVectorOrderSaid : Prop := fnVectorOrderRow.holds Try.pinned (OpenSpec.ofChange fnVectorOrderSpec)

/-- ITS FALSE NEIGHBOUR: 'it returns false'. Refute it at one input. -/
def fnVectorOrderWrong : ChangeSpec := { name := "fnVectorOrder", fn := fun _ => fun
  | [d1, d2] => { results := [.lit (.bool false)], args := [d1, d2] }
  | _ => none }
def FnVectorOrderWrongFalsely : Prop := fnVectorOrderRow.holds Try.pinned (OpenSpec.ofChange fnVectorOrderWrong)

/-- 'laws.FnNextStamp': WHATEVER THE INPUT: true; the input reads as it did. -/
def fnNextStampSpec : ChangeSpec := { name := "fnNextStamp", fn := fun _ => fun
  | [d1, d2] => { results := [.lit (.bool true)], args := [d1, d2] }
  | _ => none }
def fnNextStampRow : OpenClaim := { program := "ytlogpbejfifgdaa", sum := "ecf013c9a7fc2687d6827ee7d66ba87feaa4239779bc6c4a34a5ade9d7e1b5cd", func := "loop.example/collabdoc/laws.FnNextStamp", spec := "fnNextStamp", plainKeys := false, apart := false }
def FnNextStampSaid : Prop := fnNextStampRow.holds Try.pinned (OpenSpec.ofChange fnNextStampSpec)

/-- ITS FALSE NEIGHBOUR: 'it returns false'. Refute it at one input. -/
def fnNextStampWrong : ChangeSpec := { name := "fnNextStamp", fn := fun _ => fun
  | [d1, d2] => { results := [.lit (.bool false)], args := [d1, d2] }
  | _ => none }
def FnNextStampWrongFalsely : Prop := fnNextStampRow.holds Try.pinned (OpenSpec.ofChange fnNextStampWrong)

/-- 'laws.FnOpCausal': WHATEVER THE INPUT: true; the input reads as it did. -/
def fnOpCausalSpec : ChangeSpec := { name := "fnOpCausal", fn := fun _ => fun
  | [d] => { results := [.lit (.bool true)], args := [d] }
  | _ => none }
def fnOpCausalRow : OpenClaim := { program := "ytlogpbejfifgdaa", sum := "ecf013c9a7fc2687d6827ee7d66ba87feaa4239779bc6c4a34a5ade9d7e1b5cd", func := "loop.example/collabdoc/laws.FnOpCausal", spec := "fnOpCausal", unfollowed := true, recurses := true, plainKeys := false, apart := false }
def FnOpCausalSaid : Prop := fnOpCausalRow.holds Try.pinned (OpenSpec.ofChange fnOpCausalSpec)

/-- ITS FALSE NEIGHBOUR: 'it returns false'. Refute it at one input. -/
def fnOpCausalWrong : ChangeSpec := { name := "fnOpCausal", fn := fun _ => fun
  | [d] => { results := [.lit (.bool false)], args := [d] }
  | _ => none }
def FnOpCausalWrongFalsely : Prop := fnOpCausalRow.holds Try.pinned (OpenSpec.ofChange fnOpCausalWrong)

/- THE SECOND FORM. 'bulk': how many values and letters a reading holds, each counted each time it is reached (what is shared counts as often as it is met; a slice's spare places count too). A statement '..UptoSaid' is the law's where the arguments, and the package variables that the reading takes, are together of bulk at most 1048576: NARROWER than '..Said'. Prove '..Said' where nothing that the law and all that it calls make is longer than what came in: it says more and counts as full. Else prove '..UptoSaid'. A law counts once. -/
mutual
def uptoBulk {H : Type} : DataW H → Nat
  | .lit (.string bytes) => bytes.length + 1
  | .lit _ => 1
  | .nil => 1
  | .ptr d => uptoBulk d + 1
  | .slice elems spare => uptoBulkAll elems + uptoBulkAll spare + 1
  | .agg parts => uptoBulkAll parts + 1
  | .iface _ d => uptoBulk d + 1
  | .map entries => uptoBulkEntries entries + 1
  | .held _ => 1
def uptoBulkAll {H : Type} : List (DataW H) → Nat
  | [] => 0
  | d :: r => uptoBulk d + uptoBulkAll r
def uptoBulkEntries {H : Type} : List (Lit × DataW H) → Nat
  | [] => 0
  | x :: r => uptoBulkEntry x + uptoBulkEntries r
def uptoBulkEntry {H : Type} : Lit × DataW H → Nat
  | (.string bytes, d) => bytes.length + uptoBulk d + 1
  | (_, d) => uptoBulk d + 1
 end
def uptoSmall : (H : Type) → List (DataW H) → Bool := fun _ ds => decide (uptoBulkAll ds ≤ 1048576)
def OpenSpec.upto (s : _root_.Go.ChangeSpec) : _root_.Go.OpenSpec := { _root_.Go.OpenSpec.ofChange s with cond := some uptoSmall }

/-- 'laws.FnLogInsert', WHERE WHAT IT READS IS OF BULK AT MOST 1048576: true; the input reads as it did. -/
def fnLogInsertUptoRow : OpenClaim := { program := "ytlogpbejfifgdaa", sum := "ecf013c9a7fc2687d6827ee7d66ba87feaa4239779bc6c4a34a5ade9d7e1b5cd", func := "loop.example/collabdoc/laws.FnLogInsert", spec := "fnLogInsert", unfollowed := true, recurses := true, plainKeys := false, apart := false, narrowed := true }
def FnLogInsertUptoSaid : Prop := fnLogInsertUptoRow.holds Try.pinned (OpenSpec.upto fnLogInsertSpec)

/-- 'laws.FnUndoTarget', WHERE WHAT IT READS IS OF BULK AT MOST 1048576: true; the input reads as it did. -/
def fnUndoTargetUptoRow : OpenClaim := { program := "ytlogpbejfifgdaa", sum := "ecf013c9a7fc2687d6827ee7d66ba87feaa4239779bc6c4a34a5ade9d7e1b5cd", func := "loop.example/collabdoc/laws.FnUndoTarget", spec := "fnUndoTarget", unfollowed := true, recurses := true, plainKeys := false, apart := false, narrowed := true }
def FnUndoTargetUptoSaid : Prop := fnUndoTargetUptoRow.holds Try.pinned (OpenSpec.upto fnUndoTargetSpec)

/-- 'laws.FnLogWithout', WHERE WHAT IT READS IS OF BULK AT MOST 1048576: true; the input reads as it did. -/
def fnLogWithoutUptoRow : OpenClaim := { program := "ytlogpbejfifgdaa", sum := "ecf013c9a7fc2687d6827ee7d66ba87feaa4239779bc6c4a34a5ade9d7e1b5cd", func := "loop.example/collabdoc/laws.FnLogWithout", spec := "fnLogWithout", unfollowed := true, recurses := true, plainKeys := false, apart := false, narrowed := true }
def FnLogWithoutUptoSaid : Prop := fnLogWithoutUptoRow.holds Try.pinned (OpenSpec.upto fnLogWithoutSpec)

/-- 'laws.FnExactUndoTarget', WHERE WHAT IT READS IS OF BULK AT MOST 1048576: true; the input reads as it did. -/
def fnExactUndoTargetUptoRow : OpenClaim := { program := "ytlogpbejfifgdaa", sum := "ecf013c9a7fc2687d6827ee7d66ba87feaa4239779bc6c4a34a5ade9d7e1b5cd", func := "loop.example/collabdoc/laws.FnExactUndoTarget", spec := "fnExactUndoTarget", unfollowed := true, recurses := true, plainKeys := false, apart := false, narrowed := true }
def FnExactUndoTargetUptoSaid : Prop := fnExactUndoTargetUptoRow.holds Try.pinned (OpenSpec.upto fnExactUndoTargetSpec)

/-- 'laws.FnExactLogWithout', WHERE WHAT IT READS IS OF BULK AT MOST 1048576: true; the input reads as it did. -/
def fnExactLogWithoutUptoRow : OpenClaim := { program := "ytlogpbejfifgdaa", sum := "ecf013c9a7fc2687d6827ee7d66ba87feaa4239779bc6c4a34a5ade9d7e1b5cd", func := "loop.example/collabdoc/laws.FnExactLogWithout", spec := "fnExactLogWithout", unfollowed := true, recurses := true, plainKeys := false, apart := false, narrowed := true }
def FnExactLogWithoutUptoSaid : Prop := fnExactLogWithoutUptoRow.holds Try.pinned (OpenSpec.upto fnExactLogWithoutSpec)

/-- 'laws.FnExactMakeUndo', WHERE WHAT IT READS IS OF BULK AT MOST 1048576: true; the input reads as it did. -/
def fnExactMakeUndoUptoRow : OpenClaim := { program := "ytlogpbejfifgdaa", sum := "ecf013c9a7fc2687d6827ee7d66ba87feaa4239779bc6c4a34a5ade9d7e1b5cd", func := "loop.example/collabdoc/laws.FnExactMakeUndo", spec := "fnExactMakeUndo", unfollowed := true, recurses := true, plainKeys := false, apart := false, narrowed := true }
def FnExactMakeUndoUptoSaid : Prop := fnExactMakeUndoUptoRow.holds Try.pinned (OpenSpec.upto fnExactMakeUndoSpec)

/-- 'laws.FnVectorLattice', WHERE WHAT IT READS IS OF BULK AT MOST 1048576: true; the input reads as it did. -/
def fnVectorLatticeUptoRow : OpenClaim := { program := "ytlogpbejfifgdaa", sum := "ecf013c9a7fc2687d6827ee7d66ba87feaa4239779bc6c4a34a5ade9d7e1b5cd", func := "loop.example/collabdoc/laws.FnVectorLattice", spec := "fnVectorLattice", plainKeys := false, apart := false, narrowed := true }
def FnVectorLatticeUptoSaid : Prop := fnVectorLatticeUptoRow.holds Try.pinned (OpenSpec.upto fnVectorLatticeSpec)

/-- 'laws.FnVectorOrder', WHERE WHAT IT READS IS OF BULK AT MOST 1048576: true; the input reads as it did. -/
def fnVectorOrderUptoRow : OpenClaim := { program := "ytlogpbejfifgdaa", sum := "ecf013c9a7fc2687d6827ee7d66ba87feaa4239779bc6c4a34a5ade9d7e1b5cd", func := "loop.example/collabdoc/laws.FnVectorOrder", spec := "fnVectorOrder", plainKeys := false, apart := false, narrowed := true }
def FnVectorOrderUptoSaid : Prop := fnVectorOrderUptoRow.holds Try.pinned (OpenSpec.upto fnVectorOrderSpec)

/-- 'laws.FnNextStamp', WHERE WHAT IT READS IS OF BULK AT MOST 1048576: true; the input reads as it did. -/
def fnNextStampUptoRow : OpenClaim := { program := "ytlogpbejfifgdaa", sum := "ecf013c9a7fc2687d6827ee7d66ba87feaa4239779bc6c4a34a5ade9d7e1b5cd", func := "loop.example/collabdoc/laws.FnNextStamp", spec := "fnNextStamp", plainKeys := false, apart := false, narrowed := true }
def FnNextStampUptoSaid : Prop := fnNextStampUptoRow.holds Try.pinned (OpenSpec.upto fnNextStampSpec)

/-- 'laws.FnOpCausal', WHERE WHAT IT READS IS OF BULK AT MOST 1048576: true; the input reads as it did. -/
def fnOpCausalUptoRow : OpenClaim := { program := "ytlogpbejfifgdaa", sum := "ecf013c9a7fc2687d6827ee7d66ba87feaa4239779bc6c4a34a5ade9d7e1b5cd", func := "loop.example/collabdoc/laws.FnOpCausal", spec := "fnOpCausal", unfollowed := true, recurses := true, plainKeys := false, apart := false, narrowed := true }
def FnOpCausalUptoSaid : Prop := fnOpCausalUptoRow.holds Try.pinned (OpenSpec.upto fnOpCausalSpec)

end Rows
end Go.Proofs.Ytlogpbejfifgdaa
