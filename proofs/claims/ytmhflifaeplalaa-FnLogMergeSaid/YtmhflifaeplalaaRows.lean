/-
  No cell of these rows narrows 'for every input' (looked for: loops, veiled, ifaces, maps, wideKeys, modest, calm, conditions, laid).
  DERIVED. THE GIVEN ROWS OF THIS SEAT. 10 by the template 'for every input the law returns true; each argument reads behind the call as it read before'; 0 by the template 'total and deterministic' (their statements: YtmhflifaeplalaaTotals.lean).
  GIVEN WITH THE SEED: the statements are not yours to turn. If you find one false, say at which input.
  Laid BY PROGRAM, IN A SANDBOX (cutbox-rows.mjs): the forced cells as the released guide's own fill.sh prints them over the translation 2b26c7eaf089d590… (all of the seat's roots in one cut). By AI agents, Wed Nov 11 2026. No macro, syntax, notation, axiom, sorry.
-/
import Derived.Test.YtmhflifaeplalaaChecked
import GoSem.Claim
import GoSem.ClaimJoined
import GoSem.ClaimMapViews
import Derived.JoinedTies
import Derived.KernelRfl
namespace Go.Proofs.Ytmhflifaeplalaa
/- THE CELL 'sum', in the pinned program and in every row, IS THE sha256 OF THE DUMP (.gsa) THAT YtmhflifaeplalaaProg.lean LOADS. Nothing in Lean hashes anything: it is a label: what it is worth is what the hold of that sum in a sandbox is worth. -/
noncomputable def Try.pinned : Pinned := { name := "ytmhflifaeplalaa", sum := "2b26c7eaf089d590f372dc6e3d1f7358b653155b2331c91b8f93a412446a600e", checked := Try.checked }
namespace Rows
def none {H : Type} : Left H := { results := [], args := [] }

/-- 'laws.FnExactSchemaAllows': WHATEVER THE INPUT: true; the input reads as it did. -/
def fnExactSchemaAllowsSpec : ChangeSpec := { name := "fnExactSchemaAllows", fn := fun _ => fun
  | [d1, d2] => { results := [.lit (.bool true)], args := [d1, d2] }
  | _ => none }
def fnExactSchemaAllowsRow : OpenClaim := { program := "ytmhflifaeplalaa", sum := "2b26c7eaf089d590f372dc6e3d1f7358b653155b2331c91b8f93a412446a600e", func := "loop.example/collabdoc/laws.FnExactSchemaAllows", spec := "fnExactSchemaAllows", plainKeys := false, apart := false }
def FnExactSchemaAllowsSaid : Prop := fnExactSchemaAllowsRow.holds Try.pinned (OpenSpec.ofChange fnExactSchemaAllowsSpec)

/-- ITS FALSE NEIGHBOUR: 'it returns false'. Refute it at one input. -/
def fnExactSchemaAllowsWrong : ChangeSpec := { name := "fnExactSchemaAllows", fn := fun _ => fun
  | [d1, d2] => { results := [.lit (.bool false)], args := [d1, d2] }
  | _ => none }
def FnExactSchemaAllowsWrongFalsely : Prop := fnExactSchemaAllowsRow.holds Try.pinned (OpenSpec.ofChange fnExactSchemaAllowsWrong)

/-- 'laws.FnSchema': WHATEVER THE INPUT: true; the input reads as it did. -/
def fnSchemaSpec : ChangeSpec := { name := "fnSchema", fn := fun _ => fun
  | [d] => { results := [.lit (.bool true)], args := [d] }
  | _ => none }
def fnSchemaRow : OpenClaim := { program := "ytmhflifaeplalaa", sum := "2b26c7eaf089d590f372dc6e3d1f7358b653155b2331c91b8f93a412446a600e", func := "loop.example/collabdoc/laws.FnSchema", spec := "fnSchema", plainKeys := false, apart := false }
def FnSchemaSaid : Prop := fnSchemaRow.holds Try.pinned (OpenSpec.ofChange fnSchemaSpec)

/-- ITS FALSE NEIGHBOUR: 'it returns false'. Refute it at one input. -/
def fnSchemaWrong : ChangeSpec := { name := "fnSchema", fn := fun _ => fun
  | [d] => { results := [.lit (.bool false)], args := [d] }
  | _ => none }
def FnSchemaWrongFalsely : Prop := fnSchemaRow.holds Try.pinned (OpenSpec.ofChange fnSchemaWrong)

/-- 'laws.FnExactValidRows': WHATEVER THE INPUT: true; the input reads as it did. -/
def fnExactValidRowsSpec : ChangeSpec := { name := "fnExactValidRows", fn := fun _ => fun
  | [d] => { results := [.lit (.bool true)], args := [d] }
  | _ => none }
def fnExactValidRowsRow : OpenClaim := { program := "ytmhflifaeplalaa", sum := "2b26c7eaf089d590f372dc6e3d1f7358b653155b2331c91b8f93a412446a600e", func := "loop.example/collabdoc/laws.FnExactValidRows", spec := "fnExactValidRows", plainKeys := false, apart := false }
def FnExactValidRowsSaid : Prop := fnExactValidRowsRow.holds Try.pinned (OpenSpec.ofChange fnExactValidRowsSpec)

/-- ITS FALSE NEIGHBOUR: 'it returns false'. Refute it at one input. -/
def fnExactValidRowsWrong : ChangeSpec := { name := "fnExactValidRows", fn := fun _ => fun
  | [d] => { results := [.lit (.bool false)], args := [d] }
  | _ => none }
def FnExactValidRowsWrongFalsely : Prop := fnExactValidRowsRow.holds Try.pinned (OpenSpec.ofChange fnExactValidRowsWrong)

/-- 'laws.FnValidRows': WHATEVER THE INPUT: true; the input reads as it did. -/
def fnValidRowsSpec : ChangeSpec := { name := "fnValidRows", fn := fun _ => fun
  | [d1, d2] => { results := [.lit (.bool true)], args := [d1, d2] }
  | _ => none }
def fnValidRowsRow : OpenClaim := { program := "ytmhflifaeplalaa", sum := "2b26c7eaf089d590f372dc6e3d1f7358b653155b2331c91b8f93a412446a600e", func := "loop.example/collabdoc/laws.FnValidRows", spec := "fnValidRows", recurses := true, plainKeys := false, apart := false }
def FnValidRowsSaid : Prop := fnValidRowsRow.holds Try.pinned (OpenSpec.ofChange fnValidRowsSpec)

/-- ITS FALSE NEIGHBOUR: 'it returns false'. Refute it at one input. -/
def fnValidRowsWrong : ChangeSpec := { name := "fnValidRows", fn := fun _ => fun
  | [d1, d2] => { results := [.lit (.bool false)], args := [d1, d2] }
  | _ => none }
def FnValidRowsWrongFalsely : Prop := fnValidRowsRow.holds Try.pinned (OpenSpec.ofChange fnValidRowsWrong)

/-- 'laws.FnExactRunsText': WHATEVER THE INPUT: true; the input reads as it did. -/
def fnExactRunsTextSpec : ChangeSpec := { name := "fnExactRunsText", fn := fun _ => fun
  | [d] => { results := [.lit (.bool true)], args := [d] }
  | _ => none }
def fnExactRunsTextRow : OpenClaim := { program := "ytmhflifaeplalaa", sum := "2b26c7eaf089d590f372dc6e3d1f7358b653155b2331c91b8f93a412446a600e", func := "loop.example/collabdoc/laws.FnExactRunsText", spec := "fnExactRunsText", inPlace := ["internal/abi.NoEscape"], plainKeys := false, apart := false }
def FnExactRunsTextSaid : Prop := fnExactRunsTextRow.holds Try.pinned (OpenSpec.ofChange fnExactRunsTextSpec)

/-- ITS FALSE NEIGHBOUR: 'it returns false'. Refute it at one input. -/
def fnExactRunsTextWrong : ChangeSpec := { name := "fnExactRunsText", fn := fun _ => fun
  | [d] => { results := [.lit (.bool false)], args := [d] }
  | _ => none }
def FnExactRunsTextWrongFalsely : Prop := fnExactRunsTextRow.holds Try.pinned (OpenSpec.ofChange fnExactRunsTextWrong)

/-- 'laws.FnExactRunsMarkup': WHATEVER THE INPUT: true; the input reads as it did. -/
def fnExactRunsMarkupSpec : ChangeSpec := { name := "fnExactRunsMarkup", fn := fun _ => fun
  | [d] => { results := [.lit (.bool true)], args := [d] }
  | _ => none }
def fnExactRunsMarkupRow : OpenClaim := { program := "ytmhflifaeplalaa", sum := "2b26c7eaf089d590f372dc6e3d1f7358b653155b2331c91b8f93a412446a600e", func := "loop.example/collabdoc/laws.FnExactRunsMarkup", spec := "fnExactRunsMarkup", inPlace := ["internal/abi.NoEscape"], plainKeys := false, apart := false }
def FnExactRunsMarkupSaid : Prop := fnExactRunsMarkupRow.holds Try.pinned (OpenSpec.ofChange fnExactRunsMarkupSpec)

/-- ITS FALSE NEIGHBOUR: 'it returns false'. Refute it at one input. -/
def fnExactRunsMarkupWrong : ChangeSpec := { name := "fnExactRunsMarkup", fn := fun _ => fun
  | [d] => { results := [.lit (.bool false)], args := [d] }
  | _ => none }
def FnExactRunsMarkupWrongFalsely : Prop := fnExactRunsMarkupRow.holds Try.pinned (OpenSpec.ofChange fnExactRunsMarkupWrong)

/-- 'laws.FnRunsMarkup': WHATEVER THE INPUT: true; the input reads as it did. -/
def fnRunsMarkupSpec : ChangeSpec := { name := "fnRunsMarkup", fn := fun _ => fun
  | [d] => { results := [.lit (.bool true)], args := [d] }
  | _ => none }
def fnRunsMarkupRow : OpenClaim := { program := "ytmhflifaeplalaa", sum := "2b26c7eaf089d590f372dc6e3d1f7358b653155b2331c91b8f93a412446a600e", func := "loop.example/collabdoc/laws.FnRunsMarkup", spec := "fnRunsMarkup", inPlace := ["internal/abi.NoEscape"], plainKeys := false, apart := false }
def FnRunsMarkupSaid : Prop := fnRunsMarkupRow.holds Try.pinned (OpenSpec.ofChange fnRunsMarkupSpec)

/-- ITS FALSE NEIGHBOUR: 'it returns false'. Refute it at one input. -/
def fnRunsMarkupWrong : ChangeSpec := { name := "fnRunsMarkup", fn := fun _ => fun
  | [d] => { results := [.lit (.bool false)], args := [d] }
  | _ => none }
def FnRunsMarkupWrongFalsely : Prop := fnRunsMarkupRow.holds Try.pinned (OpenSpec.ofChange fnRunsMarkupWrong)

/-- 'laws.FnActiveOps': WHATEVER THE INPUT: true; the input reads as it did. -/
def fnActiveOpsSpec : ChangeSpec := { name := "fnActiveOps", fn := fun _ => fun
  | [d] => { results := [.lit (.bool true)], args := [d] }
  | _ => none }
def fnActiveOpsRow : OpenClaim := { program := "ytmhflifaeplalaa", sum := "2b26c7eaf089d590f372dc6e3d1f7358b653155b2331c91b8f93a412446a600e", func := "loop.example/collabdoc/laws.FnActiveOps", spec := "fnActiveOps", unfollowed := true, recurses := true, plainKeys := false, apart := false }
def FnActiveOpsSaid : Prop := fnActiveOpsRow.holds Try.pinned (OpenSpec.ofChange fnActiveOpsSpec)

/-- ITS FALSE NEIGHBOUR: 'it returns false'. Refute it at one input. -/
def fnActiveOpsWrong : ChangeSpec := { name := "fnActiveOps", fn := fun _ => fun
  | [d] => { results := [.lit (.bool false)], args := [d] }
  | _ => none }
def FnActiveOpsWrongFalsely : Prop := fnActiveOpsRow.holds Try.pinned (OpenSpec.ofChange fnActiveOpsWrong)

/-- 'laws.FnLogInsert': WHATEVER THE INPUT: true; the input reads as it did. -/
def fnLogInsertSpec : ChangeSpec := { name := "fnLogInsert", fn := fun _ => fun
  | [d] => { results := [.lit (.bool true)], args := [d] }
  | _ => none }
def fnLogInsertRow : OpenClaim := { program := "ytmhflifaeplalaa", sum := "2b26c7eaf089d590f372dc6e3d1f7358b653155b2331c91b8f93a412446a600e", func := "loop.example/collabdoc/laws.FnLogInsert", spec := "fnLogInsert", unfollowed := true, recurses := true, plainKeys := false, apart := false }
def FnLogInsertSaid : Prop := fnLogInsertRow.holds Try.pinned (OpenSpec.ofChange fnLogInsertSpec)

/-- ITS FALSE NEIGHBOUR: 'it returns false'. Refute it at one input. -/
def fnLogInsertWrong : ChangeSpec := { name := "fnLogInsert", fn := fun _ => fun
  | [d] => { results := [.lit (.bool false)], args := [d] }
  | _ => none }
def FnLogInsertWrongFalsely : Prop := fnLogInsertRow.holds Try.pinned (OpenSpec.ofChange fnLogInsertWrong)

/-- 'laws.FnLogMerge': WHATEVER THE INPUT: true; the input reads as it did. -/
def fnLogMergeSpec : ChangeSpec := { name := "fnLogMerge", fn := fun _ => fun
  | [d] => { results := [.lit (.bool true)], args := [d] }
  | _ => none }
def fnLogMergeRow : OpenClaim := { program := "ytmhflifaeplalaa", sum := "2b26c7eaf089d590f372dc6e3d1f7358b653155b2331c91b8f93a412446a600e", func := "loop.example/collabdoc/laws.FnLogMerge", spec := "fnLogMerge", unfollowed := true, recurses := true, plainKeys := false, apart := false }
def FnLogMergeSaid : Prop := fnLogMergeRow.holds Try.pinned (OpenSpec.ofChange fnLogMergeSpec)

/-- ITS FALSE NEIGHBOUR: 'it returns false'. Refute it at one input. -/
def fnLogMergeWrong : ChangeSpec := { name := "fnLogMerge", fn := fun _ => fun
  | [d] => { results := [.lit (.bool false)], args := [d] }
  | _ => none }
def FnLogMergeWrongFalsely : Prop := fnLogMergeRow.holds Try.pinned (OpenSpec.ofChange fnLogMergeWrong)

/- THE SECOND FORM. 'bulk': how many values and letters a reading holds, each counted each time it is reached (what is shared counts as often as it is met; a slice's spare places count too). A statement '..UptoSaid' is the law's where the arguments, and the package variables that the reading takes, are together of bulk at most 1048576: NARROWER than '..Said'. Prove '..Said' where nothing that the law and all that it calls make is longer than what came in: it says more and counts as full. Else prove '..UptoSaid'. A law counts once. -/
mutual
def uptoBulk {H : Type} : DataW H → Nat
  | .lit (.string bytes) => bytes.length + 1
  | .lit _ => 1
  | .nil => 1
  | .ptr d => uptoBulk d + 1
  | .slice elems spare => uptoBulkAll elems + uptoBulkAll spare + 1
  | .agg parts => uptoBulkAll parts + 1
  | .iface _ d => uptoBulk d + 1
  | .map entries => uptoBulkEntries entries + 1
  | .held _ => 1
def uptoBulkAll {H : Type} : List (DataW H) → Nat
  | [] => 0
  | d :: r => uptoBulk d + uptoBulkAll r
def uptoBulkEntries {H : Type} : List (Lit × DataW H) → Nat
  | [] => 0
  | x :: r => uptoBulkEntry x + uptoBulkEntries r
def uptoBulkEntry {H : Type} : Lit × DataW H → Nat
  | (.string bytes, d) => bytes.length + uptoBulk d + 1
  | (_, d) => uptoBulk d + 1
 end
def uptoSmall : (H : Type) → List (DataW H) → Bool := fun _ ds => decide (uptoBulkAll ds ≤ 1048576)
def OpenSpec.upto (s : _root_.Go.ChangeSpec) : _root_.Go.OpenSpec := { _root_.Go.OpenSpec.ofChange s with cond := some uptoSmall }

/-- 'laws.FnExactSchemaAllows', WHERE WHAT IT READS IS OF BULK AT MOST 1048576: true; the input reads as it did. -/
def fnExactSchemaAllowsUptoRow : OpenClaim := { program := "ytmhflifaeplalaa", sum := "2b26c7eaf089d590f372dc6e3d1f7358b653155b2331c91b8f93a412446a600e", func := "loop.example/collabdoc/laws.FnExactSchemaAllows", spec := "fnExactSchemaAllows", plainKeys := false, apart := false, narrowed := true }
def FnExactSchemaAllowsUptoSaid : Prop := fnExactSchemaAllowsUptoRow.holds Try.pinned (OpenSpec.upto fnExactSchemaAllowsSpec)

/-- 'laws.FnSchema', WHERE WHAT IT READS IS OF BULK AT MOST 1048576: true; the input reads as it did. -/
def fnSchemaUptoRow : OpenClaim := { program := "ytmhflifaeplalaa", sum := "2b26c7eaf089d590f372dc6e3d1f7358b653155b2331c91b8f93a412446a600e", func := "loop.example/collabdoc/laws.FnSchema", spec := "fnSchema", plainKeys := false, apart := false, narrowed := true }
def FnSchemaUptoSaid : Prop := fnSchemaUptoRow.holds Try.pinned (OpenSpec.upto fnSchemaSpec)

/-- 'laws.FnExactValidRows', WHERE WHAT IT READS IS OF BULK AT MOST 1048576: true; the input reads as it did. -/
def fnExactValidRowsUptoRow : OpenClaim := { program := "ytmhflifaeplalaa", sum := "2b26c7eaf089d590f372dc6e3d1f7358b653155b2331c91b8f93a412446a600e", func := "loop.example/collabdoc/laws.FnExactValidRows", spec := "fnExactValidRows", plainKeys := false, apart := false, narrowed := true }
def FnExactValidRowsUptoSaid : Prop := fnExactValidRowsUptoRow.holds Try.pinned (OpenSpec.upto fnExactValidRowsSpec)

/-- 'laws.FnValidRows', WHERE WHAT IT READS IS OF BULK AT MOST 1048576: true; the input reads as it did. -/
def fnValidRowsUptoRow : OpenClaim := { program := "ytmhflifaeplalaa", sum := "2b26c7eaf089d590f372dc6e3d1f7358b653155b2331c91b8f93a412446a600e", func := "loop.example/collabdoc/laws.FnValidRows", spec := "fnValidRows", recurses := true, plainKeys := false, apart := false, narrowed := true }
def FnValidRowsUptoSaid : Prop := fnValidRowsUptoRow.holds Try.pinned (OpenSpec.upto fnValidRowsSpec)

/-- 'laws.FnExactRunsText', WHERE WHAT IT READS IS OF BULK AT MOST 1048576: true; the input reads as it did. -/
def fnExactRunsTextUptoRow : OpenClaim := { program := "ytmhflifaeplalaa", sum := "2b26c7eaf089d590f372dc6e3d1f7358b653155b2331c91b8f93a412446a600e", func := "loop.example/collabdoc/laws.FnExactRunsText", spec := "fnExactRunsText", inPlace := ["internal/abi.NoEscape"], plainKeys := false, apart := false, narrowed := true }
def FnExactRunsTextUptoSaid : Prop := fnExactRunsTextUptoRow.holds Try.pinned (OpenSpec.upto fnExactRunsTextSpec)

/-- 'laws.FnExactRunsMarkup', WHERE WHAT IT READS IS OF BULK AT MOST 1048576: true; the input reads as it did. -/
def fnExactRunsMarkupUptoRow : OpenClaim := { program := "ytmhflifaeplalaa", sum := "2b26c7eaf089d590f372dc6e3d1f7358b653155b2331c91b8f93a412446a600e", func := "loop.example/collabdoc/laws.FnExactRunsMarkup", spec := "fnExactRunsMarkup", inPlace := ["internal/abi.NoEscape"], plainKeys := false, apart := false, narrowed := true }
def FnExactRunsMarkupUptoSaid : Prop := fnExactRunsMarkupUptoRow.holds Try.pinned (OpenSpec.upto fnExactRunsMarkupSpec)

/-- 'laws.FnRunsMarkup', WHERE WHAT IT READS IS OF BULK AT MOST 1048576: true; the input reads as it did. -/
def fnRunsMarkupUptoRow : OpenClaim := { program := "ytmhflifaeplalaa", sum := "2b26c7eaf089d590f372dc6e3d1f7358b653155b2331c91b8f93a412446a600e", func := "loop.example/collabdoc/laws.FnRunsMarkup", spec := "fnRunsMarkup", inPlace := ["internal/abi.NoEscape"], plainKeys := false, apart := false, narrowed := true }
def FnRunsMarkupUptoSaid : Prop := fnRunsMarkupUptoRow.holds Try.pinned (OpenSpec.upto fnRunsMarkupSpec)

/-- 'laws.FnActiveOps', WHERE WHAT IT READS IS OF BULK AT MOST 1048576: true; the input reads as it did. -/
def fnActiveOpsUptoRow : OpenClaim := { program := "ytmhflifaeplalaa", sum := "2b26c7eaf089d590f372dc6e3d1f7358b653155b2331c91b8f93a412446a600e", func := "loop.example/collabdoc/laws.FnActiveOps", spec := "fnActiveOps", unfollowed := true, recurses := true, plainKeys := false, apart := false, narrowed := true }
def FnActiveOpsUptoSaid : Prop := fnActiveOpsUptoRow.holds Try.pinned (OpenSpec.upto fnActiveOpsSpec)

/-- 'laws.FnLogInsert', WHERE WHAT IT READS IS OF BULK AT MOST 1048576: true; the input reads as it did. -/
def fnLogInsertUptoRow : OpenClaim := { program := "ytmhflifaeplalaa", sum := "2b26c7eaf089d590f372dc6e3d1f7358b653155b2331c91b8f93a412446a600e", func := "loop.example/collabdoc/laws.FnLogInsert", spec := "fnLogInsert", unfollowed := true, recurses := true, plainKeys := false, apart := false, narrowed := true }
def FnLogInsertUptoSaid : Prop := fnLogInsertUptoRow.holds Try.pinned (OpenSpec.upto fnLogInsertSpec)

/-- 'laws.FnLogMerge', WHERE WHAT IT READS IS OF BULK AT MOST 1048576: true; the input reads as it did. -/
def fnLogMergeUptoRow : OpenClaim := { program := "ytmhflifaeplalaa", sum := "2b26c7eaf089d590f372dc6e3d1f7358b653155b2331c91b8f93a412446a600e", func := "loop.example/collabdoc/laws.FnLogMerge", spec := "fnLogMerge", unfollowed := true, recurses := true, plainKeys := false, apart := false, narrowed := true }
def FnLogMergeUptoSaid : Prop := fnLogMergeUptoRow.holds Try.pinned (OpenSpec.upto fnLogMergeSpec)

end Rows
end Go.Proofs.Ytmhflifaeplalaa
