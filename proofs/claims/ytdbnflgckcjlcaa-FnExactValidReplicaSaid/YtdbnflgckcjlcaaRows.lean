/-
  No cell of these rows narrows 'for every input' (looked for: loops, veiled, ifaces, maps, wideKeys, modest, calm, conditions, laid).
  DERIVED. THE GIVEN ROWS OF THIS SEAT. 5 by the template 'for every input the law returns true; each argument reads behind the call as it read before'; 0 by the template 'total and deterministic' (their statements: YtdbnflgckcjlcaaTotals.lean).
  GIVEN WITH THE SEED: the statements are not yours to turn. If you find one false, say at which input.
  Laid BY PROGRAM, IN A SANDBOX (cutbox-rows.mjs): the forced cells as the released guide's own fill.sh prints them over the translation aa690de466cd0959… (all of the seat's roots in one cut). By AI agents, Wed Nov 11 2026. No macro, syntax, notation, axiom, sorry.
-/
import Derived.Test.YtdbnflgckcjlcaaChecked
import GoSem.Claim
import GoSem.ClaimJoined
import GoSem.ClaimMapViews
import Derived.JoinedTies
import Derived.KernelRfl
namespace Go.Proofs.Ytdbnflgckcjlcaa
/- THE CELL 'sum', in the pinned program and in every row, IS THE sha256 OF THE DUMP (.gsa) THAT YtdbnflgckcjlcaaProg.lean LOADS. Nothing in Lean hashes anything: it is a label: what it is worth is what the hold of that sum in a sandbox is worth. -/
noncomputable def Try.pinned : Pinned := { name := "ytdbnflgckcjlcaa", sum := "aa690de466cd09599b61f6e324d4b04465f15bd9cb7d911d7df137aba2b5f2f7", checked := Try.checked }
namespace Rows
def none {H : Type} : Left H := { results := [], args := [] }

/-- 'laws.FnExactChecksum': WHATEVER THE INPUT: true; the input reads as it did. -/
def fnExactChecksumSpec : ChangeSpec := { name := "fnExactChecksum", fn := fun _ => fun
  | [d] => { results := [.lit (.bool true)], args := [d] }
  | _ => none }
def fnExactChecksumRow : OpenClaim := { program := "ytdbnflgckcjlcaa", sum := "aa690de466cd09599b61f6e324d4b04465f15bd9cb7d911d7df137aba2b5f2f7", func := "loop.example/collabdoc/laws.FnExactChecksum", spec := "fnExactChecksum", plainKeys := false, apart := false }
def FnExactChecksumSaid : Prop := fnExactChecksumRow.holds Try.pinned (OpenSpec.ofChange fnExactChecksumSpec)

/-- ITS FALSE NEIGHBOUR: 'it returns false'. Refute it at one input. -/
def fnExactChecksumWrong : ChangeSpec := { name := "fnExactChecksum", fn := fun _ => fun
  | [d] => { results := [.lit (.bool false)], args := [d] }
  | _ => none }
def FnExactChecksumWrongFalsely : Prop := fnExactChecksumRow.holds Try.pinned (OpenSpec.ofChange fnExactChecksumWrong)

/-- 'laws.FnChecksum': WHATEVER THE INPUT: true; the input reads as it did. -/
def fnChecksumSpec : ChangeSpec := { name := "fnChecksum", fn := fun _ => fun
  | [d1, d2] => { results := [.lit (.bool true)], args := [d1, d2] }
  | _ => none }
def fnChecksumRow : OpenClaim := { program := "ytdbnflgckcjlcaa", sum := "aa690de466cd09599b61f6e324d4b04465f15bd9cb7d911d7df137aba2b5f2f7", func := "loop.example/collabdoc/laws.FnChecksum", spec := "fnChecksum", recurses := true, plainKeys := false, apart := false }
def FnChecksumSaid : Prop := fnChecksumRow.holds Try.pinned (OpenSpec.ofChange fnChecksumSpec)

/-- ITS FALSE NEIGHBOUR: 'it returns false'. Refute it at one input. -/
def fnChecksumWrong : ChangeSpec := { name := "fnChecksum", fn := fun _ => fun
  | [d1, d2] => { results := [.lit (.bool false)], args := [d1, d2] }
  | _ => none }
def FnChecksumWrongFalsely : Prop := fnChecksumRow.holds Try.pinned (OpenSpec.ofChange fnChecksumWrong)

/-- 'laws.FnExactCompactLog': WHATEVER THE INPUT: true; the input reads as it did. -/
def fnExactCompactLogSpec : ChangeSpec := { name := "fnExactCompactLog", fn := fun _ => fun
  | [d] => { results := [.lit (.bool true)], args := [d] }
  | _ => none }
def fnExactCompactLogRow : OpenClaim := { program := "ytdbnflgckcjlcaa", sum := "aa690de466cd09599b61f6e324d4b04465f15bd9cb7d911d7df137aba2b5f2f7", func := "loop.example/collabdoc/laws.FnExactCompactLog", spec := "fnExactCompactLog", unfollowed := true, recurses := true, plainKeys := false, apart := false }
def FnExactCompactLogSaid : Prop := fnExactCompactLogRow.holds Try.pinned (OpenSpec.ofChange fnExactCompactLogSpec)

/-- ITS FALSE NEIGHBOUR: 'it returns false'. Refute it at one input. -/
def fnExactCompactLogWrong : ChangeSpec := { name := "fnExactCompactLog", fn := fun _ => fun
  | [d] => { results := [.lit (.bool false)], args := [d] }
  | _ => none }
def FnExactCompactLogWrongFalsely : Prop := fnExactCompactLogRow.holds Try.pinned (OpenSpec.ofChange fnExactCompactLogWrong)

/-- 'laws.FnExactNewNetwork': WHATEVER THE INPUT: true; the input reads as it did. -/
def fnExactNewNetworkSpec : ChangeSpec := { name := "fnExactNewNetwork", fn := fun _ => fun
  | [] => { results := [.lit (.bool true)], args := [] }
  | _ => none }
def fnExactNewNetworkRow : OpenClaim := { program := "ytdbnflgckcjlcaa", sum := "aa690de466cd09599b61f6e324d4b04465f15bd9cb7d911d7df137aba2b5f2f7", func := "loop.example/collabdoc/laws.FnExactNewNetwork", spec := "fnExactNewNetwork", plainKeys := false, apart := false }
def FnExactNewNetworkSaid : Prop := fnExactNewNetworkRow.holds Try.pinned (OpenSpec.ofChange fnExactNewNetworkSpec)

/-- ITS FALSE NEIGHBOUR: 'it returns false'. Refute it at one input. -/
def fnExactNewNetworkWrong : ChangeSpec := { name := "fnExactNewNetwork", fn := fun _ => fun
  | [] => { results := [.lit (.bool false)], args := [] }
  | _ => none }
def FnExactNewNetworkWrongFalsely : Prop := fnExactNewNetworkRow.holds Try.pinned (OpenSpec.ofChange fnExactNewNetworkWrong)

/-- 'laws.FnExactValidReplica': WHATEVER THE INPUT: true; the input reads as it did. -/
def fnExactValidReplicaSpec : ChangeSpec := { name := "fnExactValidReplica", fn := fun _ => fun
  | [d] => { results := [.lit (.bool true)], args := [d] }
  | _ => none }
def fnExactValidReplicaRow : OpenClaim := { program := "ytdbnflgckcjlcaa", sum := "aa690de466cd09599b61f6e324d4b04465f15bd9cb7d911d7df137aba2b5f2f7", func := "loop.example/collabdoc/laws.FnExactValidReplica", spec := "fnExactValidReplica", unfollowed := true, recurses := true, plainKeys := false, apart := false }
def FnExactValidReplicaSaid : Prop := fnExactValidReplicaRow.holds Try.pinned (OpenSpec.ofChange fnExactValidReplicaSpec)

/-- ITS FALSE NEIGHBOUR: 'it returns false'. Refute it at one input. -/
def fnExactValidReplicaWrong : ChangeSpec := { name := "fnExactValidReplica", fn := fun _ => fun
  | [d] => { results := [.lit (.bool false)], args := [d] }
  | _ => none }
def FnExactValidReplicaWrongFalsely : Prop := fnExactValidReplicaRow.holds Try.pinned (OpenSpec.ofChange fnExactValidReplicaWrong)

/- THE SECOND FORM. 'bulk': how many values and letters a reading holds, each counted each time it is reached (what is shared counts as often as it is met; a slice's spare places count too). A statement '..UptoSaid' is the law's where the arguments, and the package variables that the reading takes, are together of bulk at most 1048576: NARROWER than '..Said'. Prove '..Said' where nothing that the law and all that it calls make is longer than what came in: it says more and counts as full. Else prove '..UptoSaid'. A law counts once. -/
mutual
def uptoBulk {H : Type} : DataW H → Nat
  | .lit (.string bytes) => bytes.length + 1
  | .lit _ => 1
  | .nil => 1
  | .ptr d => uptoBulk d + 1
  | .slice elems spare => uptoBulkAll elems + uptoBulkAll spare + 1
  | .agg parts => uptoBulkAll parts + 1
  | .iface _ d => uptoBulk d + 1
  | .map entries => uptoBulkEntries entries + 1
  | .held _ => 1
def uptoBulkAll {H : Type} : List (DataW H) → Nat
  | [] => 0
  | d :: r => uptoBulk d + uptoBulkAll r
def uptoBulkEntries {H : Type} : List (Lit × DataW H) → Nat
  | [] => 0
  | x :: r => uptoBulkEntry x + uptoBulkEntries r
def uptoBulkEntry {H : Type} : Lit × DataW H → Nat
  | (.string bytes, d) => bytes.length + uptoBulk d + 1
  | (_, d) => uptoBulk d + 1
 end
def uptoSmall : (H : Type) → List (DataW H) → Bool := fun _ ds => decide (uptoBulkAll ds ≤ 1048576)
def OpenSpec.upto (s : _root_.Go.ChangeSpec) : _root_.Go.OpenSpec := { _root_.Go.OpenSpec.ofChange s with cond := some uptoSmall }

/-- 'laws.FnExactChecksum', WHERE WHAT IT READS IS OF BULK AT MOST 1048576: true; the input reads as it did. -/
def fnExactChecksumUptoRow : OpenClaim := { program := "ytdbnflgckcjlcaa", sum := "aa690de466cd09599b61f6e324d4b04465f15bd9cb7d911d7df137aba2b5f2f7", func := "loop.example/collabdoc/laws.FnExactChecksum", spec := "fnExactChecksum", plainKeys := false, apart := false, narrowed := true }
def FnExactChecksumUptoSaid : Prop := fnExactChecksumUptoRow.holds Try.pinned (OpenSpec.upto fnExactChecksumSpec)

/-- 'laws.FnChecksum', WHERE WHAT IT READS IS OF BULK AT MOST 1048576: true; the input reads as it did. -/
def fnChecksumUptoRow : OpenClaim := { program := "ytdbnflgckcjlcaa", sum := "aa690de466cd09599b61f6e324d4b04465f15bd9cb7d911d7df137aba2b5f2f7", func := "loop.example/collabdoc/laws.FnChecksum", spec := "fnChecksum", recurses := true, plainKeys := false, apart := false, narrowed := true }
def FnChecksumUptoSaid : Prop := fnChecksumUptoRow.holds Try.pinned (OpenSpec.upto fnChecksumSpec)

/-- 'laws.FnExactCompactLog', WHERE WHAT IT READS IS OF BULK AT MOST 1048576: true; the input reads as it did. -/
def fnExactCompactLogUptoRow : OpenClaim := { program := "ytdbnflgckcjlcaa", sum := "aa690de466cd09599b61f6e324d4b04465f15bd9cb7d911d7df137aba2b5f2f7", func := "loop.example/collabdoc/laws.FnExactCompactLog", spec := "fnExactCompactLog", unfollowed := true, recurses := true, plainKeys := false, apart := false, narrowed := true }
def FnExactCompactLogUptoSaid : Prop := fnExactCompactLogUptoRow.holds Try.pinned (OpenSpec.upto fnExactCompactLogSpec)

/-- 'laws.FnExactNewNetwork', WHERE WHAT IT READS IS OF BULK AT MOST 1048576: true; the input reads as it did. -/
def fnExactNewNetworkUptoRow : OpenClaim := { program := "ytdbnflgckcjlcaa", sum := "aa690de466cd09599b61f6e324d4b04465f15bd9cb7d911d7df137aba2b5f2f7", func := "loop.example/collabdoc/laws.FnExactNewNetwork", spec := "fnExactNewNetwork", plainKeys := false, apart := false, narrowed := true }
def FnExactNewNetworkUptoSaid : Prop := fnExactNewNetworkUptoRow.holds Try.pinned (OpenSpec.upto fnExactNewNetworkSpec)

/-- 'laws.FnExactValidReplica', WHERE WHAT IT READS IS OF BULK AT MOST 1048576: true; the input reads as it did. -/
def fnExactValidReplicaUptoRow : OpenClaim := { program := "ytdbnflgckcjlcaa", sum := "aa690de466cd09599b61f6e324d4b04465f15bd9cb7d911d7df137aba2b5f2f7", func := "loop.example/collabdoc/laws.FnExactValidReplica", spec := "fnExactValidReplica", unfollowed := true, recurses := true, plainKeys := false, apart := false, narrowed := true }
def FnExactValidReplicaUptoSaid : Prop := fnExactValidReplicaUptoRow.holds Try.pinned (OpenSpec.upto fnExactValidReplicaSpec)

end Rows
end Go.Proofs.Ytdbnflgckcjlcaa
