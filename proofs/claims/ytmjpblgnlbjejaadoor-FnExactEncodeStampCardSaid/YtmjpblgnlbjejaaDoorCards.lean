/-
  DERIVED. GIVEN WITH THE SEED: THE CARDS: each row of YtmjpblgnlbjejaaDoorRows.lean that lists a variable, with what it lists TIED to the program's text (the seventh form; the later family's looks); each row that meets fmt, with fmt's text TOLD by the authors' own Lean function (tested against real Go, not proved from fmt's source: count such statements apart). THE CARD IS WHAT COUNTS. Prove the row's statement (the work); the ties are given (YtmjpblgnlbjejaaDoorTie.lean); close each card by the builder's one call (the guide's Derived/Test/ToyasCard.lean, 'card_holds'). Laid BY PROGRAM, IN A SANDBOX (cutbox-door.mjs). By AI agents, Wed Nov 11 2026. No macro, syntax, notation, axiom, sorry.
-/
import Derived.Test.YtmjpblgnlbjejaaDoorRows
import GoSem.ClaimSeven
namespace Go.Proofs.YtmjpblgnlbjejaaDoor
namespace Rows

/-- THE TIED CARD OF 'laws.FnExactEncodeStamp'. -/
def fnExactEncodeStampCard : Claim7 := { stood := { row := fnExactEncodeStampRow, standIns := [], harness := (true, "05ee9357cfb8020ffed356ee39eef3bf506071cbc3c5309fc9e962087400fb8c"), looks := true }, kinds := [], alts := [], laidByText := true, laidKinds := [.data, .data, .data], laidTests := true, laidLooks := .later }
def FnExactEncodeStampCardSaid : Prop := Claim7.holds Tryd.pinned (.plain (OpenSpec.ofChange fnExactEncodeStampSpec)) fnExactEncodeStampCard

/-- THE TIED CARD OF 'laws.FnExactDecodeStamp'. -/
def fnExactDecodeStampCard : Claim7 := { stood := { row := fnExactDecodeStampRow, standIns := [], harness := (true, "05ee9357cfb8020ffed356ee39eef3bf506071cbc3c5309fc9e962087400fb8c"), looks := true }, kinds := [], alts := [], laidByText := true, laidKinds := [.data, .data, .data, .sentinel, .sentinel], laidTests := true, laidLooks := .later }
def FnExactDecodeStampCardSaid : Prop := Claim7.holds Tryd.pinned (.plain (OpenSpec.ofChange fnExactDecodeStampSpec)) fnExactDecodeStampCard

/-- THE TIED CARD OF 'laws.FnStampCanonical'. -/
def fnStampCanonicalCard : Claim7 := { stood := { row := fnStampCanonicalRow, standIns := [], harness := (true, "05ee9357cfb8020ffed356ee39eef3bf506071cbc3c5309fc9e962087400fb8c"), looks := true }, kinds := [], alts := [], laidByText := true, laidKinds := [.data, .data, .data, .sentinel, .sentinel], laidTests := true, laidLooks := .later }
def FnStampCanonicalCardSaid : Prop := Claim7.holds Tryd.pinned (.plain (OpenSpec.ofChange fnStampCanonicalSpec)) fnStampCanonicalCard

/-- THE SECOND FORM's CARD OF 'laws.FnExactEncodeStamp'. -/
def fnExactEncodeStampUptoCard : Claim7 := { stood := { row := fnExactEncodeStampUptoRow, standIns := [], harness := (true, "05ee9357cfb8020ffed356ee39eef3bf506071cbc3c5309fc9e962087400fb8c"), looks := true }, kinds := [], alts := [], laidByText := true, laidKinds := [.data, .data, .data], laidTests := true, laidLooks := .later }
def FnExactEncodeStampUptoCardSaid : Prop := Claim7.holds Tryd.pinned (.plain (OpenSpec.upto fnExactEncodeStampSpec)) fnExactEncodeStampUptoCard

/-- THE SECOND FORM's CARD OF 'laws.FnExactDecodeStamp'. -/
def fnExactDecodeStampUptoCard : Claim7 := { stood := { row := fnExactDecodeStampUptoRow, standIns := [], harness := (true, "05ee9357cfb8020ffed356ee39eef3bf506071cbc3c5309fc9e962087400fb8c"), looks := true }, kinds := [], alts := [], laidByText := true, laidKinds := [.data, .data, .data, .sentinel, .sentinel], laidTests := true, laidLooks := .later }
def FnExactDecodeStampUptoCardSaid : Prop := Claim7.holds Tryd.pinned (.plain (OpenSpec.upto fnExactDecodeStampSpec)) fnExactDecodeStampUptoCard

/-- THE SECOND FORM's CARD OF 'laws.FnStampCanonical'. -/
def fnStampCanonicalUptoCard : Claim7 := { stood := { row := fnStampCanonicalUptoRow, standIns := [], harness := (true, "05ee9357cfb8020ffed356ee39eef3bf506071cbc3c5309fc9e962087400fb8c"), looks := true }, kinds := [], alts := [], laidByText := true, laidKinds := [.data, .data, .data, .sentinel, .sentinel], laidTests := true, laidLooks := .later }
def FnStampCanonicalUptoCardSaid : Prop := Claim7.holds Tryd.pinned (.plain (OpenSpec.upto fnStampCanonicalSpec)) fnStampCanonicalUptoCard
end Rows
end Go.Proofs.YtmjpblgnlbjejaaDoor
