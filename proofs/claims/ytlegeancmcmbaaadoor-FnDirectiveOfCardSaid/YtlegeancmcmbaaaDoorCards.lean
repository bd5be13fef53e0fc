/-
  DERIVED. GIVEN WITH THE SEED: THE CARDS: each row of YtlegeancmcmbaaaDoorRows.lean that lists a variable, with what it lists TIED to the program's text (the seventh form; the later family's looks); each row that meets fmt, with fmt's text TOLD by the authors' own Lean function (tested against real Go, not proved from fmt's source: count such statements apart). THE CARD IS WHAT COUNTS. Prove the row's statement (the work); the ties are given (YtlegeancmcmbaaaDoorTie.lean); close each card by the builder's one call (the guide's Derived/Test/ToyasCard.lean, 'card_holds'). Laid BY PROGRAM, IN A SANDBOX (cutbox-door.mjs). By AI agents, Wed Nov 11 2026. No macro, syntax, notation, axiom, sorry.
-/
import Derived.Test.YtlegeancmcmbaaaDoorRows
import GoSem.ClaimSeven
namespace Go.Proofs.YtlegeancmcmbaaaDoor
namespace Rows

/-- THE TIED CARD OF 'laws.FnKindText'. -/
def fnKindTextCard : Claim7 := { stood := { row := fnKindTextRow, standIns := [], harness := (true, "b7e19c59e3e3bd8739679c004d0a7fde45119ad1ba5543bbec985ad7874f72f6"), looks := false }, kinds := [], alts := [], laidByText := true, laidKinds := [.data], laidTests := true, laidLooks := .later }
def FnKindTextCardSaid : Prop := Claim7.holds Tryd.pinned (.plain (OpenSpec.ofChange fnKindTextSpec)) fnKindTextCard

/-- THE TIED CARD OF 'laws.FnReadDirective'. -/
def fnReadDirectiveCard : Claim7 := { stood := { row := fnReadDirectiveRow, standIns := [], harness := (true, "b7e19c59e3e3bd8739679c004d0a7fde45119ad1ba5543bbec985ad7874f72f6"), looks := false }, kinds := [], alts := [], laidByText := true, laidKinds := [.data], laidTests := true, laidLooks := .later }
def FnReadDirectiveCardSaid : Prop := Claim7.holds Tryd.pinned (.plain (OpenSpec.ofChange fnReadDirectiveSpec)) fnReadDirectiveCard

/-- THE TIED CARD OF 'laws.FnExactKindText'. -/
def fnExactKindTextCard : Claim7 := { stood := { row := fnExactKindTextRow, standIns := [], harness := (true, "b7e19c59e3e3bd8739679c004d0a7fde45119ad1ba5543bbec985ad7874f72f6"), looks := false }, kinds := [], alts := [], laidByText := true, laidKinds := [.data], laidTests := true, laidLooks := .later }
def FnExactKindTextCardSaid : Prop := Claim7.holds Tryd.pinned (.plain (OpenSpec.ofChange fnExactKindTextSpec)) fnExactKindTextCard

/-- THE TIED CARD OF 'laws.FnExactDirectiveOf'. -/
def fnExactDirectiveOfCard : Claim7 := { stood := { row := fnExactDirectiveOfRow, standIns := [], harness := (true, "b7e19c59e3e3bd8739679c004d0a7fde45119ad1ba5543bbec985ad7874f72f6"), looks := false }, kinds := [], alts := [], laidByText := true, laidKinds := [.data], laidTests := true, laidLooks := .later }
def FnExactDirectiveOfCardSaid : Prop := Claim7.holds Tryd.pinned (.plain (OpenSpec.ofChange fnExactDirectiveOfSpec)) fnExactDirectiveOfCard

/-- THE TIED CARD OF 'laws.FnExactReadDirective'. -/
def fnExactReadDirectiveCard : Claim7 := { stood := { row := fnExactReadDirectiveRow, standIns := [], harness := (true, "b7e19c59e3e3bd8739679c004d0a7fde45119ad1ba5543bbec985ad7874f72f6"), looks := false }, kinds := [], alts := [], laidByText := true, laidKinds := [.data], laidTests := true, laidLooks := .later }
def FnExactReadDirectiveCardSaid : Prop := Claim7.holds Tryd.pinned (.plain (OpenSpec.ofChange fnExactReadDirectiveSpec)) fnExactReadDirectiveCard

/-- THE TIED CARD OF 'laws.FnDirectiveOf'. -/
def fnDirectiveOfCard : Claim7 := { stood := { row := fnDirectiveOfRow, standIns := [], harness := (true, "b7e19c59e3e3bd8739679c004d0a7fde45119ad1ba5543bbec985ad7874f72f6"), looks := false }, kinds := [], alts := [], laidByText := true, laidKinds := [.data], laidTests := true, laidLooks := .later }
def FnDirectiveOfCardSaid : Prop := Claim7.holds Tryd.pinned (.plain (OpenSpec.ofChange fnDirectiveOfSpec)) fnDirectiveOfCard

/-- THE SECOND FORM's CARD OF 'laws.FnKindText'. -/
def fnKindTextUptoCard : Claim7 := { stood := { row := fnKindTextUptoRow, standIns := [], harness := (true, "b7e19c59e3e3bd8739679c004d0a7fde45119ad1ba5543bbec985ad7874f72f6"), looks := false }, kinds := [], alts := [], laidByText := true, laidKinds := [.data], laidTests := true, laidLooks := .later }
def FnKindTextUptoCardSaid : Prop := Claim7.holds Tryd.pinned (.plain (OpenSpec.upto fnKindTextSpec)) fnKindTextUptoCard

/-- THE SECOND FORM's CARD OF 'laws.FnReadDirective'. -/
def fnReadDirectiveUptoCard : Claim7 := { stood := { row := fnReadDirectiveUptoRow, standIns := [], harness := (true, "b7e19c59e3e3bd8739679c004d0a7fde45119ad1ba5543bbec985ad7874f72f6"), looks := false }, kinds := [], alts := [], laidByText := true, laidKinds := [.data], laidTests := true, laidLooks := .later }
def FnReadDirectiveUptoCardSaid : Prop := Claim7.holds Tryd.pinned (.plain (OpenSpec.upto fnReadDirectiveSpec)) fnReadDirectiveUptoCard

/-- THE SECOND FORM's CARD OF 'laws.FnExactKindText'. -/
def fnExactKindTextUptoCard : Claim7 := { stood := { row := fnExactKindTextUptoRow, standIns := [], harness := (true, "b7e19c59e3e3bd8739679c004d0a7fde45119ad1ba5543bbec985ad7874f72f6"), looks := false }, kinds := [], alts := [], laidByText := true, laidKinds := [.data], laidTests := true, laidLooks := .later }
def FnExactKindTextUptoCardSaid : Prop := Claim7.holds Tryd.pinned (.plain (OpenSpec.upto fnExactKindTextSpec)) fnExactKindTextUptoCard

/-- THE SECOND FORM's CARD OF 'laws.FnExactDirectiveOf'. -/
def fnExactDirectiveOfUptoCard : Claim7 := { stood := { row := fnExactDirectiveOfUptoRow, standIns := [], harness := (true, "b7e19c59e3e3bd8739679c004d0a7fde45119ad1ba5543bbec985ad7874f72f6"), looks := false }, kinds := [], alts := [], laidByText := true, laidKinds := [.data], laidTests := true, laidLooks := .later }
def FnExactDirectiveOfUptoCardSaid : Prop := Claim7.holds Tryd.pinned (.plain (OpenSpec.upto fnExactDirectiveOfSpec)) fnExactDirectiveOfUptoCard

/-- THE SECOND FORM's CARD OF 'laws.FnExactReadDirective'. -/
def fnExactReadDirectiveUptoCard : Claim7 := { stood := { row := fnExactReadDirectiveUptoRow, standIns := [], harness := (true, "b7e19c59e3e3bd8739679c004d0a7fde45119ad1ba5543bbec985ad7874f72f6"), looks := false }, kinds := [], alts := [], laidByText := true, laidKinds := [.data], laidTests := true, laidLooks := .later }
def FnExactReadDirectiveUptoCardSaid : Prop := Claim7.holds Tryd.pinned (.plain (OpenSpec.upto fnExactReadDirectiveSpec)) fnExactReadDirectiveUptoCard

/-- THE SECOND FORM's CARD OF 'laws.FnDirectiveOf'. -/
def fnDirectiveOfUptoCard : Claim7 := { stood := { row := fnDirectiveOfUptoRow, standIns := [], harness := (true, "b7e19c59e3e3bd8739679c004d0a7fde45119ad1ba5543bbec985ad7874f72f6"), looks := false }, kinds := [], alts := [], laidByText := true, laidKinds := [.data], laidTests := true, laidLooks := .later }
def FnDirectiveOfUptoCardSaid : Prop := Claim7.holds Tryd.pinned (.plain (OpenSpec.upto fnDirectiveOfSpec)) fnDirectiveOfUptoCard
end Rows
end Go.Proofs.YtlegeancmcmbaaaDoor
