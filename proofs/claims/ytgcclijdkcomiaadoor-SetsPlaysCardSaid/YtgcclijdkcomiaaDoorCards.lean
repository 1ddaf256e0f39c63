/-
  DERIVED. GIVEN WITH THE SEED: THE CARDS: each row of YtgcclijdkcomiaaDoorRows.lean that lists a variable, with what it lists TIED to the program's text (the seventh form; the later family's looks); each row that meets fmt, with fmt's text TOLD by the authors' own Lean function (tested against real Go, not proved from fmt's source: count such statements apart). THE CARD IS WHAT COUNTS. Prove the row's statement (the work); the ties are given (YtgcclijdkcomiaaDoorTie.lean); close each card by the builder's one call (the guide's Derived/Test/ToyasCard.lean, 'card_holds'). Laid BY PROGRAM, IN A SANDBOX (cutbox-door.mjs). By AI agents, Wed Nov 11 2026. No macro, syntax, notation, axiom, sorry.
-/
import Derived.Test.YtgcclijdkcomiaaDoorRows
import GoSem.ClaimSeven
namespace Go.Proofs.YtgcclijdkcomiaaDoor
namespace Rows

/-- THE TIED CARD OF 'lodestonelaw05.SetsPlays'. -/
def setsPlaysCard : Claim7 := { stood := { row := setsPlaysRow, standIns := [], harness := (true, "1a1905fcf062da91430462e61c0e69b862b2d6db860673735761c9fd3c82b298"), looks := false }, kinds := [], alts := [], laidByText := true, laidKinds := [.data], laidTests := true, laidLooks := .later }
def SetsPlaysCardSaid : Prop := Claim7.holds Tryd.pinned (.plain (OpenSpec.ofChange setsPlaysSpec)) setsPlaysCard

/-- THE TIED CARD OF 'lodestonelaw05.SetsHas'. -/
def setsHasCard : Claim7 := { stood := { row := setsHasRow, standIns := [], harness := (true, "1a1905fcf062da91430462e61c0e69b862b2d6db860673735761c9fd3c82b298"), looks := false }, kinds := [], alts := [], laidByText := true, laidKinds := [.data], laidTests := true, laidLooks := .later }
def SetsHasCardSaid : Prop := Claim7.holds Tryd.pinned (.plain (OpenSpec.ofChange setsHasSpec)) setsHasCard

/-- THE TIED CARD OF 'lodestonelaw05.SetsRising'. -/
def setsRisingCard : Claim7 := { stood := { row := setsRisingRow, standIns := [], harness := (true, "1a1905fcf062da91430462e61c0e69b862b2d6db860673735761c9fd3c82b298"), looks := false }, kinds := [], alts := [], laidByText := true, laidKinds := [.data], laidTests := true, laidLooks := .later }
def SetsRisingCardSaid : Prop := Claim7.holds Tryd.pinned (.plain (OpenSpec.ofChange setsRisingSpec)) setsRisingCard

/-- THE TIED CARD OF 'lodestonelaw05.SetsOrder'. -/
def setsOrderCard : Claim7 := { stood := { row := setsOrderRow, standIns := [], harness := (true, "1a1905fcf062da91430462e61c0e69b862b2d6db860673735761c9fd3c82b298"), looks := false }, kinds := [], alts := [], laidByText := true, laidKinds := [.data], laidTests := true, laidLooks := .later }
def SetsOrderCardSaid : Prop := Claim7.holds Tryd.pinned (.plain (OpenSpec.ofChange setsOrderSpec)) setsOrderCard

/-- THE TIED CARD OF 'lodestonelaw05.SetsBounds'. -/
def setsBoundsCard : Claim7 := { stood := { row := setsBoundsRow, standIns := [], harness := (true, "1a1905fcf062da91430462e61c0e69b862b2d6db860673735761c9fd3c82b298"), looks := false }, kinds := [], alts := [], laidByText := true, laidKinds := [.data], laidTests := true, laidLooks := .later }
def SetsBoundsCardSaid : Prop := Claim7.holds Tryd.pinned (.plain (OpenSpec.ofChange setsBoundsSpec)) setsBoundsCard

/-- THE SECOND FORM's CARD OF 'lodestonelaw05.SetsPlays'. -/
def setsPlaysUptoCard : Claim7 := { stood := { row := setsPlaysUptoRow, standIns := [], harness := (true, "1a1905fcf062da91430462e61c0e69b862b2d6db860673735761c9fd3c82b298"), looks := false }, kinds := [], alts := [], laidByText := true, laidKinds := [.data], laidTests := true, laidLooks := .later }
def SetsPlaysUptoCardSaid : Prop := Claim7.holds Tryd.pinned (.plain (OpenSpec.upto setsPlaysSpec)) setsPlaysUptoCard

/-- THE SECOND FORM's CARD OF 'lodestonelaw05.SetsHas'. -/
def setsHasUptoCard : Claim7 := { stood := { row := setsHasUptoRow, standIns := [], harness := (true, "1a1905fcf062da91430462e61c0e69b862b2d6db860673735761c9fd3c82b298"), looks := false }, kinds := [], alts := [], laidByText := true, laidKinds := [.data], laidTests := true, laidLooks := .later }
def SetsHasUptoCardSaid : Prop := Claim7.holds Tryd.pinned (.plain (OpenSpec.upto setsHasSpec)) setsHasUptoCard

/-- THE SECOND FORM's CARD OF 'lodestonelaw05.SetsRising'. -/
def setsRisingUptoCard : Claim7 := { stood := { row := setsRisingUptoRow, standIns := [], harness := (true, "1a1905fcf062da91430462e61c0e69b862b2d6db860673735761c9fd3c82b298"), looks := false }, kinds := [], alts := [], laidByText := true, laidKinds := [.data], laidTests := true, laidLooks := .later }
def SetsRisingUptoCardSaid : Prop := Claim7.holds Tryd.pinned (.plain (OpenSpec.upto setsRisingSpec)) setsRisingUptoCard

/-- THE SECOND FORM's CARD OF 'lodestonelaw05.SetsOrder'. -/
def setsOrderUptoCard : Claim7 := { stood := { row := setsOrderUptoRow, standIns := [], harness := (true, "1a1905fcf062da91430462e61c0e69b862b2d6db860673735761c9fd3c82b298"), looks := false }, kinds := [], alts := [], laidByText := true, laidKinds := [.data], laidTests := true, laidLooks := .later }
def SetsOrderUptoCardSaid : Prop := Claim7.holds Tryd.pinned (.plain (OpenSpec.upto setsOrderSpec)) setsOrderUptoCard

/-- THE SECOND FORM's CARD OF 'lodestonelaw05.SetsBounds'. -/
def setsBoundsUptoCard : Claim7 := { stood := { row := setsBoundsUptoRow, standIns := [], harness := (true, "1a1905fcf062da91430462e61c0e69b862b2d6db860673735761c9fd3c82b298"), looks := false }, kinds := [], alts := [], laidByText := true, laidKinds := [.data], laidTests := true, laidLooks := .later }
def SetsBoundsUptoCardSaid : Prop := Claim7.holds Tryd.pinned (.plain (OpenSpec.upto setsBoundsSpec)) setsBoundsUptoCard
end Rows
end Go.Proofs.YtgcclijdkcomiaaDoor
