/-
  DERIVED. GIVEN WITH THE SEED: THE CARDS: each row of YtdbhboglccggdaaGreatDoorRows.lean that lists a variable, with what it lists TIED to the program's text (the seventh form; the later family's looks); each row that meets fmt, with fmt's text TOLD by the authors' own Lean function (tested against real Go, not proved from fmt's source: count such statements apart). THE CARD IS WHAT COUNTS. Prove the row's statement (the work); the ties are given (YtdbhboglccggdaaGreatDoorTie.lean); close each card by the builder's one call (the guide's Derived/Test/ToyasCard.lean, 'card_holds'). Laid BY PROGRAM, IN A SANDBOX (cutbox-door.mjs). By AI agents, Wed Nov 11 2026. No macro, syntax, notation, axiom, sorry.
-/
import Derived.Test.YtdbhboglccggdaaGreatDoorRows
import GoSem.ClaimSeven
namespace Go.Proofs.YtdbhboglccggdaaGreatDoor
namespace Rows

/-- THE TIED CARD OF 'maundlaw13.RouteTells'. -/
def routeTellsCard : Claim7 := { stood := { row := routeTellsRow, standIns := [], harness := (true, "1b23313e3f6055d3a31e5a53416cf17811ddd1a9abedc41bf23994ac3bcdaa95"), looks := false }, kinds := [], alts := [], laidByText := true, laidKinds := [.data, .data], laidTests := true, laidLooks := .later }
def RouteTellsCardSaid : Prop := Claim7.holds Tryz.pinned (.plain (OpenSpec.ofChange routeTellsSpec)) routeTellsCard

/-- THE TIED CARD OF 'maundlaw13.RoutePicks'. -/
def routePicksCard : Claim7 := { stood := { row := routePicksRow, standIns := [], harness := (true, "1b23313e3f6055d3a31e5a53416cf17811ddd1a9abedc41bf23994ac3bcdaa95"), looks := false }, kinds := [], alts := [], laidByText := true, laidKinds := [.data, .data], laidTests := true, laidLooks := .later }
def RoutePicksCardSaid : Prop := Claim7.holds Tryz.pinned (.plain (OpenSpec.ofChange routePicksSpec)) routePicksCard

/-- THE TIED CARD OF 'maundlaw13.RouteOthers'. -/
def routeOthersCard : Claim7 := { stood := { row := routeOthersRow, standIns := [], harness := (true, "1b23313e3f6055d3a31e5a53416cf17811ddd1a9abedc41bf23994ac3bcdaa95"), looks := false }, kinds := [], alts := [], laidByText := true, laidKinds := [.data, .data], laidTests := true, laidLooks := .later }
def RouteOthersCardSaid : Prop := Claim7.holds Tryz.pinned (.plain (OpenSpec.ofChange routeOthersSpec)) routeOthersCard

/-- THE SECOND FORM's CARD OF 'maundlaw13.RouteTells'. -/
def routeTellsUptoCard : Claim7 := { stood := { row := routeTellsUptoRow, standIns := [], harness := (true, "1b23313e3f6055d3a31e5a53416cf17811ddd1a9abedc41bf23994ac3bcdaa95"), looks := false }, kinds := [], alts := [], laidByText := true, laidKinds := [.data, .data], laidTests := true, laidLooks := .later }
def RouteTellsUptoCardSaid : Prop := Claim7.holds Tryz.pinned (.plain (OpenSpec.upto routeTellsSpec)) routeTellsUptoCard

/-- THE SECOND FORM's CARD OF 'maundlaw13.RoutePicks'. -/
def routePicksUptoCard : Claim7 := { stood := { row := routePicksUptoRow, standIns := [], harness := (true, "1b23313e3f6055d3a31e5a53416cf17811ddd1a9abedc41bf23994ac3bcdaa95"), looks := false }, kinds := [], alts := [], laidByText := true, laidKinds := [.data, .data], laidTests := true, laidLooks := .later }
def RoutePicksUptoCardSaid : Prop := Claim7.holds Tryz.pinned (.plain (OpenSpec.upto routePicksSpec)) routePicksUptoCard

/-- THE SECOND FORM's CARD OF 'maundlaw13.RouteOthers'. -/
def routeOthersUptoCard : Claim7 := { stood := { row := routeOthersUptoRow, standIns := [], harness := (true, "1b23313e3f6055d3a31e5a53416cf17811ddd1a9abedc41bf23994ac3bcdaa95"), looks := false }, kinds := [], alts := [], laidByText := true, laidKinds := [.data, .data], laidTests := true, laidLooks := .later }
def RouteOthersUptoCardSaid : Prop := Claim7.holds Tryz.pinned (.plain (OpenSpec.upto routeOthersSpec)) routeOthersUptoCard
end Rows
end Go.Proofs.YtdbhboglccggdaaGreatDoor
