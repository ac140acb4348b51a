/-
  DERIVED. GIVEN WITH THE SEED: THE CARDS: each row of YtjakaceckmhjiafDoorRows.lean that lists a variable, with what it lists TIED to the program's text (the seventh form; the later family's looks); each row that meets fmt, with fmt's text TOLD by the authors' own Lean function (tested against real Go, not proved from fmt's source: count such statements apart). THE CARD IS WHAT COUNTS. Prove the row's statement (the work); the ties are given (YtjakaceckmhjiafDoorTie.lean); close each card by the builder's one call (the guide's Derived/Test/ToyasCard.lean, 'card_holds'). Laid BY PROGRAM, IN A SANDBOX (cutbox-door.mjs). By AI agents, Wed Nov 11 2026. No macro, syntax, notation, axiom, sorry.
-/
import Derived.Test.YtjakaceckmhjiafDoorRows
import GoSem.ClaimSeven
namespace Go.Proofs.YtjakaceckmhjiafDoor
namespace Rows

/-- THE TIED CARD OF 'cantuslaw9.CanonApplies'. -/
def canonAppliesCard : Claim7 := { stood := { row := canonAppliesRow, standIns := [], harness := (true, "2ea197033c79b67412151edafc0678d27107f6fb803108b8fb7140291e751656"), looks := false }, kinds := [], alts := [], laidByText := true, laidKinds := [.data], laidTests := true, laidLooks := .later }
def CanonAppliesCardSaid : Prop := Claim7.holds Tryd.pinned (.plain (OpenSpec.ofChange canonAppliesSpec)) canonAppliesCard

/-- THE TIED CARD OF 'cantuslaw9.CanonGroup'. -/
def canonGroupCard : Claim7 := { stood := { row := canonGroupRow, standIns := [], harness := (true, "2ea197033c79b67412151edafc0678d27107f6fb803108b8fb7140291e751656"), looks := false }, kinds := [], alts := [], laidByText := true, laidKinds := [.data], laidTests := true, laidLooks := .later }
def CanonGroupCardSaid : Prop := Claim7.holds Tryd.pinned (.plain (OpenSpec.ofChange canonGroupSpec)) canonGroupCard

/-- THE TIED CARD OF 'cantuslaw9.CanonApart'. -/
def canonApartCard : Claim7 := { stood := { row := canonApartRow, standIns := [], harness := (true, "2ea197033c79b67412151edafc0678d27107f6fb803108b8fb7140291e751656"), looks := false }, kinds := [], alts := [], laidByText := true, laidKinds := [.data], laidTests := true, laidLooks := .later }
def CanonApartCardSaid : Prop := Claim7.holds Tryd.pinned (.plain (OpenSpec.ofChange canonApartSpec)) canonApartCard

/-- THE TIED CARD OF 'cantuslaw9.CanonFollows'. -/
def canonFollowsCard : Claim7 := { stood := { row := canonFollowsRow, standIns := [], harness := (true, "2ea197033c79b67412151edafc0678d27107f6fb803108b8fb7140291e751656"), looks := false }, kinds := [], alts := [], laidByText := true, laidKinds := [.data], laidTests := true, laidLooks := .later }
def CanonFollowsCardSaid : Prop := Claim7.holds Tryd.pinned (.plain (OpenSpec.ofChange canonFollowsSpec)) canonFollowsCard

/-- THE SECOND FORM's CARD OF 'cantuslaw9.CanonApplies'. -/
def canonAppliesUptoCard : Claim7 := { stood := { row := canonAppliesUptoRow, standIns := [], harness := (true, "2ea197033c79b67412151edafc0678d27107f6fb803108b8fb7140291e751656"), looks := false }, kinds := [], alts := [], laidByText := true, laidKinds := [.data], laidTests := true, laidLooks := .later }
def CanonAppliesUptoCardSaid : Prop := Claim7.holds Tryd.pinned (.plain (OpenSpec.upto canonAppliesSpec)) canonAppliesUptoCard

/-- THE SECOND FORM's CARD OF 'cantuslaw9.CanonGroup'. -/
def canonGroupUptoCard : Claim7 := { stood := { row := canonGroupUptoRow, standIns := [], harness := (true, "2ea197033c79b67412151edafc0678d27107f6fb803108b8fb7140291e751656"), looks := false }, kinds := [], alts := [], laidByText := true, laidKinds := [.data], laidTests := true, laidLooks := .later }
def CanonGroupUptoCardSaid : Prop := Claim7.holds Tryd.pinned (.plain (OpenSpec.upto canonGroupSpec)) canonGroupUptoCard

/-- THE SECOND FORM's CARD OF 'cantuslaw9.CanonApart'. -/
def canonApartUptoCard : Claim7 := { stood := { row := canonApartUptoRow, standIns := [], harness := (true, "2ea197033c79b67412151edafc0678d27107f6fb803108b8fb7140291e751656"), looks := false }, kinds := [], alts := [], laidByText := true, laidKinds := [.data], laidTests := true, laidLooks := .later }
def CanonApartUptoCardSaid : Prop := Claim7.holds Tryd.pinned (.plain (OpenSpec.upto canonApartSpec)) canonApartUptoCard

/-- THE SECOND FORM's CARD OF 'cantuslaw9.CanonFollows'. -/
def canonFollowsUptoCard : Claim7 := { stood := { row := canonFollowsUptoRow, standIns := [], harness := (true, "2ea197033c79b67412151edafc0678d27107f6fb803108b8fb7140291e751656"), looks := false }, kinds := [], alts := [], laidByText := true, laidKinds := [.data], laidTests := true, laidLooks := .later }
def CanonFollowsUptoCardSaid : Prop := Claim7.holds Tryd.pinned (.plain (OpenSpec.upto canonFollowsSpec)) canonFollowsUptoCard
end Rows
end Go.Proofs.YtjakaceckmhjiafDoor
