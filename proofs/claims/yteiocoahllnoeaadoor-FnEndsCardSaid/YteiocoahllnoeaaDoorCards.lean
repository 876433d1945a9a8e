/-
  DERIVED. GIVEN WITH THE SEED: THE CARDS: each row of YteiocoahllnoeaaDoorRows.lean that lists a variable, with what it lists TIED to the program's text (the seventh form; the later family's looks); each row that meets fmt, with fmt's text TOLD by the authors' own Lean function (tested against real Go, not proved from fmt's source: count such statements apart). THE CARD IS WHAT COUNTS. Prove the row's statement (the work); the ties are given (YteiocoahllnoeaaDoorTie.lean); close each card by the builder's one call (the guide's Derived/Test/ToyasCard.lean, 'card_holds'). Laid BY PROGRAM, IN A SANDBOX (cutbox-door.mjs). By AI agents, Wed Nov 11 2026. No macro, syntax, notation, axiom, sorry.
-/
import Derived.Test.YteiocoahllnoeaaDoorRows
import GoSem.ClaimSeven
namespace Go.Proofs.YteiocoahllnoeaaDoor
namespace Rows

/-- THE TIED CARD OF 'laws.FnEnds'. -/
def fnEndsCard : Claim7 := { stood := { row := fnEndsRow, standIns := [], harness := (true, "77ea1b57a065496336bcb3e3df2a9906c95ed4aec3ff2fc88779ffea1a41c484"), looks := false }, kinds := [], alts := [], laidByText := true, laidKinds := [.data, .pinned], laidTests := true, laidLooks := .later }
def FnEndsCardSaid : Prop := Claim7.holds Tryd.pinned (.plain (OpenSpec.ofChange fnEndsSpec)) fnEndsCard

/-- THE TIED CARD OF 'laws.FnEndsCounts'. -/
def fnEndsCountsCard : Claim7 := { stood := { row := fnEndsCountsRow, standIns := [], harness := (true, "77ea1b57a065496336bcb3e3df2a9906c95ed4aec3ff2fc88779ffea1a41c484"), looks := false }, kinds := [], alts := [], laidByText := true, laidKinds := [.data, .pinned], laidTests := true, laidLooks := .later }
def FnEndsCountsCardSaid : Prop := Claim7.holds Tryd.pinned (.plain (OpenSpec.ofChange fnEndsCountsSpec)) fnEndsCountsCard

/-- THE TIED CARD OF 'laws.FnExactIsEndsWord'. -/
def fnExactIsEndsWordCard : Claim7 := { stood := { row := fnExactIsEndsWordRow, standIns := [], harness := (true, "77ea1b57a065496336bcb3e3df2a9906c95ed4aec3ff2fc88779ffea1a41c484"), looks := false }, kinds := [], alts := [], laidByText := true, laidKinds := [.data, .pinned], laidTests := true, laidLooks := .later }
def FnExactIsEndsWordCardSaid : Prop := Claim7.holds Tryd.pinned (.plain (OpenSpec.ofChange fnExactIsEndsWordSpec)) fnExactIsEndsWordCard

/-- THE TIED CARD OF 'laws.FnExactRunEnds'. -/
def fnExactRunEndsCard : Claim7 := { stood := { row := fnExactRunEndsRow, standIns := [], harness := (true, "77ea1b57a065496336bcb3e3df2a9906c95ed4aec3ff2fc88779ffea1a41c484"), looks := false }, kinds := [], alts := [], laidByText := true, laidKinds := [.data, .pinned], laidTests := true, laidLooks := .later }
def FnExactRunEndsCardSaid : Prop := Claim7.holds Tryd.pinned (.plain (OpenSpec.ofChange fnExactRunEndsSpec)) fnExactRunEndsCard

/-- THE TIED CARD OF 'laws.FnExactPlainEnds'. -/
def fnExactPlainEndsCard : Claim7 := { stood := { row := fnExactPlainEndsRow, standIns := [], harness := (true, "77ea1b57a065496336bcb3e3df2a9906c95ed4aec3ff2fc88779ffea1a41c484"), looks := false }, kinds := [], alts := [], laidByText := true, laidKinds := [.data, .pinned], laidTests := true, laidLooks := .later }
def FnExactPlainEndsCardSaid : Prop := Claim7.holds Tryd.pinned (.plain (OpenSpec.ofChange fnExactPlainEndsSpec)) fnExactPlainEndsCard

/-- THE TIED CARD OF 'laws.FnExactEndsDepth'. -/
def fnExactEndsDepthCard : Claim7 := { stood := { row := fnExactEndsDepthRow, standIns := [], harness := (true, "77ea1b57a065496336bcb3e3df2a9906c95ed4aec3ff2fc88779ffea1a41c484"), looks := false }, kinds := [], alts := [], laidByText := true, laidKinds := [.data, .pinned], laidTests := true, laidLooks := .later }
def FnExactEndsDepthCardSaid : Prop := Claim7.holds Tryd.pinned (.plain (OpenSpec.ofChange fnExactEndsDepthSpec)) fnExactEndsDepthCard

/-- THE TIED CARD OF 'laws.FnExactStackWord'. -/
def fnExactStackWordCard : Claim7 := { stood := { row := fnExactStackWordRow, standIns := [], harness := (true, "77ea1b57a065496336bcb3e3df2a9906c95ed4aec3ff2fc88779ffea1a41c484"), looks := false }, kinds := [], alts := [], laidByText := true, laidKinds := [.data, .pinned], laidTests := true, laidLooks := .later }
def FnExactStackWordCardSaid : Prop := Claim7.holds Tryd.pinned (.plain (OpenSpec.ofChange fnExactStackWordSpec)) fnExactStackWordCard

/-- THE SECOND FORM's CARD OF 'laws.FnEnds'. -/
def fnEndsUptoCard : Claim7 := { stood := { row := fnEndsUptoRow, standIns := [], harness := (true, "77ea1b57a065496336bcb3e3df2a9906c95ed4aec3ff2fc88779ffea1a41c484"), looks := false }, kinds := [], alts := [], laidByText := true, laidKinds := [.data, .pinned], laidTests := true, laidLooks := .later }
def FnEndsUptoCardSaid : Prop := Claim7.holds Tryd.pinned (.plain (OpenSpec.upto fnEndsSpec)) fnEndsUptoCard

/-- THE SECOND FORM's CARD OF 'laws.FnEndsCounts'. -/
def fnEndsCountsUptoCard : Claim7 := { stood := { row := fnEndsCountsUptoRow, standIns := [], harness := (true, "77ea1b57a065496336bcb3e3df2a9906c95ed4aec3ff2fc88779ffea1a41c484"), looks := false }, kinds := [], alts := [], laidByText := true, laidKinds := [.data, .pinned], laidTests := true, laidLooks := .later }
def FnEndsCountsUptoCardSaid : Prop := Claim7.holds Tryd.pinned (.plain (OpenSpec.upto fnEndsCountsSpec)) fnEndsCountsUptoCard

/-- THE SECOND FORM's CARD OF 'laws.FnExactIsEndsWord'. -/
def fnExactIsEndsWordUptoCard : Claim7 := { stood := { row := fnExactIsEndsWordUptoRow, standIns := [], harness := (true, "77ea1b57a065496336bcb3e3df2a9906c95ed4aec3ff2fc88779ffea1a41c484"), looks := false }, kinds := [], alts := [], laidByText := true, laidKinds := [.data, .pinned], laidTests := true, laidLooks := .later }
def FnExactIsEndsWordUptoCardSaid : Prop := Claim7.holds Tryd.pinned (.plain (OpenSpec.upto fnExactIsEndsWordSpec)) fnExactIsEndsWordUptoCard

/-- THE SECOND FORM's CARD OF 'laws.FnExactRunEnds'. -/
def fnExactRunEndsUptoCard : Claim7 := { stood := { row := fnExactRunEndsUptoRow, standIns := [], harness := (true, "77ea1b57a065496336bcb3e3df2a9906c95ed4aec3ff2fc88779ffea1a41c484"), looks := false }, kinds := [], alts := [], laidByText := true, laidKinds := [.data, .pinned], laidTests := true, laidLooks := .later }
def FnExactRunEndsUptoCardSaid : Prop := Claim7.holds Tryd.pinned (.plain (OpenSpec.upto fnExactRunEndsSpec)) fnExactRunEndsUptoCard

/-- THE SECOND FORM's CARD OF 'laws.FnExactPlainEnds'. -/
def fnExactPlainEndsUptoCard : Claim7 := { stood := { row := fnExactPlainEndsUptoRow, standIns := [], harness := (true, "77ea1b57a065496336bcb3e3df2a9906c95ed4aec3ff2fc88779ffea1a41c484"), looks := false }, kinds := [], alts := [], laidByText := true, laidKinds := [.data, .pinned], laidTests := true, laidLooks := .later }
def FnExactPlainEndsUptoCardSaid : Prop := Claim7.holds Tryd.pinned (.plain (OpenSpec.upto fnExactPlainEndsSpec)) fnExactPlainEndsUptoCard

/-- THE SECOND FORM's CARD OF 'laws.FnExactEndsDepth'. -/
def fnExactEndsDepthUptoCard : Claim7 := { stood := { row := fnExactEndsDepthUptoRow, standIns := [], harness := (true, "77ea1b57a065496336bcb3e3df2a9906c95ed4aec3ff2fc88779ffea1a41c484"), looks := false }, kinds := [], alts := [], laidByText := true, laidKinds := [.data, .pinned], laidTests := true, laidLooks := .later }
def FnExactEndsDepthUptoCardSaid : Prop := Claim7.holds Tryd.pinned (.plain (OpenSpec.upto fnExactEndsDepthSpec)) fnExactEndsDepthUptoCard

/-- THE SECOND FORM's CARD OF 'laws.FnExactStackWord'. -/
def fnExactStackWordUptoCard : Claim7 := { stood := { row := fnExactStackWordUptoRow, standIns := [], harness := (true, "77ea1b57a065496336bcb3e3df2a9906c95ed4aec3ff2fc88779ffea1a41c484"), looks := false }, kinds := [], alts := [], laidByText := true, laidKinds := [.data, .pinned], laidTests := true, laidLooks := .later }
def FnExactStackWordUptoCardSaid : Prop := Claim7.holds Tryd.pinned (.plain (OpenSpec.upto fnExactStackWordSpec)) fnExactStackWordUptoCard
end Rows
end Go.Proofs.YteiocoahllnoeaaDoor
