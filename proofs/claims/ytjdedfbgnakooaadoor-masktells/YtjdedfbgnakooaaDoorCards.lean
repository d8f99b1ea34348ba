/-
  DERIVED. GIVEN WITH THE SEED: THE CARDS: each row of YtjdedfbgnakooaaDoorRows.lean that lists a variable, with what it lists TIED to the program's text (the seventh form; the later family's looks); each row that meets fmt, with fmt's text TOLD by the authors' own Lean function (tested against real Go, not proved from fmt's source: count such statements apart). THE CARD IS WHAT COUNTS. Prove the row's statement (the work); the ties are given (YtjdedfbgnakooaaDoorTie.lean); close each card by the builder's one call (the guide's Derived/Test/ToyasCard.lean, 'card_holds'). Laid BY PROGRAM, IN A SANDBOX (cutbox-door.mjs). By AI agents, Wed Nov 11 2026. No macro, syntax, notation, axiom, sorry.
-/
import Derived.Test.YtjdedfbgnakooaaDoorRows
import GoSem.ClaimSeven
namespace Go.Proofs.YtjdedfbgnakooaaDoor
namespace Rows

/-- THE TIED CARD OF 'turnspitlaw04.MaskTells'. -/
def maskTellsCard : Claim7 := { stood := { row := maskTellsRow, standIns := [], harness := (true, "4583503ffd1cc6193c8a47c87829a5181d20e51a9b500cd9b2abada28d88ad1a"), looks := false }, kinds := [], alts := [], laidByText := true, laidKinds := [.data], laidTests := true, laidLooks := .later }
def MaskTellsCardSaid : Prop := Claim7.holds Tryd.pinned (.plain (OpenSpec.ofChange maskTellsSpec)) maskTellsCard

/-- THE TIED CARD OF 'turnspitlaw04.MaskOf'. -/
def maskOfCard : Claim7 := { stood := { row := maskOfRow, standIns := [], harness := (true, "4583503ffd1cc6193c8a47c87829a5181d20e51a9b500cd9b2abada28d88ad1a"), looks := false }, kinds := [], alts := [], laidByText := true, laidKinds := [.data], laidTests := true, laidLooks := .later }
def MaskOfCardSaid : Prop := Claim7.holds Tryd.pinned (.plain (OpenSpec.ofChange maskOfSpec)) maskOfCard

/-- THE TIED CARD OF 'turnspitlaw04.MaskBack'. -/
def maskBackCard : Claim7 := { stood := { row := maskBackRow, standIns := [], harness := (true, "4583503ffd1cc6193c8a47c87829a5181d20e51a9b500cd9b2abada28d88ad1a"), looks := false }, kinds := [], alts := [], laidByText := true, laidKinds := [.data], laidTests := true, laidLooks := .later }
def MaskBackCardSaid : Prop := Claim7.holds Tryd.pinned (.plain (OpenSpec.ofChange maskBackSpec)) maskBackCard

/-- THE TIED CARD OF 'turnspitlaw04.MaskRounds'. -/
def maskRoundsCard : Claim7 := { stood := { row := maskRoundsRow, standIns := [], harness := (true, "4583503ffd1cc6193c8a47c87829a5181d20e51a9b500cd9b2abada28d88ad1a"), looks := false }, kinds := [], alts := [], laidByText := true, laidKinds := [.data], laidTests := true, laidLooks := .later }
def MaskRoundsCardSaid : Prop := Claim7.holds Tryd.pinned (.plain (OpenSpec.ofChange maskRoundsSpec)) maskRoundsCard

/-- THE TIED CARD OF 'turnspitlaw04.MaskPuts'. -/
def maskPutsCard : Claim7 := { stood := { row := maskPutsRow, standIns := [], harness := (true, "4583503ffd1cc6193c8a47c87829a5181d20e51a9b500cd9b2abada28d88ad1a"), looks := false }, kinds := [], alts := [], laidByText := true, laidKinds := [.data], laidTests := true, laidLooks := .later }
def MaskPutsCardSaid : Prop := Claim7.holds Tryd.pinned (.plain (OpenSpec.ofChange maskPutsSpec)) maskPutsCard

/-- THE TIED CARD OF 'turnspitlaw04.MaskNexts'. -/
def maskNextsCard : Claim7 := { stood := { row := maskNextsRow, standIns := [], harness := (true, "4583503ffd1cc6193c8a47c87829a5181d20e51a9b500cd9b2abada28d88ad1a"), looks := false }, kinds := [], alts := [], laidByText := true, laidKinds := [.data], laidTests := true, laidLooks := .later }
def MaskNextsCardSaid : Prop := Claim7.holds Tryd.pinned (.plain (OpenSpec.ofChange maskNextsSpec)) maskNextsCard

/-- THE TIED CARD OF 'turnspitlaw04.MaskCounts'. -/
def maskCountsCard : Claim7 := { stood := { row := maskCountsRow, standIns := [], harness := (true, "4583503ffd1cc6193c8a47c87829a5181d20e51a9b500cd9b2abada28d88ad1a"), looks := false }, kinds := [], alts := [], laidByText := true, laidKinds := [.data], laidTests := true, laidLooks := .later }
def MaskCountsCardSaid : Prop := Claim7.holds Tryd.pinned (.plain (OpenSpec.ofChange maskCountsSpec)) maskCountsCard

/-- THE SECOND FORM's CARD OF 'turnspitlaw04.MaskTells'. -/
def maskTellsUptoCard : Claim7 := { stood := { row := maskTellsUptoRow, standIns := [], harness := (true, "4583503ffd1cc6193c8a47c87829a5181d20e51a9b500cd9b2abada28d88ad1a"), looks := false }, kinds := [], alts := [], laidByText := true, laidKinds := [.data], laidTests := true, laidLooks := .later }
def MaskTellsUptoCardSaid : Prop := Claim7.holds Tryd.pinned (.plain (OpenSpec.upto maskTellsSpec)) maskTellsUptoCard

/-- THE SECOND FORM's CARD OF 'turnspitlaw04.MaskOf'. -/
def maskOfUptoCard : Claim7 := { stood := { row := maskOfUptoRow, standIns := [], harness := (true, "4583503ffd1cc6193c8a47c87829a5181d20e51a9b500cd9b2abada28d88ad1a"), looks := false }, kinds := [], alts := [], laidByText := true, laidKinds := [.data], laidTests := true, laidLooks := .later }
def MaskOfUptoCardSaid : Prop := Claim7.holds Tryd.pinned (.plain (OpenSpec.upto maskOfSpec)) maskOfUptoCard

/-- THE SECOND FORM's CARD OF 'turnspitlaw04.MaskBack'. -/
def maskBackUptoCard : Claim7 := { stood := { row := maskBackUptoRow, standIns := [], harness := (true, "4583503ffd1cc6193c8a47c87829a5181d20e51a9b500cd9b2abada28d88ad1a"), looks := false }, kinds := [], alts := [], laidByText := true, laidKinds := [.data], laidTests := true, laidLooks := .later }
def MaskBackUptoCardSaid : Prop := Claim7.holds Tryd.pinned (.plain (OpenSpec.upto maskBackSpec)) maskBackUptoCard

/-- THE SECOND FORM's CARD OF 'turnspitlaw04.MaskRounds'. -/
def maskRoundsUptoCard : Claim7 := { stood := { row := maskRoundsUptoRow, standIns := [], harness := (true, "4583503ffd1cc6193c8a47c87829a5181d20e51a9b500cd9b2abada28d88ad1a"), looks := false }, kinds := [], alts := [], laidByText := true, laidKinds := [.data], laidTests := true, laidLooks := .later }
def MaskRoundsUptoCardSaid : Prop := Claim7.holds Tryd.pinned (.plain (OpenSpec.upto maskRoundsSpec)) maskRoundsUptoCard

/-- THE SECOND FORM's CARD OF 'turnspitlaw04.MaskPuts'. -/
def maskPutsUptoCard : Claim7 := { stood := { row := maskPutsUptoRow, standIns := [], harness := (true, "4583503ffd1cc6193c8a47c87829a5181d20e51a9b500cd9b2abada28d88ad1a"), looks := false }, kinds := [], alts := [], laidByText := true, laidKinds := [.data], laidTests := true, laidLooks := .later }
def MaskPutsUptoCardSaid : Prop := Claim7.holds Tryd.pinned (.plain (OpenSpec.upto maskPutsSpec)) maskPutsUptoCard

/-- THE SECOND FORM's CARD OF 'turnspitlaw04.MaskNexts'. -/
def maskNextsUptoCard : Claim7 := { stood := { row := maskNextsUptoRow, standIns := [], harness := (true, "4583503ffd1cc6193c8a47c87829a5181d20e51a9b500cd9b2abada28d88ad1a"), looks := false }, kinds := [], alts := [], laidByText := true, laidKinds := [.data], laidTests := true, laidLooks := .later }
def MaskNextsUptoCardSaid : Prop := Claim7.holds Tryd.pinned (.plain (OpenSpec.upto maskNextsSpec)) maskNextsUptoCard

/-- THE SECOND FORM's CARD OF 'turnspitlaw04.MaskCounts'. -/
def maskCountsUptoCard : Claim7 := { stood := { row := maskCountsUptoRow, standIns := [], harness := (true, "4583503ffd1cc6193c8a47c87829a5181d20e51a9b500cd9b2abada28d88ad1a"), looks := false }, kinds := [], alts := [], laidByText := true, laidKinds := [.data], laidTests := true, laidLooks := .later }
def MaskCountsUptoCardSaid : Prop := Claim7.holds Tryd.pinned (.plain (OpenSpec.upto maskCountsSpec)) maskCountsUptoCard
end Rows
end Go.Proofs.YtjdedfbgnakooaaDoor
