/-
  DERIVED. GIVEN WITH THE SEED: THE CARDS: each row of YtlgdfalbhpgllaaGreatDoorRows.lean that lists a variable, with what it lists TIED to the program's text (the seventh form; the later family's looks); each row that meets fmt, with fmt's text TOLD by the authors' own Lean function (tested against real Go, not proved from fmt's source: count such statements apart). THE CARD IS WHAT COUNTS. Prove the row's statement (the work); the ties are given (YtlgdfalbhpgllaaGreatDoorTie.lean); close each card by the builder's one call (the guide's Derived/Test/ToyasCard.lean, 'card_holds'). Laid BY PROGRAM, IN A SANDBOX (cutbox-door.mjs). By AI agents, Wed Nov 11 2026. No macro, syntax, notation, axiom, sorry.
-/
import Derived.Test.YtlgdfalbhpgllaaGreatDoorRows
import GoSem.ClaimSeven
namespace Go.Proofs.YtlgdfalbhpgllaaGreatDoor
namespace Rows

/-- THE TIED CARD OF 'palinodelaw07.VolumeCrash'. -/
def volumeCrashCard : Claim7 := { stood := { row := volumeCrashRow, standIns := [], harness := (true, "74f060ec0e5c38999e980205a75acd94a0c8036ee3ebe83057b8fd4f189d5e37"), looks := true }, kinds := [], alts := [], laidByText := true, laidKinds := [.handle], laidTests := true, laidLooks := .later }
def VolumeCrashCardSaid : Prop := Claim7.holds Tryz.pinned (.plain (OpenSpec.ofChange volumeCrashSpec)) volumeCrashCard

/-- THE TIED CARD OF 'palinodelaw07.VolumeRooms'. -/
def volumeRoomsCard : Claim7 := { stood := { row := volumeRoomsRow, standIns := [], harness := (true, "74f060ec0e5c38999e980205a75acd94a0c8036ee3ebe83057b8fd4f189d5e37"), looks := true }, kinds := [], alts := [], laidByText := true, laidKinds := [.handle], laidTests := true, laidLooks := .later }
def VolumeRoomsCardSaid : Prop := Claim7.holds Tryz.pinned (.plain (OpenSpec.ofChange volumeRoomsSpec)) volumeRoomsCard

/-- THE TIED CARD OF 'palinodelaw07.VolumeAgain'. -/
def volumeAgainCard : Claim7 := { stood := { row := volumeAgainRow, standIns := [], harness := (true, "74f060ec0e5c38999e980205a75acd94a0c8036ee3ebe83057b8fd4f189d5e37"), looks := true }, kinds := [], alts := [], laidByText := true, laidKinds := [.handle], laidTests := true, laidLooks := .later }
def VolumeAgainCardSaid : Prop := Claim7.holds Tryz.pinned (.plain (OpenSpec.ofChange volumeAgainSpec)) volumeAgainCard

/-- THE SECOND FORM's CARD OF 'palinodelaw07.VolumeCrash'. -/
def volumeCrashUptoCard : Claim7 := { stood := { row := volumeCrashUptoRow, standIns := [], harness := (true, "74f060ec0e5c38999e980205a75acd94a0c8036ee3ebe83057b8fd4f189d5e37"), looks := true }, kinds := [], alts := [], laidByText := true, laidKinds := [.handle], laidTests := true, laidLooks := .later }
def VolumeCrashUptoCardSaid : Prop := Claim7.holds Tryz.pinned (.plain (OpenSpec.upto volumeCrashSpec)) volumeCrashUptoCard

/-- THE SECOND FORM's CARD OF 'palinodelaw07.VolumeRooms'. -/
def volumeRoomsUptoCard : Claim7 := { stood := { row := volumeRoomsUptoRow, standIns := [], harness := (true, "74f060ec0e5c38999e980205a75acd94a0c8036ee3ebe83057b8fd4f189d5e37"), looks := true }, kinds := [], alts := [], laidByText := true, laidKinds := [.handle], laidTests := true, laidLooks := .later }
def VolumeRoomsUptoCardSaid : Prop := Claim7.holds Tryz.pinned (.plain (OpenSpec.upto volumeRoomsSpec)) volumeRoomsUptoCard

/-- THE SECOND FORM's CARD OF 'palinodelaw07.VolumeAgain'. -/
def volumeAgainUptoCard : Claim7 := { stood := { row := volumeAgainUptoRow, standIns := [], harness := (true, "74f060ec0e5c38999e980205a75acd94a0c8036ee3ebe83057b8fd4f189d5e37"), looks := true }, kinds := [], alts := [], laidByText := true, laidKinds := [.handle], laidTests := true, laidLooks := .later }
def VolumeAgainUptoCardSaid : Prop := Claim7.holds Tryz.pinned (.plain (OpenSpec.upto volumeAgainSpec)) volumeAgainUptoCard
end Rows
end Go.Proofs.YtlgdfalbhpgllaaGreatDoor
