/- The tied card of NumTexts: the row's listed variables are tied to the program's text (the given tie). -/
import Derived.Test.YtfhmhkbjcccejaaGreatDoorZ45
import Derived.Test.YtfhmhkbjcccejaaGreatDoorCards
import Derived.Test.YtfhmhkbjcccejaaGreatDoorTie
import Derived.SevenTiedAt

namespace Go.Proofs.YtfhmhkbjcccejaaGreatDoor.lawTexts
open Go

/-- The statement. -/
theorem proved : Rows.NumTextsCardSaid :=
  Claim7.holds_tied_plain_at .later [] [.data, .data, .data, .data, .pinned] true Rows.numTextsCard.stood.harness false row_holds (fun _ h => by cases h) (by kernel_rfl) (fun _ h => by cases h) numTexts_row_tie rfl ⟨rfl, rfl⟩ (by kernel_rfl) rfl
    (fun f fn hf hfn => by
      obtain rfl : f = 3 := Option.some.inj ((show Tryz.prog.funcNamed "dicebox/diceboxlaw01.NumTexts" = some 3 by kernel_rfl).symm.trans hf) |>.symm
      obtain rfl : fn = Tryz.f3 := (Option.some.inj (Tryz.func3.symm.trans hfn)).symm
      exact ⟨by kernel_rfl, fun j t ht => by
        rw [Tryz.params3] at ht
        have hm : t ∈ [23, 9] := by simpa using Array.mem_of_getElem? ht
        have hall : ([23, 9].all fun u => !Tryz.prog.wantsStandIn u) = true := by kernel_rfl
        exact (show Tryz.prog.wantsStandIn t = false by simpa using List.all_eq_true.1 hall t hm)⟩)
    (by kernel_rfl)

#print axioms proved
end Go.Proofs.YtfhmhkbjcccejaaGreatDoor.lawTexts
