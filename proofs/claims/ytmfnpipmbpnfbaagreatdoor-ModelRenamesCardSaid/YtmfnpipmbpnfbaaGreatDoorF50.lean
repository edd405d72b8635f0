/- The tied card of ModelRenames: the row's listed variables are tied to the program's text (the given tie). -/
import Derived.Test.YtmfnpipmbpnfbaaGreatDoorF49
import Derived.Test.YtmfnpipmbpnfbaaGreatDoorCards
import Derived.Test.YtmfnpipmbpnfbaaGreatDoorTie
import Derived.SevenTiedAt

set_option maxRecDepth 100000
set_option maxHeartbeats 40000000
namespace Go.Proofs.YtmfnpipmbpnfbaaGreatDoor.lawRenames
open Go
theorem proved : Rows.ModelRenamesCardSaid :=
  Claim7.holds_tied_plain_at .later [] [.data, .data, .data] true Rows.modelRenamesCard.stood.harness true row_holds (fun _ h => by cases h) (by kernel_rfl) (fun _ h => by cases h) modelRenames_row_tie rfl ⟨rfl, rfl⟩ (by kernel_rfl) rfl
    (fun f fn hf hfn => by
      obtain rfl : f = 6 := Option.some.inj ((show Tryz.prog.funcNamed "dicebox/diceboxlaw04.ModelRenames" = some 6 by kernel_rfl).symm.trans hf) |>.symm
      obtain rfl : fn = Tryz.f6 := (Option.some.inj (Tryz.func6.symm.trans hfn)).symm
      exact ⟨by kernel_rfl, fun j t ht => by
        rw [Tryz.params6] at ht
        have hm : t ∈ [24, 25] := by have h := Array.mem_of_getElem? ht; simp at h; rcases h with rfl | rfl <;> simp
        have hall : ([24, 25].all fun u => !Tryz.prog.wantsStandIn u) = true := by kernel_rfl
        exact (show Tryz.prog.wantsStandIn t = false by simpa using List.all_eq_true.1 hall t hm)⟩)
    (by kernel_rfl)
#print axioms proved
end Go.Proofs.YtmfnpipmbpnfbaaGreatDoor.lawRenames
