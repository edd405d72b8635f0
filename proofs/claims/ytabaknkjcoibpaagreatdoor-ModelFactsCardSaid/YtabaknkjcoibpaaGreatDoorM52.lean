/- The tied card of ModelFacts: the row's listed variables are tied to the program's text (the given tie). -/
import Derived.Test.YtabaknkjcoibpaaGreatDoorM51
import Derived.Test.YtabaknkjcoibpaaGreatDoorCards
import Derived.Test.YtabaknkjcoibpaaGreatDoorTie
import Derived.SevenTiedAt

namespace Go.Proofs.YtabaknkjcoibpaaGreatDoor.lawFacts
open Go

/-- The statement. -/
theorem proved : Rows.ModelFactsCardSaid :=
  Claim7.holds_tied_plain_at .later [] [.data, .data, .data] true Rows.modelFactsCard.stood.harness true row_holds (fun _ h => by cases h) (by kernel_rfl) (fun _ h => by cases h) modelFacts_row_tie rfl ⟨rfl, rfl⟩ (by kernel_rfl) rfl
    (fun f fn hf hfn => by
      obtain rfl : f = 3 := Option.some.inj ((show Tryz.prog.funcNamed "dicebox/diceboxlaw04.ModelFacts" = some 3 by kernel_rfl).symm.trans hf) |>.symm
      obtain rfl : fn = Tryz.f3 := (Option.some.inj (Tryz.func3.symm.trans hfn)).symm
      exact ⟨by kernel_rfl, fun j t ht => by
        rw [Tryz.params3] at ht
        have hm : t ∈ [24, 25] := by have h := Array.mem_of_getElem? ht; simp at h; rcases h with rfl | rfl | rfl <;> simp
        have hall : ([24, 25].all fun u => !Tryz.prog.wantsStandIn u) = true := by kernel_rfl
        exact (show Tryz.prog.wantsStandIn t = false by simpa using List.all_eq_true.1 hall t hm)⟩)
    (by kernel_rfl)

#print axioms proved
end Go.Proofs.YtabaknkjcoibpaaGreatDoor.lawFacts
