/- The quotient of fractions of any size in memory, by a negative one. -/
import Derived.Test.YtabaknkjcoibpaaGreatDoorM27

namespace Go.Proofs.YtabaknkjcoibpaaGreatDoor
open Go.RowKit

theorem B4.far {g k : Nat} {p q r s : Value} {w : World} (h : B4 g p q r s w) (hk : g ≠ k) (o : Nat) (u : Value) : B4 g p q r s (w.setCell ⟨k, o, none⟩ u) := by
  obtain ⟨h1, h2, h3, h4⟩ := h
  have key : ∀ i : Nat, (w.setCell ⟨k, o, none⟩ u).cell? ⟨g, i, none⟩ = w.cell? ⟨g, i, none⟩ := fun i => World.cell?_setCell_other w ⟨k, o, none⟩ ⟨g, i, none⟩ u (fun e => hk (by have h := congrArg Addr.block e; first | exact h | exact h.symm))
  exact ⟨(key _).trans h1, (key _).trans h2, (key _).trans h3, (key _).trans h4⟩
theorem Wr4.far {g k : Nat} {w : World} (h : Wr4 g 185 w) (hk : g ≠ k) (o : Nat) (u : Value) : Wr4 g 185 (w.setCell ⟨k, o, none⟩ u) := by
  obtain ⟨⟨a, b, c, d, h1, h2, h3, h4⟩, f1, f2, f3, f4, hx⟩ := h
  have hb := B4.far (w := w) ⟨h1, h2, h3, h4⟩ hk o u
  have e : (w.setCell ⟨k, o, none⟩ u).heap[g]? = w.heap[g]? := Below.heap_setCell _ _ _ _ hk
  have key : ∀ i : Nat, (w.setCell ⟨k, o, none⟩ u).frozen? ⟨g, i, none⟩ = w.frozen? ⟨g, i, none⟩ := fun i => World.frozen?_of_block (w := w) e
  exact ⟨⟨a, b, c, d, hb.1, hb.2.1, hb.2.2.1, hb.2.2.2⟩, (key _).trans f1, (key _).trans f2, (key _).trans f3, (key _).trans f4, hx.set _ _ _⟩

end Go.Proofs.YtabaknkjcoibpaaGreatDoor
