/- Fractions of the reference: the negative, the difference, the sign, the order; numbers as fractions. -/
import Derived.Test.YtfhmhkbjcccejaaGreatDoorZ31

namespace Go.Proofs.YtfhmhkbjcccejaaGreatDoor
open Go.RowKit

theorem rat_neg_num (x : Rat) : (-x).num = -x.num := rfl
theorem rat_neg_den (x : Rat) : (-x).den = x.den := rfl

/-- A box of two cells. -/
def B2n (g : Nat) (a b : Value) (w : World) : Prop := w.cell? ⟨g, 0, none⟩ = some a ∧ w.cell? ⟨g, 1, none⟩ = some b ∧ g < w.heap.size
theorem B2n.keep {g : Nat} {a b : Value} {w w' : World} (h : B2n g a b w) (hb : Below w.heap.size w w') : B2n g a b w' := by
  obtain ⟨h0, h1, hz⟩ := h
  exact ⟨(hb.cell (p := ⟨g, 0, none⟩) hz).trans h0, (hb.cell (p := ⟨g, 1, none⟩) hz).trans h1, Nat.lt_of_lt_of_le hz hb.size⟩
/-- The box of one number, and one for a fraction. -/
structure FN2 (w : World) (a b : Value) (wx : World) : Prop where
  below : Below w.heap.size w wx
  ba : B2n w.heap.size a b wx
  wc : W6 (w.heap.size + 1) wx
theorem FN2.keep {w : World} {a b : Value} (wx wy : World) (h : FN2 w a b wx) (hb : Below wx.heap.size wx wy) : FN2 w a b wy :=
  ⟨h.below.trans (hb.mono h.below.size), h.ba.keep hb, h.wc.keep hb⟩
theorem FN2.new (w : World) (a b p q r p' q' r' : Value) : FN2 w a b ((w.alloc (.cells #[a, b] 23)).alloc (.cells #[p, q, r, p', q', r'] 61)) := by
  refine ⟨((Below.refl _ _).alloc (Nat.le_refl _) _).alloc (by simp) _, ?_, W6.new _ _ _ _ _ _ _ (by simp)⟩
  simp [B2n, go_sem]

end Go.Proofs.YtfhmhkbjcccejaaGreatDoor
