/- Operations on two numbers. -/
import Derived.Test.YtabaknkjcoibpaaGreatDoorM27
import Derived.Test.YtabaknkjcoibpaaGreatDoorM28

namespace Go.Proofs.YtabaknkjcoibpaaGreatDoor
open Go.RowKit

instance (z : Rat) : Decidable (Fits z) := inferInstanceAs (Decidable (_ ∧ _))

/-- The number of a fraction, or ErrFull. -/
def outN (z : Rat) : Value := if Fits z then .tuple #[.agg #[.int .i64 z.num, .int .i64 (z.den : Int)], .int .i64 0] else .tuple #[.agg #[.int .i64 0, .int .i64 0], .int .i64 3]

theorem num_any (b : Bool) (A B : Option Addr) (n c m d : Nat) (x : Rat) (w : World) (h : Q w b (.slice A n c) (.slice B m d) x) (hn : n ≤ 400000) (hm : m ≤ 400000) :
    Calls Tryz.prog 152 #[.agg #[.bool b, .slice A n c, .bool false, .slice B m d]] w fun e w' => e = .returned (outN x) ∧ Below w.heap.size w w' := by
  by_cases hf : Fits x
  · have e : outN x = .tuple #[.agg #[.int .i64 x.num, .int .i64 (x.den : Int)], .int .i64 0] := if_pos hf
    rw [e]
    exact num_ok b A B n c m d x w h hm hf
  · have e : outN x = .tuple #[.agg #[.int .i64 0, .int .i64 0], .int .i64 3] := if_neg hf
    rw [e]
    exact num_full b A B n c m d x w h hn hm hf

/-- Three boxes of numbers. -/
theorem boxes3 (w : World) (t l t' l' u v : Value) : ∃ X, ((w.alloc (.cells #[t, l] 62)).alloc (.cells #[t', l'] 62)).alloc (.cells #[u, v] 62) = X ∧ Below w.heap.size w X ∧ X.heap.size = w.heap.size + 3 ∧
    X.cell? ⟨w.heap.size, 0, none⟩ = some t ∧ X.cell? ⟨w.heap.size, 1, none⟩ = some l ∧ X.cell? ⟨w.heap.size + 1, 0, none⟩ = some t' ∧ X.cell? ⟨w.heap.size + 1, 1, none⟩ = some l' ∧ Wr (w.heap.size + 2) 62 X := by
  refine ⟨_, rfl, (((Below.refl _ _).alloc (Nat.le_refl _) _).alloc (by simp) _).alloc (by simp; omega) _, by simp, by simp [go_sem], by simp [go_sem], by simp [go_sem], by simp [go_sem], Wr.new _ _ _ 62 (by simp)⟩

theorem vld_num {x : Rat} (h : vld x.num (x.den : Int) = true) : -9223372036854775808 ≤ x.num ∧ x.num ≤ 9223372036854775807 ∧ x.den ≤ 9223372036854775807 := by
  simp [vld] at h
  omega

theorem outN_shape (z : Rat) : ∃ u1 u2 q, outN z = .tuple #[.agg #[.int .i64 u1, .int .i64 u2], .int .i64 q] := by
  unfold outN
  split
  · exact ⟨_, _, _, rfl⟩
  · exact ⟨_, _, _, rfl⟩

end Go.Proofs.YtabaknkjcoibpaaGreatDoor
