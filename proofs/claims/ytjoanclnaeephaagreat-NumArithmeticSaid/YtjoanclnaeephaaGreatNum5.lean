/- num.Add, Sub, Mul and Div on any numbers. -/
import Derived.Test.YtjoanclnaeephaaGreatNum4
namespace Go.Proofs.YtjoanclnaeephaaGreat
open Go.RowKit

/-- The fraction that a number stands for. -/
def fr (t l : Int) : Rat := mkRat t l.toNat
theorem fr_of (x : Rat) : fr x.num (x.den : Int) = x := by
  show mkRat x.num ((x.den : Int)).toNat = x
  rw [Int.toNat_natCast]
  exact Rat.mkRat_self x

theorem vld_rat {t l : Int} (h : vld t l = true) : ∃ x : Rat, x.num = t ∧ (x.den : Int) = l ∧ fr t l = x := by
  have h1 : 1 ≤ l ∧ Nat.gcd t.natAbs l.toNat = 1 := by
    simp [vld] at h
    exact ⟨by omega, h.2⟩
  have e : ((l.toNat : Nat) : Int) = l := by omega
  refine ⟨⟨t, l.toNat, by omega, h1.2⟩, rfl, e, ?_⟩
  have := fr_of ⟨t, l.toNat, by omega, h1.2⟩
  simp only [e] at this
  exact this

/-- The parts and the error of a result. -/
def outT (z : Rat) : Int × Int × Int := if Fits z then (z.num, (z.den : Int), 0) else (0, 0, 3)
def resT (f : Rat → Rat → Rat) (t l t' l' : Int) : Int × Int × Int := if vld t l && vld t' l' then outT (f (fr t l) (fr t' l')) else (0, 0, 1)
def val3 (r : Int × Int × Int) : Value := .tuple #[.agg #[.int .i64 r.1, .int .i64 r.2.1], .int .i64 r.2.2]
theorem outN_val (z : Rat) : outN z = val3 (outT z) := by
  unfold outN outT val3
  split <;> rfl

theorem resT_bad {f : Rat → Rat → Rat} {t l t' l' : Int} (h : (vld t l && vld t' l') = false) : resT f t l t' l' = (0, 0, 1) := by
  unfold resT
  rw [h]
  rfl
theorem resT_ok {f : Rat → Rat → Rat} (x y : Rat) (h : vld x.num (x.den : Int) = true) (h' : vld y.num (y.den : Int) = true) : resT f x.num x.den y.num y.den = outT (f x y) := by
  unfold resT
  rw [h, h', fr_of, fr_of]
  rfl

theorem addNum_any (t l t' l' : Int) (w : World) :
    Calls Tryz.prog 4 #[.agg #[.int .i64 t, .int .i64 l], .agg #[.int .i64 t', .int .i64 l']] w fun e w' => e = .returned (val3 (resT (fun x y => x + y) t l t' l')) ∧ Below w.heap.size w w' := by
  refine call_24 t l t' l' _ _ _ w (Lib.hid fun wx => ?_)
  cases h : vld t l
  · rw [resT_bad (by rw [h]; rfl)]
    exact operate_bad1 t l t' l' _ wx h
  · cases h' : vld t' l'
    · rw [resT_bad (by rw [h, h']; rfl)]
      exact operate_bad2 t l t' l' _ wx h h'
    · obtain ⟨x, rfl, rfl, -⟩ := vld_rat h
      obtain ⟨y, rfl, rfl, -⟩ := vld_rat h'
      have := addN_ok x y wx h h'
      rw [outN_val, ← resT_ok (f := fun x y => x + y) x y h h'] at this
      exact this

theorem subNum_any (t l t' l' : Int) (w : World) :
    Calls Tryz.prog 6 #[.agg #[.int .i64 t, .int .i64 l], .agg #[.int .i64 t', .int .i64 l']] w fun e w' => e = .returned (val3 (resT (fun x y => x - y) t l t' l')) ∧ Below w.heap.size w w' := by
  refine call_25 t l t' l' _ _ _ w (Lib.hid fun wx => ?_)
  cases h : vld t l
  · rw [resT_bad (by rw [h]; rfl)]
    exact operate_bad1 t l t' l' _ wx h
  · cases h' : vld t' l'
    · rw [resT_bad (by rw [h, h']; rfl)]
      exact operate_bad2 t l t' l' _ wx h h'
    · obtain ⟨x, rfl, rfl, -⟩ := vld_rat h
      obtain ⟨y, rfl, rfl, -⟩ := vld_rat h'
      have := subN_ok x y wx h h'
      rw [outN_val, ← resT_ok (f := fun x y => x - y) x y h h'] at this
      exact this

theorem mulNum_any (t l t' l' : Int) (w : World) :
    Calls Tryz.prog 8 #[.agg #[.int .i64 t, .int .i64 l], .agg #[.int .i64 t', .int .i64 l']] w fun e w' => e = .returned (val3 (resT (fun x y => x * y) t l t' l')) ∧ Below w.heap.size w w' := by
  refine call_14 t l t' l' _ _ _ w (Lib.hid fun wx => ?_)
  cases h : vld t l
  · rw [resT_bad (by rw [h]; rfl)]
    exact operate_bad1 t l t' l' _ wx h
  · cases h' : vld t' l'
    · rw [resT_bad (by rw [h, h']; rfl)]
      exact operate_bad2 t l t' l' _ wx h h'
    · obtain ⟨x, rfl, rfl, -⟩ := vld_rat h
      obtain ⟨y, rfl, rfl, -⟩ := vld_rat h'
      have := mulN_ok x y wx h h'
      rw [outN_val, ← resT_ok (f := fun x y => x * y) x y h h'] at this
      exact this

end Go.Proofs.YtjoanclnaeephaaGreat
