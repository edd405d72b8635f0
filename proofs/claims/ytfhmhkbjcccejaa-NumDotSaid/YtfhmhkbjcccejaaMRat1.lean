/- Fractions of any size in memory: their parts. -/
import Derived.Test.YtfhmhkbjcccejaaMInt5
import Derived.Test.YtfhmhkbjcccejaaMOver
import Derived.Test.YtfhmhkbjcccejaaMPlain3

namespace Go.Proofs.Ytfhmhkbjcccejaa
open Go.RowKit

/-- What a function that makes a fraction returns. -/
def RetR (x : Rat) (w : World) (e : Ending) (w' : World) : Prop :=
  ∃ A n c B m d, e = .returned (.agg #[.bool (decide (x.num < 0)), .slice A n c, .bool false, .slice B m d]) ∧ D w' (.slice A n c) x.num.natAbs ∧ D w' (.slice B m d) x.den ∧ Below w.heap.size w w'

/-- exact.Int.Sign. -/
def sg (b : Bool) (n : Nat) : Int := if b then -1 else if n = 0 then 0 else 1
set_option maxRecDepth 100000 in
theorem signI_any (b : Bool) (A : Option Addr) (n c : Nat) (w : World) (hn : n ≤ 1000000) :
    Calls Try.prog 64 #[.agg #[.bool b, .slice A n c]] w fun e w' => e = .returned (.int .i64 (sg b n)) ∧ Below w.heap.size w w' := by
  cases b
  · by_cases h : n = 0
    · subst h
      go_enter Try.func64, Try.ntmps64
      go_wp2_with fail
      go_ret
      exact ⟨rfl, below_alloc w _⟩
    · have hb : ((n : Int) == 0) = false := by rw [beq_eq_false_iff_ne]; omega
      have hs : sg false n = 1 := by simp [sg, h]
      rw [hs]
      clear hs h
      go_enter Try.func64, Try.ntmps64
      go_wp2_with fail
      go_ret
      exact ⟨rfl, below_alloc w _⟩
  · go_enter Try.func64, Try.ntmps64
    go_wp2_with fail
    go_ret
    exact ⟨rfl, below_alloc w _⟩

set_option maxRecDepth 100000 in
theorem low_any (b : Bool) (A B : Option Addr) (n c m d : Nat) (w : World) (hm : 0 < m) (hm2 : m ≤ 1000000) :
    Calls Try.prog 71 #[.agg #[.bool b, .slice A n c, .bool false, .slice B m d]] w fun e w' => e = .returned (.agg #[.bool false, .slice B m d]) ∧ Below w.heap.size w w' := by
  have hs : sg false m = 1 := by simp [sg]; omega
  have HS : Hid (∀ wx, Calls Try.prog 64 #[.agg #[.bool false, .slice B m d]] wx fun e w' => e = .returned (.int .i64 1) ∧ Below wx.heap.size wx w') := fun wx => by
    rw [← hs]; exact signI_any false B m d wx hm2
  clear hs
  go_enter Try.func71, Try.ntmps71
  go_upto_region 1 with fail
  generalize hX : (w.alloc _).alloc _ = X
  have hXX : Below w.heap.size w X ∧ X.cell? ⟨w.heap.size, 2, none⟩ = some (.bool false) ∧ X.cell? ⟨w.heap.size, 3, none⟩ = some (.slice B m d) ∧ w.heap.size < X.heap.size ∧ Wr (w.heap.size + 1) 55 X := by
    subst hX
    exact ⟨((Below.refl _ _).alloc (Nat.le_refl _) _).alloc (by simp) _, by simp [go_sem], by simp [go_sem], by simp; omega, Wr.new _ _ _ 55 (by simp)⟩
  obtain ⟨hwX, k2, k3, hz, hW⟩ := hXX
  clear hX
  go_wp2_with fail
  (with_reducible refine (HS.out X).mono ?_)
  rintro e w1 ⟨rfl, hB⟩
  have l2 := (hB.cell (p := ⟨w.heap.size, 2, none⟩) hz).trans k2
  have l3 := (hB.cell (p := ⟨w.heap.size, 3, none⟩) hz).trans k3
  obtain ⟨⟨p1, p2, p3, p4⟩, p5, p6, p7⟩ := hW.keep hB
  have hw1 := hwX.trans (hB.mono hwX.size)
  clear k2 k3
  go_wp2_with fail
  exact bodyPost_ret (v := .agg #[.bool false, .slice B m d]) (by simp [results, Try.results71, go_sem, *]) rfl ⟨rfl, (hw1.setCell (by show w.heap.size ≤ w.heap.size + 1; omega) _).setCell (by show w.heap.size ≤ w.heap.size + 1; omega) _⟩

set_option maxRecDepth 100000 in
theorem top_any (b b2 : Bool) (A B : Option Addr) (n c m d : Nat) (w : World) :
    Calls Try.prog 69 #[.agg #[.bool b, .slice A n c, .bool b2, .slice B m d]] w fun e w' => e = .returned (.agg #[.bool b, .slice A n c]) ∧ Below w.heap.size w w' := by
  go_enter Try.func69, Try.ntmps69
  go_wp2_with fail
  exact bodyPost_ret (v := .agg #[.bool b, .slice A n c]) (by simp [results, Try.results69, go_sem]) rfl ⟨rfl, ((Below.refl _ _).alloc (Nat.le_refl _) _).alloc (by simp) _⟩

end Go.Proofs.Ytfhmhkbjcccejaa
