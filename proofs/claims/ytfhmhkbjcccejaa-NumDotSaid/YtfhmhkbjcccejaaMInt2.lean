/- More operations on integers of any size in memory. -/
import Derived.Test.YtfhmhkbjcccejaaMGa

namespace Go.Proofs.Ytfhmhkbjcccejaa
open Go.RowKit

theorem D.tt {w : World} {A : Option Addr} {n c x : Nat} (h : D w (.slice A n c) x) : TT w A n := by
  obtain ⟨A', n', c', f, e, h1, h2, h3, h4, h5, h6⟩ := h
  injection e with e1 e2 e3
  subst e1 e2 e3
  exact h6

set_option maxRecDepth 100000 in
set_option maxHeartbeats 2000000 in
theorem divisorI_all (b1 b2 : Bool) (A B : Option Addr) (n m c d x y : Nat) (w : World) (h1 : D w (.slice A n c) x) (h2 : D w (.slice B m d) y) (hn : n ≤ 999999) (hm : m ≤ 999999) :
    Calls Try.prog 66 #[.agg #[.bool b1, .slice A n c], .agg #[.bool b2, .slice B m d]] w (RetJ ((Nat.gcd x y : Nat) : Int) w) := by
  have HM : Hid (∀ wx, Below w.heap.size w wx → Calls Try.prog 85 #[.slice A n c, .slice B m d] wx (RetD (Nat.gcd x y) wx)) := fun wx hx => gcdD_any A B n m c d x y wx (h1.keep hx) (h2.keep hx) hn hm
  have HZ : Hid (false = decide (((Nat.gcd x y : Nat) : Int) < 0)) := by
    show false = _
    simp
  clear h1 h2
  go_enter Try.func66, Try.ntmps66
  go_wp2_with fail
  obtain ⟨bx, bb⟩ := box3 w (.cells #[.bool b1, .slice A n c] 55) (.cells #[.bool b2, .slice B m d] 55) #[.bool false, .slice none 0 0] 55
  have BB := Lib.hid bb
  have BX := Lib.hid bx
  clear bb bx
  (with_reducible refine (HM.out _ BB.out).mono ?_)
  rintro e w1 ⟨v, rfl, hD, hB⟩
  obtain ⟨A1, n1, c1, rfl⟩ := hD.shape
  obtain ⟨hc, hf⟩ := bcell hB
  go_wp2_with fail
  exact bodyPost_ret (v := .agg #[.bool false, .slice A1 n1 c1]) (by simp [results, Try.results66, go_sem, *]) rfl
    (retJ_box HZ.out hD (BX.out.keep hB) (BB.out.trans (hB.mono BB.out.size)) (by omega))

theorem divisorI_any (b1 b2 : Bool) (A B : Option Addr) (n m c d x y : Nat) (w : World) (h1 : D w (.slice A n c) x) (h2 : D w (.slice B m d) y) (hn : n ≤ 999999) (hm : m ≤ 999999) (_hs : x < 18446744073709551616 ∨ y < 18446744073709551616) :
    Calls Try.prog 66 #[.agg #[.bool b1, .slice A n c], .agg #[.bool b2, .slice B m d]] w (RetJ ((Nat.gcd x y : Nat) : Int) w) :=
  divisorI_all b1 b2 A B n m c d x y w h1 h2 hn hm

theorem whole_val (x : Int) (h0 : -9223372036854775808 ≤ x) (h1 : x < 0) : (-(x % 18446744073709551616)) % 18446744073709551616 = ((x.natAbs : Nat) : Int) := by omega

set_option maxRecDepth 100000 in
set_option maxHeartbeats 2000000 in
theorem whole_neg (x : Int) (w : World) (h0 : -9223372036854775808 ≤ x) (h1 : x < 0) : Calls Try.prog 33 #[.int .i64 x] w (RetJ x w) := by
  have hlt : x.natAbs < 18446744073709551616 := by omega
  have HW := Lib.hid (fun wx => word_any x.natAbs wx hlt)
  have HZ : Hid (true = decide (x < 0)) := by
    show true = _
    simp [h1]
  have hv := whole_val x h0 h1
  have HV := Lib.hid hv
  clear hlt hv h0
  go_enter Try.func33, Try.ntmps33
  go_wp2_with fail
  rw [show IntKind.u64.wrap (-IntKind.u64.wrap x) = ((x.natAbs : Nat) : Int) from by rw [IntKind.wrap_u64, IntKind.wrap_u64]; exact HV.out]
  (with_reducible refine (HW.out _).mono ?_)
  rintro e w1 ⟨v, rfl, hD, hB⟩
  obtain ⟨A1, n1, c1, rfl⟩ := hD.shape
  obtain ⟨hc, hf⟩ := bcell hB
  go_wp2_with fail
  exact bodyPost_ret (v := .agg #[.bool true, .slice A1 n1 c1]) (by simp [results, Try.results33, go_sem, *]) rfl
    (retJ_box HZ.out hD ((Bx.new' w _ 55 rfl).keep hB) ((below_alloc w _).trans (hB.mono (below_alloc w (.cells #[.bool false, .slice none 0 0] 55)).size)) (Nat.le_refl _))

theorem whole_pos (x : Int) (w : World) (h0 : 0 ≤ x) (h1 : x ≤ 9223372036854775807) : Calls Try.prog 33 #[.int .i64 x] w (RetJ x w) := by
  obtain ⟨k, rfl⟩ := Int.eq_ofNat_of_zero_le h0
  have hlt : k < 18446744073709551616 := by omega
  have HW := Lib.hid (fun wx => word_any k wx hlt)
  have HZ : Hid (false = decide ((k : Int) < 0)) := by
    show false = _
    simp
  have hk : k ≤ 9223372036854775807 := by omega
  clear hlt h0 h1
  go_enter Try.func33, Try.ntmps33
  go_wp2_with fail
  (with_reducible refine (HW.out _).mono ?_)
  rintro e w1 ⟨v, rfl, hD, hB⟩
  obtain ⟨A1, n1, c1, rfl⟩ := hD.shape
  obtain ⟨hc, hf⟩ := bcell hB
  go_wp2_with fail
  exact bodyPost_ret (v := .agg #[.bool false, .slice A1 n1 c1]) (by simp [results, Try.results33, go_sem, *]) rfl
    (retJ_box HZ.out hD ((Bx.new' w _ 55 rfl).keep hB) ((below_alloc w _).trans (hB.mono (below_alloc w (.cells #[.bool false, .slice none 0 0] 55)).size)) (Nat.le_refl _))

theorem whole_any (x : Int) (w : World) (h0 : -9223372036854775808 ≤ x) (h1 : x ≤ 9223372036854775807) : Calls Try.prog 33 #[.int .i64 x] w (RetJ x w) := by
  by_cases h : x < 0
  · exact whole_neg x w h0 h
  · exact whole_pos x w (by omega) h1

/-- What Divide returns. -/
def RetJJ (z z' : Int) (w : World) (e : Ending) (w' : World) : Prop :=
  ∃ A n c A' n' c', e = .returned (.tuple #[.agg #[.bool (decide (z < 0)), .slice A n c], .agg #[.bool (decide (z' < 0)), .slice A' n' c']]) ∧ D w' (.slice A n c) z.natAbs ∧ D w' (.slice A' n' c') z'.natAbs ∧ Below w.heap.size w w'

/-- exact.digits.divide over readings. -/
theorem divideD_any (A B : Option Addr) (n m c d x y : Nat) (w : World) (h1 : D w (.slice A n c) x) (h2 : D w (.slice B m d) y) (hn : n ≤ 999999) (hy : 0 < y) :
    Calls Try.prog 102 #[.slice A n c, .slice B m d] w (RetDiv x y w) := by
  obtain ⟨f, f1, f2, f3, f4, f5⟩ := h1.open_
  obtain ⟨g, g1, g2, g3, g4, g5⟩ := h2.open_
  rw [← f4, ← g4]
  exact divide_any A B n m c d f g w hn f1 f5 g5 f2 g2 f3 g3 h1.tt (by rw [g4]; exact hy)

end Go.Proofs.Ytfhmhkbjcccejaa
