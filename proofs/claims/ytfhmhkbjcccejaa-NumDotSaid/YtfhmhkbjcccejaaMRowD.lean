/- For all lists l and m of numbers, of any length, valid or not, the law NumDot returns true (Dot returns what the reference returns, result and error, and changes neither list), and its arguments read afterwards as before. No condition. -/
import Derived.Test.YtfhmhkbjcccejaaMStays
import Derived.Test.YtfhmhkbjcccejaaMDb
import Derived.Deep.SlicePairs

namespace Go.Proofs.Ytfhmhkbjcccejaa.lawDot
open Go.ChangeShapes Go.WideShapes Go.ChangeAt Go.RowKit Go.Joins Go.Deep

def intAt (v : Value) : Int := match v with | .int _ z => z | _ => 0

set_option maxRecDepth 100000 in
/-- A list of numbers as an argument. -/
theorem open_nums {H : Type} {enc : TypeId × Value → H} {W : World} {base b0 : Nat} {spare : Nat → Bool} {held : Bool} {v : Value} {d : DataW H} {p : List MemPlace} {r : Reach} (hv : Value.okWide Try.prog W r b0 42 v) (h : DataW.Trod enc Try.prog W base spare held 42 v d p) :
    ∃ A n ca t l, v = .slice A n ca ∧ n ≤ ca ∧ n ≤ 9223372036854775807 ∧ Lnum W A n t l := by
  obtain ⟨A, n, ca, rfl⟩ := okWide_slice Try.underlying42 hv
  obtain ⟨fuel, h⟩ := h
  rcases open_slice_pairs Try.underlying42 Try.underlying23 Try.cells23 rfl rfl (by kernel_rfl) (by kernel_rfl) h with ⟨e, -⟩ | ⟨a, len, cap, m, k, V0, V1, D0, D1, P0, P1, e, hb, hl, hm, hmm, -, hc⟩
  · simp [Value.cells] at e
    obtain ⟨rfl, rfl, rfl⟩ := e
    exact ⟨none, 0, 0, fun _ => 0, fun _ => 0, rfl, Nat.le_refl _, by omega, fun h => absurd h (by omega)⟩
  · simp [Value.cells] at e
    obtain ⟨rfl, rfl, rfl⟩ := e
    have hnm : n ≤ m := by rw [hmm]; split <;> omega
    refine ⟨some a, n, ca, fun i => intAt (V0 i), fun i => intAt (V1 i), rfl, hl, by unfold maxLen at hm; omega, fun h0 => ?_⟩
    have hsp : a.spot = none := by
      have := (hc 0 (by omega)).1
      rw [Nat.zero_mul] at this
      exact World.cell?_spot (a := a) (by simpa [Addr.add] using this)
    obtain ⟨b, off, sp⟩ := a
    simp only at hsp
    subst hsp
    have hc0 := (hc 0 (by omega)).1
    refine ⟨b, off, rfl, ?_, fun i hi => ?_⟩
    · rw [add_plain] at hc0
      unfold World.cell? at hc0
      cases hh : W.heap[b]? with
      | none => simp [hh] at hc0
      | some o => exact (Array.getElem?_eq_some_iff.1 hh).1
    · obtain ⟨h1, h2, h3, h4⟩ := hc i (by omega)
      rw [add_plain] at h1 h2
      obtain ⟨z0, e0, -, -⟩ := DataW.trod_int Try.underlying3 h3
      obtain ⟨z1, e1, -, -⟩ := DataW.trod_int Try.underlying3 h4
      simp at e0 e1
      rw [e0] at h1
      rw [e1] at h2
      refine ⟨?_, ?_⟩
      · rw [h1]
        show _ = some (Value.int .i64 (intAt (V0 i)))
        rw [e0]
        rfl
      · rw [Nat.add_assoc, h2]
        show _ = some (Value.int .i64 (intAt (V1 i)))
        rw [e1]
        rfl

theorem laidOut : laidOutB Try.prog = true := by kernel_rfl

set_option maxRecDepth 100000 in
theorem lifted (os : Os) (started : os.Started) (H : Type) (enc : TypeId × Value → H) :
    ReturnsInHanded {} Try.checked os 7 .any (Rows.numDotSpec.pre6 enc Try.prog Try.f7 Rows.numDotRow.domain false) (Rows.numDotSpec.post enc Try.prog Try.f7 false true false false) := by
  refine returnsInHanded_of_change (C := Try.checked) Try.own started (by kernel_rfl) Try.func7
    (ChangeSpec.witness6 (enc := enc) (C := Try.checked) false ⟨#[], #[.slice none 0 0, .slice none 0 0], []⟩ 8 (by kernel_rfl) (by kernel_rfl) (by kernel_rfl) (by kernel_rfl)) ?_
  intro W base args ds gs before hval0 hW hcnd _
  have hval : ∀ (j : Nat) t v, Try.f7.params[j]? = some t → args[j]? = some v → Value.okWide Try.prog W .any base t v := hval0
  have hW' := hW
  obtain ⟨p, q, hA0, hV, rfl, hfz, hnd⟩ := hW
  have hA : DataW.TrodAll enc Try.prog W 0 (fun _ => true) true Try.f7.params.toList args.toList ds p := hA0
  rw [Try.params7] at hA hval
  obtain ⟨v0, vs0, d0, ds0, p0, q0, hargs, rfl, rfl, h0, r0⟩ := trodAll_cons hA
  obtain ⟨v1, vs1, d1, ds1, p1, q1, rfl, rfl, rfl, h1, r1⟩ := trodAll_cons r0
  obtain ⟨rfl, rfl, rfl⟩ := trodAll_nil r1
  obtain rfl : args = #[v0, v1] := by cases args; simp_all
  obtain ⟨rfl, rfl⟩ := trodVars_none hV
  obtain ⟨A, n, ca, t, l, rfl, hca, hn, hLA⟩ := open_nums (hval 0 42 v0 rfl rfl) h0
  obtain ⟨B, m, cb, t', l', rfl, hcb, hm, hLB⟩ := open_nums (hval 1 42 v1 rfl rfl) h1
  clear hA0 hval0
  refine (lawDot_any A B n m ca cb t l t' l' W hn hm hca hcb hLA hLB).mono fun e W' ⟨he, hb⟩ => ?_
  subst he
  exact ⟨_, rfl, post_of_stays laidOut (by kernel_rfl) rfl hW' (fun _ _ _ => (trodAll_cons_mk (shut_bool Try.underlying4 _) trodAll_mk0)) rfl rfl hb (ok_one (by kernel_rfl) rfl (okWide_bool_mk Try.underlying4 _))⟩

/-- The statement. -/
theorem proved : Rows.NumDotSaid :=
  OpenClaim.holds_of_wide 7 Try.f7 rfl rfl rfl rfl rfl rfl rfl ⟨rfl, rfl, rfl, rfl, rfl⟩ rfl rfl rfl rfl rfl (by kernel_rfl) Try.func7 (by kernel_rfl)
    (of_decide_eq_true (by kernel_rfl)) (by unfold Func.isWrapper; first | (rw [if_pos (by decide +kernel)]; kernel_rfl) | (rw [if_neg (by decide +kernel)]; exact ⟨rfl, rfl⟩))
    (fun os started H enc _ => lifted os started H enc)

#print axioms proved
end Go.Proofs.Ytfhmhkbjcccejaa.lawDot
