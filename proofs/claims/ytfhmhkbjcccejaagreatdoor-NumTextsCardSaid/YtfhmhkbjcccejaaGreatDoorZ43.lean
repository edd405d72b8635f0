/- num.Parse answers what a text reads as. -/
import Derived.Test.YtfhmhkbjcccejaaGreatDoorZ42
import Derived.Test.YtfhmhkbjcccejaaGreatDoorZ30

namespace Go.Proofs.YtfhmhkbjcccejaaGreatDoor
open Go.RowKit

theorem RetR.w {x : Rat} {w : World} {e : Ending} {w' : World} (h : RetR x w e w') : RetW (.prat x) w e w' := by
  obtain ⟨A, n, c, B, m, d, rfl, h1, h2, h3⟩ := h
  exact ⟨_, rfl, ⟨_, A, n, c, B, m, d, rfl, rfl, h1, h2⟩, h3⟩

theorem qv_negL {u : Value} {x : Rat} {w : World} (h : QV w u x) (hx : x.num.natAbs < W ^ 1000) : Calls Tryz.prog 21 #[u] w (RetW (.prat (-x)) w) := by
  obtain ⟨b, A, n, c, B, m, d, rfl, hQ⟩ := h
  exact (negR_any b A B n c m d x w hQ (by have := hQ.2.1.len hx; omega)).mono fun _ _ => RetR.w

theorem decV_ltW {l : List UInt8} (h : l.all isDg = true) (hl : l.length ≤ 400) : decV 0 l < W ^ 1000 := by
  have h1 := decV_take_lt h l.length
  rw [List.take_length] at h1
  exact Nat.lt_of_lt_of_le h1 (@W_pow_le (l.length + 1) 1000 (by omega))

theorem cb_prefix (s : ByteArray) (w : World) : CB 15 #[.string s, .string ⟨#[45]⟩] (.tuple #[.string ⟨(bodyS s.data.toList).toArray⟩, .bool (minusS s.data.toList)]) w := fun wx _ => by
  have h := Tryz.strings_CutPrefix s ⟨#[45]⟩ wx
  have e : (⟨#[45]⟩ : ByteArray).data.toList = [45] := rfl
  rw [e, (prefix_body s.data.toList).1, (prefix_body s.data.toList).2] at h
  refine h.mono ?_
  rintro e w' ⟨rfl, rfl⟩
  exact ⟨rfl, Below.refl _ _⟩

theorem cb_cut (l : List UInt8) (m : Int) (w : World) (hl : l.length ≤ 400) (hm : w.cell? ⟨0, 0, none⟩ = some (.int .i64 m)) (h0 : 0 < w.heap.size) :
    CB 16 #[.string ⟨l.toArray⟩, .string ⟨#[47]⟩] (.tuple #[.string ⟨(cutS l).1.toArray⟩, .string ⟨(((cutS l).2).getD []).toArray⟩, .bool ((cutS l).2).isSome]) w := fun wx hx => by
  have h := Tryz.strings_Cut ⟨l.toArray⟩ ⟨#[47]⟩ m wx (by rw [string_size]; omega) ((hx.cell (p := ⟨0, 0, none⟩) h0).trans hm)
  have e : Lib.cut (⟨l.toArray⟩ : ByteArray).data.toList (⟨#[47]⟩ : ByteArray).data.toList = ((cutS l).1, ((cutS l).2).getD [], ((cutS l).2).isSome) := cut_slash l
  rw [e] at h
  refine h.mono ?_
  rintro e w' ⟨rfl, n, rfl⟩
  exact ⟨rfl, rfl, rfl, rfl, Nat.le_refl _, fun _ _ => rfl⟩

theorem cb_dec (l : List UInt8) (w : World) (hl : l.length ≤ 400) : CB 17 #[.string ⟨l.toArray⟩] (.bool (isDec l)) w := fun wx _ =>
  isDecimal_any ⟨l.toArray⟩ wx (by rw [string_size]; omega)

theorem cb_trim (l : List UInt8) (w : World) (hl : l.length ≤ 400) : CB 18 #[.string ⟨l.toArray⟩, .string ⟨#[48]⟩] (.string ⟨(Lib.trimB l 48).toArray⟩) w := fun wx _ => by
  refine (Tryz.strings_Trim_one ⟨l.toArray⟩ 48 (by decide) wx (by rw [string_size]; omega)).mono ?_
  rintro e w' ⟨rfl, rfl | rfl⟩
  · exact ⟨rfl, Below.refl _ _⟩
  · exact ⟨rfl, (Below.refl _ _).drew⟩

theorem dec_pv (l : List UInt8) (h : isDec l = true) (hl : l.length ≤ 400) (wx : World) : Calls Tryz.prog 20 #[.string ⟨l.toArray⟩] wx (RetW (.pint (decV 0 l : Nat)) wx) :=
  (decimal_any ⟨l.toArray⟩ wx (by rw [string_size]; omega) (Bool.and_eq_true_iff.1 h).1).mono fun _ _ => RetJ.w

theorem toList_list (l : List UInt8) : (⟨l.toArray⟩ : ByteArray).toList = l := by rw [ByteArray.toList_eq]

theorem qt_mk (z : Int) {d : Nat} : qt z (d : Int) = mkRat z d := by
  unfold qt
  rw [if_neg (by omega), Int.natAbs_natCast]

set_option maxRecDepth 100000 in
theorem parse_any (s : ByteArray) (m : Int) (w : World) (hs : s.size ≤ 400) (hm : w.cell? ⟨0, 0, none⟩ = some (.int .i64 m)) (h0 : 0 < w.heap.size) :
    Calls Tryz.prog 7 #[.string s] w (Rt (readT s.data.toList).1 (readT s.data.toList).2.1 (readT s.data.toList).2.2 w) := by
  have hL : s.data.toList.length ≤ 400 := by rw [← Lib.size_eq]; exact hs
  have HP := cb_prefix s w
  obtain ⟨L, hLe⟩ : ∃ L, s.data.toList = L := ⟨_, rfl⟩
  have hsz : s.size = L.length := by rw [Lib.size_eq, hLe]
  rw [hLe] at hL HP ⊢
  have hb := Nat.le_trans (bodyS_len L) hL
  have HC := cb_cut (bodyS L) m w hb hm h0
  have hlen := cutS_len (bodyS L)
  unfold readT
  obtain ⟨b, hbe⟩ : ∃ b, bodyS L = b := ⟨_, rfl⟩
  rw [hbe] at HP HC hlen hb ⊢
  obtain ⟨mi, hmi⟩ : ∃ mi, minusS L = mi := ⟨_, rfl⟩
  rw [hmi] at HP ⊢
  obtain ⟨t, lo, hc⟩ : ∃ t lo, cutS b = (t, lo) := ⟨_, _, rfl⟩
  rw [hc] at HC hlen ⊢
  have ht : t.length ≤ 400 := Nat.le_trans hlen.1 hb
  -- the part below the bar
  obtain ⟨k, hk⟩ : ∃ k, lo.getD [49] = k := ⟨_, rfl⟩
  have hkl : k.length ≤ 400 := by
    cases lo with
    | none => rw [← hk]; decide
    | some x => rw [← hk]; exact Nat.le_trans (hlen.2 x rfl) hb
  simp only [hk]
  have HI1 := Lib.hid (cb_dec t w ht)
  have HI2 := Lib.hid (cb_dec k w hkl)
  have HT := Lib.hid (cb_trim k w hkl)
  cases d1 : isDec t with
  | false =>
    rw [d1] at HI1
    cases lo with
    | none => exact parse_form1_0 s _ _ _ _ w (Lib.hid HP) (Lib.hid HC) HI1
    | some x => exact parse_form1_1 s _ _ _ _ w (Lib.hid HP) (Lib.hid HC) HI1
  | true =>
    rw [d1] at HI1
    cases d2 : isDec k with
    | false =>
      rw [d2] at HI2
      cases lo with
      | none => subst hk; exact absurd d2 (by decide)
      | some x => subst hk; exact parse_form2_1 s _ _ _ _ w (Lib.hid HP) (Lib.hid HC) HI1 HI2
    | true =>
      rw [d2] at HI2
      have hz := trim_zero d2
      rw [← toList_list (Lib.trimB k 48)] at hz
      cases d3 : (decV 0 k == 0) with
      | true =>
        rw [d3] at hz
        cases lo with
        | none => subst hk; exact absurd d3 (by decide)
        | some x => subst hk; exact parse_form3_1 s _ _ _ _ _ w (Lib.hid HP) (Lib.hid HC) HI1 HI2 HT hz
      | false =>
        rw [d3] at hz
        by_cases hlong : L.length > 200
        · have hl : decide ((200 : Int) < (s.size : Int)) = true := by rw [hsz]; simp; omega
          simp only [if_pos hlong]
          cases lo with
          | none => subst hk; exact parse_long_0 s _ _ _ _ _ w (Lib.hid HP) (Lib.hid HC) HI1 HI2 HT hz hl
          | some x => subst hk; exact parse_long_1 s _ _ _ _ _ w (Lib.hid HP) (Lib.hid HC) HI1 HI2 HT hz hl
        · have hl : decide ((200 : Int) < (s.size : Int)) = false := by rw [hsz]; simp; omega
          simp only [if_neg hlong]
          have hne : ((decV 0 k : Nat) : Int) ≠ 0 := by
            have := beq_eq_false_iff_ne.1 d3
            omega
          have g1 : ((decV 0 t : Nat) : Int).natAbs < W ^ 1000 := by rw [Int.natAbs_natCast]; exact decV_ltW (Bool.and_eq_true_iff.1 d1).1 ht
          have g2 : ((decV 0 k : Nat) : Int).natAbs < W ^ 1000 := by rw [Int.natAbs_natCast]; exact decV_ltW (Bool.and_eq_true_iff.1 d2).1 hkl
          have HR : Hid (∀ wx u u2, PV wx u (decV 0 t : Nat) → PV wx u2 (decV 0 k : Nat) → Calls Tryz.prog 19 #[u, u2] wx (RetW (.prat (mkRat (decV 0 t : Nat) (decV 0 k))) wx)) := fun wx u u2 k1 k2 => by
            have := pratioL k1 k2 hne g1 g2
            rw [qt_mk] at this
            exact this
          have hq := qt_le ((decV 0 t : Nat) : Int) _ hne
          rw [qt_mk] at hq
          have q1 := Nat.lt_of_le_of_lt hq.1 g1
          have q2 := Nat.lt_of_le_of_lt hq.2 g2
          have HD1 := dec_pv t d1 ht
          have HD2 := dec_pv k d2 hkl
          cases mi with
          | false =>
            have HQ : Hid (∀ wx u, QV wx u (mkRat (decV 0 t : Nat) (decV 0 k)) → Calls Tryz.prog 22 #[u] wx _) := fun wx u h => qv_numL h ⟨q1, q2⟩
            cases lo with
            | none => subst hk; exact parse_plain_0 s _ _ _ _ _ _ _ _ _ _ w (Lib.hid HP) (Lib.hid HC) HI1 HI2 HT hz hl (Lib.hid HD1) (Lib.hid HD2) HR HQ
            | some x => subst hk; exact parse_plain_1 s _ _ _ _ _ _ _ _ _ _ w (Lib.hid HP) (Lib.hid HC) HI1 HI2 HT hz hl (Lib.hid HD1) (Lib.hid HD2) HR HQ
          | true =>
            have HN : Hid (∀ wx u, QV wx u (mkRat (decV 0 t : Nat) (decV 0 k)) → Calls Tryz.prog 21 #[u] wx (RetW (.prat (mkRat (-(decV 0 t : Nat)) (decV 0 k))) wx)) := fun wx u h => by
              have := qv_negL h q1
              rw [Rat.neg_mkRat] at this
              exact this
            have q1' : (mkRat (-((decV 0 t : Nat) : Int)) (decV 0 k)).num.natAbs < W ^ 1000 := by
              rw [← Rat.neg_mkRat, Rat.neg_num, Int.natAbs_neg]
              exact q1
            have q2' : (mkRat (-((decV 0 t : Nat) : Int)) (decV 0 k)).den < W ^ 1000 := by
              rw [← Rat.neg_mkRat, Rat.neg_den]
              exact q2
            have HQ : Hid (∀ wx u, QV wx u (mkRat (-((decV 0 t : Nat) : Int)) (decV 0 k)) → Calls Tryz.prog 22 #[u] wx _) := fun wx u h => qv_numL h ⟨q1', q2'⟩
            cases lo with
            | none => subst hk; exact parse_minus_0 s _ _ _ _ _ _ _ _ _ _ _ w (Lib.hid HP) (Lib.hid HC) HI1 HI2 HT hz hl (Lib.hid HD1) (Lib.hid HD2) HR HN HQ
            | some x => subst hk; exact parse_minus_1 s _ _ _ _ _ _ _ _ _ _ _ w (Lib.hid HP) (Lib.hid HC) HI1 HI2 HT hz hl (Lib.hid HD1) (Lib.hid HD2) HR HN HQ

end Go.Proofs.YtfhmhkbjcccejaaGreatDoor
