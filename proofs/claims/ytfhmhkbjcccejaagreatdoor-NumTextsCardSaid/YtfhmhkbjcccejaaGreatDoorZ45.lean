/- The law NumTexts. For every number a, valid or not, and every text, of any length, the law NumTexts returns true (Print and Parse return what the reference returns, and a printed number reads as itself), and its arguments read afterwards as before. What is listed of the package variables is tied to the program's text by the card. -/
import Derived.Test.YtfhmhkbjcccejaaGreatDoorZ44
import Derived.Test.YtfhmhkbjcccejaaGreatDoorZ38
import Derived.Test.YtfhmhkbjcccejaaGreatDoorZ00
import Derived.Lib.LaidU8
import Derived.Lay
import Derived.LaidOnce

namespace Go.Proofs.YtfhmhkbjcccejaaGreatDoor
open Go.RowKit

theorem CB.of {f : Nat} {a : Array Value} {v : Value} (h : ∀ wx, Calls Tryz.prog f a wx fun e w' => e = .returned v ∧ Below wx.heap.size wx w') (w : World) : CB f a v w := fun wx _ => h wx

set_option maxRecDepth 100000 in
set_option maxHeartbeats 4000000 in
theorem lawT_long (t l : Int) (s : ByteArray) (w : World) (hs : decide ((400 : Int) < (s.size : Int)) = true) :
    Calls Tryz.prog 3 #[.agg #[.int .i64 t, .int .i64 l], .string s] w fun e w' => e = .returned (.bool true) ∧ Below w.heap.size w w' := by
  have HA : Hid (CB 4 #[] (.bool true) w) := CB.of awake_any w
  go_enter Tryz.func3, Tryz.ntmps3
  go_upto_region 1 with fail
  generalize hX : w.alloc _ = X
  have B0 : Hid (Below w.heap.size w X) := by
    subst hX
    exact below_alloc _ _
  clear hX
  go_wp2_with fail
  (with_reducible refine (CB.run HA.out B0.out).mono ?_)
  rintro e w1 ⟨rfl, hB1⟩
  have B1 := Lib.hid (B0.out.trans (hB1.mono B0.out.size))
  clear hB1
  go_wp2_with fail
  go_ret
  exact ⟨rfl, B1.out⟩

set_option maxRecDepth 100000 in
set_option maxHeartbeats 8000000 in
theorem lawT_walk (t l : Int) (s S : ByteArray) (ev r1 r2 r3 : Int) (w : World) (hs : decide ((400 : Int) < (s.size : Int)) = false)
    (H1 : Hid (CB 5 #[.agg #[.int .i64 t, .int .i64 l]] (.tuple #[.string S, .int .i64 ev]) w)) (H2 : Hid (CB 6 #[.agg #[.int .i64 t, .int .i64 l]] (.tuple #[.string S, .int .i64 ev]) w))
    (H3 : Hid (CB 7 #[.string s] (.tuple #[.agg #[.int .i64 r1, .int .i64 r2], .int .i64 r3]) w)) (H4 : Hid (CB 8 #[.string s] (.tuple #[.agg #[.int .i64 r1, .int .i64 r2], .int .i64 r3]) w))
    (H5 : Hid (ev = 0 → CB 7 #[.string S] (.tuple #[.agg #[.int .i64 t, .int .i64 l], .int .i64 0]) w)) :
    Calls Tryz.prog 3 #[.agg #[.int .i64 t, .int .i64 l], .string s] w fun e w' => e = .returned (.bool true) ∧ Below w.heap.size w w' := by
  have HA : Hid (CB 4 #[] (.bool true) w) := CB.of awake_any w
  go_enter Tryz.func3, Tryz.ntmps3
  go_upto_region 1 with fail
  generalize hX : w.alloc _ = X
  have B0 : Hid (Below w.heap.size w X) := by
    subst hX
    exact below_alloc _ _
  have N0 : Hid (N2 X w.heap.size t l) := by
    subst hX
    exact N2.new _ _ _
  clear hX
  obtain ⟨k0, k1, -⟩ := N0.out
  go_wp2_with fail
  (with_reducible refine (CB.run H1.out B0.out).mono ?_)
  rintro e w1 ⟨rfl, hB⟩
  have B1 := Lib.hid (B0.out.trans (hB.mono B0.out.size))
  have N1 := Lib.hid (N0.out.keep hB)
  clear hB k0 k1 H1 B0 N0
  obtain ⟨k0, k1, -⟩ := N1.out
  go_wp2_with fail
  (with_reducible refine (CB.run H2.out B1.out).mono ?_)
  rintro e w2 ⟨rfl, hB⟩
  have B2 := Lib.hid (B1.out.trans (hB.mono B1.out.size))
  have N2' := Lib.hid (N1.out.keep hB)
  clear hB k0 k1 H2 B1 N1
  go_wp2_with fail
  (with_reducible refine (CB.run H3.out B2.out).mono ?_)
  rintro e w3 ⟨rfl, hB⟩
  have B3 := Lib.hid (B2.out.trans (hB.mono B2.out.size))
  have N3 := Lib.hid (N2'.out.keep hB)
  clear hB H3 B2 N2'
  go_upto_region 6 with fail
  generalize hY : w3.alloc _ = Y
  have hBY : Below w3.heap.size w3 Y := by rw [← hY]; exact below_alloc _ _
  have P3 : Hid (N2 Y w3.heap.size r1 r2) := by
    subst hY
    exact N2.new _ _ _
  have BY := Lib.hid (B3.out.trans (hBY.mono B3.out.size))
  have NY := Lib.hid (N3.out.keep hBY)
  clear hY hBY B3 N3
  go_wp2_with fail
  (with_reducible refine (CB.run H4.out BY.out).mono ?_)
  rintro e w4 ⟨rfl, hB⟩
  have B4 := Lib.hid (BY.out.trans (hB.mono BY.out.size))
  have N4 := Lib.hid (NY.out.keep hB)
  have P4 := Lib.hid (P3.out.keep hB)
  clear hB H4 BY NY P3
  go_upto_region 7 with fail
  generalize hZ : w4.alloc _ = Z
  have hBZ : Below w4.heap.size w4 Z := by rw [← hZ]; exact below_alloc _ _
  have R5 : Hid (N2 Z w4.heap.size r1 r2) := by
    subst hZ
    exact N2.new _ _ _
  have B5 := Lib.hid (B4.out.trans (hBZ.mono B4.out.size))
  have N5 := Lib.hid (N4.out.keep hBZ)
  have P5 := Lib.hid (P4.out.keep hBZ)
  generalize w3.heap.size = g1 at *
  generalize w4.heap.size = g2 at *
  clear hZ hBZ B4 N4 P4
  obtain ⟨p0, p1, -⟩ := P5.out
  obtain ⟨q0, q1, -⟩ := R5.out
  by_cases he : ev = 0
  · have H6 := Lib.hid (H5.out he)
    subst he
    clear H5
    go_wp2_with fail
    (with_reducible refine (CB.run H6.out B5.out).mono ?_)
    rintro e w6 ⟨rfl, hB⟩
    have B6 := Lib.hid (B5.out.trans (hB.mono B5.out.size))
    have N6 := Lib.hid (N5.out.keep hB)
    clear hB H6 B5 N5 P5 R5 p0 p1 q0 q1
    go_upto_region 12 with fail
    generalize hV : w6.alloc _ = V
    have hBV : Below w6.heap.size w6 V := by rw [← hV]; exact below_alloc _ _
    have R7 : Hid (N2 V w6.heap.size t l) := by
      subst hV
      exact N2.new _ _ _
    have B7 := Lib.hid (B6.out.trans (hBV.mono B6.out.size))
    have N7 := Lib.hid (N6.out.keep hBV)
    generalize w6.heap.size = g3 at *
    clear hV hBV B6 N6
    obtain ⟨p0, p1, -⟩ := N7.out
    obtain ⟨q0, q1, -⟩ := R7.out
    go_wp2_with fail
    (with_reducible refine (CB.run HA.out B7.out).mono ?_)
    rintro e w8 ⟨rfl, hB⟩
    have B8 := Lib.hid (B7.out.trans (hB.mono B7.out.size))
    clear hB p0 p1 q0 q1
    go_wp2_with fail
    go_ret
    exact ⟨rfl, B8.out⟩
  · have hb : (ev == 0) = false := beq_eq_false_iff_ne.2 he
    clear H5 he
    go_wp2_with fail
    (with_reducible refine (CB.run HA.out B5.out).mono ?_)
    rintro e w6 ⟨rfl, hB⟩
    have B6 := Lib.hid (B5.out.trans (hB.mono B5.out.size))
    clear hB p0 p1 q0 q1
    go_wp2_with fail
    go_ret
    exact ⟨rfl, B6.out⟩

theorem lawTexts_any (t l : Int) (s : ByteArray) (m : Int) (w : World) (htab : Tab w) (hm : w.cell? ⟨0, 0, none⟩ = some (.int .i64 m)) (h0 : 0 < w.heap.size) :
    Calls Tryz.prog 3 #[.agg #[.int .i64 t, .int .i64 l], .string s] w fun e w' => e = .returned (.bool true) ∧ Below w.heap.size w w' := by
  have hg : ∀ wx, Below w.heap.size w wx → wx.cell? ⟨0, 0, none⟩ = some (.int .i64 m) ∧ 0 < wx.heap.size := fun wx hx => ⟨(hx.cell (p := ⟨0, 0, none⟩) h0).trans hm, Nat.lt_of_lt_of_le h0 hx.size⟩
  by_cases hs : s.size ≤ 400
  · have hsd : decide ((400 : Int) < (s.size : Int)) = false := by simp; omega
    refine lawT_walk t l s ⟨(printT t l).1.toArray⟩ (printT t l).2 (readT s.data.toList).1 (readT s.data.toList).2.1 (readT s.data.toList).2.2 w hsd
      (Lib.hid fun wx hx => print_any t l wx (htab.keep hx)) (Lib.hid (CB.of (rprint_any t l) w)) (Lib.hid fun wx hx => parse_any s m wx hs (hg wx hx).1 (hg wx hx).2) (Lib.hid fun wx hx => rparse_any s wx hs) (Lib.hid fun he wx hx => ?_)
    have hv : vld t l = true := by
      cases h : vld t l with
      | true => rfl
      | false =>
        unfold printT at he
        rw [h, if_neg (by simp)] at he
        exact absurd he (by decide)
    have e1 : (printT t l).1 = textN t l := by
      unfold printT
      rw [if_pos hv]
    rw [e1]
    have hl := textN_len hv
    have := parse_any ⟨(textN t l).toArray⟩ m wx (by rw [string_size]; omega) (hg wx hx).1 (hg wx hx).2
    rw [show (⟨(textN t l).toArray⟩ : ByteArray).data.toList = textN t l from rfl, readT_textN hv] at this
    exact this
  · exact lawT_long t l s w (by simp; omega)

end Go.Proofs.YtfhmhkbjcccejaaGreatDoor

namespace Go.Proofs.YtfhmhkbjcccejaaGreatDoor.lawTexts
open Go.ChangeShapes Go.WideShapes Go.ChangeAt Go.RowKit Go.Joins
open Go.ChangeMaps (open_string shut_string)

theorem gP : Tryz.prog.globalNamed "internal/strconv.uint64pow10" = some 1 := by kernel_rfl

/-- The table, off what the row lists. -/
theorem tab_of_laid {W : World} (h : laidMet Tryz.prog Rows.numTextsRow.laid W) : Tab W := by
  obtain ⟨g, t, cs, fuel, p, h1, h2, h3, h4⟩ := Lib.laidMet.reads h (n := "internal/strconv.uint64pow10") (d := Rows.laid_internal_strconv_uint64pow10) (.tail _ (.tail _ (.head _)))
  obtain rfl := Option.some.inj (gP.symm.trans h1)
  have hty : (Tryz.prog.globals[1]?).map (·.type) = some 140 := by kernel_rfl
  obtain rfl := Option.some.inj (hty.symm.trans h2)
  have e : (Rows.laid_internal_strconv_uint64pow10 : DataW Unit) = Lib.tabData .u64 Lib.pow10Tab := rfl
  rw [e] at h4
  show Lib.TabIs _ _ _ _ _
  unfold Lib.TabIs
  rw [h3, ← Lib.cells_of_tab Tryz.underlying140 Tryz.underlying83 (by kernel_rfl) (by kernel_rfl) h4]

set_option maxRecDepth 100000 in
theorem lifted (os : Os) (started : os.Started) (H : Type) (enc : TypeId × Value → H) :
    ReturnsInHanded {} Tryz.checked os 3 .any (fun w args => (Rows.numTextsSpec.pre enc Tryz.prog Tryz.f3 [] false w args ∧ laidMetH Tryz.prog Rows.numTextsRow.laid w) ∧ sizedMet enc Tryz.prog Tryz.f3 (OpenSpec.ofChange Rows.numTextsSpec) false w args)
      (Rows.numTextsSpec.post enc Tryz.prog Tryz.f3 false true false false) := by
  refine returnsInHanded_of_calls (C := Tryz.checked) Tryz.own started (by kernel_rfl)
    (ChangeSpec.witness_shaped (enc := enc) (C := Tryz.checked) (os := os) (X := fun w _ => laidMetH Tryz.prog Rows.numTextsRow.laid w) false (World.laidAll Tryz.prog os Rows.numTextsRow.laid) #[.agg #[.int .i64 0, .int .i64 0], .string ⟨#[]⟩] 8 (World.laidAll_os _ _ _)
      (World.shaped_of_ZipB (by kernel_rfl) (by kernel_rfl)) (by kernel_rfl) (by kernel_rfl) (by kernel_rfl)
      (by rw [MakeChecks.laidMetH_plain _ _ _ (by kernel_rfl)]; exact laidMet_laidAll _ (by kernel_rfl) (by kernel_rfl))) ?_
  intro w tape i _ hsh _ hok hpre _
  obtain ⟨_, _, _, fn', hfn', _, _, _, _, hval0⟩ := hok
  have efn : fn' = Tryz.f3 := Option.some.inj (hfn'.symm.trans Tryz.func3)
  subst efn
  obtain ⟨⟨⟨ds, gs, before, hw, -⟩, hL0⟩, -⟩ := hpre
  have hW := DataW.Whole.of_heap (w' := w.forCall tape i) (by rfl) hw
  have hL : laidMetH Tryz.prog Rows.numTextsRow.laid (w.forCall tape i) := hL0.of_heap (by rfl)
  generalize w.forCall tape i = W at *
  have hval : ∀ (j : Nat) t v, Tryz.f3.params[j]? = some t → i.args[j]? = some v → Value.okWide Tryz.prog W .any w.heap.size t v := hval0
  have hW' := hW
  obtain ⟨p, q, hA0, hV, rfl, hfz, hnd⟩ := hW
  have hA : DataW.TrodAll enc Tryz.prog W 0 (fun _ => true) true Tryz.f3.params.toList i.args.toList ds p := hA0
  rw [Tryz.params3] at hA hval
  generalize i.args = args at *
  obtain ⟨v0, vs0, d0, ds0, p0, q0, hargs, rfl, rfl, h0, r0⟩ := trodAll_cons hA
  obtain ⟨v1, vs1, d1, ds1, p1, q1, rfl, rfl, rfl, h1, r1⟩ := trodAll_cons r0
  obtain ⟨rfl, rfl, rfl⟩ := trodAll_nil r1
  obtain rfl : args = #[v0, v1] := by cases args; simp_all
  obtain ⟨rfl, rfl⟩ := trodVars_none hV
  obtain ⟨t0, l0, rfl, rfl, rfl, wt0, wl0⟩ := open_num (hval 0 23 v0 rfl rfl) h0
  obtain ⟨s, rfl, rfl, rfl, ws⟩ := open_string Tryz.underlying9 (hval 1 9 v1 rfl rfl) h1
  clear hA0 hval0
  simp only [List.append_nil] at hW'
  rw [MakeChecks.laidMetH_plain _ _ _ (by kernel_rfl)] at hL
  obtain ⟨m, hm⟩ := Tryz.laysM145.s1_3 W hsh
  have hm0 : W.cell? ⟨0, 0, none⟩ = some (.int .i64 m) := hm
  have h00 : 0 < W.heap.size := by
    unfold World.cell? at hm0
    cases hh : W.heap[0]? with
    | none => simp [hh] at hm0
    | some o => exact (Array.getElem?_eq_some_iff.1 hh).1
  refine (lawTexts_any t0 l0 s m W (tab_of_laid hL) hm0 h00).mono fun e W' ⟨he, hb⟩ => ?_
  subst he
  exact ChangeSpec.post_blind (post_of_below (pa := []) (pv := []) hW' (fun _ _ _ => (trodAll_cons_mk (shut_bool Tryz.underlying4 _) trodAll_mk0)) (fun sp _ => (trodAll_cons_mk (shut_num wt0 wl0) (trodAll_cons_mk (shut_string Tryz.underlying9 ws) trodAll_mk0))) (fun _ _ => rfl) rfl
    hb (ok_one (by kernel_rfl) rfl (okWide_bool_mk Tryz.underlying4 _)))

/-- The row. -/
theorem row_holds : Rows.NumTextsSaid :=
  OpenClaim.holds_of_wide 3 Tryz.f3 rfl rfl rfl rfl rfl rfl rfl ⟨rfl, rfl, rfl, rfl, rfl⟩ rfl rfl rfl rfl rfl (by kernel_rfl) Tryz.func3 (by kernel_rfl)
    (of_decide_eq_true (by kernel_rfl)) (by unfold Func.isWrapper; first | (rw [if_pos (by decide +kernel)]; kernel_rfl) | (rw [if_neg (by decide +kernel)]; exact ⟨rfl, rfl⟩))
    (fun os started H enc _ => lifted os started H enc)

end Go.Proofs.YtfhmhkbjcccejaaGreatDoor.lawTexts
