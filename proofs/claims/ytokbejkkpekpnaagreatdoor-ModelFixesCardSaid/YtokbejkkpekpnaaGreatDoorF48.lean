/- diceboxlaw04.ModelFixes returns true for all models, lists and players. -/
import Derived.Test.YtokbejkkpekpnaaGreatDoorF40
import Derived.Test.YtokbejkkpekpnaaGreatDoorF44
import Derived.Test.YtokbejkkpekpnaaGreatDoorF47
import Derived.Test.YtokbejkkpekpnaaGreatDoorF38
import Derived.Lib.LaidU8
import Derived.Lay
import Derived.LaidOnce

set_option maxRecDepth 100000
set_option maxHeartbeats 40000000
namespace Go.Proofs.YtokbejkkpekpnaaGreatDoor
open Go.RowKit
theorem szs_none (tg : Nat → StV) : Szs 0 tg := ⟨by omega, fun i hi => absurd hi (by omega), fun i j hi _ => absurd hi (by omega)⟩
theorem setP_le {n m : Nat} {f : Nat → Int} (h : allB (setP n f) m = true) : ∀ i j, i ≤ j → j < m → f i ≤ f j := by
  have step : ∀ j, 0 < j → j < m → f (j - 1) < f j := fun j h0 hj => by
    have := allB_get h hj
    simp only [setP, Bool.and_eq_true, Bool.not_eq_true', decide_eq_false_iff_not, Bool.and_eq_false_iff] at this
    omega
  intro i j
  induction j with
  | zero => intro h1 _; obtain rfl : i = 0 := by omega
            exact Int.le_refl _
  | succ j ih =>
    intro h1 h2
    rcases Nat.lt_or_ge i (j + 1) with h3 | h3
    · have a := ih (by omega) (by omega)
      have b := step (j + 1) (by omega) h2
      rw [Nat.add_sub_cancel] at b
      omega
    · obtain rfl : i = j + 1 := by omega
      exact Int.le_refl _
def Both (fm fr : Nat) (A : Option Addr) (n c : Nat) (st : Nat → StV) (more : Array Value) (w : World) : Prop :=
  ∃ k tg y, Szs k tg ∧ (∀ wx, Below w.heap.size w wx → Calls Tryz.prog fm (#[.agg #[.slice A n c]] ++ more) wx (RetMd k tg y wx)) ∧ OnCopy fr n st more k tg y w
section
variable {A B D : Option Addr} {n c m d k q : Nat} {pl : Int} {st : Nat → StV} {f g : Nat → Int} {w : World}
theorem on_copy (hs : Szs n st) (hm : m ≤ 60) (hk : k ≤ 60) (hB : Lin w B m f) (hD : Lin w D k g) {wx : World} {A' : Option Addr} (c' : Nat) {st' : Nat → StV} (hx : Below w.heap.size w wx) (hL : Lst wx A' n st') (hl : ∀ i, i < n → StL (st' i) (st i) ∧ (st' i).n ≤ (st' i).c) :
    CV 21 #[.agg #[.slice A' n c']] (.bool (moB n st)) wx ∧ CV 48 #[.agg #[.slice A' n c'], .slice B m d] (.bool (strB n m st f)) wx ∧ CV 47 #[.agg #[.slice A' n c'], .slice D k q] (.bool (allB (setP n g) k)) wx := by
  have hl := fun i hi => (hl i hi).1
  have hs' := szs_like hl hs
  refine ⟨?_, fun wy hy => ?_, fun wy hy => ?_⟩
  · have := rmv_cv (c := c') hs' hL
    rw [moB_like hl] at this
    exact this
  · have := rstr_any A' B n c' m d st' f wy hs'.1 (by omega) (hL.keep hy) hs'.2.1 ((hB.keep hx).keep hy)
    rw [strB_like f hl] at this
    exact this
  · exact rset_any A' D n c' k q g wy hs'.1 (by omega) ((hD.keep hx).keep hy)
theorem both_fix (hs : Szs n st) (hm : m ≤ 60) (hA : Lst w A n st) (hB : Lin w B m f) : Both 28 24 A n c st #[.slice B m d] w := by
  have V1 := mv_cv (c := c) hs hA
  have T1 : CV 52 #[.agg #[.slice A n c], .slice B m d] (.bool (strB n m st f)) w := fun wx hx => isStr_any A B n c m d st f wx hs.1 (by omega) (hA.keep hx) hs.2.1 (hB.keep hx)
  cases hM : moB n st && strB n m st f with
  | false =>
    refine ⟨0, fun _ => st0, 1, szs_none _, fun wx hx => (mfix_no A B n c m d _ _ wx (V1.keep hx) (T1.keep hx) hM).mono fun _ _ => RetMd.none _, fun wx A' c' st' hx hL hl => ?_⟩
    obtain ⟨V, T, -⟩ := on_copy (k := 0) (q := 0) (D := none) (g := fun _ => 0) (d := d) hs hm (by omega) hB (fun h => absurd h (by omega)) c' hx hL hl
    exact (rfix_no A' B n c' m d _ _ wx V T hM).mono fun _ _ => RetMd.none _
  | true =>
    obtain ⟨h1, h2⟩ := Bool.and_eq_true_iff.1 hM
    obtain ⟨rfl, hf⟩ := strB_lt h2
    rw [h1] at V1
    rw [h2] at T1
    refine ⟨m, fixT st f, 0, szs_fix hs fun i hi => (hf i hi).2, fun wx hx => mfix_ok A B m c d st f wx h1 hf (hA.keep hx) (hB.keep hx) (V1.keep hx) (T1.keep hx), fun wx A' c' st' hx hL hl => ?_⟩
    obtain ⟨V, T, -⟩ := on_copy (k := 0) (q := 0) (D := none) (g := fun _ => 0) (d := d) hs hm (by omega) hB (fun h => absurd h (by omega)) c' hx hL hl
    rw [h1] at V
    rw [h2] at T
    exact rfix_ok A' B m c' d st st' f wx hm (fun i hi => by have := (mo_small h1).2.1 i hi; omega) (fun i hi => hf i hi) hl hL (hB.keep hx) V T
theorem both_for (hs : Szs n st) (hm : m ≤ 60) (hA : Lst w A n st) (hB : Lin w B m f) : Both 29 26 A n c st #[.slice B m d, .int .i64 pl] w := by
  have V1 := mv_cv (c := c) hs hA
  have T1 : CV 52 #[.agg #[.slice A n c], .slice B m d] (.bool (strB n m st f)) w := fun wx hx => isStr_any A B n c m d st f wx hs.1 (by omega) (hA.keep hx) hs.2.1 (hB.keep hx)
  cases hM : moB n st && strB n m st f with
  | false =>
    refine ⟨0, fun _ => st0, 1, szs_none _, fun wx hx => (mfor_no A B n c m d pl _ _ wx (V1.keep hx) (T1.keep hx) hM).mono fun _ _ => RetMd.none _, fun wx A' c' st' hx hL hl => ?_⟩
    obtain ⟨V, T, -⟩ := on_copy (k := 0) (q := 0) (D := none) (g := fun _ => 0) (d := d) hs hm (by omega) hB (fun h => absurd h (by omega)) c' hx hL hl
    exact (rfor_no A' B n c' m d pl _ _ wx V T hM).mono fun _ _ => RetMd.none _
  | true =>
    obtain ⟨h1, h2⟩ := Bool.and_eq_true_iff.1 hM
    obtain ⟨rfl, hf⟩ := strB_lt h2
    rw [h1] at V1
    rw [h2] at T1
    by_cases hp : pl = 0 ∨ pl = 1
    · refine ⟨m, forT st f pl, 0, szs_for pl hs fun i hi => (hf i hi).2, fun wx hx => mfor_ok A B m c d st f pl wx hp h1 hf (hA.keep hx) (hB.keep hx) (V1.keep hx) (T1.keep hx), fun wx A' c' st' hx hL hl => ?_⟩
      obtain ⟨V, T, -⟩ := on_copy (k := 0) (q := 0) (D := none) (g := fun _ => 0) (d := d) hs hm (by omega) hB (fun h => absurd h (by omega)) c' hx hL hl
      rw [h1] at V
      rw [h2] at T
      exact rfor_ok A' B m c' d st st' f pl wx hp hm (fun i hi => by have := (mo_small h1).2.1 i hi; omega) (fun i hi => hf i hi) hl hL (hB.keep hx) V T
    · refine ⟨0, fun _ => st0, 6, szs_none _, fun wx hx => (mfor_far A B m c m d pl wx hp (V1.keep hx) (T1.keep hx)).mono fun _ _ => RetMd.none _, fun wx A' c' st' hx hL hl => ?_⟩
      obtain ⟨V, T, -⟩ := on_copy (k := 0) (q := 0) (D := none) (g := fun _ => 0) (d := d) hs hm (by omega) hB (fun h => absurd h (by omega)) c' hx hL hl
      rw [h1] at V
      rw [h2] at T
      exact (rfor_far A' B m c' m d pl wx hp V T).mono fun _ _ => RetMd.none _
theorem both_gol (hs : Szs n st) (hk : k ≤ 60) (hA : Lst w A n st) (hD : Lin w D k g) : Both 30 27 A n c st #[.slice D k q] w := by
  have V1 := mv_cv (c := c) hs hA
  have U1 : CV 51 #[.agg #[.slice A n c], .slice D k q] (.bool (allB (setP n g) k)) w := fun wx hx => isSet_any A D n c k q g wx hs.1 (by omega) (hD.keep hx)
  cases hM : moB n st && allB (setP n g) k with
  | false =>
    refine ⟨0, fun _ => st0, 1, szs_none _, fun wx hx => (mgol_no A D n c k q _ _ wx (V1.keep hx) (U1.keep hx) hM).mono fun _ _ => RetMd.none _, fun wx A' c' st' hx hL hl => ?_⟩
    obtain ⟨V, -, U⟩ := on_copy (m := 0) (d := 0) (B := none) (f := fun _ => 0) (q := q) hs (by omega) hk (fun h => absurd h (by omega)) hD c' hx hL hl
    exact (rgol_no A' D n c' k q _ _ wx V U hM).mono fun _ _ => RetMd.none _
  | true =>
    obtain ⟨h1, h2⟩ := Bool.and_eq_true_iff.1 hM
    rw [h1] at V1
    rw [h2] at U1
    refine ⟨n, golT st g k, 0, szs_gol g k hs, fun wx hx => mgol_ok A D n c k q st g wx h1 hk (setP_le h2) (hA.keep hx) (hD.keep hx) (V1.keep hx) (U1.keep hx), fun wx A' c' st' hx hL hl => ?_⟩
    obtain ⟨V, -, U⟩ := on_copy (m := 0) (d := 0) (B := none) (f := fun _ => 0) (q := q) hs (by omega) hk (fun h => absurd h (by omega)) hD c' hx hL hl
    rw [h1] at V
    rw [h2] at U
    exact rgol_ok A' D n c' k q st st' g wx (by have := (moB_n h1).2; omega) hk hl hL (hD.keep hx) V U
end
theorem few_small {n : Nat} {st : Nat → StV} (h : fewB n st = true) : n ≤ 45 ∧ (∀ i, i < n → (st i).n ≤ 10) ∧ ∀ i j, i < n → j < (st i).n → ((st i).ch j).n ≤ 10 := by
  simp only [fewB, Bool.and_eq_true, Bool.not_eq_true', decide_eq_false_iff_not] at h
  refine ⟨by omega, fun i hi => ?_, fun i j hi hj => ?_⟩
  · have h2 := allB_get h.2 hi
    simp only [fewS, Bool.and_eq_true, Bool.not_eq_true', decide_eq_false_iff_not] at h2
    omega
  · have h2 := allB_get h.2 hi
    simp only [fewS, Bool.and_eq_true, Bool.not_eq_true', decide_eq_false_iff_not] at h2
    have h3 := allB_get h2.2 hj
    simp only [fewC, Bool.not_eq_true', decide_eq_false_iff_not] at h3
    omega
theorem fixes_any (A B D : Option Addr) (n c m d k q : Nat) (pl : Int) (st : Nat → StV) (f g : Nat → Int) (w : World) (hA : Lst w A n st) (hB : Lin w B m f) (hD : Lin w D k g) (hfa : FitsM n st) (htab : Tab w) :
    Calls Tryz.prog 4 #[.agg #[.slice A n c], .slice B m d, .int .i64 pl, .slice D k q] w fun e w' => e = .returned (.bool true) ∧ Below w.heap.size w w' := by
  have HAw : CV 11 #[] (.bool true) w := fun wx hb => awake_any wx (htab.keep hb)
  have HFa := few_cv (c := c) hfa hA
  cases hb : fewB n st with
  | false => exact fixes_dark A B D n c m d k q pl _ hb w HFa HAw
  | true =>
  cases hl : decide ((60 : Int) < (m : Int)) with
  | true => exact fixes_m A B D n c m d k q pl _ hb w HFa HAw hl
  | false =>
  cases hl2 : decide ((60 : Int) < (k : Int)) with
  | true => exact fixes_k A B D n c m d k q pl _ hb w HFa HAw hl hl2
  | false =>
  have hs := few_szs hb
  have hm : m ≤ 60 := by have := of_decide_eq_false hl; omega
  have hk : k ≤ 60 := by have := of_decide_eq_false hl2; omega
  obtain ⟨hn45, hn10, hb10⟩ := few_small hb
  obtain ⟨n1, tg1, y1, S1, P1, R1⟩ := both_fix (c := c) (d := d) hs hm hA hB
  obtain ⟨n2, tg2, y2, S2, P2, R2⟩ := both_for (c := c) (d := d) (pl := pl) hs hm hA hB
  obtain ⟨n3, tg3, y3, S3, P3, R3⟩ := both_gol (c := c) (q := q) hs hk hA hD
  exact fixes_all A B D n c m d k q pl _ hb w HFa HAw hl hl2 st tg1 tg2 tg3 n1 n2 n3 y1 y2 y3 (fun wx hx => rcopy_any A n c st wx hn45 hn10 hb10 (hA.keep hx)) R1 R2 R3 P1 P2 P3 S1 S2 S3
end Go.Proofs.YtokbejkkpekpnaaGreatDoor
namespace Go.Proofs.YtokbejkkpekpnaaGreatDoor.lawFixes
open Go.ChangeShapes Go.WideShapes Go.ChangeAt Go.RowKit Go.Joins Go.Deep
theorem gP : Tryz.prog.globalNamed "internal/strconv.uint64pow10" = some 0 := by kernel_rfl
theorem tab_of_laid {W : World} (h : laidMet Tryz.prog Rows.modelFixesRow.laid W) : Tab W := by
  obtain ⟨g, t, cs, fuel, p, h1, h2, h3, h4⟩ := Lib.laidMet.reads h (n := "internal/strconv.uint64pow10") (d := Rows.laid_internal_strconv_uint64pow10) (.tail _ (.tail _ (.head _)))
  obtain rfl := Option.some.inj (gP.symm.trans h1)
  have hty : (Tryz.prog.globals[0]?).map (·.type) = some 233 := by kernel_rfl
  obtain rfl := Option.some.inj (hty.symm.trans h2)
  have e : (Rows.laid_internal_strconv_uint64pow10 : DataW Unit) = Lib.tabData .u64 Lib.pow10Tab := rfl
  rw [e] at h4
  show Lib.TabIs _ _ _ _ _
  unfold Lib.TabIs
  rw [h3, ← Lib.cells_of_tab Tryz.underlying233 Tryz.underlying196 (by kernel_rfl) (by kernel_rfl) h4]
theorem laidOut : laidOutB Tryz.prog = true := by kernel_rfl
theorem lifted (os : Os) (started : os.Started) (H : Type) (enc : TypeId × Value → H) :
    ReturnsInHanded {} Tryz.checked os 4 .any (fun w args => (Rows.modelFixesSpec.pre enc Tryz.prog Tryz.f4 [] false w args ∧ laidMetH Tryz.prog Rows.modelFixesRow.laid w) ∧ sizedMet enc Tryz.prog Tryz.f4 (OpenSpec.ofChange Rows.modelFixesSpec) false w args)
      (Rows.modelFixesSpec.post enc Tryz.prog Tryz.f4 false true false false) := by
  refine returnsInHanded_of_calls (C := Tryz.checked) Tryz.own started (by kernel_rfl)
    (ChangeSpec.witness_shaped (enc := enc) (C := Tryz.checked) (os := os) (X := fun w _ => laidMetH Tryz.prog Rows.modelFixesRow.laid w) false (World.laidAll Tryz.prog os Rows.modelFixesRow.laid) #[.agg #[.slice none 0 0], .slice none 0 0, .int .i64 0, .slice none 0 0] 8 (World.laidAll_os _ _ _)
      (World.shaped_of_ZipB (by kernel_rfl) (by kernel_rfl)) (by kernel_rfl) (by kernel_rfl) (by kernel_rfl)
      (by rw [MakeChecks.laidMetH_plain _ _ _ (by kernel_rfl)]; exact laidMet_laidAll _ (by kernel_rfl) (by kernel_rfl))) ?_
  intro w tape i _ hsh _ hok hpre _
  obtain ⟨_, _, _, fn', hfn', _, _, _, _, hval0⟩ := hok
  have efn : fn' = Tryz.f4 := Option.some.inj (hfn'.symm.trans Tryz.func4)
  subst efn
  obtain ⟨⟨⟨ds, gs, before, hw, -⟩, hL0⟩, -⟩ := hpre
  have hW := DataW.Whole.of_heap (w' := w.forCall tape i) (by rfl) hw
  have hL : laidMetH Tryz.prog Rows.modelFixesRow.laid (w.forCall tape i) := hL0.of_heap (by rfl)
  generalize w.forCall tape i = W at *
  have hval : ∀ (j : Nat) t v, Tryz.f4.params[j]? = some t → i.args[j]? = some v → Value.okWide Tryz.prog W .any w.heap.size t v := hval0
  have hW' := hW
  obtain ⟨p, q, hA0, hV, rfl, hfz, hnd⟩ := hW
  have hA : DataW.TrodAll enc Tryz.prog W 0 (fun _ => true) true Tryz.f4.params.toList i.args.toList ds p := hA0
  rw [Tryz.params4] at hA hval
  generalize i.args = args at *
  obtain ⟨v0, vs0, d0, ds0, p0, q0, hargs, rfl, rfl, h0, r0⟩ := trodAll_cons hA
  obtain ⟨v1, vs1, d1, ds1, p1, q1, rfl, rfl, rfl, h1, r1⟩ := trodAll_cons r0
  obtain ⟨v2, vs2, d2, ds2, p2, q2, rfl, rfl, rfl, h2, r2⟩ := trodAll_cons r1
  obtain ⟨v3, vs3, d3, ds3, p3, q3, rfl, rfl, rfl, h3, r3⟩ := trodAll_cons r2
  obtain ⟨rfl, rfl, rfl⟩ := trodAll_nil r3
  obtain rfl : args = #[v0, v1, v2, v3] := by cases args; simp_all
  obtain ⟨rfl, rfl⟩ := trodVars_none hV
  obtain ⟨A, n, c, st, rfl, hLA, hFA⟩ := open_model (hval 0 24 v0 rfl rfl) h0
  obtain ⟨B, m, d, f, rfl, hLB⟩ := open_ints1 (hval 1 25 v1 rfl rfl) h1
  obtain ⟨pl, rfl, rfl, rfl, _⟩ := open_int Tryz.underlying3 (hval 2 3 v2 rfl rfl) h2
  obtain ⟨D, k, e, g, rfl, hLD⟩ := open_ints1 (hval 3 25 v3 rfl rfl) h3
  clear hA0 hval0
  rw [MakeChecks.laidMetH_plain _ _ _ (by kernel_rfl)] at hL
  refine (fixes_any A B D n c m d k e pl st f g W hLA hLB hLD hFA (tab_of_laid hL)).mono fun e W' ⟨he, hb⟩ => ?_
  subst he
  exact ChangeSpec.post_blind (post_of_stays laidOut (by kernel_rfl) rfl hW' (fun _ _ _ => (trodAll_cons_mk (shut_bool Tryz.underlying4 _) trodAll_mk0)) rfl rfl hb (ok_one (by kernel_rfl) rfl (okWide_bool_mk Tryz.underlying4 _)))
theorem row_holds : Rows.ModelFixesSaid :=
  OpenClaim.holds_of_wide 4 Tryz.f4 rfl rfl rfl rfl rfl rfl rfl ⟨rfl, rfl, rfl, rfl, rfl⟩ rfl rfl rfl rfl rfl (by kernel_rfl) Tryz.func4 (by kernel_rfl)
    (of_decide_eq_true (by kernel_rfl)) (by unfold Func.isWrapper; first | (rw [if_pos (by decide +kernel)]; kernel_rfl) | (rw [if_neg (by decide +kernel)]; exact ⟨rfl, rfl⟩))
    (fun os started H enc _ => lifted os started H enc)
end Go.Proofs.YtokbejkkpekpnaaGreatDoor.lawFixes
